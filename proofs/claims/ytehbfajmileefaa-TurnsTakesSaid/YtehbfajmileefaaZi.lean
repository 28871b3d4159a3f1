import Derived.Test.YtehbfajmileefaaZh
namespace Go.Proofs.Ytehbfajmileefaa.Px
open Go.RowKit Go.Proofs.Ytehbfajmileefaa.Vx Go.Proofs.Ytehbfajmileefaa.Fx
set_option linter.unusedVariables false
set_option linter.unusedSimpArgs false
set_option maxRecDepth 10000
noncomputable def preOf (ops : Array Oper) : List Nat := CheckFast.beforeL ops.toList 0 []
noncomputable def compP (P : Program) (funs : List (FuncId × Func)) (N : Nat) : Code → CF
  | .skip => cSkip
  | .label _ => cSkip
  | .region _ ops draw => (match draw with
    | false => cOps (ops.toList.map (compG P funs N ops.toList))
    | true => (match drawOk ops with
      | true => cOps (ops.toList.map (compG P funs N ops.toList))
      | false => (match statD N ops (preOf ops) with
        | true => cSeqD (dOps P funs N ops (preOf ops))
        | false => cDraw P funs N ops)))
  | .seq a b => cSeq (compP P funs N a) (compP P funs N b)
  | .cond c a b => (match okO N c with
    | true => cCond (gX c) (compP P funs N a) (compP P funs N b)
    | false => cNo)
  | .block id a => cBlock id (compP P funs N a)
  | .loop a => cLoop (compP P funs N a)
  | .exit id => cExit id
  | .scope a => compP P funs N a
  | .ret => cRet
  | _ => cNo
def EOkP (P : Program) (funs : List (FuncId × Func)) (i : Nat) (ff : FF) : Prop :=
  ∃ fn c, P.funcs[i]? = some fn ∧ fn.body = some c ∧ (fn.name == "runtime.NumGoroutine") = false ∧ okF fn.ntmps c fn.results.toList = true ∧ ff = ⟨compP P funs fn.ntmps c, entN fn.ntmps, fn.results.toList⟩
def OkP (P : Program) (funs : List (FuncId × Func)) : TT → Prop
  | .lf => True
  | .nd l i f r => OkP P funs l ∧ EOkP P funs i f ∧ OkP P funs r
theorem get_okP {P : Program} {funs : List (FuncId × Func)} : ∀ {t : TT} {i : Nat} {f : FF}, OkP P funs t → t.get i = some f → EOkP P funs i f
  | .lf, i, f, _, h => by simp [TT.get] at h
  | .nd l j g r, i, f, hok, h => by
    have e : (TT.nd l j g r).get i = (Bool.rec (motive := fun _ => Option FF) (Bool.rec (motive := fun _ => Option FF) (r.get i) (l.get i) (Nat.blt i j)) (some g) (Nat.beq i j)) := rfl
    rw [e] at h
    cases hb : Nat.beq i j with
    | true =>
      rw [hb] at h
      simp at h
      subst h
      have := Nat.eq_of_beq_eq_true hb
      subst this
      exact hok.2.1
    | false =>
      rw [hb] at h
      cases hl : Nat.blt i j with
      | true => rw [hl] at h; exact get_okP hok.1 h
      | false => rw [hl] at h; exact get_okP hok.2.2 h
section
variable {P : Program} {σ : Env} {ρ : Rho} {w : World} {base : Nat → Prop} {N : Nat} {F : F8} {M : Mm} {a : Act} {funs : List (FuncId × Func)}
theorem compP_ok (hm : P.follows .mixedOrders = true) (hfs : FunsOk P funs) (hN : N ≤ 511) : ∀ (c : Code), okC N c = true → COk P N c (compP P funs N c) := by
  have no : ∀ c, COk P N c cNo := fun c σ cl hcl n base ρ F M a w Q r hh hf hr hL => absurd hf.symm hr
  intro c
  induction c with
  | skip => intro _ σ cl hcl n base ρ F M a w Q r hh hf hr hL; exact wp_skip ((hL ρ F M a w (Ext.refl _) hh (Kp.refl _ _)).1 hf.symm)
  | label l => intro _ σ cl hcl n base ρ F M a w Q r hh hf hr hL; exact wp_label ((hL ρ F M a w (Ext.refl _) hh (Kp.refl _ _)).1 hf.symm)
  | exit id => intro _ σ cl hcl n base ρ F M a w Q r hh hf hr hL; exact wp_exit ((hL ρ F M a w (Ext.refl _) hh (Kp.refl _ _)).2.1 id hf.symm)
  | ret => intro _ σ cl hcl n base ρ F M a w Q r hh hf hr hL; exact wp_ret ((hL ρ F M a w (Ext.refl _) hh (Kp.refl _ _)).2.2 hf.symm)
  | seq x y ihx ihy =>
    intro hok σ cl hcl n base ρ F M a w Q r hh hf hr hL
    simp only [okC, Bool.and_eq_true] at hok
    simp only [compP, cSeq_eq] at hf
    have hne : compP P funs N x cl n F M ≠ .no := fun e => by rw [e] at hf; exact hr hf.symm
    refine wp_seq (ihx hok.1 σ cl hcl n base ρ F M a w _ _ hh rfl hne ?_)
    intro ρ' F' M' a' w' he hh' hk
    refine ⟨fun e => ?_, fun id e => ?_, fun e => ?_⟩ <;> rw [e] at hf
    · exact ihy hok.2 σ cl hcl n base ρ' F' M' a' w' Q r hh' hf hr (hL.mono he hk)
    · exact (hL ρ' F' M' a' w' he hh' hk).2.1 id hf.symm
    · exact (hL ρ' F' M' a' w' he hh' hk).2.2 hf.symm
  | cond c x y ihx ihy =>
    intro hok
    simp only [okC, Bool.and_eq_true] at hok
    simp only [compP]
    split
    rotate_left
    · exact no _
    rename_i hc
    intro σ cl hcl n base ρ F M a w Q r hh hf hr hL
    simp only [cCond] at hf
    obtain ⟨b, hb, hf⟩ := caseB_some hf hr
    have h1 := hop hN hh.nb hc
    rw [hb] at h1
    have h2 := den_bool (opv_den (hh.op hN) h1)
    refine wp_cond h2 ?_
    rw [ifB_eq] at hf
    cases b with
    | true => simp only [if_true] at hf; simp only [T.b, if_true]; exact ihx hok.1 σ cl hcl n base ρ F M a w Q r hh hf hr hL
    | false => simp only [Bool.false_eq_true, if_false] at hf; simp only [T.b, Bool.false_eq_true, if_false]; exact ihy hok.2 σ cl hcl n base ρ F M a w Q r hh hf hr hL
  | block id x ih =>
    intro hok σ cl hcl n base ρ F M a w Q r hh hf hr hL
    simp only [compP, cBlock_eq] at hf
    have hne : compP P funs N x cl n F M ≠ .no := fun e => by rw [e] at hf; exact hr hf.symm
    refine wp_block (ih hok σ cl hcl n base ρ F M a w _ _ hh rfl hne ?_)
    intro ρ' F' M' a' w' he hh' hk
    have hl := hL ρ' F' M' a' w' he hh' hk
    refine ⟨fun e => ?_, fun j e => ?_, fun e => ?_⟩ <;> rw [e] at hf
    · exact hl.1 hf.symm
    · simp only at hf
      simp only [Exit.inBlock]
      by_cases hj : j = id
      · rw [if_pos hj]
        rw [if_pos (by simpa using hj)] at hf
        exact hl.1 hf.symm
      · rw [if_neg hj]
        rw [if_neg (by simpa using hj)] at hf
        exact hl.2.1 j hf.symm
    · exact hl.2.2 hf.symm
  | loop x ih =>
    intro hok σ cl hcl n base ρ F M a w Q r hh hf hr hL
    simp only [compP, cLoop_eq] at hf
    exact wp_loop_rounds n (loop_ok (ih hok) hcl hr n hh hf hL)
  | scope x ih =>
    intro hok σ cl hcl n base ρ F M a w Q r hh hf hr hL
    refine wp_scope_straight (ih hok σ cl hcl n base ρ F M a w _ r hh hf hr ?_)
    intro ρ' F' M' a' w' he hh' hk
    have hl := hL ρ' F' M' a' w' he hh' hk
    exact ⟨fun e => hl.1 e, fun id e => hl.2.1 id e, fun e => hl.2.2 e⟩
  | region id ops draw =>
    intro hok
    cases draw with
    | true =>
      simp only [compP]
      split
      · rename_i hd; exact drawS_ok hm hN hd (by simpa [okC] using hok)
      · split
        · rename_i hs; exact seqD_ok hm hN hs
        · exact draw_ok hm hfs hN
    | false =>
      intro σ cl hcl n base ρ F M a w Q r hh hf hr hL
      simp only [okC, okDs, List.all_eq_true] at hok
      exact wp_region_list (ops_ok (n := n) hN hcl hr ops.toList hok hh hf hL)
  | _ => intro _; exact no _
theorem bodyN_okP (hm : P.follows .mixedOrders = true) (hfs : FunsOk P funs) {t : TT} (ht : OkP P funs t) {m : Nat} {ih : Cl} (hih : ClOk P σ ih) {f : Nat} {args : List X} {x : X} {M' : Mm} (h : bodyX t m ih f args M (finN P) = .val x M') (hs : Srt M.H M.nx)
    {xs : List Value} (hx : denL σ ρ (args.map X.toV) = some xs) (hM : Vx.M σ ρ base M.H M.nx w) :
    ∃ fn c, P.funcs[f]? = some fn ∧ fn.body = some c ∧ (fn.name == "runtime.NumGoroutine") = false ∧ c.wp P (bodyPost P fn fun e w' => ∃ v ρ', e = .returned v ∧ den σ ρ' x.toV = some v ∧ Ext ρ ρ' ∧ Vx.M σ ρ' base M'.H M'.nx w' ∧ Kp base w w' ∧ Srt M'.H M'.nx) { tmps := xs.toArray ++ Array.replicate (fn.ntmps - xs.toArray.size) undef, defers := [] } w := by
  obtain ⟨ff, F0, F1, M1, h1, h2, h3, h4⟩ := bodyX_some h
  obtain ⟨fn, c, e1, e2, e3, e4, rfl⟩ := get_okP ht h1
  simp only [okF, Bool.and_eq_true, Nat.ble_eq] at e4
  obtain ⟨hN, hok, hres⟩ := e4
  refine ⟨fn, c, e1, e2, e3, ?_⟩
  have fin : ∀ {ρ' a' w'}, Ext ρ ρ' → HX σ ρ' base fn.ntmps F1 M1 a' w' → Kp base w w' → a'.defers = [] ∧ ∃ v, (results fn a'.tmps).run P w' = .ok v w' ∧ ∃ v' ρ2, Ending.returned v = .returned v' ∧ den σ ρ2 x.toV = some v' ∧ Ext ρ ρ2 ∧ Vx.M σ ρ2 base M'.H M'.nx w' ∧ Kp base w w' ∧ Srt M'.H M'.nx := by
    intro ρ' a' w' he hh hk
    unfold finN at h4
    cases hu : isU (gT 511 F1) with
    | false => rw [hu] at h4; simp at h4
    | true =>
      rw [hu] at h4
      obtain ⟨v, k1, k2, k3, k4⟩ := outX_ok hN hres h4 hh
      exact ⟨defer_none hh hu, v, k1, v, ρ', rfl, k2, he, k3, hk, k4⟩
  rcases h3 with h3 | h3
  · refine compP_ok hm hfs hN c hok σ ih hih m base ρ F0 _ _ w _ _ (enter_ok hN h2 hx hM hs) h3 (by simp) ?_
    intro ρ' F' M2 a' w' he hh hk
    refine ⟨fun e => ?_, fun id e => by simp at e, fun e => by simp at e⟩
    simp at e
    obtain ⟨rfl, rfl⟩ := e
    exact fin he hh hk
  · refine compP_ok hm hfs hN c hok σ ih hih m base ρ F0 _ _ w _ _ (enter_ok hN h2 hx hM hs) h3 (by simp) ?_
    intro ρ' F' M2 a' w' he hh hk
    refine ⟨fun e => by simp at e, fun id e => by simp at e, fun e => ?_⟩
    simp at e
    obtain ⟨rfl, rfl⟩ := e
    exact fin he hh hk
theorem finX_okP (hm : P.follows .mixedOrders = true) (hfs : FunsOk P funs) {t : TT} (ht : OkP P funs t) {m : Nat} {ih : Cl} (hih : ClOk P σ ih) (hN : N ≤ 511) {fn : Func} (hres : resOk N fn.results.toList = true) {nx0 : Nat} {x : X} {M' : Mm} (h : finX P t m ih fn.results.toList nx0 F M = .val x M') (hh : HX σ ρ base N F M a w) :
    Leaves P fn a.tmps (fun e w' => ∃ v ρ', e = .returned v ∧ den σ ρ' x.toV = some v ∧ Ext ρ ρ' ∧ Vx.M σ ρ' base M'.H M'.nx w' ∧ Kp base w w' ∧ Srt M'.H M'.nx) a.defers .returning w := by
  unfold finX at h
  split at h
  · rename_i hu
    have hd := defer_none hh (by rw [hu]; rfl)
    obtain ⟨v, k1, k2, k3, k4⟩ := outX_ok hN hres h hh
    rw [hd]
    exact ⟨v, k1, v, ρ, rfl, k2, Ext.refl _, k3, Kp.refl _ _, k4⟩
  · rename_i g p q l hu
    rcases hh.d with hd | ⟨g', p', q', l', ps, qs, ls, h1, h2, h3, h4, h5⟩
    · rw [hu] at hd; simp [isU, V.tup?] at hd
    rw [hu] at h1
    simp at h1
    obtain ⟨⟨rfl, rfl, rfl⟩, rfl⟩ := h1
    cases hb : bodyX t m ih g (p.map V.toX ++ (l.map V.toX ++ q.map V.toX)) M (finN P) with
    | no => rw [hb] at h; simp at h
    | val y M1 =>
      rw [hb] at h
      simp only at h
      obtain ⟨fn2, c2, b1, b2, b3, b4⟩ := bodyN_okP hm hfs ht hih hb hh.s (xs := ps ++ ls ++ qs) (by
        rw [List.map_append, List.map_append, map_toX, map_toX, map_toX, ← List.append_assoc]
        exact denL_append.2 ⟨_, _, denL_append.2 ⟨_, _, h2, h4, rfl⟩, h3, rfl⟩) hh.m
      rw [h5]
      refine leaves_cons (f := g) (args := (ps ++ ls ++ qs).toArray) (by simp) ?_ ?_
      · have : fn2.body.isNone = false := by rw [b2]; rfl
        simp only [invoke, callFunc, Sem.run_bind, run_program, Result.andThen_ok, b1, b3, this, Bool.false_eq_true, if_false, Sem.run_pure]
        simp
      · refine (callsD_of_wp b1 b2 b4).mono ?_
        rintro e u w2 ⟨rfl, v, ρ', rfl, k1, k2, k3, k4, k5⟩
        have hh' : HX σ ρ' base N F ⟨M1.H, M1.nx, minN M1.lw M.lw⟩ a w2 := ⟨hh.n, fun t ht => by obtain ⟨y, y1, y2⟩ := hh.fs t ht; exact ⟨y, y1, den_mono k2 y2⟩, hh.d.mono k2, k3, k5⟩
        obtain ⟨v2, o1, o2, o3, o4⟩ := outX_ok hN hres h hh'
        exact ⟨v2, o1, v2, ρ', rfl, o2, k2, o3, k4, o4⟩
  · simp at h
theorem callX_okP (hm : P.follows .mixedOrders = true) (hfs : FunsOk P funs) {t : TT} (ht : OkP P funs t) {kn : Nat → Bool} (hkn : KnOk P kn) (m : Nat) : ∀ n, ClOk P σ (callX P t kn n m) := by
  intro n
  induction n with
  | zero => intro f args M x M' h; simp [callX] at h
  | succ n ih =>
    intro f args M x M' h hs
    have h : (Bool.rec (motive := fun _ => CX) (bodyX t m (callX P t kn n m) f args M (finX P t m (callX P t kn n m))) (List.rec (motive := fun _ => CX) (.val (.b true) M) (fun _ _ _ => .no) args) (kn f) : CX) = .val x M' := h
    cases hk : kn f with
    | true =>
      rw [hk] at h
      cases args with
      | cons a l => simp at h
      | nil =>
        simp at h
        obtain ⟨rfl, rfl⟩ := h
        obtain ⟨h1, h2⟩ := hkn f hk
        refine ⟨h1, fun base ρ w xs hx hM => ?_⟩
        rw [List.map_nil, denL_nil] at hx
        simp at hx
        subst hx
        refine (h2 w).mono ?_
        rintro e w' ⟨rfl, hb⟩
        exact ⟨_, ρ, rfl, rfl, Ext.refl _, hM.below (Kp.of hb), (Kp.of hb).mono hM.size, hs⟩
    | false =>
    rw [hk] at h
    simp only at h
    obtain ⟨ff, F0, F1, M1, h1, h2, h3, h4⟩ := bodyX_some h
    obtain ⟨fn, c, e1, e2, e3, e4, rfl⟩ := get_okP ht h1
    simp only [okF, Bool.and_eq_true, Nat.ble_eq] at e4
    obtain ⟨hN, hok, hres⟩ := e4
    refine ⟨⟨fn, e1, e3, by rw [e2]; rfl⟩, fun base ρ w xs hx hM => calls_of_wp_defers e1 e2 ?_⟩
    have fin : ∀ {ρ' a' w'}, Ext ρ ρ' → HX σ ρ' base fn.ntmps F1 M1 a' w' → Kp base w w' → Leaves P fn a'.tmps (fun e w' => ∃ v ρ', e = .returned v ∧ den σ ρ' x.toV = some v ∧ Ext ρ ρ' ∧ Vx.M σ ρ' base M'.H M'.nx w' ∧ Kp base w w' ∧ Srt M'.H M'.nx) a'.defers .returning w' := by
      intro ρ' a' w' he hh hk
      exact leaves_mono (finX_okP hm hfs ht ih hN hres h4 hh) fun e w2 ⟨v, ρ2, k1, k2, k3, k4, k5, k6⟩ => ⟨v, ρ2, k1, k2, he.trans k3, k4, hk.trans k5, k6⟩
    rcases h3 with h3 | h3
    · refine compP_ok hm hfs hN c hok σ _ ih m base ρ F0 _ _ w _ _ (enter_ok hN h2 hx hM hs) h3 (by simp) ?_
      intro ρ' F' M2 a' w' he hh hk
      refine ⟨fun e => ?_, fun id e => by simp at e, fun e => by simp at e⟩
      simp at e
      obtain ⟨rfl, rfl⟩ := e
      exact fin he hh hk
    · refine compP_ok hm hfs hN c hok σ _ ih m base ρ F0 _ _ w _ _ (enter_ok hN h2 hx hM hs) h3 (by simp) ?_
      intro ρ' F' M2 a' w' he hh hk
      refine ⟨fun e => by simp at e, fun id e => by simp at e, fun e => ?_⟩
      simp at e
      obtain ⟨rfl, rfl⟩ := e
      exact fin he hh hk
end
end Go.Proofs.Ytehbfajmileefaa.Px
