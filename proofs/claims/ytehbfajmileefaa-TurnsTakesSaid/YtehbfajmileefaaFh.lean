import Derived.Test.YtehbfajmileefaaFe
namespace Go.Proofs.Ytehbfajmileefaa.Fx
open Go.RowKit Go.Proofs.Ytehbfajmileefaa.Vx
set_option linter.unusedVariables false
set_option linter.unusedSimpArgs false
def okC (N : Nat) : Code → Bool
  | .region _ ops _ => okDs N ops.toList
  | .seq a b => okC N a && okC N b
  | .cond _ a b => okC N a && okC N b
  | .block _ a => okC N a
  | .loop a => okC N a
  | .scope a => okC N a
  | _ => true
def resOk (N : Nat) (rs : List ResultVar) : Bool := rs.all fun r => match r with
  | .tmp t => Nat.blt t N
  | .cell a _ => Nat.blt a N
def okF (N : Nat) (c : Code) (rs : List ResultVar) : Bool := Nat.ble N 511 && (okC N c && resOk N rs)
noncomputable def entN (N : Nat) : List S := (List.range' 0 (min 24 N)).map sT
def EOk (P : Program) (funs : List (FuncId × Func)) (i : Nat) (ff : FF) : Prop :=
  ∃ fn c, P.funcs[i]? = some fn ∧ fn.body = some c ∧ (fn.name == "runtime.NumGoroutine") = false ∧ okF fn.ntmps c fn.results.toList = true ∧ ff = ⟨compC P funs fn.ntmps c, entN fn.ntmps, fn.results.toList⟩
def TT.Ok (P : Program) (funs : List (FuncId × Func)) : TT → Prop
  | .lf => True
  | .nd l i f r => TT.Ok P funs l ∧ EOk P funs i f ∧ TT.Ok P funs r
theorem TT.get_ok {P : Program} {funs : List (FuncId × Func)} : ∀ {t : TT} {i : Nat} {f : FF}, TT.Ok P funs t → t.get i = some f → EOk P funs i f
  | .lf, i, f, _, h => by simp [TT.get] at h
  | .nd l j g r, i, f, hok, h => by
    have e : (TT.nd l j g r).get i = (Bool.rec (motive := fun _ => Option FF) (Bool.rec (motive := fun _ => Option FF) (r.get i) (l.get i) (Nat.blt i j)) (some g) (Nat.beq i j)) := rfl
    rw [e] at h
    cases hb : Nat.beq i j with
    | true =>
      rw [hb] at h
      simp at h
      subst h
      have := Nat.eq_of_beq_eq_true hb
      subst this
      exact hok.2.1
    | false =>
      rw [hb] at h
      cases hl : Nat.blt i j with
      | true => rw [hl] at h; exact TT.get_ok hok.1 h
      | false => rw [hl] at h; exact TT.get_ok hok.2.2 h
section
variable {P : Program} {σ : Env} {ρ : Rho} {w : World} {base : Nat → Prop} {N : Nat} {F : F8} {M : Mm} {a : Act} {funs : List (FuncId × Func)}
theorem cSeq_eq (f g : CF) (cl : Cl) (n : Nat) (F : F8) (M : Mm) : cSeq f g cl n F M = match f cl n F M with | .nrm F' M' => g cl n F' M' | .ext id F' M' => .ext id F' M' | .ret F' M' => .ret F' M' | .no => .no := by
  unfold cSeq; cases f cl n F M <;> rfl
theorem cBlock_eq (id : Nat) (f : CF) (cl : Cl) (n : Nat) (F : F8) (M : Mm) : cBlock id f cl n F M = match f cl n F M with | .nrm F' M' => .nrm F' M' | .ext j F' M' => if Nat.beq j id = true then .nrm F' M' else .ext j F' M' | .ret F' M' => .ret F' M' | .no => .no := by
  unfold cBlock
  cases f cl n F M with
  | ext j F' M' => simp only; rw [← ifB_eq]
  | _ => rfl
noncomputable def loopR (f : CF) (cl : Cl) (n : Nat) : Nat → K
  | 0 => fun _ _ => .no
  | m + 1 => fun F M => match f cl n F M with | .nrm F' M' => loopR f cl n m F' M' | .ext id F' M' => .ext id F' M' | .ret F' M' => .ret F' M' | .no => .no
theorem cLoop_eq (f : CF) (cl : Cl) (n : Nat) (F : F8) (M : Mm) : cLoop f cl n F M = loopR f cl n n F M := by
  have key : ∀ m F M, (Nat.rec (motive := fun _ => K) (fun _ _ => RX.no) (fun _ ih F M => RX.rec (motive := fun _ => RX) ih (fun id F M => .ext id F M) (fun F M => .ret F M) .no (f cl n F M)) m : K) F M = loopR f cl n m F M := by
    intro m
    induction m with
    | zero => intro F M; rfl
    | succ m ih =>
      intro F M
      simp only [loopR]
      cases f cl n F M with
      | nrm F' M' => exact ih F' M'
      | _ => rfl
  exact key n F M
theorem loop_ok {c : Code} {f : CF} (hc : COk P N c f) {cl : Cl} (hcl : ClOk P σ cl) {n : Nat} {Q : Exit → Act → World → Prop} {r : RX} (hr : r ≠ .no) : ∀ (m : Nat) {ρ F M a w}, HX σ ρ base N F M a w → loopR f cl n m F M = r → LeadX σ base N r ρ w Q → Code.rounds P c Q m a w
  | 0, ρ, F, M, a, w, hh, hf, hL => absurd hf.symm hr
  | m + 1, ρ, F, M, a, w, hh, hf, hL => by
    rw [rounds_succ]
    simp only [loopR] at hf
    have hne : f cl n F M ≠ .no := fun e => by rw [e] at hf; exact hr hf.symm
    refine hc σ cl hcl n base ρ F M a w _ _ hh rfl hne ?_
    intro ρ' F' M' a' w' he hh' hk
    refine ⟨fun e => ?_, fun id e => ?_, fun e => ?_⟩ <;> rw [e] at hf
    · exact loop_ok hc hcl hr m hh' hf (hL.mono he hk)
    · exact (hL ρ' F' M' a' w' he hh' hk).2.1 id hf.symm
    · exact (hL ρ' F' M' a' w' he hh' hk).2.2 hf.symm
theorem compC_ok (hm : P.follows .mixedOrders = true) (hfs : FunsOk P funs) (hN : N ≤ 511) : ∀ (c : Code), okC N c = true → COk P N c (compC P funs N c) := by
  have no : ∀ c, COk P N c cNo := fun c σ cl hcl n base ρ F M a w Q r hh hf hr hL => absurd hf.symm hr
  intro c
  induction c with
  | skip => intro _ σ cl hcl n base ρ F M a w Q r hh hf hr hL; exact wp_skip ((hL ρ F M a w (Ext.refl _) hh (Kp.refl _ _)).1 hf.symm)
  | label l => intro _ σ cl hcl n base ρ F M a w Q r hh hf hr hL; exact wp_label ((hL ρ F M a w (Ext.refl _) hh (Kp.refl _ _)).1 hf.symm)
  | exit id => intro _ σ cl hcl n base ρ F M a w Q r hh hf hr hL; exact wp_exit ((hL ρ F M a w (Ext.refl _) hh (Kp.refl _ _)).2.1 id hf.symm)
  | ret => intro _ σ cl hcl n base ρ F M a w Q r hh hf hr hL; exact wp_ret ((hL ρ F M a w (Ext.refl _) hh (Kp.refl _ _)).2.2 hf.symm)
  | seq x y ihx ihy =>
    intro hok σ cl hcl n base ρ F M a w Q r hh hf hr hL
    simp only [okC, Bool.and_eq_true] at hok
    simp only [compC, cSeq_eq] at hf
    have hne : compC P funs N x cl n F M ≠ .no := fun e => by rw [e] at hf; exact hr hf.symm
    refine wp_seq (ihx hok.1 σ cl hcl n base ρ F M a w _ _ hh rfl hne ?_)
    intro ρ' F' M' a' w' he hh' hk
    refine ⟨fun e => ?_, fun id e => ?_, fun e => ?_⟩ <;> rw [e] at hf
    · exact ihy hok.2 σ cl hcl n base ρ' F' M' a' w' Q r hh' hf hr (hL.mono he hk)
    · exact (hL ρ' F' M' a' w' he hh' hk).2.1 id hf.symm
    · exact (hL ρ' F' M' a' w' he hh' hk).2.2 hf.symm
  | cond c x y ihx ihy =>
    intro hok
    simp only [okC, Bool.and_eq_true] at hok
    simp only [compC]
    split
    rotate_left
    · exact no _
    rename_i hc
    intro σ cl hcl n base ρ F M a w Q r hh hf hr hL
    simp only [cCond] at hf
    obtain ⟨b, hb, hf⟩ := caseB_some hf hr
    have h1 := hop hN hh.nb hc
    rw [hb] at h1
    have h2 := den_bool (opv_den (hh.op hN) h1)
    refine wp_cond h2 ?_
    rw [ifB_eq] at hf
    cases b with
    | true => simp only [if_true] at hf; simp only [T.b, if_true]; exact ihx hok.1 σ cl hcl n base ρ F M a w Q r hh hf hr hL
    | false => simp only [Bool.false_eq_true, if_false] at hf; simp only [T.b, Bool.false_eq_true, if_false]; exact ihy hok.2 σ cl hcl n base ρ F M a w Q r hh hf hr hL
  | block id x ih =>
    intro hok σ cl hcl n base ρ F M a w Q r hh hf hr hL
    simp only [compC, cBlock_eq] at hf
    have hne : compC P funs N x cl n F M ≠ .no := fun e => by rw [e] at hf; exact hr hf.symm
    refine wp_block (ih hok σ cl hcl n base ρ F M a w _ _ hh rfl hne ?_)
    intro ρ' F' M' a' w' he hh' hk
    have hl := hL ρ' F' M' a' w' he hh' hk
    refine ⟨fun e => ?_, fun j e => ?_, fun e => ?_⟩ <;> rw [e] at hf
    · exact hl.1 hf.symm
    · simp only at hf
      simp only [Exit.inBlock]
      by_cases hj : j = id
      · rw [if_pos hj]
        rw [if_pos (by simpa using hj)] at hf
        exact hl.1 hf.symm
      · rw [if_neg hj]
        rw [if_neg (by simpa using hj)] at hf
        exact hl.2.1 j hf.symm
    · exact hl.2.2 hf.symm
  | loop x ih =>
    intro hok σ cl hcl n base ρ F M a w Q r hh hf hr hL
    simp only [compC, cLoop_eq] at hf
    exact wp_loop_rounds n (loop_ok (ih hok) hcl hr n hh hf hL)
  | scope x ih =>
    intro hok σ cl hcl n base ρ F M a w Q r hh hf hr hL
    refine wp_scope_straight (ih hok σ cl hcl n base ρ F M a w _ r hh hf hr ?_)
    intro ρ' F' M' a' w' he hh' hk
    have hl := hL ρ' F' M' a' w' he hh' hk
    exact ⟨fun e => hl.1 e, fun id e => hl.2.1 id e, fun e => hl.2.2 e⟩
  | region id ops draw =>
    intro hok
    cases draw with
    | true =>
      simp only [compC]
      split
      · rename_i hd; exact drawS_ok hm hN hd (by simpa [okC] using hok)
      · exact draw_ok hm hfs hN
    | false =>
      intro σ cl hcl n base ρ F M a w Q r hh hf hr hL
      simp only [okC, okDs, List.all_eq_true] at hok
      exact wp_region_list (ops_ok (n := n) hN hcl hr ops.toList hok hh hf hL)
  | _ => intro _; exact no _
noncomputable def fillG : List X → List S → F8 → Option F8
  | [], _, F => some F
  | _ :: _, [], _ => none
  | x :: l, s :: e, F => fillG l e (s x F)
theorem fillX_eq (e : List S) (l : List X) : fillX e l = fillG l e F8.none := by
  have key : ∀ l e F, (List.rec (motive := fun _ => List S → F8 → Option F8) (fun _ F => some F) (fun x _ ih e F => List.rec (motive := fun _ => Option F8) none (fun s e _ => ih e (s x F)) e) l : List S → F8 → Option F8) e F = fillG l e F := by
    intro l
    induction l with
    | nil => intro e F; rfl
    | cons x l ih =>
      intro e F
      cases e with
      | nil => rfl
      | cons s e => exact ih e (s x F)
  exact key l e F8.none
theorem fillG_get : ∀ (l : List X) (j k : Nat) (F F' : F8), j + k ≤ 512 → fillG l ((List.range' j k).map sT) F = some F' → l.length ≤ k ∧ ∀ t, t < 512 → gT t F' = if j ≤ t ∧ t < j + l.length then l.getD (t - j) .undef else gT t F
  | [], j, k, F, F', hk, h => by
    simp [fillG] at h
    subst h
    exact ⟨by simp, fun t ht => by rw [if_neg (by simp only [List.length_nil]; omega)]⟩
  | x :: l, j, 0, F, F', hk, h => by simp [fillG] at h
  | x :: l, j, k + 1, F, F', hk, h => by
    rw [List.range'_succ, List.map_cons] at h
    simp only [fillG] at h
    obtain ⟨h1, h2⟩ := fillG_get l (j + 1) k _ F' (by omega) h
    refine ⟨by simp; omega, fun t ht => ?_⟩
    rw [h2 t ht, gT_sT (by omega) ht]
    simp only [List.length_cons]
    by_cases e : t = j
    · subst e
      rw [if_neg (by omega), if_pos rfl, if_pos (by omega)]
      simp
    · by_cases c : j + 1 ≤ t ∧ t < j + 1 + l.length
      · rw [if_pos c, if_pos (by omega), show t - j = (t - (j + 1)) + 1 by omega]
        simp
      · rw [if_neg c, if_neg (by omega), if_neg (by omega)]
theorem enter_ok {args : List X} {F0 : F8} (hN : N ≤ 511) (h : fillX (entN N) args = some F0) {xs : List Value} (hx : denL σ ρ (args.map X.toV) = some xs) (hM : Vx.M σ ρ base M.H M.nx w) (hs : Srt M.H M.nx) :
    HX σ ρ base N F0 ⟨M.H, M.nx, M.nx⟩ { tmps := xs.toArray ++ Array.replicate (N - xs.toArray.size) undef, defers := [] } w := by
  rw [fillX_eq, entN] at h
  obtain ⟨h1, h2⟩ := fillG_get args 0 (min 24 N) F8.none F0 (by omega) h
  have hl : xs.length = args.length := by simpa using denL_len hx
  refine ⟨by simp; omega, fun t ht => ?_, .inl ⟨?_, rfl⟩, hM, hs⟩
  · rw [h2 t (by omega)]
    by_cases c : t < args.length
    · rw [if_pos (by omega)]
      have e : (args.map X.toV)[t]? = some (args.getD (t - 0) .undef).toV := by simp [c]
      obtain ⟨v, hv, hd⟩ := denL_get hx e
      refine ⟨v, ?_, hd⟩
      rw [Array.getElem?_append_left (by simp; omega)]
      simpa using hv
    · rw [if_neg (by omega), gT_none (by omega)]
      refine ⟨undef, ?_, by simp [X.toV, undef_den]⟩
      rw [Array.getElem?_append_right (by simp; omega), Array.getElem?_replicate, if_pos (by simp; omega)]
  · rw [h2 511 (by omega), if_neg (by omega), gT_none (by omega)]
    rfl
theorem resX_ok (hN : N ≤ 511) {H : Hp} {nx : Nat} : ∀ {rs : List ResultVar} {vs : List V}, resOk N rs = true → resX P F H rs = some vs → resV P ⟨toFr F N, H, nx, []⟩ rs = some vs
  | [], vs, _, h => h
  | .tmp t :: l, vs, hok, h => by
    simp only [resOk, List.all_cons, Bool.and_eq_true, Nat.blt_eq] at hok
    simp only [resX, Option.map_eq_some_iff] at h
    obtain ⟨us, hus, rfl⟩ := h
    have := resX_ok hN (nx := nx) (rs := l) (by simpa [resOk] using hok.2) hus
    simp only [resV, getF_eq, toFr_get hok.1 hN, Option.bind_some, this, Option.map_some]
  | .cell b t :: l, vs, hok, h => by
    simp only [resOk, List.all_cons, Bool.and_eq_true, Nat.blt_eq] at hok
    simp only [resX] at h
    split at h
    · rename_i id off hb
      simp only [Option.bind_eq_some_iff, Option.map_eq_some_iff] at h
      obtain ⟨bk, hbk, v, hv, us, hus, rfl⟩ := h
      have := resX_ok hN (nx := nx) (rs := l) (by simpa [resOk] using hok.2) hus
      simp only [resV, getF_eq, toFr_get hok.1 hN, hb, hbk, hv, Option.bind_some, this, Option.map_some]
    · simp at h
theorem outX_ok (hN : N ≤ 511) {fn : Func} (hres : resOk N fn.results.toList = true) {nx0 : Nat} {x : X} {M' : Mm} (h : outX P fn.results.toList nx0 F M = .val x M') (hh : HX σ ρ base N F M a w) :
    ∃ v, (results fn a.tmps).run P w = .ok v w ∧ den σ ρ x.toV = some v ∧ Vx.M σ ρ base M'.H M'.nx w ∧ Srt M'.H M'.nx := by
  unfold outX at h
  cases hr : resX P F M.H fn.results.toList with
  | none => rw [hr] at h; simp at h
  | some vs =>
    rw [hr] at h
    simp at h
    obtain ⟨rfl, rfl⟩ := h
    obtain ⟨v, h1, h2⟩ := results_run (P := P) (a := a) (st := ⟨toFr F N, M.H, M.nx, []⟩) hh.m (hh.fr hN) (resX_ok hN hres hr)
    have hsub := dropX_sub (V.plainL vs) nx0 M.lw M.H
    exact ⟨v, h1, by rw [toX_toV]; exact h2, hh.m.sub fun i b hb => hh.s.look hsub hb, hh.s.sub hsub⟩
theorem bodyX_some {t : TT} {m : Nat} {ih : Cl} {f : Nat} {args : List X} {fin : List ResultVar → Nat → F8 → Mm → CX} {x : X} {M' : Mm} (h : bodyX t m ih f args M fin = .val x M') :
    ∃ ff F0 F1 M1, t.get f = some ff ∧ fillX ff.ent args = some F0 ∧ (ff.body ih m F0 ⟨M.H, M.nx, M.nx⟩ = .nrm F1 M1 ∨ ff.body ih m F0 ⟨M.H, M.nx, M.nx⟩ = .ret F1 M1) ∧ fin ff.res M.nx F1 M1 = .val x M' := by
  unfold bodyX at h
  cases ht : t.get f with
  | none => rw [ht] at h; simp at h
  | some ff =>
    obtain ⟨body, ent, res⟩ := ff
    rw [ht] at h
    simp only at h
    cases hF : fillX ent args with
    | none => rw [hF] at h; simp at h
    | some F0 =>
      rw [hF] at h
      obtain ⟨H, nx, lw⟩ := M
      simp only at h
      cases hb : body ih m F0 ⟨H, nx, nx⟩ with
      | nrm F1 M1 => rw [hb] at h; exact ⟨_, F0, F1, M1, rfl, hF, .inl hb, h⟩
      | ret F1 M1 => rw [hb] at h; exact ⟨_, F0, F1, M1, rfl, hF, .inr hb, h⟩
      | ext id F1 M1 => rw [hb] at h; simp [rxC] at h
      | no => rw [hb] at h; simp [rxC] at h
theorem defer_none (hh : HX σ ρ base N F M a w) (hu : isU (gT 511 F) = true) : a.defers = [] := by
  rcases hh.d with h | ⟨g, p, q, l, ps, qs, ls, h, -⟩
  · exact h.2
  · rw [h] at hu; simp [isU, V.tup?] at hu
theorem bodyN_ok (hm : P.follows .mixedOrders = true) (hfs : FunsOk P funs) {t : TT} (ht : TT.Ok P funs t) {m : Nat} {ih : Cl} (hih : ClOk P σ ih) {f : Nat} {args : List X} {x : X} {M' : Mm} (h : bodyX t m ih f args M (finN P) = .val x M') (hs : Srt M.H M.nx)
    {xs : List Value} (hx : denL σ ρ (args.map X.toV) = some xs) (hM : Vx.M σ ρ base M.H M.nx w) :
    ∃ fn c, P.funcs[f]? = some fn ∧ fn.body = some c ∧ (fn.name == "runtime.NumGoroutine") = false ∧ c.wp P (bodyPost P fn fun e w' => ∃ v ρ', e = .returned v ∧ den σ ρ' x.toV = some v ∧ Ext ρ ρ' ∧ Vx.M σ ρ' base M'.H M'.nx w' ∧ Kp base w w' ∧ Srt M'.H M'.nx) { tmps := xs.toArray ++ Array.replicate (fn.ntmps - xs.toArray.size) undef, defers := [] } w := by
  obtain ⟨ff, F0, F1, M1, h1, h2, h3, h4⟩ := bodyX_some h
  obtain ⟨fn, c, e1, e2, e3, e4, rfl⟩ := TT.get_ok ht h1
  simp only [okF, Bool.and_eq_true, Nat.ble_eq] at e4
  obtain ⟨hN, hok, hres⟩ := e4
  refine ⟨fn, c, e1, e2, e3, ?_⟩
  have fin : ∀ {ρ' a' w'}, Ext ρ ρ' → HX σ ρ' base fn.ntmps F1 M1 a' w' → Kp base w w' → a'.defers = [] ∧ ∃ v, (results fn a'.tmps).run P w' = .ok v w' ∧ ∃ v' ρ2, Ending.returned v = .returned v' ∧ den σ ρ2 x.toV = some v' ∧ Ext ρ ρ2 ∧ Vx.M σ ρ2 base M'.H M'.nx w' ∧ Kp base w w' ∧ Srt M'.H M'.nx := by
    intro ρ' a' w' he hh hk
    unfold finN at h4
    cases hu : isU (gT 511 F1) with
    | false => rw [hu] at h4; simp at h4
    | true =>
      rw [hu] at h4
      obtain ⟨v, k1, k2, k3, k4⟩ := outX_ok hN hres h4 hh
      exact ⟨defer_none hh hu, v, k1, v, ρ', rfl, k2, he, k3, hk, k4⟩
  rcases h3 with h3 | h3
  · refine compC_ok hm hfs hN c hok σ ih hih m base ρ F0 _ _ w _ _ (enter_ok hN h2 hx hM hs) h3 (by simp) ?_
    intro ρ' F' M2 a' w' he hh hk
    refine ⟨fun e => ?_, fun id e => by simp at e, fun e => by simp at e⟩
    simp at e
    obtain ⟨rfl, rfl⟩ := e
    exact fin he hh hk
  · refine compC_ok hm hfs hN c hok σ ih hih m base ρ F0 _ _ w _ _ (enter_ok hN h2 hx hM hs) h3 (by simp) ?_
    intro ρ' F' M2 a' w' he hh hk
    refine ⟨fun e => by simp at e, fun id e => by simp at e, fun e => ?_⟩
    simp at e
    obtain ⟨rfl, rfl⟩ := e
    exact fin he hh hk
theorem finX_ok (hm : P.follows .mixedOrders = true) (hfs : FunsOk P funs) {t : TT} (ht : TT.Ok P funs t) {m : Nat} {ih : Cl} (hih : ClOk P σ ih) (hN : N ≤ 511) {fn : Func} (hres : resOk N fn.results.toList = true) {nx0 : Nat} {x : X} {M' : Mm} (h : finX P t m ih fn.results.toList nx0 F M = .val x M') (hh : HX σ ρ base N F M a w) :
    Leaves P fn a.tmps (fun e w' => ∃ v ρ', e = .returned v ∧ den σ ρ' x.toV = some v ∧ Ext ρ ρ' ∧ Vx.M σ ρ' base M'.H M'.nx w' ∧ Kp base w w' ∧ Srt M'.H M'.nx) a.defers .returning w := by
  unfold finX at h
  split at h
  · rename_i hu
    have hd := defer_none hh (by rw [hu]; rfl)
    obtain ⟨v, k1, k2, k3, k4⟩ := outX_ok hN hres h hh
    rw [hd]
    exact ⟨v, k1, v, ρ, rfl, k2, Ext.refl _, k3, Kp.refl _ _, k4⟩
  · rename_i g p q l hu
    rcases hh.d with hd | ⟨g', p', q', l', ps, qs, ls, h1, h2, h3, h4, h5⟩
    · rw [hu] at hd; simp [isU, V.tup?] at hd
    rw [hu] at h1
    simp at h1
    obtain ⟨⟨rfl, rfl, rfl⟩, rfl⟩ := h1
    cases hb : bodyX t m ih g (p.map V.toX ++ (l.map V.toX ++ q.map V.toX)) M (finN P) with
    | no => rw [hb] at h; simp at h
    | val y M1 =>
      rw [hb] at h
      simp only at h
      obtain ⟨fn2, c2, b1, b2, b3, b4⟩ := bodyN_ok hm hfs ht hih hb hh.s (xs := ps ++ ls ++ qs) (by
        rw [List.map_append, List.map_append, map_toX, map_toX, map_toX, ← List.append_assoc]
        exact denL_append.2 ⟨_, _, denL_append.2 ⟨_, _, h2, h4, rfl⟩, h3, rfl⟩) hh.m
      rw [h5]
      refine leaves_cons (f := g) (args := (ps ++ ls ++ qs).toArray) (by simp) ?_ ?_
      · have : fn2.body.isNone = false := by rw [b2]; rfl
        simp only [invoke, callFunc, Sem.run_bind, run_program, Result.andThen_ok, b1, b3, this, Bool.false_eq_true, if_false, Sem.run_pure]
        simp
      · refine (callsD_of_wp b1 b2 b4).mono ?_
        rintro e u w2 ⟨rfl, v, ρ', rfl, k1, k2, k3, k4, k5⟩
        have hh' : HX σ ρ' base N F ⟨M1.H, M1.nx, minN M1.lw M.lw⟩ a w2 := ⟨hh.n, fun t ht => by obtain ⟨y, y1, y2⟩ := hh.fs t ht; exact ⟨y, y1, den_mono k2 y2⟩, hh.d.mono k2, k3, k5⟩
        obtain ⟨v2, o1, o2, o3, o4⟩ := outX_ok hN hres h hh'
        exact ⟨v2, o1, v2, ρ', rfl, o2, k2, o3, k4, o4⟩
  · simp at h
def KnOk (P : Program) (kn : Nat → Bool) : Prop := ∀ f, kn f = true → (∃ fn, P.funcs[f]? = some fn ∧ (fn.name == "runtime.NumGoroutine") = false ∧ fn.body.isNone = false) ∧ ∀ w, Calls P f #[] w fun e w' => e = .returned (.bool true) ∧ Below w.heap.size w w'
theorem KnOk.none : KnOk P (fun _ => false) := fun f h => by simp at h
theorem KnOk.one {g : Nat} {fn : Func} (h1 : P.funcs[g]? = some fn) (h2 : (fn.name == "runtime.NumGoroutine") = false) (h3 : fn.body.isNone = false) (h : ∀ w, Calls P g #[] w fun e w' => e = .returned (.bool true) ∧ Below w.heap.size w w') : KnOk P (Nat.beq g) := fun f hf => by
  have := Nat.eq_of_beq_eq_true hf
  subst this
  exact ⟨⟨fn, h1, h2, h3⟩, h⟩
theorem KnOk.more {k k' : Nat → Bool} (h : KnOk P k) (h' : KnOk P k') : KnOk P (fun f => k f || k' f) := fun f hf => by
  simp only [Bool.or_eq_true] at hf
  exact hf.elim (h f) (h' f)
theorem callX_ok (hm : P.follows .mixedOrders = true) (hfs : FunsOk P funs) {t : TT} (ht : TT.Ok P funs t) {kn : Nat → Bool} (hkn : KnOk P kn) (m : Nat) : ∀ n, ClOk P σ (callX P t kn n m) := by
  intro n
  induction n with
  | zero => intro f args M x M' h; simp [callX] at h
  | succ n ih =>
    intro f args M x M' h hs
    have h : (Bool.rec (motive := fun _ => CX) (bodyX t m (callX P t kn n m) f args M (finX P t m (callX P t kn n m))) (List.rec (motive := fun _ => CX) (.val (.b true) M) (fun _ _ _ => .no) args) (kn f) : CX) = .val x M' := h
    cases hk : kn f with
    | true =>
      rw [hk] at h
      cases args with
      | cons a l => simp at h
      | nil =>
        simp at h
        obtain ⟨rfl, rfl⟩ := h
        obtain ⟨h1, h2⟩ := hkn f hk
        refine ⟨h1, fun base ρ w xs hx hM => ?_⟩
        rw [List.map_nil, denL_nil] at hx
        simp at hx
        subst hx
        refine (h2 w).mono ?_
        rintro e w' ⟨rfl, hb⟩
        exact ⟨_, ρ, rfl, rfl, Ext.refl _, hM.below (Kp.of hb), (Kp.of hb).mono hM.size, hs⟩
    | false =>
    rw [hk] at h
    simp only at h
    obtain ⟨ff, F0, F1, M1, h1, h2, h3, h4⟩ := bodyX_some h
    obtain ⟨fn, c, e1, e2, e3, e4, rfl⟩ := TT.get_ok ht h1
    simp only [okF, Bool.and_eq_true, Nat.ble_eq] at e4
    obtain ⟨hN, hok, hres⟩ := e4
    refine ⟨⟨fn, e1, e3, by rw [e2]; rfl⟩, fun base ρ w xs hx hM => calls_of_wp_defers e1 e2 ?_⟩
    have fin : ∀ {ρ' a' w'}, Ext ρ ρ' → HX σ ρ' base fn.ntmps F1 M1 a' w' → Kp base w w' → Leaves P fn a'.tmps (fun e w' => ∃ v ρ', e = .returned v ∧ den σ ρ' x.toV = some v ∧ Ext ρ ρ' ∧ Vx.M σ ρ' base M'.H M'.nx w' ∧ Kp base w w' ∧ Srt M'.H M'.nx) a'.defers .returning w' := by
      intro ρ' a' w' he hh hk
      exact leaves_mono (finX_ok hm hfs ht ih hN hres h4 hh) fun e w2 ⟨v, ρ2, k1, k2, k3, k4, k5, k6⟩ => ⟨v, ρ2, k1, k2, he.trans k3, k4, hk.trans k5, k6⟩
    rcases h3 with h3 | h3
    · refine compC_ok hm hfs hN c hok σ _ ih m base ρ F0 _ _ w _ _ (enter_ok hN h2 hx hM hs) h3 (by simp) ?_
      intro ρ' F' M2 a' w' he hh hk
      refine ⟨fun e => ?_, fun id e => by simp at e, fun e => by simp at e⟩
      simp at e
      obtain ⟨rfl, rfl⟩ := e
      exact fin he hh hk
    · refine compC_ok hm hfs hN c hok σ _ ih m base ρ F0 _ _ w _ _ (enter_ok hN h2 hx hM hs) h3 (by simp) ?_
      intro ρ' F' M2 a' w' he hh hk
      refine ⟨fun e => by simp at e, fun id e => by simp at e, fun e => ?_⟩
      simp at e
      obtain ⟨rfl, rfl⟩ := e
      exact fin he hh hk
theorem calls_fast (hm : P.follows .mixedOrders = true) (hfs : FunsOk P funs) {t : TT} (ht : TT.Ok P funs t) {kn : Nat → Bool} (hkn : KnOk P kn) {n m f : Nat} (h : okX (callX P t kn n m f [] ⟨[], 0, 0⟩) = true) (w : World) : Calls P f #[] w fun e w' => e = .returned (.bool true) ∧ Below w.heap.size w w' := by
  cases hc : callX P t kn n m f [] ⟨[], 0, 0⟩ with
  | no => rw [hc] at h; simp [okX] at h
  | val x M' =>
    rw [hc] at h
    cases x with
    | b b =>
      have hb : b = true := h
      subst hb
      obtain ⟨-, hcall⟩ := callX_ok (σ := noEnv) hm hfs ht hkn m n f [] _ _ _ hc Srt.nil
      refine (hcall (· < w.heap.size) (fun _ => none) w [] denL_nil ⟨fun r hr => hr, fun _ _ => rfl, fun i b hi => by simp [Vx.look] at hi, fun i j r c d hi => by simp [Vx.look] at hi⟩).mono ?_
      rintro e w' ⟨v, ρ', rfl, k1, k2, k3, k4, k5⟩
      simp [X.toV, den, T.b] at k1
      exact ⟨by rw [← k1], Kp.to k4⟩
    | _ => simp [okX] at h
end
end Go.Proofs.Ytehbfajmileefaa.Fx
