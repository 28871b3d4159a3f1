import Derived.Test.YtehbfajmileefaaFf
import Derived.Test.YtehbfajmileefaaVl
namespace Go.Proofs.Ytehbfajmileefaa.Fx
open Go.RowKit Go.Proofs.Ytehbfajmileefaa.Vx
set_option linter.unusedVariables false
set_option linter.unusedSimpArgs false
def Dfx (σ : Env) (ρ : Rho) (F : F8) (a : Act) : Prop :=
  (isU (gT 511 F) = true ∧ a.defers = []) ∨ ∃ g p q l ps qs ls, gT 511 F = .v (.agg (.fn (.func g) p q :: l)) ∧ denL σ ρ p = some ps ∧ denL σ ρ q = some qs ∧ denL σ ρ l = some ls ∧ a.defers = [{ target := .fn (.func g) qs.toArray, args := ps.toArray ++ ls.toArray }]
structure HX (σ : Env) (ρ : Rho) (base : Nat → Prop) (N : Nat) (F : F8) (M : Mm) (a : Act) (w : World) : Prop where
  n : a.tmps.size = N
  fs : ∀ t, t < N → ∃ v, a.tmps[t]? = some v ∧ den σ ρ (gT t F).toV = some v
  d : Dfx σ ρ F a
  m : Vx.M σ ρ base M.H M.nx w
  s : Srt M.H M.nx
theorem isU_some {x : X} (h : isU x = true) : x = .v (.tup []) := by
  cases x with
  | v v =>
    cases v with
    | tup l =>
      cases l with
      | nil => rfl
      | cons a l => simp [isU, V.tup?] at h
    | _ => simp [isU, V.tup?] at h
  | _ => simp [isU] at h
section
variable {P : Program} {σ : Env} {ρ : Rho} {w : World} {base : Nat → Prop} {N : Nat} {F : F8} {M : Mm} {a : Act} {funs : List (FuncId × Func)}
theorem HX.nb (h : HX σ ρ base N F M a w) : Nb F N := fun t ht e => by
  obtain ⟨v, -, hv⟩ := h.fs t ht
  rw [e] at hv
  simp [den] at hv
theorem HX.fr (hN : N ≤ 511) (h : HX σ ρ base N F M a w) : denL σ ρ (toFr F N).list = some a.tmps.toList := by
  refine denL_of (by rw [Fr.len_list]; show N = _; simp [h.n]) fun t v x hv hx => ?_
  rw [Fr.get_list] at hv
  have ht : t < N := Fr.lt_of_get hv
  rw [toFr_get ht hN] at hv
  obtain ⟨y, hy, hd⟩ := h.fs t ht
  simp at hx
  rw [hx] at hy
  simp at hv hy
  subst hv; subst hy
  exact hd
theorem HX.op (hN : N ≤ 511) (h : HX σ ρ base N F M a w) : OpOk σ ρ (toFr F N) a := opOk_of (h.fr hN)
theorem Dfx.mono {ρ' : Rho} (he : Ext ρ ρ') (h : Dfx σ ρ F a) : Dfx σ ρ' F a := by
  rcases h with h | ⟨g, p, q, l, ps, qs, ls, h1, h2, h3, h4, h5⟩
  · exact .inl h
  · exact .inr ⟨g, p, q, l, ps, qs, ls, h1, denL_mono he h2, denL_mono he h3, denL_mono he h4, h5⟩
theorem HX.putT (hN : N ≤ 511) (h : HX σ ρ base N F M a w) {ρ' : Rho} {M' : Mm} {w' : World} (he : Ext ρ ρ') (hm : Vx.M σ ρ' base M'.H M'.nx w') (hs : Srt M'.H M'.nx) {t : Nat} (ht : t < N) {x : X} {v : Value} (hx : den σ ρ' x.toV = some v) :
    HX σ ρ' base N (sT t x F) M' (a.put (some t) v) w' := by
  refine ⟨by simp [Act.put, h.n], fun i hi => ?_, ?_, hm, hs⟩
  · obtain ⟨y, h1, h2⟩ := h.fs i hi
    simp only [Act.put]
    rw [gT_sT (by omega) (by omega)]
    by_cases e : t = i
    · subst e
      exact ⟨v, by simp [h.n, ht], by rw [if_pos rfl]; exact hx⟩
    · rw [if_neg e]
      exact ⟨y, by rw [Array.getElem?_setIfInBounds_ne e]; exact h1, den_mono he h2⟩
  · have e : gT 511 (sT t x F) = gT 511 F := by
      rw [gT_sT (by omega) (by omega), if_neg (by omega)]
    have := h.d.mono he
    unfold Dfx at this ⊢
    rw [e]
    simpa [put_defers] using this
theorem HX.put (hN : N ≤ 511) (h : HX σ ρ base N F M a w) {ρ' : Rho} {M' : Mm} {w' : World} (he : Ext ρ ρ') (hm : Vx.M σ ρ' base M'.H M'.nx w') (hs : Srt M'.H M'.nx) {d : Option Tmp} (hd : okD N d = true) {x : X} {v : Value} (hx : den σ ρ' x.toV = some v) :
    HX σ ρ' base N (dS d x F) M' (a.put d v) w' := by
  cases d with
  | none => exact ⟨h.n, fun t ht => by obtain ⟨y, h1, h2⟩ := h.fs t ht; exact ⟨y, h1, den_mono he h2⟩, h.d.mono he, hm, hs⟩
  | some t =>
    simp only [okD, Nat.blt_eq] at hd
    exact h.putT hN he hm hs hd hx
def ClOk (P : Program) (σ : Env) (cl : Cl) : Prop :=
  ∀ f args M x M', cl f args M = .val x M' → Srt M.H M.nx → (∃ fn, P.funcs[f]? = some fn ∧ (fn.name == "runtime.NumGoroutine") = false ∧ fn.body.isNone = false) ∧
    ∀ base ρ w xs, denL σ ρ (args.map X.toV) = some xs → Vx.M σ ρ base M.H M.nx w →
      Calls P f xs.toArray w fun e w' => ∃ v ρ', e = .returned v ∧ den σ ρ' x.toV = some v ∧ Ext ρ ρ' ∧ Vx.M σ ρ' base M'.H M'.nx w' ∧ Kp base w w' ∧ Srt M'.H M'.nx
def OOk (P : Program) (N : Nat) (o : Oper) (f : OF) : Prop :=
  ∀ σ cl, ClOk P σ cl → ∀ base ρ F M a w (k : K) r (next : Act → World → Prop) (Q : Exit → Act → World → Prop), HX σ ρ base N F M a w → f cl k F M = r → r ≠ .no →
    (∀ ρ' F' M' a' w', Ext ρ ρ' → HX σ ρ' base N F' M' a' w' → Kp base w w' → k F' M' = r → next a' w') → o.wp P a w next Q
theorem step_ok (hN : N ≤ 511) {o : Oper} {f : OF} (hs : Stp P N o.op (dS o.dst) f) (hd : okD N o.dst = true) : OOk P N o f := by
  intro σ cl hcl base ρ F M a w k r next Q hh hf hr hL
  obtain ⟨x, H', nx', lw', h1, h2⟩ := hs cl k F M r hh.nb hf hr
  obtain ⟨nxt, v, ρ', w', k1, k2, k3, k4, k5, k6⟩ := evo_ok (P := P) (o := o) (pc := []) (a := a) h1 (by simp) (by simp) (hh.op hN) hh.m
  unfold Oper.wp
  rw [k1]
  have := hL ρ' _ _ _ w' k3 (hh.put hN k3 (M' := ⟨H', nx', lw'⟩) k5 (evo_srt hh.s h1) hd k4) k6 h2
  rcases k2 with rfl | ⟨rfl, rfl⟩
  · exact this
  · exact this
theorem oNo_ok {o : Oper} : OOk P N o oNo := fun σ cl hcl base ρ F M a w k r next Q hh hf hr hL => absurd hf.symm hr
theorem exec_callX {Fr' : Fr} (hF : OpOk σ ρ Fr' a) {o : Oper} {f : Operand} {args : Array Operand} {ts : Array TypeId} (ho : o.op = .call { callee := .value f, args := args, argTypes := ts }) {g : Nat} {first cap as : List V}
    (hv : opv Fr' f = some (.fn (.func g) first cap)) (has : mapO (opv Fr') args.toList = some as) {fn : Func} (h1 : P.funcs[g]? = some fn) (h2 : (fn.name == "runtime.NumGoroutine") = false) (h3 : fn.body.isNone = false) :
    ∃ xs, (execOp a.eval o).run P w = .ok (.enter g xs.toArray) w ∧ denL σ ρ (first ++ as ++ cap) = some xs := by
  have hd := opv_den hF hv
  simp only [den, Option.bind_eq_some_iff, Option.map_eq_some_iff] at hd
  obtain ⟨p, hp, q, hq, he⟩ := hd
  have hm := denL_mapO (σ := σ) (ρ := ρ) (g := a.eval) (fun x v hx => opv_den hF hx) has
  obtain ⟨args⟩ := args
  refine ⟨p ++ args.map a.eval ++ q, ?_, denL_append.2 ⟨_, _, denL_append.2 ⟨_, _, hp, hm, rfl⟩, hq, rfl⟩⟩
  unfold execOp
  simp only [ho, resolve, ← he, Deferred.ofValue, Sem.run_bind, Sem.run_pure, Result.andThen_ok, invoke, callFunc, run_program, h1, h2, h3, Bool.false_eq_true, if_false]
  simp
theorem exec_deferX {Fr' : Fr} (hF : OpOk σ ρ Fr' a) {o : Oper} {f : Operand} {args : Array Operand} {ts : Array TypeId} (ho : o.op = .defer { callee := .value f, args := args, argTypes := ts }) {g : Nat} {first cap as : List V}
    (hv : opv Fr' f = some (.fn (.func g) first cap)) (has : mapO (opv Fr') args.toList = some as) :
    ∃ ps qs ls, (execOp a.eval o).run P w = .ok (.defer { target := .fn (.func g) qs.toArray, args := ps.toArray ++ ls.toArray }) w ∧ denL σ ρ first = some ps ∧ denL σ ρ cap = some qs ∧ denL σ ρ as = some ls := by
  have hd := opv_den hF hv
  simp only [den, Option.bind_eq_some_iff, Option.map_eq_some_iff] at hd
  obtain ⟨p, hp, q, hq, he⟩ := hd
  have hm := denL_mapO (σ := σ) (ρ := ρ) (g := a.eval) (fun x v hx => opv_den hF hx) has
  obtain ⟨args⟩ := args
  refine ⟨p, q, args.map a.eval, ?_, hp, hq, hm⟩
  unfold execOp
  simp only [ho, resolve, ← he, Deferred.ofValue, Sem.run_bind, Sem.run_pure, Result.andThen_ok]
  simp
theorem cxR_some {c : CX} {lw : Nat} {k : X → Mm → RX} {r : RX} (h : cxR c lw k = r) (hr : r ≠ .no) : ∃ x M' lw', c = .val x M' ∧ k x ⟨M'.H, M'.nx, lw'⟩ = r := by
  cases c with
  | val x M' => simp only [cxR, mmR_eq] at h; exact ⟨x, M', _, rfl, h⟩
  | no => exact absurd h.symm hr
theorem fnR_some {v : V} {k : Nat → List V → List V → RX} {r : RX} (h : fnR v k = r) (hr : r ≠ .no) : ∃ g a b, v = .fn (.func g) a b ∧ k g a b = r := by
  unfold fnR at h
  split at h
  · rename_i g a b; exact ⟨g, a, b, rfl, h⟩
  · exact absurd h.symm hr
theorem map_toX (l : List V) : (l.map V.toX).map X.toV = l := by
  rw [List.map_map]
  conv => rhs; rw [← List.map_id l]
  exact List.map_congr_left fun v _ => toX_toV v
theorem callG_ok (hN : N ≤ 511) {o : Oper} {f : Operand} {args : Array Operand} {ts : Array TypeId} (ho : o.op = .call { callee := .value f, args := args, argTypes := ts }) (hd : okD N o.dst = true) (hok : ∀ x ∈ args.toList, okO N x = true)
    {cl : Cl} (hcl : ClOk P σ cl) {k : K} {r : RX} {next : Act → World → Prop} {Q : Exit → Act → World → Prop} (hh : HX σ ρ base N F M a w) {g : Nat} {first cap : List V} (hv : opv (toFr F N) f = some (.fn (.func g) first cap))
    {as : List X} (has : as.map X.toV = first ++ (args.toList.map fun x => (gX x F).toV) ++ cap) (hf : cxR (cl g as M) M.lw (fun x M => k (dS o.dst x F) M) = r) (hr : r ≠ .no)
    (hL : ∀ ρ' F' M' a' w', Ext ρ ρ' → HX σ ρ' base N F' M' a' w' → Kp base w w' → k F' M' = r → next a' w') : o.wp P a w next Q := by
  obtain ⟨x, M', lw', hc, hf⟩ := cxR_some hf hr
  obtain ⟨⟨fn, f1, f2, f3⟩, hcall⟩ := hcl _ _ _ _ _ hc hh.s
  obtain ⟨xs, h1, h2⟩ := exec_callX (P := P) (w := w) (hh.op hN) ho hv (hops hN hh.nb hok) f1 f2 f3
  unfold Oper.wp
  rw [h1]
  simp only [Oper.upon]
  refine (hcall base ρ w xs (by rw [has]; exact h2) hh.m).mono ?_
  rintro e w' ⟨v, ρ', rfl, k1, k2, k3, k4, hs⟩
  exact hL ρ' _ _ _ w' k2 (hh.put hN k2 (M' := ⟨M'.H, M'.nx, lw'⟩) k3 hs hd k1) k4 hf
theorem call_ok (hN : N ≤ 511) {o : Oper} {f : Nat} {args : Array Operand} {ts : Array TypeId} (ho : o.op = .call { callee := .value (.func f), args := args, argTypes := ts }) (hd : okD N o.dst = true) (hok : ∀ x ∈ args.toList, okO N x = true) :
    OOk P N o (oCall f (args.toList.map gX) (dS o.dst)) := by
  intro σ cl hcl base ρ F M a w k r next Q hh hf hr hL
  exact callG_ok hN ho hd hok hcl hh (first := []) (cap := []) rfl (by simp) hf hr hL
theorem callV_ok (hN : N ≤ 511) {o : Oper} {f : Operand} {args : Array Operand} {ts : Array TypeId} (ho : o.op = .call { callee := .value f, args := args, argTypes := ts }) (hd : okD N o.dst = true) (hof : okO N f = true) (hok : ∀ x ∈ args.toList, okO N x = true) :
    OOk P N o (oCallV (gX f) (args.toList.map gX) (dS o.dst)) := by
  intro σ cl hcl base ρ F M a w k r next Q hh hf hr hL
  simp only [oCallV] at hf
  obtain ⟨v, hv, hf1⟩ := caseV_some hf hr
  obtain ⟨g, p, q, hg, hf2⟩ := fnR_some hf1 hr
  have h1 := hop hN hh.nb hof
  rw [hv, hg] at h1
  refine callG_ok hN ho hd hok hcl hh (first := p) (cap := q) h1 ?_ hf2 hr hL
  rw [List.map_append, List.map_append, map_toX, map_toX, List.map_map, List.map_map, List.append_assoc]
  rfl
theorem defer_ok (hN : N ≤ 511) {o : Oper} {f : Operand} {args : Array Operand} {ts : Array TypeId} (ho : o.op = .defer { callee := .value f, args := args, argTypes := ts }) (hd : okD N o.dst = true) (hof : okO N f = true) (hok : ∀ x ∈ args.toList, okO N x = true) :
    OOk P N o (oDefer (gX f) (args.toList.map gX) (dS o.dst)) := by
  intro σ cl hcl base ρ F M a w k r next Q hh hf hr hL
  simp only [oDefer] at hf
  obtain ⟨hu, hf0⟩ := ifB_some hf hr
  obtain ⟨v, hv, hf1⟩ := caseV_some hf0 hr
  obtain ⟨g, p, q, hg, hf2⟩ := fnR_some hf1 hr
  have h1 := hop hN hh.nb hof
  rw [hv, hg] at h1
  obtain ⟨ps, qs, ls, x1, x2, x3, x4⟩ := exec_deferX (P := P) (w := w) (hh.op hN) ho h1 (hops hN hh.nb hok)
  have hd0 : a.defers = [] := by
    rcases hh.d with h | ⟨g, p, q, l, ps, qs, ls, h, -⟩
    · exact h.2
    · rw [h] at hu; simp [isU, V.tup?] at hu
  unfold Oper.wp
  rw [x1]
  simp only [Oper.upon]
  refine hL ρ _ M _ w (Ext.refl _) ?_ (Kp.refl _ _) hf2
  have hh' : HX σ ρ base N (sT 511 (.v (.agg (.fn (.func g) p q :: (args.toList.map gX).map fun g => (g F).toV))) F) M { a with defers := { target := .fn (.func g) qs.toArray, args := ps.toArray ++ ls.toArray } :: a.defers } w := by
    refine ⟨hh.n, fun t ht => ?_, .inr ⟨g, p, q, (args.toList.map gX).map fun g => (g F).toV, ps, qs, ls, by rw [gT_sT (by omega) (by omega), if_pos rfl], x2, x3, ?_, by rw [hd0]⟩, hh.m, hh.s⟩
    · rw [gT_sT (by omega) (by omega), if_neg (by omega)]
      exact hh.fs t ht
    · rw [List.map_map]; exact x4
  exact hh'.put hN (Ext.refl _) hh.m hh.s hd (by simp [X.toV, undef_den])
def GOk (P : Program) (N : Nat) (ops : Array Oper) (o : Oper) (f : OF) : Prop :=
  ∀ σ cl, ClOk P σ cl → ∀ base ρ F M a w (k : K) r (next : Act → World → Prop) (Q : Exit → Act → World → Prop), HX σ ρ base N F M a w → f cl k F M = r → r ≠ .no →
    (∀ ρ' F' M' a' w', Ext ρ ρ' → HX σ ρ' base N F' M' a' w' → Kp base w w' → k F' M' = r → next a' w') →
    if Region.wanted o (yielded ops a.tmps) then o.wp P a w next Q else next (a.put o.dst undef) w
theorem oIf_ok (hN : N ≤ 511) {ops : Array Oper} {o : Oper} {j t : Nat} {want : Bool} {f : OF} (hg : o.guard = some (j, want)) (ht : (ops[j]?).bind (·.dst) = some t) (htN : t < N) (hd : okD N o.dst = true) (h : OOk P N o f) : GOk P N ops o (oIf (gT t) want (dS o.dst) f) := by
  intro σ cl hcl base ρ F M a w k r next Q hh hf hr hL
  have h1 := hop hN hh.nb (x := .tmp t) (by simpa [okO] using htN)
  have skip : k (dS o.dst .undef F) M = r → next (a.put o.dst undef) w := fun hk =>
    hL ρ _ M _ w (Ext.refl _) (hh.put hN (Ext.refl _) hh.m hh.s hd (by simp [X.toV, undef_den])) (Kp.refl _ _) hk
  simp only [oIf] at hf
  cases hx : gT t F with
  | i kd n => rw [hx] at hf; exact absurd hf.symm hr
  | b b =>
    rw [hx] at hf
    have h2 : opv (toFr F N) (.tmp t) = some (.bool (.bool b)) := by rw [h1]; show some (gT t F).toV = _; rw [hx]; rfl
    have hw := wanted_boolO (hh.op hN) hg (ops := ops) (t := .bool b) (by rw [ht]; exact h2)
    simp only [T.b] at hw
    rw [hw]
    cases b <;> cases want <;> simp only [ifB_eq, if_true, Bool.false_eq_true, if_false] at hf <;> simp
    all_goals first
      | exact skip hf
      | exact h σ cl hcl base ρ F M a w k r next Q hh hf hr hL
  | v v =>
    rw [hx] at hf
    simp only at hf
    obtain ⟨hu, hf2⟩ := ifB_some hf hr
    have hv := isU_some hu
    have h2 : opv (toFr F N) (.tmp t) = some (.tup []) := by
      rw [h1]
      show some (gT t F).toV = _
      rw [hx, hv]
      rfl
    have hw := wanted_undefO (hh.op hN) hg (ops := ops) (by rw [ht]; exact h2)
    rw [hw]
    simpa using skip hf2
end
end Go.Proofs.Ytehbfajmileefaa.Fx
