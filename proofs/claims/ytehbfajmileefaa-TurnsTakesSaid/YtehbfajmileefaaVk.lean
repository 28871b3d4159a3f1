import Derived.Test.YtehbfajmileefaaVj
namespace Go.Proofs.Ytehbfajmileefaa.Vx
open Go.RowKit
set_option linter.unusedVariables false
set_option linter.unusedSimpArgs false
def CtrsOk (P : Program) (σ : Env) (cs : List Ctr) : Prop :=
  ∀ c ∈ cs, ∀ args v conds fs xs x ρ, c.app args = some (v, conds, fs) → (∀ t ∈ conds, t.b σ = true) → denL σ ρ args = some xs → den σ ρ v = some x →
    (∀ t ∈ fs, t.b σ = true) ∧ ∀ w, Calls P c.f xs.toArray w fun e w' => e = .returned x ∧ Below w.heap.size w w'
section
variable {P : Program} {σ : Env} {ρ : Rho} {w : World} {base : Nat → Prop} {nx : Nat} {H : Hp} {F : Fr} {a : Act} {funs : List (FuncId × Func)}
theorem Leads.mono {ls ls' : List (Ex × St)} {Q : Exit → Act → World → Prop} (h : Leads σ base ls ρ a w Q) (hl : ∀ l ∈ ls', l ∈ ls) {ρ' : Rho} {a' : Act} {w' : World} (he : Ext ρ ρ') (hd : a'.defers = a.defers) (hb : Kp base w w') : Leads σ base ls' ρ' a' w' Q :=
  fun lf hlf ρ2 a2 w2 h1 h2 h3 h4 => h lf (hl lf hlf) ρ2 a2 w2 (he.trans h1) h2 (hb.trans h3) (h4.trans hd)
theorem evo_ok {pc : List T} {o : Oper} {r : OR} (h : evo P pc F H nx o.op = some r) (hpc : ∀ t ∈ pc, t.b σ = true) (hv : ∀ t ∈ r.vc, t.b σ = true) (hF : OpOk σ ρ F a) (hM : M σ ρ base H nx w) :
    ∃ nxt x ρ' w', (execOp a.eval o).run P w = .ok nxt w' ∧ (nxt = .value x ∨ (nxt = .skip ∧ x = undef)) ∧ Ext ρ ρ' ∧ den σ ρ' r.v = some x ∧ M σ ρ' base r.H r.nx w' ∧ Kp base w w' := by
  rw [evo_eq] at h
  split at h
  · rename_i q hq
    simp at h; subst h
    obtain ⟨x, hx, hd⟩ := evp_ok (P := P) (a := a) hq hpc hv hF hM
    exact ⟨_, x, ρ, w, hx, .inl rfl, Ext.refl _, hd, hM, Kp.refl _ _⟩
  · simp only [Option.map_eq_some_iff] at h
    obtain ⟨q, hq, rfl⟩ := h
    obtain ⟨nxt, x, ρ', w', k1, k2, k3, k4, k5, k6, -⟩ := (evm_ok (P := P) (a := a) hM hF hq).ex
    exact ⟨nxt, x, ρ', w', k1, k2, k3, k4, k5, k6⟩
theorem runOps_ok (hfs : FunsOk P funs) {call : FuncId → List V → St → Option COut} (hc : CallOk P σ call) {ops : Array Oper} : ∀ (l : List Oper) (st : St) (out : Out), runOps P funs call ops l st = some out → VOk σ out.2 →
    ∀ base ρ a w Q, Holds σ ρ base st a w → Leads σ base out.1 ρ a w Q → wpList P ops Q l a w
  | [], st, out, h, hv, base, ρ, a, w, Q, hh, hL => by
    simp [runOps] at h
    subst h
    exact hL (.nrm, st) (by simp) ρ a w (Ext.refl _) hh (Kp.refl _ _) rfl
  | o :: rest, st, out, h, hv, base, ρ, a, w, Q, hh, hL => by
    have ih := runOps_ok hfs hc (ops := ops) rest
    have skp : ∀ (pc' : List T) (o' : Out), runOps P funs call ops rest { st with pc := pc', F := setF st.F o.dst .undef } = some o' → (∀ t ∈ pc', t.b σ = true) → (∀ l ∈ o'.1, l ∈ out.1) → VOk σ o'.2 → wpList P ops Q rest (a.put o.dst undef) w :=
      fun pc' o' h1 h2 h3 h4 => ih _ o' h1 h4 base ρ _ w Q ⟨setF_den hh.F undef_den, h2, hh.m⟩ (hL.mono h3 (Ext.refl _) (put_defers _ _) (Kp.refl _ _))
    have go : ∀ (pc' : List T) (o' : Out), (match isCall funs st.F o.op with
      | some g => (callM call g { st with pc := pc' }).bind fun r => (eachL (fun x => runOps P funs call ops rest { x.2 with F := setF st.F o.dst x.1 }) r.1).map fun out => (out.1, r.2 ++ out.2)
      | none => (evo P pc' st.F st.H st.nx o.op).bind fun r => (runOps P funs call ops rest { st with pc := pc', F := setF st.F o.dst r.v, H := r.H, nx := r.nx }).map fun out => (out.1, (r.vc.filter fun t => decG pc' t != some true).map (fun t => (pc', t)) ++ out.2)) = some o' →
        (∀ t ∈ pc', t.b σ = true) → (∀ l ∈ o'.1, l ∈ out.1) → VOk σ o'.2 → o.wp P a w (wpList P ops Q rest) Q := by
      intro pc' o' h1 h2 h3 h4
      split at h1
      · rename_i g hg
        simp only [Option.bind_eq_some_iff, Option.map_eq_some_iff] at h1
        obtain ⟨r, hr, o2, ho2, rfl⟩ := h1
        obtain ⟨xs, hx, hdx⟩ := exec_call (w := w) hfs (opOk_of hh.F) hg
        unfold Oper.wp
        rw [hx]
        simp only [Oper.upon]
        refine (callM_ok hc hr h4.app.1 hdx h2 hh.m).mono ?_
        rintro e w' ⟨lf, hlf, x, ρ', rfl, k2, k3, k4, k5, k6, k7⟩
        obtain ⟨o3, ho3, k8, k9⟩ := eachL_ok (σ := σ) ho2 lf hlf
        exact ih _ o3 ho3 (k9 h4.app.2) base ρ' _ w' Q ⟨setF_den (denL_mono k3 hh.F) k2, k5, k6⟩ (hL.mono (fun l hl => h3 l (k8 l hl)) k3 (put_defers _ _) k7)
      · simp only [Option.bind_eq_some_iff, Option.map_eq_some_iff] at h1
        obtain ⟨r, hr, o2, ho2, rfl⟩ := h1
        obtain ⟨nxt, x, ρ', w', k1, k2, k3, k4, k5, k6⟩ := evo_ok (P := P) hr h2 (filt_ok h2 (h4.app.1.own h2)) (opOk_of hh.F) hh.m
        unfold Oper.wp
        rw [k1]
        have fin : wpList P ops Q rest (a.put o.dst x) w' := ih _ o2 ho2 h4.app.2 base ρ' _ w' Q ⟨setF_den (denL_mono k3 hh.F) k4, h2, k5⟩ (hL.mono h3 k3 (put_defers _ _) k6)
        rcases k2 with rfl | ⟨rfl, rfl⟩
        · exact fin
        · exact fin
    have skp' : ∀ (pc' : List T) (o' : Out), skipK o.dst (runOps P funs call ops rest) { st with pc := pc' } = some o' → (∀ t ∈ pc', t.b σ = true) → (∀ l ∈ o'.1, l ∈ out.1) → VOk σ o'.2 → wpList P ops Q rest (a.put o.dst undef) w :=
      fun pc' o' h1 => skp pc' o' (by rw [skipK_eq] at h1; exact h1)
    have go' : ∀ (pc' : List T) (o' : Out), stepK P funs call o (runOps P funs call ops rest) { st with pc := pc' } = some o' →
        (∀ t ∈ pc', t.b σ = true) → (∀ l ∈ o'.1, l ∈ out.1) → VOk σ o'.2 → o.wp P a w (wpList P ops Q rest) Q :=
      fun pc' o' h1 => go pc' o' (by rw [stepK_eq] at h1; exact h1)
    simp only [runOps, guardK, getF_eq] at h
    unfold wpList
    split at h
    · rename_i hg
      rw [if_pos (by simp [Region.wanted, hg])]
      exact .inl (go' st.pc out h hh.pc (fun _ h => h) hv)
    · rename_i j want hg
      split at h
      · rename_i t ht
        have hw := wanted_bool hh.F hg ht
        split at h
        · rename_i hwant
          subst hwant
          obtain ⟨pc', o', k1, k2, k3, k4⟩ := splitT_ok h hh.pc
          cases hb : t.b σ
          · rw [hb] at hw k1
            rw [if_neg (by rw [hw]; simp)]
            simp only [Bool.false_eq_true, if_false] at k1
            exact skp' pc' o' k1 k2 k3 (k4 hv)
          · rw [hb] at hw k1
            rw [if_pos (by rw [hw]; simp)]
            simp only [if_true] at k1
            exact .inl (go' pc' o' k1 k2 k3 (k4 hv))
        · rename_i hwant
          have hwant : want = false := by simpa using hwant
          subst hwant
          obtain ⟨pc', o', k1, k2, k3, k4⟩ := splitT_ok h hh.pc
          cases hb : t.b σ
          · rw [hb] at hw k1
            rw [if_pos (by rw [hw]; simp)]
            simp only [Bool.false_eq_true, if_false] at k1
            exact .inl (go' pc' o' k1 k2 k3 (k4 hv))
          · rw [hb] at hw k1
            rw [if_neg (by rw [hw]; simp)]
            simp only [if_true] at k1
            exact skp' pc' o' k1 k2 k3 (k4 hv)
      · rename_i ht
        rw [if_neg (by rw [wanted_undef hh.F hg ht]; simp)]
        exact skp' st.pc out h hh.pc (fun _ h => h) hv
      · simp at h
theorem den_uniq {v : V} {x y : Value} (h : den σ ρ v = some x) (k : den σ ρ v = some y) : x = y := by rw [h] at k; simpa using k
end
end Go.Proofs.Ytehbfajmileefaa.Vx
