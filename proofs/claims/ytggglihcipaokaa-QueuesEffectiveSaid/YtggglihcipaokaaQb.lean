/-
  QueuesEffective.
-/
import Derived.Test.YtggglihcipaokaaQa
namespace Go.Proofs.Ytggglihcipaokaa
open Go.Proofs.Ytggglihcipaokaa.Vx Go.RowKit
set_option maxRecDepth 100000
set_option linter.unusedVariables false
set_option linter.unusedSimpArgs false
theorem okE_b (l : List Int) (i c s : T) : T.b (envQ l) (okE i c s) = okEN (T.i (envQ l) i) (T.i (envQ l) c) (T.i (envQ l) s) := by
  simp only [okEN, okE, M62, T.b, T.i]; rfl
theorem okM_b (l : List Int) (r a : T) : T.b (envQ l) (okM r a) = okMN (T.i (envQ l) r) (T.i (envQ l) a) := by
  simp only [okMN, okM, okA, okR, M62, T.b, T.i]; rfl
theorem flg_b {l : List Int} {b : Bool} {t : T} (h : T.b (envQ l) (flg b t) = true) : T.b (envQ l) t = b := by
  cases b
  · have := q_not.1 h; simpa using this
  · exact h
def oneI (b : Bool) : Int := match b with
  | true => 1
  | false => 0
def ctrRight (b : Bool) : Ctr := ⟨39, fun l => match l with
  | [.agg [.int .i64 i, .int .i64 c, .int .i64 s]] => some (.bool (.bool b), [flg b (okE i c s)], [])
  | _ => none⟩
def ctrEntry (b : Bool) : Ctr := ⟨26, fun l => match l with
  | [.agg [.int .i64 i, .int .i64 c, .int .i64 s]] => some (.int .i64 (.int (oneI b)), [flg b (okE i c s)], [])
  | _ => none⟩
def ctrMay (b : Bool) : Ctr := ⟨40, fun l => match l with
  | [.agg [.int .i64 r, .int .i64 a]] => some (.bool (.bool b), [flg b (okM r a)], [])
  | _ => none⟩
def isZero : T → Bool
  | .int n => eqB n 0
  | _ => false
def pick2 (r : T) (b0 bM : Bool) : Bool := match isZero r with
  | true => b0
  | false => bM
def ctrClock (b0 bM : Bool) : Ctr := ⟨27, fun l => match l with
  | [.int .i64 r, .int .i64 a] => some (.int .i64 (.int (oneI (pick2 r b0 bM))), [flg (pick2 r b0 bM) (okM r a)], [])
  | _ => none⟩
def ctrEff : Ctr := ⟨49, fun l => match l with
  | [.agg [.int .i64 r, .int .i64 a], .agg [.int .i64 i, .int .i64 c, .int .i64 s]] => some (.int .i64 (fF c (.sub r s) a), effC c s r a, [.le (.int 0) (fF c (.sub r s) a), .le (fF c (.sub r s) a) c, .le (fF c (.sub r s) a) (.int 7)])
  | _ => none⟩
def ctrRef : Ctr := ⟨28, fun l => match l with
  | [.agg [.int .i64 i, .int .i64 c, .int .i64 s], .int .i64 r, .int .i64 a] => some (.int .i64 (fF c (.sub r s) a), effC c s r a, [])
  | _ => none⟩
section
variable {l : List Int} {cs : List Ctr}
theorem rightOk (b : Bool) (h : CtrsOk Try.prog (envQ l) cs) : CtrsOk Try.prog (envQ l) (ctrRight b :: cs) := .cons (fun args v conds fs xs x ρ h hv hx hd => by
  simp only [ctrRight] at h
  split at h
  · rename_i i c s
    simp only [Option.some.injEq, Prod.mk.injEq] at h
    obtain ⟨rfl, rfl, rfl⟩ := h
    have hf := flg_b (hv _ (List.mem_singleton.2 rfl))
    rw [okE_b] at hf
    simp only [denL, den, Option.map_some, Option.bind_some, Option.some.injEq] at hx hd
    subst hx; subst hd
    refine ⟨fun t ht => by simp at ht, fun w => ?_⟩
    have := right_any (T.i (envQ l) i) (T.i (envQ l) c) (T.i (envQ l) s) w
    rw [hf] at this
    simp only [T.b]
    exact this
  · simp at h) h
theorem entryOk (b : Bool) (h : CtrsOk Try.prog (envQ l) cs) : CtrsOk Try.prog (envQ l) (ctrEntry b :: cs) := .cons (fun args v conds fs xs x ρ h hv hx hd => by
  simp only [ctrEntry] at h
  split at h
  · rename_i i c s
    simp only [Option.some.injEq, Prod.mk.injEq] at h
    obtain ⟨rfl, rfl, rfl⟩ := h
    have hf := flg_b (hv _ (List.mem_singleton.2 rfl))
    rw [okE_b] at hf
    simp only [denL, den, Option.map_some, Option.bind_some, Option.some.injEq] at hx hd
    subst hx; subst hd
    refine ⟨fun t ht => by simp at ht, fun w => ?_⟩
    have := entry_any (T.i (envQ l) i) (T.i (envQ l) c) (T.i (envQ l) s) w
    rw [hf] at this
    simp only [T.i]
    cases b <;> exact this
  · simp at h) h
theorem mayOk (b : Bool) (h : CtrsOk Try.prog (envQ l) cs) : CtrsOk Try.prog (envQ l) (ctrMay b :: cs) := .cons (fun args v conds fs xs x ρ h hv hx hd => by
  simp only [ctrMay] at h
  split at h
  · rename_i r a
    simp only [Option.some.injEq, Prod.mk.injEq] at h
    obtain ⟨rfl, rfl, rfl⟩ := h
    have hf := flg_b (hv _ (List.mem_singleton.2 rfl))
    rw [okM_b] at hf
    simp only [denL, den, Option.map_some, Option.bind_some, Option.some.injEq] at hx hd
    subst hx; subst hd
    refine ⟨fun t ht => by simp at ht, fun w => ?_⟩
    have := may_any (T.i (envQ l) r) (T.i (envQ l) a) w
    rw [hf] at this
    simp only [T.b]
    exact this
  · simp at h) h
theorem clockOk (b0 bM : Bool) (h : CtrsOk Try.prog (envQ l) cs) : CtrsOk Try.prog (envQ l) (ctrClock b0 bM :: cs) := .cons (fun args v conds fs xs x ρ h hv hx hd => by
  simp only [ctrClock] at h
  split at h
  · rename_i r a
    simp only [Option.some.injEq, Prod.mk.injEq] at h
    obtain ⟨rfl, rfl, rfl⟩ := h
    generalize pick2 r b0 bM = b at *
    have hf := flg_b (hv _ (List.mem_singleton.2 rfl))
    rw [okM_b] at hf
    simp only [denL, den, Option.map_some, Option.bind_some, Option.some.injEq] at hx hd
    subst hx; subst hd
    refine ⟨fun t ht => by simp at ht, fun w => ?_⟩
    have := clock_any (T.i (envQ l) r) (T.i (envQ l) a) w
    rw [hf] at this
    simp only [T.i]
    cases b <;> exact this
  · simp at h) h
theorem effC_i {c s r a : T} (h : ∀ t ∈ effC c s r a, T.b (envQ l) t = true) : 0 ≤ T.i (envQ l) c ∧ T.i (envQ l) c ≤ 7 ∧ 0 ≤ T.i (envQ l) s ∧ T.i (envQ l) s ≤ T.i (envQ l) r ∧ T.i (envQ l) r ≤ 4611686018427387904 ∧ 1 ≤ T.i (envQ l) a ∧ T.i (envQ l) a ≤ 64 := by
  simpa only [effC, List.mem_cons, List.not_mem_nil, or_false, forall_eq_or_imp, forall_eq, q_le, M62, q_int] using h
theorem effOk (h : CtrsOk Try.prog (envQ l) cs) : CtrsOk Try.prog (envQ l) (ctrEff :: cs) := .cons (fun args v conds fs xs x ρ h hv hx hd => by
  simp only [ctrEff] at h
  split at h
  · rename_i r a i c s
    simp only [Option.some.injEq, Prod.mk.injEq] at h
    obtain ⟨rfl, rfl, rfl⟩ := h
    obtain ⟨h1, h2, h3, h4, h5, h6, h7⟩ := effC_i hv
    simp only [denL, den, Option.map_some, Option.bind_some, Option.some.injEq, q_fF, q_sub] at hx hd
    subst hx; subst hd
    obtain ⟨e1, e2⟩ := effN_bnd (c := T.i (envQ l) c) (d := T.i (envQ l) r - T.i (envQ l) s) (a := T.i (envQ l) a) h1 (by omega) h6
    refine ⟨?_, fun w => eff_any _ _ _ _ _ h1 h2 h3 h4 h5 h6 h7 w⟩
    simp only [List.mem_cons, List.not_mem_nil, or_false, forall_eq_or_imp, forall_eq, q_le, q_int, q_fF, q_sub]
    exact ⟨e1, e2, by omega⟩
  · simp at h) h
theorem refOk (h : CtrsOk Try.prog (envQ l) cs) : CtrsOk Try.prog (envQ l) (ctrRef :: cs) := .cons (fun args v conds fs xs x ρ h hv hx hd => by
  simp only [ctrRef] at h
  split at h
  · rename_i i c s r a
    simp only [Option.some.injEq, Prod.mk.injEq] at h
    obtain ⟨rfl, rfl, rfl⟩ := h
    obtain ⟨h1, h2, h3, h4, h5, h6, h7⟩ := effC_i hv
    simp only [denL, den, Option.map_some, Option.bind_some, Option.some.injEq, q_fF, q_sub] at hx hd
    subst hx; subst hd
    exact ⟨fun t ht => by simp at ht, fun w => refEff_any _ _ _ _ _ h1 h2 h3 h4 h5 h6 h7 w⟩
  · simp at h) h
end
def ctrsQ (bE b0 bM : Bool) : List Ctr := ctrTrue 8 :: ctrRight bE :: ctrEntry bE :: ctrMay bM :: ctrClock b0 bM :: ctrEff :: ctrRef :: []
theorem ctrsQOk (bE b0 bM : Bool) (l : List Int) : CtrsOk Try.prog (envQ l) (ctrsQ bE b0 bM) := .true lives_any (rightOk bE (entryOk bE (mayOk bM (clockOk b0 bM (effOk (refOk .nil))))))
def inA : T := T.inR .i64 (.var 4)
def pcE : List T := [.le (.int 0) (.var 0), .le (.int 0) (.var 1), .le (.var 1) (.int 7), .le (.int 0) (.var 2), .le (.var 2) M62]
def pcA : List T := [.le (.int 1) (.var 4), .le (.var 4) (.int 64)]
def pcR : List T := [.le (.int 0) (.var 3), .le (.var 3) M62]
def pcQ (bE b0 bM : Bool) : List T := [flg bE (okE (.var 0) (.var 1) (.var 2)), flg b0 (okM (.int 0) (.var 4)), flg bM (okM (.var 3) (.var 4)), inA]
def FT1 : T := fF (.var 1) (.sub (.var 3) (.var 2)) (.var 4)
def FT2 : T := fF (.var 1) (.sub (.add (.var 3) (.int 1)) (.var 2)) (.var 4)
def bas : List T := [.le (.var 2) (.var 3), .le (.int 0) (.var 1), .le (.int 1) (.var 4)]
def gsQ : Vcs := [(.not (.beq (.eq FT1 (.int 0)) (.le (.add (.var 2) (.mul (.var 1) (.var 4))) (.var 3))) :: bas, .bool false),
  ([.not (.le (.var 2) (.add (.var 3) (.int 1))), .le (.var 2) (.var 3)], .bool false),
  (.not (.le FT2 FT1) :: bas, .bool false)]
theorem gsQ_ok (l : List Int) : VOk (envQ l) gsQ := by
  intro x hx hp
  simp only [gsQ, List.mem_cons, List.not_mem_nil, or_false] at hx
  exfalso
  rcases hx with rfl | rfl | rfl <;> simp only [bas, List.mem_cons, List.not_mem_nil, or_false, forall_eq_or_imp, forall_eq, q_le, q_int, q_add] at hp
  · obtain ⟨h1, h2, h3, h4⟩ := hp
    rw [q_not] at h1
    apply h1
    have e : T.b (envQ l) (.beq (.eq FT1 (.int 0)) (.le (.add (.var 2) (.mul (.var 1) (.var 4))) (.var 3))) = (T.b (envQ l) (.eq FT1 (.int 0)) == T.b (envQ l) (.le (.add (.var 2) (.mul (.var 1) (.var 4))) (.var 3))) := by simp only [T.b]
    rw [e, beq_iff_eq, Bool.eq_iff_iff, q_eq, q_le, FT1, q_fF, q_int, q_add, q_mul, q_sub, effN]
    have key : T.i (envQ l) (.var 1) ≤ (T.i (envQ l) (.var 3) - T.i (envQ l) (.var 2)) / T.i (envQ l) (.var 4) ↔ T.i (envQ l) (.var 1) * T.i (envQ l) (.var 4) ≤ T.i (envQ l) (.var 3) - T.i (envQ l) (.var 2) := Int.le_ediv_iff_mul_le (by omega)
    generalize T.i (envQ l) (.var 1) * T.i (envQ l) (.var 4) = m at *
    generalize (T.i (envQ l) (.var 3) - T.i (envQ l) (.var 2)) / T.i (envQ l) (.var 4) = q at *
    split <;> omega
  · obtain ⟨h1, h2⟩ := hp
    rw [q_not, q_le, q_add, q_int] at h1
    omega
  · obtain ⟨h1, h2, h3, h4⟩ := hp
    rw [q_not, q_le, FT1, FT2, q_fF, q_fF, q_sub, q_sub, q_add, q_int] at h1
    apply h1
    have := Int.ediv_le_ediv (a := T.i (envQ l) (.var 3) - T.i (envQ l) (.var 2)) (b := T.i (envQ l) (.var 3) + 1 - T.i (envQ l) (.var 2)) (c := T.i (envQ l) (.var 4)) (by omega) (by omega)
    unfold effN
    split <;> split <;> omega
def argQ : List V := [eArg, .agg [.int .i64 (.var 3), .int .i64 (.var 4)]]
theorem runQ {i c s r a : Int} (bE b0 bM : Bool) {pc : List T} (hk : covV gsQ (goals (call Try.prog (ctrsQ bE b0 bM) funs 1000 5 argQ pc)) = true) (hpc : ∀ t ∈ pc, T.b (envQ [i, c, s, r, a]) t = true) (w : World) :
    Calls Try.prog 5 #[eVal i c s, mVal r a] w fun e w' => e = .returned (.bool true) ∧ Below w.heap.size w w' :=
  calls_goals' follows funsOk (envQ [i, c, s, r, a]) (ctrsQOk bE b0 bM _) (gs := gsQ) hk (gsQ_ok _) (xs := [eVal i c s, mVal r a]) rfl hpc w
theorem law_any (i c s r a : Int) (hl : -9223372036854775808 ≤ a) (hh : a ≤ 9223372036854775807) (w : World) :
    Calls Try.prog 5 #[eVal i c s, mVal r a] w fun e w' => e = .returned (.bool true) ∧ Below w.heap.size w w' := by
  generalize hσ : envQ [i, c, s, r, a] = σ
  have v0 : T.i σ (.var 0) = i := by rw [← hσ]; rfl
  have v1 : T.i σ (.var 1) = c := by rw [← hσ]; rfl
  have v2 : T.i σ (.var 2) = s := by rw [← hσ]; rfl
  have v3 : T.i σ (.var 3) = r := by rw [← hσ]; rfl
  have v4 : T.i σ (.var 4) = a := by rw [← hσ]; rfl
  have hin : T.b σ inA = true := by
    rw [inA, T.inR, q_and, q_le, q_le, q_int, q_int, v4]
    simp only [IntKind.min, IntKind.max, IntKind.bits, IntKind.signed]
    constructor <;> simp <;> omega
  have fl : ∀ t : T, ∃ b, T.b σ (flg b t) = true := fun t => by
    cases h : T.b σ t
    · exact ⟨false, q_not.2 (by rw [h]; simp)⟩
    · exact ⟨true, h⟩
  obtain ⟨bE, fE⟩ := fl (okE (.var 0) (.var 1) (.var 2))
  obtain ⟨b0, f0⟩ := fl (okM (.int 0) (.var 4))
  obtain ⟨bM, fM⟩ := fl (okM (.var 3) (.var 4))
  have hpc : ∀ t ∈ pcQ bE b0 bM, T.b σ t = true := by
    simp only [pcQ, List.mem_cons, List.not_mem_nil, or_false, forall_eq_or_imp, forall_eq]
    exact ⟨fE, f0, fM, hin⟩
  have app : ∀ {p q : List T}, (∀ t ∈ p, T.b σ t = true) → (∀ t ∈ q, T.b σ t = true) → ∀ t ∈ p ++ q, T.b σ t = true := fun hp hq t ht => (List.mem_append.1 ht).elim (hp t) (hq t)
  -- the parts
  have hE : bE = true → ∀ t ∈ pcE, T.b σ t = true := by
    rintro rfl
    simp only [flg, okE, q_and] at fE
    simp only [pcE, List.mem_cons, List.not_mem_nil, or_false, forall_eq_or_imp, forall_eq]
    exact ⟨fE.1, fE.2.1, fE.2.2.1, fE.2.2.2.1, fE.2.2.2.2⟩
  have hA : b0 = true → ∀ t ∈ pcA, T.b σ t = true := by
    rintro rfl
    simp only [flg, okM, okA, q_and] at f0
    simp only [pcA, List.mem_cons, List.not_mem_nil, or_false, forall_eq_or_imp, forall_eq]
    exact f0.1
  have hM : bM = true → b0 = true ∧ ∀ t ∈ pcA ++ pcR, T.b σ t = true := by
    rintro rfl
    simp only [flg, okM, okA, okR, q_and] at fM
    have h0 : b0 = true := by
      cases b0
      · exfalso
        refine q_not.1 f0 ?_
        simp only [okM, okA, okR, q_and]
        exact ⟨fM.1, q_le.2 (Int.le_refl _), by rw [q_le, M62, q_int, q_int]; omega⟩
      · rfl
    refine ⟨h0, ?_⟩
    simp only [pcA, pcR, List.cons_append, List.nil_append, List.mem_cons, List.not_mem_nil, or_false, forall_eq_or_imp, forall_eq]
    exact ⟨fM.1.1, fM.1.2, fM.2.1, fM.2.2⟩
  cases hbE : bE <;> subst hbE
  · cases bM
    · cases b0
      · exact runQ false false false (pc := pcQ false false false) (by kernel_rfl) (hσ ▸ hpc) w
      · exact runQ false true false (pc := pcQ false true false) (by kernel_rfl) (hσ ▸ hpc) w
    · cases b0
      · exact absurd (hM rfl).1 (by simp)
      · exact runQ false true true (pc := pcQ false true true) (by kernel_rfl) (hσ ▸ hpc) w
  · have hE := hE rfl
    cases bM
    · cases b0
      · by_cases h1 : T.b σ (.le (.int 1) (.var 4)) = true
        · by_cases h2 : T.b σ (.le (.var 4) (.int 64)) = true
          · exfalso
            refine q_not.1 f0 ?_
            simp only [okM, okA, okR, q_and]
            exact ⟨⟨h1, h2⟩, q_le.2 (Int.le_refl _), by rw [q_le, M62, q_int, q_int]; omega⟩
          · exact runQ true false false (pc := .le (.int 1) (.var 4) :: .not (.le (.var 4) (.int 64)) :: (pcQ true false false ++ pcE)) (by kernel_rfl) (hσ ▸ by
              simp only [List.mem_cons, forall_eq_or_imp]; exact ⟨h1, q_not.2 h2, app hpc hE⟩) w
        · exact runQ true false false (pc := .not (.le (.int 1) (.var 4)) :: (pcQ true false false ++ pcE)) (by kernel_rfl) (hσ ▸ by
            simp only [List.mem_cons, forall_eq_or_imp]; exact ⟨q_not.2 h1, app hpc hE⟩) w
      · exact runQ true true false (pc := pcQ true true false ++ (pcE ++ pcA)) (by kernel_rfl) (hσ ▸ app hpc (app hE (hA rfl))) w
    · obtain ⟨h0, hAR⟩ := hM rfl
      subst h0
      have hall : ∀ t ∈ pcQ true true true ++ (pcE ++ (pcA ++ pcR)), T.b σ t = true := app hpc (app hE hAR)
      by_cases h1 : T.b σ (.le (.var 2) (.var 3)) = true
      · by_cases h2 : T.b σ (.le M62 (.var 3)) = true
        · exact runQ true true true (pc := .le (.var 2) (.var 3) :: .le M62 (.var 3) :: (pcQ true true true ++ (pcE ++ (pcA ++ pcR)))) (by kernel_rfl) (hσ ▸ by
            rw [List.forall_mem_cons, List.forall_mem_cons]; exact ⟨h1, h2, hall⟩) w
        · exact runQ true true true (pc := .le (.var 2) (.var 3) :: .not (.le M62 (.var 3)) :: (pcQ true true true ++ (pcE ++ (pcA ++ pcR)))) (by kernel_rfl) (hσ ▸ by
            rw [List.forall_mem_cons, List.forall_mem_cons]; exact ⟨h1, q_not.2 h2, hall⟩) w
      · exact runQ true true true (pc := .not (.le (.var 2) (.var 3)) :: (pcQ true true true ++ (pcE ++ (pcA ++ pcR)))) (by kernel_rfl) (hσ ▸ by
          rw [List.forall_mem_cons]; exact ⟨q_not.2 h1, hall⟩) w
end Go.Proofs.Ytggglihcipaokaa
