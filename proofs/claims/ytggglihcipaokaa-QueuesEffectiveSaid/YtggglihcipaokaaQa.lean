/-
  Entries of queues: their checks, and effective classes, by both texts: contracts.
-/
import Derived.Test.YtggglihcipaokaaLv
namespace Go.Proofs.Ytggglihcipaokaa
open Go.Proofs.Ytggglihcipaokaa.Vx Go.RowKit
set_option maxRecDepth 100000
set_option linter.unusedVariables false
set_option linter.unusedSimpArgs false
def effN (c d a : Int) : Int := if c ≤ d / a then 0 else c - d / a
def fiQ : Nat → List Int → Int
  | 0, [c, d, a] => effN c d a
  | _, _ => 0
def envQ (l : List Int) : Env := ⟨fun i => l.getD i 0, fun _ => false, fun _ => ByteArray.empty, fun _ => undef, fiQ, fun _ _ => false, fun _ _ => false⟩
def M62 : T := .int 4611686018427387904
def okE (i c s : T) : T := .and (.le (.int 0) i) (.and (.le (.int 0) c) (.and (.le c (.int 7)) (.and (.le (.int 0) s) (.le s M62))))
def okA (a : T) : T := .and (.le (.int 1) a) (.le a (.int 64))
def okR (r : T) : T := .and (.le (.int 0) r) (.le r M62)
def okM (r a : T) : T := .and (okA a) (okR r)
def flg (b : Bool) (t : T) : T := match b with
  | true => t
  | false => .not t
def fF (c d a : T) : T := .fni 0 (.cons c (.cons d (.cons a .nil)))
def effC (c s r a : T) : List T := [.le (.int 0) c, .le c (.int 7), .le (.int 0) s, .le s r, .le r M62, .le (.int 1) a, .le a (.int 64)]
def eArg : V := .agg [.int .i64 (.var 0), .int .i64 (.var 1), .int .i64 (.var 2)]
def eVal (i c s : Int) : Value := .agg #[.int .i64 i, .int .i64 c, .int .i64 s]
def mVal (r a : Int) : Value := .agg #[.int .i64 r, .int .i64 a]
theorem q_le {σ : Env} {a b : T} : T.b σ (.le a b) = true ↔ T.i σ a ≤ T.i σ b := by
  have e : T.b σ (.le a b) = leB (T.i σ a) (T.i σ b) := by simp only [T.b]
  rw [e, leB_t]
theorem q_eq {σ : Env} {a b : T} : T.b σ (.eq a b) = true ↔ T.i σ a = T.i σ b := by
  have e : T.b σ (.eq a b) = eqB (T.i σ a) (T.i σ b) := by simp only [T.b]
  rw [e, eqB_t]
theorem q_and {σ : Env} {a b : T} : T.b σ (.and a b) = true ↔ T.b σ a = true ∧ T.b σ b = true := by
  have e : T.b σ (.and a b) = (T.b σ a && T.b σ b) := by simp only [T.b]
  rw [e, Bool.and_eq_true]
theorem q_not {σ : Env} {a : T} : T.b σ (.not a) = true ↔ ¬ T.b σ a = true := by
  have e : T.b σ (.not a) = !(T.b σ a) := by simp only [T.b]
  rw [e]; simp
theorem q_sub {σ : Env} {a b : T} : T.i σ (.sub a b) = T.i σ a - T.i σ b := by simp only [T.i]
theorem q_add {σ : Env} {a b : T} : T.i σ (.add a b) = T.i σ a + T.i σ b := by simp only [T.i]
theorem q_mul {σ : Env} {a b : T} : T.i σ (.mul a b) = T.i σ a * T.i σ b := by simp only [T.i]
theorem q_int {σ : Env} {n : Int} : T.i σ (.int n) = n := by simp only [T.i]
theorem q_fF (l : List Int) (c d a : T) : T.i (envQ l) (fF c d a) = effN (T.i (envQ l) c) (T.i (envQ l) d) (T.i (envQ l) a) := by
  simp only [fF, T.i, T.l]; rfl
theorem effN_bnd {c d a : Int} (hc : 0 ≤ c) (hd : 0 ≤ d) (ha : 1 ≤ a) : 0 ≤ effN c d a ∧ effN c d a ≤ c := by
  have := Int.ediv_nonneg hd (show 0 ≤ a by omega)
  unfold effN
  split <;> omega
/-! the code's own -/
def qT : T := .quo (.sub (.var 3) (.var 2)) (.var 4)
def gsE : Vcs := [(effC (.var 1) (.var 2) (.var 3) (.var 4), .eq (.ite (.not (.le (.var 1) qT)) (.sub (.var 1) qT) (.int 0)) (fF (.var 1) (.sub (.var 3) (.var 2)) (.var 4))),
  (effC (.var 1) (.var 2) (.var 3) (.var 4), .and (.le (.int (-9223372036854775808)) qT) (.le qT (.int 9223372036854775807))),
  (effC (.var 1) (.var 2) (.var 3) (.var 4), .and (.le (.int (-9223372036854775808)) (.sub (.var 1) qT)) (.le (.sub (.var 1) qT) (.int 9223372036854775807)))]
theorem gsE_ok (l : List Int) : VOk (envQ l) gsE := by
  have hq : T.i (envQ l) qT = (T.i (envQ l) (.var 3) - T.i (envQ l) (.var 2)).tdiv (T.i (envQ l) (.var 4)) := by simp only [qT, T.i]
  have key : (∀ t ∈ effC (.var 1) (.var 2) (.var 3) (.var 4), T.b (envQ l) t = true) → 0 ≤ T.i (envQ l) (.var 1) ∧ T.i (envQ l) (.var 1) ≤ 7 ∧ T.i (envQ l) qT = (T.i (envQ l) (.var 3) - T.i (envQ l) (.var 2)) / T.i (envQ l) (.var 4) ∧ 0 ≤ T.i (envQ l) qT ∧ T.i (envQ l) qT ≤ 4611686018427387904 := by
    intro hp
    simp only [effC, List.mem_cons, List.not_mem_nil, or_false, forall_eq_or_imp, forall_eq, q_le, M62, q_int] at hp
    obtain ⟨h1, h2, h3, h4, h5, h6, h7⟩ := hp
    have e := Int.tdiv_eq_ediv_of_nonneg (a := T.i (envQ l) (.var 3) - T.i (envQ l) (.var 2)) (b := T.i (envQ l) (.var 4)) (by omega)
    have e1 := Int.ediv_nonneg (a := T.i (envQ l) (.var 3) - T.i (envQ l) (.var 2)) (b := T.i (envQ l) (.var 4)) (by omega) (by omega)
    have e2 := Int.ediv_le_self (a := T.i (envQ l) (.var 3) - T.i (envQ l) (.var 2)) (T.i (envQ l) (.var 4)) (by omega)
    rw [hq, e]
    exact ⟨h1, h2, rfl, e1, by omega⟩
  intro x hx hp
  simp only [gsE, List.mem_cons, List.not_mem_nil, or_false] at hx
  rcases hx with rfl | rfl | rfl <;> obtain ⟨k1, k2, k3, k4, k5⟩ := key hp
  · have e : T.i (envQ l) (.ite (.not (.le (.var 1) qT)) (.sub (.var 1) qT) (.int 0)) = if T.b (envQ l) (.not (.le (.var 1) qT)) = true then T.i (envQ l) (.sub (.var 1) qT) else T.i (envQ l) (.int 0) := by simp only [T.i]
    rw [q_eq, e, q_fF, q_sub, q_sub, q_int]
    unfold effN
    rw [← k3]
    by_cases h : T.i (envQ l) (.var 1) ≤ T.i (envQ l) qT
    · rw [if_neg (by rw [q_not, q_le]; exact fun hh => hh h), if_pos h]
    · rw [if_pos (by rw [q_not, q_le]; exact h), if_neg h]
  · rw [q_and, q_le, q_le, q_int, q_int]; omega
  · rw [q_and, q_le, q_le, q_int, q_int, q_sub]; omega
theorem eff_any (i c s r a : Int) (h1 : 0 ≤ c) (h2 : c ≤ 7) (h3 : 0 ≤ s) (h4 : s ≤ r) (h5 : r ≤ 4611686018427387904) (h6 : 1 ≤ a) (h7 : a ≤ 64) (w : World) :
    Calls Try.prog 49 #[mVal r a, eVal i c s] w fun e w' => e = .returned (.int .i64 (effN c (r - s) a)) ∧ Below w.heap.size w w' :=
  calls_value' follows funsOk (envQ [i, c, s, r, a]) .nil (n := 1000) (f := 49) (args := [.agg [.int .i64 (.var 3), .int .i64 (.var 4)], eArg]) (pc := effC (.var 1) (.var 2) (.var 3) (.var 4)) (r := .int .i64 (fF (.var 1) (.sub (.var 3) (.var 2)) (.var 4))) (gs := gsE)
    (by kernel_rfl) (gsE_ok _) (xs := [mVal r a, eVal i c s]) rfl (fun t ht => by
      revert t
      simp only [effC, List.mem_cons, List.not_mem_nil, or_false, forall_eq_or_imp, forall_eq, q_le, M62, q_int]
      exact ⟨h1, h2, h3, h4, h5, h6, h7⟩) rfl (z := .int .i64 (effN c (r - s) a)) rfl w
/-! the definition's: class by class -/
def subN (d a : T) : Nat → T
  | 0 => d
  | n + 1 => .sub (subN d a n) a
def dT : T := .sub (.var 3) (.var 2)
def gsR (c : Nat) : Vcs := (List.range (c + 1)).map fun j => ((if j < c then [.not (.le (.var 4) (subN dT (.var 4) j))] else []) ++ (List.range j).map (fun i => .le (.var 4) (subN dT (.var 4) i)) ++ [.le (.var 2) (.var 3), .le (.int 1) (.var 4)], .eq (.int ((c - j : Nat) : Int)) (fF (.int c) dT (.var 4)))
theorem subN_i (l : List Int) (d a : T) : ∀ n : Nat, T.i (envQ l) (subN d a n) = T.i (envQ l) d - n * T.i (envQ l) a
  | 0 => by simp [subN]
  | n + 1 => by
    rw [subN, q_sub, subN_i l d a n]
    push_cast
    rw [Int.add_mul]
    omega
theorem gsR_ok (l : List Int) (c : Nat) : VOk (envQ l) (gsR c) := by
  intro x hx hp
  simp only [gsR, List.mem_map, List.mem_range] at hx
  obtain ⟨j, hj, rfl⟩ := hx
  simp only at hp ⊢
  have hd : T.i (envQ l) (.var 2) ≤ T.i (envQ l) (.var 3) := q_le.1 (hp _ (by simp))
  have ha : 1 ≤ T.i (envQ l) (.var 4) := by have := q_le.1 (hp (.le (.int 1) (.var 4)) (by simp)); rwa [q_int] at this
  have hdT : T.i (envQ l) dT = T.i (envQ l) (.var 3) - T.i (envQ l) (.var 2) := q_sub
  generalize hD : T.i (envQ l) dT = D at *
  generalize hA : T.i (envQ l) (.var 4) = A at *
  have low : (j : Int) ≤ D / A := by
    rw [Int.le_ediv_iff_mul_le (by omega)]
    cases j with
    | zero => simp; omega
    | succ i =>
      have := q_le.1 (hp (.le (.var 4) (subN dT (.var 4) i)) (by
        refine List.mem_append_left _ (List.mem_append_right _ (List.mem_map.2 ⟨i, by simp, rfl⟩))))
      rw [subN_i, hD, hA] at this
      push_cast
      rw [Int.add_mul]
      omega
  rw [q_eq, q_int, q_fF, q_int, hD, hA, effN]
  by_cases hjc : j < c
  · have := q_not.1 (hp (.not (.le (.var 4) (subN dT (.var 4) j))) (by
      rw [if_pos hjc]; simp))
    rw [q_le, subN_i, hD, hA] at this
    have up : D / A < (j : Int) + 1 := by
      rw [Int.ediv_lt_iff_lt_mul (by omega), Int.add_mul]
      omega
    rw [if_neg (by omega)]
    omega
  · have : j = c := by omega
    subst this
    rw [if_pos low]
    simp
def gsS (c : Nat) : Vcs := (List.range c).map fun j => ((List.range (j + 1)).map (fun i => .le (.var 4) (subN dT (.var 4) i)) ++ [.le (.int 0) (.var 2), .le (.var 2) (.var 3), .le (.var 3) M62, .le (.int 1) (.var 4)], T.inR .i64 (subN dT (.var 4) (j + 1)))
theorem gsS_ok (l : List Int) (c : Nat) : VOk (envQ l) (gsS c) := by
  intro x hx hp
  simp only [gsS, List.mem_map, List.mem_range] at hx
  obtain ⟨j, hj, rfl⟩ := hx
  simp only at hp ⊢
  have h0 := q_le.1 (hp (.le (.int 0) (.var 2)) (by simp))
  have h1 := q_le.1 (hp (.le (.var 2) (.var 3)) (by simp))
  have h2 := q_le.1 (hp (.le (.var 3) M62) (by simp))
  have h3 := q_le.1 (hp (.le (.int 1) (.var 4)) (by simp))
  have h4 := q_le.1 (hp (.le (.var 4) (subN dT (.var 4) j)) (List.mem_append_left _ (List.mem_map.2 ⟨j, by simp, rfl⟩)))
  have hdT : T.i (envQ l) dT = T.i (envQ l) (.var 3) - T.i (envQ l) (.var 2) := q_sub
  rw [subN_i, hdT] at h4
  rw [q_int] at h0 h3
  simp only [M62, q_int] at h2
  have hja : 0 ≤ (j : Int) * T.i (envQ l) (.var 4) := Int.mul_nonneg (by omega) (by omega)
  rw [T.inR, q_and, q_le, q_le, q_int, q_int, subN, q_sub, subN_i, hdT]
  simp only [IntKind.min, IntKind.max, IntKind.bits, IntKind.signed]
  constructor <;> simp <;> omega
theorem refEff_at (i s r a : Int) (h3 : 0 ≤ s) (h4 : s ≤ r) (h5 : r ≤ 4611686018427387904) (h6 : 1 ≤ a) (h7 : a ≤ 64) (c : Nat)
    (hk : covV (gsR c ++ gsS c) (goalsR (.int .i64 (fF (.int c) dT (.var 4))) (call Try.prog [] funs 1000 28 [.agg [.int .i64 (.var 0), .int .i64 (.int c), .int .i64 (.var 2)], .int .i64 (.var 3), .int .i64 (.var 4)] [.le (.int 0) (.var 2), .le (.var 2) (.var 3), .le (.var 3) M62, .le (.int 1) (.var 4), .le (.var 4) (.int 64)])) = true) (w : World) :
    Calls Try.prog 28 #[eVal i c s, .int .i64 r, .int .i64 a] w fun e w' => e = .returned (.int .i64 (effN c (r - s) a)) ∧ Below w.heap.size w w' :=
  calls_value' follows funsOk (envQ [i, c, s, r, a]) .nil (n := 1000) (f := 28) (r := .int .i64 (fF (.int c) dT (.var 4))) (gs := gsR c ++ gsS c)
    hk (fun x hx => (List.mem_append.1 hx).elim (gsR_ok _ _ x) (gsS_ok _ _ x)) (xs := [eVal i c s, .int .i64 r, .int .i64 a]) rfl (fun t ht => by
      revert t
      simp only [List.mem_cons, List.not_mem_nil, or_false, forall_eq_or_imp, forall_eq, q_le, M62, q_int]
      exact ⟨h3, h4, h5, h6, h7⟩) rfl (z := .int .i64 (effN c (r - s) a)) rfl w
theorem refEff_any (i c s r a : Int) (h1 : 0 ≤ c) (h2 : c ≤ 7) (h3 : 0 ≤ s) (h4 : s ≤ r) (h5 : r ≤ 4611686018427387904) (h6 : 1 ≤ a) (h7 : a ≤ 64) (w : World) :
    Calls Try.prog 28 #[eVal i c s, .int .i64 r, .int .i64 a] w fun e w' => e = .returned (.int .i64 (effN c (r - s) a)) ∧ Below w.heap.size w w' := by
  obtain ⟨n, rfl⟩ := Int.eq_ofNat_of_zero_le h1
  have : n = 0 ∨ n = 1 ∨ n = 2 ∨ n = 3 ∨ n = 4 ∨ n = 5 ∨ n = 6 ∨ n = 7 := by omega
  rcases this with rfl | rfl | rfl | rfl | rfl | rfl | rfl | rfl <;> exact refEff_at i s r a h3 h4 h5 h6 h7 _ (by kernel_rfl) w
/-! the checks -/
def okEN (i c s : Int) : Bool := T.b (envQ [i, c, s]) (okE (.var 0) (.var 1) (.var 2))
def okMN (r a : Int) : Bool := T.b (envQ [r, a]) (okM (.var 0) (.var 1))
theorem right_any (i c s : Int) (w : World) : Calls Try.prog 39 #[eVal i c s] w fun e w' => e = .returned (.bool (okEN i c s)) ∧ Below w.heap.size w w' :=
  calls_value' follows funsOk (envQ [i, c, s]) .nil (n := 1000) (f := 39) (args := [eArg]) (pc := []) (r := .bool (okE (.var 0) (.var 1) (.var 2))) (gs := [])
    (by kernel_rfl) nilOk (xs := [eVal i c s]) rfl (fun t ht => by simp at ht) rfl (z := .bool (okEN i c s)) rfl w
theorem may_any (r a : Int) (w : World) : Calls Try.prog 40 #[mVal r a] w fun e w' => e = .returned (.bool (okMN r a)) ∧ Below w.heap.size w w' :=
  calls_value' follows funsOk (envQ [r, a]) .nil (n := 1000) (f := 40) (args := [.agg [.int .i64 (.var 0), .int .i64 (.var 1)]]) (pc := []) (r := .bool (okM (.var 0) (.var 1))) (gs := [])
    (by kernel_rfl) nilOk (xs := [mVal r a]) rfl (fun t ht => by simp at ht) rfl (z := .bool (okMN r a)) rfl w
theorem entry_any (i c s : Int) (w : World) : Calls Try.prog 26 #[eVal i c s] w fun e w' => e = .returned (.int .i64 (if okEN i c s = true then 1 else 0)) ∧ Below w.heap.size w w' :=
  calls_value' follows funsOk (envQ [i, c, s]) .nil (n := 1000) (f := 26) (args := [eArg]) (pc := []) (r := .int .i64 (.ite (okE (.var 0) (.var 1) (.var 2)) (.int 1) (.int 0))) (gs := [])
    (by kernel_rfl) nilOk (xs := [eVal i c s]) rfl (fun t ht => by simp at ht) rfl (z := .int .i64 (if okEN i c s = true then 1 else 0)) rfl w
theorem clock_any (r a : Int) (w : World) : Calls Try.prog 27 #[.int .i64 r, .int .i64 a] w fun e w' => e = .returned (.int .i64 (if okMN r a = true then 1 else 0)) ∧ Below w.heap.size w w' :=
  calls_value' follows funsOk (envQ [r, a]) .nil (n := 1000) (f := 27) (args := [.int .i64 (.var 0), .int .i64 (.var 1)]) (pc := []) (r := .int .i64 (.ite (okM (.var 0) (.var 1)) (.int 1) (.int 0))) (gs := [])
    (by kernel_rfl) nilOk (xs := [.int .i64 r, .int .i64 a]) rfl (fun t ht => by simp at ht) rfl (z := .int .i64 (if okMN r a = true then 1 else 0)) rfl w
end Go.Proofs.Ytggglihcipaokaa
