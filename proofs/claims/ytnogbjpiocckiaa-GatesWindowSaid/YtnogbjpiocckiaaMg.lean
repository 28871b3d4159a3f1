import Derived.Test.YtnogbjpiocckiaaV
namespace Go.Proofs.Ytnogbjpiocckiaa
open Go.RowKit
set_option linter.unusedVariables false
set_option linter.unusedSimpArgs false
abbrev xV (r b t l g : Int) : Value := .agg #[.int .u8 r, .int .u8 b, .int .u8 t, .int .u16 l, .int .u8 g]
@[irreducible] def ofR (r g : Int) : Int := if g % 8 = 1 then 2147483648 - r else r % 12
@[irreducible] def ofB (b g : Int) : Int := if g % 8 = 2 ∨ g % 8 = 1 then 2147483648 - b else 1 + b % 40
@[irreducible] def ofL (l g : Int) : Int := if g % 8 = 3 then 4611686018427387904 - l else l
@[irreducible] def ofT (b t g : Int) : Int := t % (ofB b g + 1)
/-- the fields of an x -/
structure OkX (r b t l g : Int) : Prop where
  r0 : 0 ≤ r
  r1 : r ≤ 255
  b0 : 0 ≤ b
  b1 : b ≤ 255
  t0 : 0 ≤ t
  t1 : t ≤ 255
  l0 : 0 ≤ l
  l1 : l ≤ 65535
  g0 : 0 ≤ g
  g1 : g ≤ 255
theorem of_ok {r b t l g : Int} (h : OkX r b t l g) : okB (ofR r g) (ofB b g) (ofT b t g) (ofL l g) = true := by
  obtain ⟨r0, r1, b0, b1, t0, t1, l0, l1, g0, g1⟩ := h
  have hB : 1 ≤ ofB b g ∧ ofB b g ≤ 2147483648 := by unfold ofB; split <;> omega
  apply okB_true
  have hR : 0 ≤ ofR r g ∧ ofR r g ≤ 2147483648 := by unfold ofR; split <;> omega
  have hL : 0 ≤ ofL l g ∧ ofL l g ≤ 4611686018427387904 := by unfold ofL; split <;> omega
  have hT : 0 ≤ ofT b t g ∧ ofT b t g ≤ ofB b g := by
    unfold ofT
    have := Int.emod_nonneg t (b := ofB b g + 1) (by omega)
    have := Int.emod_lt_of_pos t (b := ofB b g + 1) (by omega)
    omega
  omega
set_option maxHeartbeats 2000000 in
theorem of1 (r b t l g : Int) (h : OkX r b t l g) (hc : g % 8 = 1) (w : World) :
    Calls Try.prog 31 #[xV r b t l g] w fun e w' => e = .returned (bV (ofR r g) (ofB b g) (ofT b t g) (ofL l g)) ∧ Below w.heap.size w w' := by
  obtain ⟨r0, r1, b0, b1, t0, t1, l0, l1, g0, g1⟩ := h
  have eR : ofR r g = 2147483648 - r := by unfold ofR; rw [if_pos hc]
  have eB : ofB b g = 2147483648 - b := by unfold ofB; rw [if_pos (.inr hc)]
  have eL : ofL l g = l := by unfold ofL; rw [if_neg (by omega)]
  have eT : ofT b t g = t % (2147483648 - b + 1) := by unfold ofT; rw [eB]
  rw [eR, eB, eL, eT]
  clear eR eB eL eT
  have d0 : 1 ≤ 2147483648 - b := by omega
  have d2 : 2147483648 - b ≤ 2147483648 := by omega
  have d1 : 0 ≤ t % (2147483648 - b + 1) := Int.emod_nonneg t (by omega)
  have q1 : (g % 8 == 1) = true := by simpa using hc
  have q2 : (g % 8 == 2) = false := by rw [beq_eq_false_iff_ne]; omega
  have q3 : (g % 8 == 3) = false := by rw [beq_eq_false_iff_ne]; omega
  clear hc
  go_enter Try.func31, Try.ntmps31
  go_wp2
  refine bodyPost_ret (v := bV (2147483648 - r) (2147483648 - b) (t % (2147483648 - b + 1)) (l)) ?_ rfl ⟨rfl, ?_⟩
  · simp only [results, Try.results31]
    go_simp
  · repeat (first | (with_reducible exact Below.refl _ _) | (with_reducible assumption) | (with_reducible refine bset ?_ (by first | omega | (simp; done) | (simp; omega)) _) | (with_reducible refine balloc ?_ _) | (with_reducible refine bdrew ?_) | (with_reducible refine bdrewN ?_ _) | (with_reducible refine bstep ?_ (by assumption)))
set_option maxHeartbeats 2000000 in
theorem of2 (r b t l g : Int) (h : OkX r b t l g) (hc : g % 8 = 2) (w : World) :
    Calls Try.prog 31 #[xV r b t l g] w fun e w' => e = .returned (bV (ofR r g) (ofB b g) (ofT b t g) (ofL l g)) ∧ Below w.heap.size w w' := by
  obtain ⟨r0, r1, b0, b1, t0, t1, l0, l1, g0, g1⟩ := h
  have eR : ofR r g = r % 12 := by unfold ofR; rw [if_neg (by omega)]
  have eB : ofB b g = 2147483648 - b := by unfold ofB; rw [if_pos (.inl hc)]
  have eL : ofL l g = l := by unfold ofL; rw [if_neg (by omega)]
  have eT : ofT b t g = t % (2147483648 - b + 1) := by unfold ofT; rw [eB]
  rw [eR, eB, eL, eT]
  clear eR eB eL eT
  have d0 : 1 ≤ 2147483648 - b := by omega
  have d2 : 2147483648 - b ≤ 2147483648 := by omega
  have d1 : 0 ≤ t % (2147483648 - b + 1) := Int.emod_nonneg t (by omega)
  have q1 : (g % 8 == 1) = false := by rw [beq_eq_false_iff_ne]; omega
  have q2 : (g % 8 == 2) = true := by simpa using hc
  have q3 : (g % 8 == 3) = false := by rw [beq_eq_false_iff_ne]; omega
  clear hc
  go_enter Try.func31, Try.ntmps31
  go_wp2
  refine bodyPost_ret (v := bV (r % 12) (2147483648 - b) (t % (2147483648 - b + 1)) (l)) ?_ rfl ⟨rfl, ?_⟩
  · simp only [results, Try.results31]
    go_simp
  · repeat (first | (with_reducible exact Below.refl _ _) | (with_reducible assumption) | (with_reducible refine bset ?_ (by first | omega | (simp; done) | (simp; omega)) _) | (with_reducible refine balloc ?_ _) | (with_reducible refine bdrew ?_) | (with_reducible refine bdrewN ?_ _) | (with_reducible refine bstep ?_ (by assumption)))
set_option maxHeartbeats 2000000 in
theorem of3 (r b t l g : Int) (h : OkX r b t l g) (hc : g % 8 = 3) (w : World) :
    Calls Try.prog 31 #[xV r b t l g] w fun e w' => e = .returned (bV (ofR r g) (ofB b g) (ofT b t g) (ofL l g)) ∧ Below w.heap.size w w' := by
  obtain ⟨r0, r1, b0, b1, t0, t1, l0, l1, g0, g1⟩ := h
  have eR : ofR r g = r % 12 := by unfold ofR; rw [if_neg (by omega)]
  have eB : ofB b g = 1 + b % 40 := by unfold ofB; rw [if_neg (by omega)]
  have eL : ofL l g = 4611686018427387904 - l := by unfold ofL; rw [if_pos hc]
  have eT : ofT b t g = t % (1 + b % 40 + 1) := by unfold ofT; rw [eB]
  rw [eR, eB, eL, eT]
  clear eR eB eL eT
  have d0 : 1 ≤ 1 + b % 40 := by omega
  have d2 : 1 + b % 40 ≤ 2147483648 := by omega
  have d1 : 0 ≤ t % (1 + b % 40 + 1) := Int.emod_nonneg t (by omega)
  have q1 : (g % 8 == 1) = false := by rw [beq_eq_false_iff_ne]; omega
  have q2 : (g % 8 == 2) = false := by rw [beq_eq_false_iff_ne]; omega
  have q3 : (g % 8 == 3) = true := by simpa using hc
  clear hc
  go_enter Try.func31, Try.ntmps31
  go_wp2
  refine bodyPost_ret (v := bV (r % 12) (1 + b % 40) (t % (1 + b % 40 + 1)) (4611686018427387904 - l)) ?_ rfl ⟨rfl, ?_⟩
  · simp only [results, Try.results31]
    go_simp
  · repeat (first | (with_reducible exact Below.refl _ _) | (with_reducible assumption) | (with_reducible refine bset ?_ (by first | omega | (simp; done) | (simp; omega)) _) | (with_reducible refine balloc ?_ _) | (with_reducible refine bdrew ?_) | (with_reducible refine bdrewN ?_ _) | (with_reducible refine bstep ?_ (by assumption)))
set_option maxHeartbeats 2000000 in
theorem of0 (r b t l g : Int) (h : OkX r b t l g) (hc : g % 8 ≠ 1 ∧ g % 8 ≠ 2 ∧ g % 8 ≠ 3) (w : World) :
    Calls Try.prog 31 #[xV r b t l g] w fun e w' => e = .returned (bV (ofR r g) (ofB b g) (ofT b t g) (ofL l g)) ∧ Below w.heap.size w w' := by
  obtain ⟨r0, r1, b0, b1, t0, t1, l0, l1, g0, g1⟩ := h
  have eR : ofR r g = r % 12 := by unfold ofR; rw [if_neg (by omega)]
  have eB : ofB b g = 1 + b % 40 := by unfold ofB; rw [if_neg (by omega)]
  have eL : ofL l g = l := by unfold ofL; rw [if_neg (by omega)]
  have eT : ofT b t g = t % (1 + b % 40 + 1) := by unfold ofT; rw [eB]
  rw [eR, eB, eL, eT]
  clear eR eB eL eT
  have d0 : 1 ≤ 1 + b % 40 := by omega
  have d2 : 1 + b % 40 ≤ 2147483648 := by omega
  have d1 : 0 ≤ t % (1 + b % 40 + 1) := Int.emod_nonneg t (by omega)
  have q1 : (g % 8 == 1) = false := by rw [beq_eq_false_iff_ne]; omega
  have q2 : (g % 8 == 2) = false := by rw [beq_eq_false_iff_ne]; omega
  have q3 : (g % 8 == 3) = false := by rw [beq_eq_false_iff_ne]; omega
  clear hc
  go_enter Try.func31, Try.ntmps31
  go_wp2
  refine bodyPost_ret (v := bV (r % 12) (1 + b % 40) (t % (1 + b % 40 + 1)) (l)) ?_ rfl ⟨rfl, ?_⟩
  · simp only [results, Try.results31]
    go_simp
  · repeat (first | (with_reducible exact Below.refl _ _) | (with_reducible assumption) | (with_reducible refine bset ?_ (by first | omega | (simp; done) | (simp; omega)) _) | (with_reducible refine balloc ?_ _) | (with_reducible refine bdrew ?_) | (with_reducible refine bdrewN ?_ _) | (with_reducible refine bstep ?_ (by assumption)))
theorem of_any (r b t l g : Int) (h : OkX r b t l g) (w : World) :
    Calls Try.prog 31 #[xV r b t l g] w fun e w' => e = .returned (bV (ofR r g) (ofB b g) (ofT b t g) (ofL l g)) ∧ Below w.heap.size w w' := by
  by_cases h1 : g % 8 = 1
  · exact of1 r b t l g h h1 w
  by_cases h2 : g % 8 = 2
  · exact of2 r b t l g h h2 w
  by_cases h3 : g % 8 = 3
  · exact of3 r b t l g h h3 w
  exact of0 r b t l g h ⟨h1, h2, h3⟩ w
theorem gM_add {T R a b B : Int} (hT : T ≤ B) (hR : 0 ≤ R) (ha : 0 ≤ a) (hb : 0 ≤ b) : gM (gM T R a B) R b B = gM T R (a + b) B := by
  have h1 := Int.mul_nonneg hR ha
  have h2 := Int.mul_nonneg hR hb
  have e : R * (a + b) = R * a + R * b := Int.mul_add _ _ _
  unfold gM
  rw [e]
  by_cases c : B < T + R * a
  · rw [if_pos c]
    by_cases d : B < B + R * b
    · rw [if_pos d, if_pos (by omega)]
    · rw [if_neg d]
      by_cases f : B < T + (R * a + R * b)
      · rw [if_pos f]; omega
      · omega
  · rw [if_neg c]
    by_cases f : B < T + R * a + R * b
    · rw [if_pos f, if_pos (by omega)]
    · rw [if_neg f, if_neg (by omega)]; omega
theorem wa_spec {R B n g : Int} (h0 : 0 ≤ g) (h1 : g ≤ B) (hR : 0 ≤ R) (hB : B ≤ 2147483648) (hn : 0 ≤ n) :
    (waM R B n g = 0 ∧ n ≤ g) ∨ (waM R B n g = -1 ∧ g < n ∧ (B < n ∨ R = 0)) ∨
    (1 ≤ waM R B n g ∧ waM R B n g ≤ 2147483648 ∧ n ≤ gM g R (waM R B n g) B ∧ gM g R (waM R B n g - 1) B < n) := by
  unfold waM
  by_cases c1 : n ≤ g
  · left; rw [if_pos c1]; exact ⟨rfl, c1⟩
  · rw [if_neg c1]
    by_cases c2 : B < n ∨ R = 0
    · right; left; rw [if_pos c2]; exact ⟨rfl, by omega, c2⟩
    · right; right; rw [if_neg c2]
      have hR1 : 1 ≤ R := by omega
      obtain ⟨k, hk⟩ : ∃ k, (n - g + R - 1) / R = k := ⟨_, rfl⟩
      have e1 : R * k ≤ n - g + R - 1 := by rw [← hk]; exact Int.mul_ediv_self_le (by omega)
      have e2 : n - g + R - 1 < R * k + R := by rw [← hk]; exact Int.lt_mul_ediv_self_add (by omega)
      have e3 : (n - g + R - 1) / R ≤ n - g + R - 1 := Int.ediv_le_self _ (by omega)
      rw [hk]
      have k1 : 1 ≤ k := by
        rcases Int.lt_or_le 0 k with h | h
        · omega
        · have : R * k ≤ 0 := Int.mul_nonpos_of_nonneg_of_nonpos (by omega) h
          omega
      have hm : R * (k - 1) = R * k - R := by rw [Int.mul_sub, Int.mul_one]
      have k2 : k - 1 ≤ R * (k - 1) := by
        have := Int.mul_le_mul_of_nonneg_right hR1 (show 0 ≤ k - 1 by omega)
        omega
      refine ⟨k1, by omega, ?_, ?_⟩
      · unfold gM; split <;> omega
      · unfold gM; rw [hm]; split <;> omega
end Go.Proofs.Ytnogbjpiocckiaa
