import Derived.Test.YtnogbjpiocckiaaA
namespace Go.Proofs.Ytnogbjpiocckiaa
open Go.RowKit
set_option linter.unusedVariables false
set_option linter.unusedSimpArgs false

def gM (tok rate tk most : Int) : Int := if most < tok + rate * tk then most else tok + rate * tk
theorem gM_hi {tok rate tk most : Int} (h : most < tok + rate * tk) : gM tok rate tk most = most := by simp [gM, h]
theorem gM_lo {tok rate tk most : Int} (h : ¬ most < tok + rate * tk) : gM tok rate tk most = tok + rate * tk := by simp [gM, h]
theorem gM_le {tok rate tk most : Int} : gM tok rate tk most ≤ most := by unfold gM; split <;> omega
theorem gM_ge {tok rate tk most : Int} (h0 : tok ≤ most) (h1 : 0 ≤ rate) (h2 : 0 ≤ tk) : tok ≤ gM tok rate tk most := by
  have := Int.mul_nonneg h1 h2
  unfold gM; split <;> omega

set_option maxHeartbeats 1000000 in
theorem grown_nat (tok rate tk most : Nat) (h1 : tok ≤ most) (h2 : most ≤ 9223372036854775807) (h3 : rate ≤ 9223372036854775807) (h4 : tk ≤ 9223372036854775807) (w : World) :
    Calls Try.prog 38 #[.int .i64 tok, .int .i64 rate, .int .i64 tk, .int .i64 most] w fun e w' => e = .returned (.int .i64 (gM tok rate tk most)) ∧ Below w.heap.size w w' := by
  have hp : (tok : Int) + rate * tk = ((tok + rate * tk : Nat) : Int) := by simp
  have HP := Lib.hid hp
  clear hp
  generalize hq : rate * tk = q at *
  have HQ := Lib.hid hq
  clear hq
  go_enter Try.func38, Try.ntmps38
  go_wp2_with (go_at_call 39; refine (mul64_any rate tk (by omega) (by omega) _).mono ?_; rintro e w' ⟨rfl, rfl⟩; rw [HQ.out])
  all_goals go_ret
  all_goals refine ⟨ret_int ?_, by repeat (first | exact Below.refl _ _ | (refine Below.setCell ?_ (by simp) _) | (refine Below.alloc ?_ (by simp) _))⟩
  · rw [gM_hi]; rw [HP.out]; omega
  · rw [gM_lo] <;> rw [HP.out] <;> omega
  · rw [gM_hi]; rw [HP.out]; omega
theorem grown_any (tok rate tk most : Int) (h0 : 0 ≤ tok) (h1 : tok ≤ most) (h2 : most ≤ 9223372036854775807) (h5 : 0 ≤ rate) (h3 : rate ≤ 9223372036854775807) (h6 : 0 ≤ tk) (h4 : tk ≤ 9223372036854775807) (w : World) :
    Calls Try.prog 38 #[.int .i64 tok, .int .i64 rate, .int .i64 tk, .int .i64 most] w fun e w' => e = .returned (.int .i64 (gM tok rate tk most)) ∧ Below w.heap.size w w' := by
  obtain ⟨a, rfl⟩ := Int.eq_ofNat_of_zero_le h0
  obtain ⟨b, rfl⟩ := Int.eq_ofNat_of_zero_le h5
  obtain ⟨c, rfl⟩ := Int.eq_ofNat_of_zero_le h6
  obtain ⟨d, rfl⟩ := Int.eq_ofNat_of_zero_le (Int.le_trans h0 h1)
  exact grown_nat a b c d (by omega) (by omega) (by omega) (by omega) w

/-- the tokens at a time -/
def okT (R B T L t : Int) : Bool := okB R B T L && inB t L 4611686018427387904
theorem okT_iff {R B T L t : Int} (h : okT R B T L t = true) : (0 ≤ R ∧ R ≤ 2147483648 ∧ 1 ≤ B ∧ B ≤ 2147483648 ∧ 0 ≤ T ∧ T ≤ B ∧ 0 ≤ L ∧ L ≤ 4611686018427387904) ∧ L ≤ t ∧ t ≤ 4611686018427387904 := by
  simp only [okT, Bool.and_eq_true] at h
  exact ⟨okB_iff h.1, by simpa [inB] using h.2⟩
abbrev two (x y : Int) : Value := .tuple #[.int .i64 x, .int .i64 y]
set_option maxHeartbeats 1000000 in
theorem at_ok (R B T L t : Int) (h : okT R B T L t = true) (w : World) :
    Calls Try.prog 37 #[bV R B T L, .int .i64 t] w fun e w' => e = .returned (two (gM T R (t - L) B) 0) ∧ Below w.heap.size w w' := by
  obtain ⟨hb, ht⟩ := okT_iff h
  have hc : okB R B T L = true := okB_true hb
  have hi : inB t L 4611686018427387904 = true := inB_true ht
  have HC := Lib.hid hc
  have HI := Lib.hid hi
  clear hc hi h
  go_enter Try.func37, Try.ntmps37
  go_wp2_with (first
    | (go_at_call 27; refine (check_any _ _ _ _ _).mono ?_; rintro e w1 ⟨rfl, hb1⟩; rw [HC.out]; simp only [erB, if_true]; obtain ⟨hc1, hf1⟩ := bcell hb1)
    | (go_at_call 36; refine (within_any _ _ _ _).mono ?_; rintro e w' ⟨rfl, rfl⟩; rw [HI.out])
    | (go_at_call 38; refine (grown_any _ _ _ _ (by omega) (by omega) (by omega) (by omega) (by omega) (by omega) (by omega) _).mono ?_; rintro e w' ⟨rfl, hb2⟩))
  all_goals go_ret2
  all_goals exact ⟨rfl, by repeat (first | exact Below.refl _ _ | assumption | (refine bset ?_ (by simp) _) | (refine balloc ?_ _) | (refine bstep ?_ (by assumption)))⟩
set_option maxHeartbeats 1000000 in
theorem at_no (R B T L t : Int) (h : okT R B T L t = false) (w : World) :
    Calls Try.prog 37 #[bV R B T L, .int .i64 t] w fun e w' => e = .returned (two 0 4) ∧ Below w.heap.size w w' := by
  cases hc : okB R B T L
  · have HC := Lib.hid hc
    clear hc h
    go_enter Try.func37, Try.ntmps37
    go_wp2_with (first
      | (go_at_call 27; refine (check_any _ _ _ _ _).mono ?_; rintro e w1 ⟨rfl, hb1⟩; rw [HC.out]; simp only [erB, Bool.false_eq_true, if_false]; obtain ⟨hc1, hf1⟩ := bcell hb1))
    all_goals go_ret2
    all_goals exact ⟨rfl, by repeat (first | exact Below.refl _ _ | assumption | (refine bset ?_ (by simp) _) | (refine balloc ?_ _) | (refine bstep ?_ (by assumption)))⟩
  · have hi : inB t L 4611686018427387904 = false := by simpa [okT, hc] using h
    have HC := Lib.hid hc
    have HI := Lib.hid hi
    clear hc hi h
    go_enter Try.func37, Try.ntmps37
    go_wp2_with (first
      | (go_at_call 27; refine (check_any _ _ _ _ _).mono ?_; rintro e w1 ⟨rfl, hb1⟩; rw [HC.out]; simp only [erB, if_true]; obtain ⟨hc1, hf1⟩ := bcell hb1)
      | (go_at_call 36; refine (within_any _ _ _ _).mono ?_; rintro e w' ⟨rfl, rfl⟩; rw [HI.out]))
    all_goals go_ret2
    all_goals exact ⟨rfl, by repeat (first | exact Below.refl _ _ | assumption | (refine bset ?_ (by simp) _) | (refine balloc ?_ _) | (refine bstep ?_ (by assumption)))⟩

/-- what is asked for is right -/
def okN (R B T L t n : Int) : Bool := okT R B T L t && decide (0 ≤ n)
set_option maxHeartbeats 1000000 in
theorem asked_ok (R B T L t n : Int) (h : okN R B T L t n = true) (w : World) :
    Calls Try.prog 33 #[bV R B T L, .int .i64 t, .int .i64 n] w fun e w' => e = .returned (two (gM T R (t - L) B) 0) ∧ Below w.heap.size w w' := by
  obtain ⟨h1, h2⟩ : okT R B T L t = true ∧ 0 ≤ n := by simpa [okN] using h
  have H1 := Lib.hid h1
  clear h1 h
  go_enter Try.func33, Try.ntmps33
  go_wp2_with (go_at_call 37; refine (at_ok _ _ _ _ _ H1.out _).mono ?_; rintro e w1 ⟨rfl, hb1⟩; obtain ⟨hc1, hf1⟩ := bcell hb1)
  all_goals go_ret2
  all_goals exact ⟨rfl, by repeat (first | exact Below.refl _ _ | assumption | (refine bset ?_ (by simp) _) | (refine balloc ?_ _) | (refine bstep ?_ (by assumption)))⟩
set_option maxHeartbeats 1000000 in
theorem asked_no (R B T L t n : Int) (h : okN R B T L t n = false) (w : World) :
    Calls Try.prog 33 #[bV R B T L, .int .i64 t, .int .i64 n] w fun e w' => e = .returned (two 0 4) ∧ Below w.heap.size w w' := by
  cases h1 : okT R B T L t
  · have H1 := Lib.hid h1
    clear h1 h
    go_enter Try.func33, Try.ntmps33
    go_wp2_with (go_at_call 37; refine (at_no _ _ _ _ _ H1.out _).mono ?_; rintro e w1 ⟨rfl, hb1⟩; obtain ⟨hc1, hf1⟩ := bcell hb1)
    all_goals go_ret2
    all_goals exact ⟨rfl, by repeat (first | exact Below.refl _ _ | assumption | (refine bset ?_ (by simp) _) | (refine balloc ?_ _) | (refine bstep ?_ (by assumption)))⟩
  · have h2 : n < 0 := by have : ¬ 0 ≤ n := by simpa [okN, h1] using h
                          omega
    have H1 := Lib.hid h1
    clear h1 h
    go_enter Try.func33, Try.ntmps33
    go_wp2_with (go_at_call 37; refine (at_ok _ _ _ _ _ H1.out _).mono ?_; rintro e w1 ⟨rfl, hb1⟩; obtain ⟨hc1, hf1⟩ := bcell hb1)
    all_goals go_ret2
    all_goals exact ⟨rfl, by repeat (first | exact Below.refl _ _ | assumption | (refine bset ?_ (by simp) _) | (refine balloc ?_ _) | (refine bstep ?_ (by assumption)))⟩
end Go.Proofs.Ytnogbjpiocckiaa
