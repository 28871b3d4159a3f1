import Derived.Test.YtnogbjpiocckiaaB
namespace Go.Proofs.Ytnogbjpiocckiaa
open Go.RowKit
set_option linter.unusedVariables false
set_option linter.unusedSimpArgs false
abbrev newV (R B T L : Int) (e : Int) : Value := .tuple #[bV R B T L, .int .i64 e]
set_option maxHeartbeats 1000000 in
theorem new_ok (R B t : Int) (h : okB R B B t = true) (w : World) :
    Calls Try.prog 30 #[.int .i64 R, .int .i64 B, .int .i64 t] w fun e w' => e = .returned (newV R B B t 0) ∧ Below w.heap.size w w' := by
  have H := Lib.hid h
  clear h
  go_enter Try.func30, Try.ntmps30
  go_wp2_with (go_at_call 27; refine (check_any _ _ _ _ _).mono ?_; rintro e w1 ⟨rfl, hb1⟩; rw [H.out]; simp only [erB, if_true]; have hz1 := hb1.size; simp at hz1; obtain ⟨hc1, hf1⟩ := bcell hb1; have hk0 := fun o => hc1 w.heap.size o (by first | omega | (simp; done) | (simp; omega)))
  refine bodyPost_ret (v := newV R B B t 0) ?_ rfl ⟨rfl, ?_⟩
  · simp only [results, Try.results30]
    go_simp
  · repeat (first | (with_reducible exact Below.refl _ _) | (with_reducible assumption) | (with_reducible refine bset ?_ (by first | omega | (simp; done) | (simp; omega)) _) | (with_reducible refine balloc ?_ _) | (with_reducible refine bdrew ?_) | (with_reducible refine bdrewN ?_ _) | (with_reducible refine bstep ?_ (by assumption)))
set_option maxHeartbeats 1000000 in
theorem new_no (R B t : Int) (h : okB R B B t = false) (w : World) :
    Calls Try.prog 30 #[.int .i64 R, .int .i64 B, .int .i64 t] w fun e w' => e = .returned (newV 0 0 0 0 4) ∧ Below w.heap.size w w' := by
  have H := Lib.hid h
  clear h
  go_enter Try.func30, Try.ntmps30
  go_wp2_with (go_at_call 27; refine (check_any _ _ _ _ _).mono ?_; rintro e w1 ⟨rfl, hb1⟩; rw [H.out]; simp only [erB, Bool.false_eq_true, if_false]; have hz1 := hb1.size; simp at hz1; obtain ⟨hc1, hf1⟩ := bcell hb1; have hk0 := fun o => hc1 w.heap.size o (by first | omega | (simp; done) | (simp; omega)))
  refine bodyPost_ret (v := newV 0 0 0 0 4) ?_ rfl ⟨rfl, ?_⟩
  · simp only [results, Try.results30]
    go_simp
  · repeat (first | (with_reducible exact Below.refl _ _) | (with_reducible assumption) | (with_reducible refine bset ?_ (by first | omega | (simp; done) | (simp; omega)) _) | (with_reducible refine balloc ?_ _) | (with_reducible refine bdrew ?_) | (with_reducible refine bdrewN ?_ _) | (with_reducible refine bstep ?_ (by assumption)))
/-- 2^63 - 1 -/
def big : Int := 9223372036854775807
set_option maxHeartbeats 1000000 in
theorem refGrown_any (tok most rate tk : Int) (h0 : 0 ≤ tok) (h1 : tok ≤ most) (h2 : most ≤ 9223372036854775807) (h5 : 0 ≤ rate) (h3 : rate ≤ 2147483648) (h6 : 0 ≤ tk) (h4 : tk ≤ 4611686018427387904) (w : World) :
    Calls Try.prog 32 #[.int .i64 tok, .int .i64 most, .int .i64 rate, .int .i64 tk] w fun e w' => e = .returned (.int .i64 (gM tok rate tk most)) ∧ w = w' := by
  by_cases c : rate = 0
  · subst c
    go_enter Try.func32, Try.ntmps32
    go_wp2
    go_ret
    exact ⟨ret_int (by rw [gM_lo] <;> simp; omega), rfl⟩
  · have c1 : 1 ≤ rate := by omega
    have cb : (rate == 0) = false := by simpa using c
    have q1 : 0 ≤ (most - tok) / rate := Int.ediv_nonneg (by omega) (by omega)
    have q2 : (most - tok) / rate ≤ most - tok := Int.ediv_le_self _ (by omega)
    have q3 : rate * ((most - tok) / rate) ≤ most - tok := Int.mul_ediv_self_le (by omega)
    have q4 : most - tok < rate * ((most - tok) / rate) + rate := Int.lt_mul_ediv_self_add (by omega)
    by_cases d : (most - tok) / rate < tk
    · have q5 : rate * ((most - tok) / rate + 1) ≤ rate * tk := Int.mul_le_mul_of_nonneg_left (by omega) (by omega)
      rw [Int.mul_add] at q5
      have hf : gM tok rate tk most = most := by
        by_cases k : most < tok + rate * tk
        · exact gM_hi k
        · rw [gM_lo k]; omega
      have HF := Lib.hid hf
      clear hf q5 q3 q4
      go_enter Try.func32, Try.ntmps32
      go_wp2
      go_ret
      exact ⟨ret_int HF.out.symm, rfl⟩
    · have q5 : rate * tk ≤ rate * ((most - tok) / rate) := Int.mul_le_mul_of_nonneg_left (by omega) (by omega)
      have q6 : 0 ≤ rate * tk := Int.mul_nonneg (by omega) (by omega)
      have hf : gM tok rate tk most = tok + rate * tk := gM_lo (by omega)
      have HF := Lib.hid hf
      have q7 : rate * tk ≤ most - tok := by omega
      clear hf q5 q3 q4
      go_enter Try.func32, Try.ntmps32
      go_wp2
      go_ret
      exact ⟨ret_int HF.out.symm, rfl⟩
end Go.Proofs.Ytnogbjpiocckiaa
