import Derived.Test.YtnogbjpiocckiaaRows
import Derived.Test.YtnogbjpiocckiaaZ
import Derived.Lib.Mul64
import Derived.Laws.Bits64b
namespace Go.Proofs.Ytnogbjpiocckiaa
open Go.RowKit
set_option linter.unusedVariables false
set_option linter.unusedSimpArgs false

def inB (n a b : Int) : Bool := decide (a ≤ n) && decide (n ≤ b)
theorem inB_true {n a b : Int} (h : a ≤ n ∧ n ≤ b) : inB n a b = true := by simp [inB, h.1, h.2]
theorem inB_false {n a b : Int} (h : ¬ (a ≤ n ∧ n ≤ b)) : inB n a b = false := by
  cases e : inB n a b
  · rfl
  · exact absurd (by simpa [inB] using e) h

set_option maxHeartbeats 400000 in
theorem within_any (n a b : Int) (w : World) :
    Calls Try.prog 36 #[.int .i64 n, .int .i64 a, .int .i64 b] w fun e w' => e = .returned (.bool (inB n a b)) ∧ w = w' := by
  go_enter Try.func36, Try.ntmps36
  go_wp2
  · go_ret
    have h : a ≤ n := by assumption
    exact ⟨ret_bool (by simp [inB, h]), rfl⟩
  · go_ret
    have h : n < a := by assumption
    exact ⟨ret_bool (inB_false (by omega)).symm, rfl⟩

abbrev bV (R B T L : Int) : Value := .agg #[.int .i64 R, .int .i64 B, .int .i64 T, .int .i64 L]
def okB (R B T L : Int) : Bool := inB R 0 2147483648 && inB B 1 2147483648 && inB T 0 B && inB L 0 4611686018427387904
theorem okB_true {R B T L : Int} (h : 0 ≤ R ∧ R ≤ 2147483648 ∧ 1 ≤ B ∧ B ≤ 2147483648 ∧ 0 ≤ T ∧ T ≤ B ∧ 0 ≤ L ∧ L ≤ 4611686018427387904) : okB R B T L = true := by
  simp [okB, inB]; omega
theorem okB_false {R B T L : Int} (h : ¬ (0 ≤ R ∧ R ≤ 2147483648 ∧ 1 ≤ B ∧ B ≤ 2147483648 ∧ 0 ≤ T ∧ T ≤ B ∧ 0 ≤ L ∧ L ≤ 4611686018427387904)) : okB R B T L = false := by
  cases e : okB R B T L
  · rfl
  · exact absurd (by simp [okB, inB] at e; omega) h
theorem okB_iff {R B T L : Int} (h : okB R B T L = true) : 0 ≤ R ∧ R ≤ 2147483648 ∧ 1 ≤ B ∧ B ≤ 2147483648 ∧ 0 ≤ T ∧ T ≤ B ∧ 0 ≤ L ∧ L ≤ 4611686018427387904 := by
  simp [okB, inB] at h; omega
theorem okB_niff {R B T L : Int} (h : okB R B T L = false) : ¬ (0 ≤ R ∧ R ≤ 2147483648 ∧ 1 ≤ B ∧ B ≤ 2147483648 ∧ 0 ≤ T ∧ T ≤ B ∧ 0 ≤ L ∧ L ≤ 4611686018427387904) := by
  intro g; rw [okB_true g] at h; cases h
def erB (b : Bool) : Int := if b then 0 else 4
set_option maxHeartbeats 1000000 in
theorem check_any (R B T L : Int) (w : World) :
    Calls Try.prog 27 #[bV R B T L] w fun e w' => e = .returned (.int .i64 (erB (okB R B T L))) ∧ Below w.heap.size w w' := by
  go_enter Try.func27, Try.ntmps27
  go_wp2
  all_goals go_ret
  all_goals refine ⟨ret_int ?_, (Below.refl _ _).alloc (Nat.le_refl _) _⟩
  all_goals (try simp only [Bool.not_eq_false', Bool.not_eq_true', decide_eq_true_eq, decide_eq_false_iff_not] at *)
  all_goals first
    | (rw [okB_true (by omega)]; rfl)
    | (rw [okB_false (by omega)]; rfl)
set_option maxHeartbeats 1000000 in
theorem refCheck_any (R B T L : Int) (w : World) :
    Calls Try.prog 28 #[bV R B T L] w fun e w' => e = .returned (.int .i64 (erB (okB R B T L))) ∧ Below w.heap.size w w' := by
  go_enter Try.func28, Try.ntmps28
  go_wp2
  all_goals go_ret
  all_goals refine ⟨ret_int ?_, (Below.refl _ _).alloc (Nat.le_refl _) _⟩
  all_goals (try simp only [Bool.not_eq_false', Bool.not_eq_true', decide_eq_true_eq, decide_eq_false_iff_not] at *)
  all_goals first
    | (rw [okB_true (by omega)]; rfl)
    | (rw [okB_false (by omega)]; rfl)

theorem mmaskN (a : Nat) (ha : a < 18446744073709551616) : bits .and .u64 (a : Int) 4294967295 = ((a % 4294967296 : Nat) : Int) := by
  have h := bits_and_u64_nat a 4294967295 ha (by omega)
  have e : a &&& 4294967295 = a % 4294967296 := Nat.and_two_pow_sub_one_eq_mod a 32
  rw [e] at h
  exact h
theorem mdivN (a : Nat) : (a : Int) / 4294967296 = ((a / 4294967296 : Nat) : Int) := by omega
theorem mmulN (a b : Nat) : (a : Int) * (b : Int) = ((a * b : Nat) : Int) := (Int.natCast_mul a b).symm
theorem maddN (a b : Nat) : (a : Int) + (b : Int) = ((a + b : Nat) : Int) := (Int.natCast_add a b).symm
theorem mwrapN (a : Nat) (ha : a < 18446744073709551616) : IntKind.u64.wrap (a : Int) = (a : Int) := by rw [IntKind.wrap_u64]; omega
theorem mwrapM (a : Nat) : IntKind.u64.wrap (a : Int) = ((a % 18446744073709551616 : Nat) : Int) := by rw [IntKind.wrap_u64]; omega
set_option maxHeartbeats 1000000 in
theorem mul64_any (x y : Nat) (hx : x < 18446744073709551616) (hy : y < 18446744073709551616) (w : World) :
    Calls Try.prog 39 #[.int .u64 x, .int .u64 y] w fun e w' => e = .returned (.tuple #[.int .u64 ((x * y / 18446744073709551616 : Nat) : Int), .int .u64 ((x * y % 18446744073709551616 : Nat) : Int)]) ∧ w = w' := by
  obtain ⟨bd, bt, bw, hhi⟩ := Lib.mul64_hi x y hx hy
  have ba := Lib.half_mul_le (a := x / 4294967296) (b := y / 4294967296) (by omega) (by omega)
  have bb := Lib.half_mul_le (a := x / 4294967296) (b := y % 4294967296) (by omega) (by omega)
  have bc := Lib.half_mul_le (a := x % 4294967296) (b := y / 4294967296) (by omega) (by omega)
  have ba' : x / 4294967296 * (y / 4294967296) < 18446744073709551616 := by omega
  have bb' : x / 4294967296 * (y % 4294967296) < 18446744073709551616 := by omega
  have bc' : x % 4294967296 * (y / 4294967296) < 18446744073709551616 := by omega
  have bh1 : x / 4294967296 * (y / 4294967296) + (x / 4294967296 * (y % 4294967296) + x % 4294967296 * (y % 4294967296) / 4294967296) / 4294967296 < 18446744073709551616 := by omega
  have bh : x / 4294967296 * (y / 4294967296) + (x / 4294967296 * (y % 4294967296) + x % 4294967296 * (y % 4294967296) / 4294967296) / 4294967296 + ((x / 4294967296 * (y % 4294967296) + x % 4294967296 * (y % 4294967296) / 4294967296) % 4294967296 + x % 4294967296 * (y / 4294967296)) / 4294967296 < 18446744073709551616 := by omega
  go_enter Try.func39, Try.ntmps39
  go_wp2
  simp only [mmaskN x hx, mmaskN y hy, mdivN, mmulN, maddN, mwrapN _ bd, mwrapN _ bb', mwrapN _ bt, mmaskN _ bt, mwrapN _ bc', mwrapN _ bw, mwrapN _ ba', mwrapN _ bh1, mwrapN _ bh, mwrapM (x * y)]
  rw [hhi]
  go_ret2
  exact ⟨rfl, rfl⟩
end Go.Proofs.Ytnogbjpiocckiaa
