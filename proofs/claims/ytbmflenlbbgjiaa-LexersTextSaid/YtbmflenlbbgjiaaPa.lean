/-
  LexersPlace: places in a text, in numbers.
-/
import Derived.Test.YtbmflenlbbgjiaaY
import Derived.Lib.LastIndexByte
import Derived.Lib.Bytealg
import Derived.Lib.Strings
import Derived.Lib.Walk
import Derived.Lib.Hide
import Derived.BigCall
import Derived.BigGuard
import Derived.Laws.Externs
namespace Go.Proofs.Ytbmflenlbbgjiaa
open Go.RowKit
set_option linter.unusedVariables false
set_option linter.unusedSimpArgs false
theorem byteBang (s : ByteArray) (j : Nat) (hj : j < s.size) : s.data[j]! = s[j] := by
  rw [getElem!_pos s.data j (by simpa using hj)]; rfl
/-- the line of an offset, and the last line break ahead of it -/
def lineN (s : ByteArray) (k : Nat) : Int := 1 + Lib.countByte (s.data.toList.take k) 10
def brkN (s : ByteArray) (k : Nat) : Int := Lib.lastIdx s 10 k
theorem take_succ' (s : ByteArray) (k : Nat) (h : k < s.size) : s.data.toList.take (k + 1) = s.data.toList.take k ++ [s[k]] := by
  rw [List.take_succ_eq_append_getElem (by simpa using h)]; rfl
theorem u8_eq (c : UInt8) : (c == 10) = decide (((c.toNat : Nat) : Int) = 10) := by
  rw [Bool.eq_iff_iff]
  simp only [beq_iff_eq, decide_eq_true_eq]
  constructor
  · rintro rfl; rfl
  · intro h
    have : c.toNat = 10 := by omega
    exact UInt8.toNat_inj.1 this
theorem line_hit (s : ByteArray) (k : Nat) (h : k < s.size) (hc : ((s[k].toNat : Nat) : Int) = 10) : lineN s (k + 1) = lineN s k + 1 ∧ brkN s (k + 1) = k := by
  refine ⟨?_, Lib.lastIdx_hit s 10 k (by rw [byteBang s k h]; exact hc)⟩
  unfold lineN Lib.countByte
  rw [take_succ' s k h, List.count_append, List.count_singleton, u8_eq, decide_eq_true hc]
  simp; omega
theorem line_miss (s : ByteArray) (k : Nat) (h : k < s.size) (hc : ¬ ((s[k].toNat : Nat) : Int) = 10) : lineN s (k + 1) = lineN s k ∧ brkN s (k + 1) = brkN s k := by
  refine ⟨?_, Lib.lastIdx_miss s 10 k (by rw [byteBang s k h]; exact hc)⟩
  unfold lineN Lib.countByte
  rw [take_succ' s k h, List.count_append, List.count_singleton, u8_eq, decide_eq_false hc]
  simp
theorem line_lo (s : ByteArray) (k : Nat) : 1 ≤ lineN s k ∧ lineN s k ≤ k + 1 := by
  unfold lineN Lib.countByte
  have h1 := List.count_le_length (a := (10 : UInt8)) (l := s.data.toList.take k)
  have h2 : (s.data.toList.take k).length ≤ k := List.length_take_le _ _
  omega
theorem brk_lo (s : ByteArray) : ∀ k : Nat, -1 ≤ brkN s k ∧ brkN s k < k
  | 0 => by unfold brkN Lib.lastIdx; omega
  | k + 1 => by
    have := brk_lo s k
    unfold brkN at this ⊢
    unfold Lib.lastIdx
    split <;> omega
theorem last_ext (s : ByteArray) (n : Nat) (hn : n ≤ s.size) : ∀ k, k ≤ n → Lib.lastIdx (s.extract 0 n) 10 k = Lib.lastIdx s 10 k
  | 0, _ => rfl
  | k + 1, hk => by
    unfold Lib.lastIdx
    rw [last_ext s n hn k (by omega)]
    have e : (s.extract 0 n).data[k]! = s.data[k]! := by
      have h1 : k < (s.extract 0 n).data.size := by simp [ByteArray.data_extract]; have : s.data.size = s.size := rfl; omega
      have h2 : k < s.data.size := by have : s.data.size = s.size := rfl; omega
      rw [getElem!_pos _ k h1, getElem!_pos _ k h2]
      simp [ByteArray.data_extract]
    rw [e]
theorem brk_ext (s : ByteArray) (n : Nat) (hn : n ≤ s.size) : Lib.lastIndexByte (s.extract 0 n) 10 = brkN s n := by
  unfold Lib.lastIndexByte brkN
  have : (s.extract 0 n).size = n := by simp; omega
  rw [this]
  exact last_ext s n hn n (Nat.le_refl _)
theorem cnt_ext (s : ByteArray) (n : Nat) (hn : n ≤ s.size) : (Lib.countByte (s.extract 0 n).data.toList 10 : Int) + 1 = lineN s n := by
  unfold lineN
  have : (s.extract 0 n).data.toList = s.data.toList.take n := by simp [ByteArray.data_extract]
  rw [this]; omega
theorem ret_int {k : IntKind} {a b : Int} (h : a = b) : Ending.returned (.int k a) = .returned (.int k b) := by rw [h]
set_option maxHeartbeats 4000000 in
theorem lastB_any (s : ByteArray) (c : Int) (hs : s.size < 4611686018427387904) (w : World) :
    Calls Try.prog 37 #[.string s, .int .u8 c] w fun e w' => e = .returned (.int .i64 (Lib.lastIndexByte s c)) ∧ w' = w := by
  go_enter Try.func37, Try.ntmps37
  go_wp2
  go_loop [5] (fun vi => ∃ k : Nat, k ≤ s.size ∧ vi = .int .i64 ((k : Int) - 1) ∧ Hid (Lib.lastIndexByte s c = Lib.lastIdx s c k)) (fun vi => ((RowKit.intOf vi) + 1).toNat)
  case atStart => exact ⟨s.size, Nat.le_refl _, by first | rfl | go_num | (congr 1; omega), rfl⟩
  case round =>
    obtain ⟨k, hk, rfl, hh⟩ := hrel
    go_wp2
    · have hc : (((s[k - 1]).toNat : Int) == c) = true := by assumption
      have k1 : 1 ≤ k := by omega
      have e1 : Lib.lastIdx s c k = ((k - 1 : Nat) : Int) := by
        have := Lib.lastIdx_hit s c (k - 1) (by rw [byteBang s (k - 1) (by omega)]; simpa using hc)
        rwa [show k - 1 + 1 = k by omega] at this
      have e2 : ((k - 1 : Nat) : Int) = (k : Int) - 1 := by omega
      go_ret
      rw [hh.out, e1, e2]
      exact ⟨rfl, rfl⟩
    · have hc : (((s[k - 1]).toNat : Int) == c) = false := by assumption
      have k1 : 1 ≤ k := by omega
      have e1 : Lib.lastIdx s c k = Lib.lastIdx s c (k - 1) := by
        have := Lib.lastIdx_miss s c (k - 1) (by rw [byteBang s (k - 1) (by omega)]; simpa using hc)
        rwa [show k - 1 + 1 = k by omega] at this
      refine ⟨⟨k - 1, by omega, by congr 1; omega, hh.out.trans e1⟩, ?_⟩
      simp [RowKit.intOf]; omega
    · have k0 : k = 0 := by omega
      subst k0
      go_ret
      rw [hh.out]
      exact ⟨rfl, rfl⟩
set_option maxHeartbeats 4000000 in
theorem last_any (s : ByteArray) (c : Int) (hs : s.size < 4611686018427387904) (w : World) :
    Calls Try.prog 31 #[.string s, .int .u8 c] w fun e w' => e = .returned (.int .i64 (Lib.lastIndexByte s c)) ∧ w' = w := by
  go_enter Try.func31, Try.ntmps31
  go_wp2_with (go_at_call 37; refine (lastB_any _ _ hs _).mono ?_; rintro e w' ⟨rfl, rfl⟩)
  go_ret
  exact ⟨rfl, rfl⟩
end Go.Proofs.Ytbmflenlbbgjiaa
