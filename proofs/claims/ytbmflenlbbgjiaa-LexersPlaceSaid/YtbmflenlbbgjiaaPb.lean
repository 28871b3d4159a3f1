/-
  LexersPlace: what the program and the definition answer.
-/
import Derived.Test.YtbmflenlbbgjiaaPa
namespace Go.Proofs.Ytbmflenlbbgjiaa
open Go.RowKit
set_option linter.unusedVariables false
set_option linter.unusedSimpArgs false
set_option maxHeartbeats 4000000 in
theorem count_any (s : ByteArray) (w : World) :
    Calls Try.prog 30 #[.string s, .string ⟨#[10]⟩] w fun e w' => e = .returned (.int .i64 (Lib.countByte s.data.toList 10)) ∧ w' = w := by
  go_enter Try.func30, Try.ntmps30
  go_wp2
  rw [run_callFunc_extern Try.func35 (by kernel_rfl) (by kernel_rfl) (by kernel_rfl) (e := Extern.BytealgCount.count) (by kernel_rfl), Lib.run_countString]
  simp only [Result.andThen]
  rw [Oper.upon_value]
  go_wp2
  go_ret
  exact ⟨rfl, rfl⟩
set_option maxHeartbeats 4000000 in
theorem ref_any (s : ByteArray) (n : Nat) (hn : n ≤ s.size) (hs : s.size ≤ 300) (w : World) :
    Calls Try.prog 19 #[.string s, .int .i64 n] w fun e w' => e = .returned (.tuple #[.int .i64 (lineN s n), .int .i64 (n - brkN s n)]) ∧ w' = w := by
  go_enter Try.func19, Try.ntmps19
  go_wp2
  go_loop [6, 7, 8] (fun l c i => ∃ k : Nat, k ≤ n ∧ i = .int .i64 k ∧ l = .int .i64 (lineN s k) ∧ c = .int .i64 (k - brkN s k)) (fun _ _ i => n - (intOf i).toNat)
  case atStart => exact ⟨0, Nat.zero_le _, rfl, rfl, rfl⟩
  case round =>
    obtain ⟨k, hk, rfl, rfl, rfl⟩ := hrel
    obtain ⟨l1, l2⟩ := line_lo s k
    obtain ⟨b1, b2⟩ := brk_lo s k
    by_cases hlt : k < n
    · by_cases hc : ((s[k].toNat : Nat) : Int) = 10
      · have hh := Lib.hid (line_hit s k (by omega) hc)
        have hcb : (((s[k].toNat : Nat) : Int) == 10) = true := by simpa using hc
        clear hc
        go_wp2
        go_round
        case rel => exact ⟨k + 1, by omega, by go_num, by rw [hh.out.1], by rw [hh.out.2]; congr 1; omega⟩
        case measure => simp [intOf]; omega
      · have hh := Lib.hid (line_miss s k (by omega) hc)
        have hcb : (((s[k].toNat : Nat) : Int) == 10) = false := by simpa using hc
        clear hc
        go_wp2
        go_round
        case rel => exact ⟨k + 1, by omega, by go_num, by rw [hh.out.1], by rw [hh.out.2]; congr 1; omega⟩
        case measure => simp [intOf]; omega
    · obtain rfl : k = n := by omega
      go_wp2
      go_ret2
      exact ⟨rfl, rfl⟩
set_option maxHeartbeats 4000000 in
theorem place_in (s : ByteArray) (n : Nat) (hn : n ≤ s.size) (hs : s.size ≤ 300) (w : World) :
    Calls Try.prog 18 #[.string s, .int .i64 n] w fun e w' => e = .returned (.tuple #[.int .i64 (lineN s n), .int .i64 (n - brkN s n), .int .i64 0]) ∧ w' = w := by
  have hb := brk_ext s n hn
  obtain ⟨l1, l2⟩ := line_lo s n
  obtain ⟨b1, b2⟩ := brk_lo s n
  have hsz : (s.extract 0 n).size < 4611686018427387904 := by simp; omega
  have hc : (Lib.countByte (List.take n s.data.toList) 10 : Int) + 1 = lineN s n := by unfold lineN; omega
  have HC := Lib.hid hc
  have HB := Lib.hid hb
  have hc0 : (0 : Int) ≤ (Lib.countByte (List.take n s.data.toList) 10 : Nat) := by omega
  have hc1 : ((Lib.countByte (List.take n s.data.toList) 10 : Nat) : Int) ≤ 301 := by omega
  have hb0 : -1 ≤ Lib.lastIndexByte (s.extract 0 n) 10 := by omega
  have hb1 : Lib.lastIndexByte (s.extract 0 n) 10 < n := by omega
  clear hc hb
  go_enter Try.func18, Try.ntmps18
  go_wp2_with (first | (go_at_call 30; refine (count_any _ _).mono ?_; rintro e w' ⟨rfl, rfl⟩) | (go_at_call 31; refine (last_any _ _ hsz _).mono ?_; rintro e w' ⟨rfl, rfl⟩))
  go_ret3
  show Ending.returned (.tuple #[.int .i64 ((Lib.countByte (List.take n s.data.toList) 10 : Int) + 1), .int .i64 (n - Lib.lastIndexByte (s.extract 0 n) 10), .int .i64 0]) = _ ∧ _
  rw [HC.out, HB.out]
  exact ⟨rfl, rfl⟩
set_option maxHeartbeats 4000000 in
theorem place_out (s : ByteArray) (n : Int) (hn : n < 0 ∨ s.size < n) (hs : s.size ≤ 300) (w : World) :
    Calls Try.prog 18 #[.string s, .int .i64 n] w fun e w' => e = .returned (.tuple #[.int .i64 0, .int .i64 0, .int .i64 4]) ∧ w' = w := by
  rcases hn with h | h
  · go_enter Try.func18, Try.ntmps18
    go_wp2
    go_ret3
    exact ⟨rfl, rfl⟩
  · have h0 : ¬ n < 0 := by omega
    go_enter Try.func18, Try.ntmps18
    go_wp2
    go_ret3
    exact ⟨rfl, rfl⟩
end Go.Proofs.Ytbmflenlbbgjiaa
