/-
  LexersCheck: the token that begins a text: names and words.
-/
import Derived.Test.YtbmflenlbbgjiaaCg
namespace Go.Proofs.Ytbmflenlbbgjiaa
open Go.RowKit
set_option linter.unusedVariables false
set_option linter.unusedSimpArgs false
theorem cls_let {b : Int} (h : clsN b = 2) : letB b = true := by
  unfold clsN at h
  split at h
  · omega
  · split at h
    · omega
    · split at h
      · omega
      · split at h
        · assumption
        · omega
/-- the first letters -/
def headN (s : ByteArray) (n : Nat) : Prop := 1 ≤ n ∧ n ≤ s.size ∧ letsTo s n ∧ (n < s.size → ∀ h : n < s.size, clsN ((s[n].toNat : Nat) : Int) ≠ 2)
set_option maxHeartbeats 8000000 in
theorem next2 (s : ByteArray) (h0 : 0 < s.size) (hs : s.size ≤ 300) (hc : clsN ((s[0].toNat : Nat) : Int) = 2) (w : World) :
    Calls Try.prog 22 #[.string s, .int .i64 0] w fun e w' => (∃ n : Nat, headN s n ∧ ((n ≤ 16 ∧ e = .returned (.tuple #[.agg #[.int .u8 (if wordL (s.extract 0 n).toList = true then 2 else 1), .string (s.extract 0 n), .int .i64 0], .int .i64 0])) ∨ (16 < n ∧ e = .returned (.tuple #[.agg #[.int .u8 0, .string ⟨#[]⟩, .int .i64 0], .int .i64 6])))) ∧ Below w.heap.size w w' := by
  have HC := Lib.hid hc
  have hb : (0 : Int) ≤ ((s[0].toNat : Nat) : Int) ∧ ((s[0].toNat : Nat) : Int) ≤ 255 := by have := s[0].toNat_lt; omega
  clear hc
  go_enter_defers Try.func22, Try.ntmps22
  go_wp2_with (go_at_call 21; refine (class_any _ hb.1 hb.2 _).mono ?_; rintro e w' ⟨rfl, rfl⟩; rw [HC.out])
  go_loopw [45] (fun p wx => ∃ k : Nat, 1 ≤ k ∧ k ≤ s.size ∧ wx = ((((((w.alloc (.cells #[.string s] 9)).alloc (.cells #[.int .i64 0] 3)).alloc (.cells #[.int .u8 0, .string ⟨#[]⟩, .int .i64 0] 32)).alloc (.cells #[.int .i64 0] 24)).alloc (.cells #[.int .i64 k] 3)).alloc (.cells #[.int .u8 3] 5)) ∧ Hid (letsTo s k)) (fun p wx => s.size - (intOf ((wx.cell? ⟨w.heap.size + 1 + 1 + 1 + 1, 0, none⟩).getD (.int .i64 0))).toNat)
  case atStart => exact ⟨1, by omega, by omega, rfl, Lib.hid (lets_succ (k := 0) (by unfold letsTo; simp) h0 (cls_let HC.out))⟩
  case round =>
    obtain ⟨k, hk1, hk, rfl, hn⟩ := hrel
    by_cases hlt : k < s.size
    · have hlt' : (k : Int) < s.size := by omega
      have hbk : (0 : Int) ≤ ((s[k].toNat : Nat) : Int) ∧ ((s[k].toNat : Nat) : Int) ≤ 255 := by have := s[k].toNat_lt; omega
      by_cases hl : clsN ((s[k].toNat : Nat) : Int) = 2
      · have HL := Lib.hid hl
        clear hl
        go_wp2_with (go_at_call 21; refine (class_any _ hbk.1 hbk.2 _).mono ?_; rintro e w' ⟨rfl, rfl⟩; rw [HL.out])
        go_roundw
        case rel => exact ⟨k + 1, by omega, by omega, by first | rfl | (congr 1), Lib.hid (lets_succ hn.out hlt (cls_let HL.out))⟩
        case measure => simp [go_sem, intOf]; omega
      · have hl' : (clsN ((s[k].toNat : Nat) : Int) == 2) = false := by simpa using hl
        have hx1 : (k : Int) ≤ s.size := by omega
        have HH := Lib.hid (show headN s k from ⟨hk1, hk, hn.out, fun _ _ => hl⟩)
        have hx2 : ¬ ((s.size : Int) < k) := by omega
        go_wp2_with (first | (go_at_call 21; refine (class_any _ hbk.1 hbk.2 _).mono ?_; rintro e w' ⟨rfl, rfl⟩) | (go_at_call 24; refine (word_any _ _).mono ?_; rintro e w' ⟨rfl, rfl⟩))
        all_goals
          go_region
          go_wp2
          (refine leaves_cons (f := 32) (args := #[.pointer (some ⟨w.heap.size + 1 + 1 + 1, 0, none⟩), .pointer (some ⟨w.heap.size + 1 + 1 + 1 + 1 + 1, 0, none⟩), .pointer (some ⟨w.heap.size, 0, none⟩), .pointer (some ⟨w.heap.size + 1, 0, none⟩), .pointer (some ⟨w.heap.size + 1 + 1 + 1 + 1, 0, none⟩), .pointer (some ⟨w.heap.size + 1 + 1, 0, none⟩)]) (by simp) (by simp [go_sem]) ?_)
          first
          | (refine (clo0 s k 1 hk hs w).mono ?_
             rintro e u' w' ⟨rfl, rfl, hb', x0, x1, x2, y0⟩
             show Leaves Try.prog _ _ _ [] FrameMode.returning w'
             refine ⟨.tuple #[.agg #[.int .u8 1, .string (s.extract 0 k), .int .i64 0], .int .i64 0], by simp [results, x0, x1, x2, y0, go_sem], ⟨k, HH.out, .inl ⟨by omega, by simp [*]⟩⟩, hb'⟩)
          | (refine (clo0 s k 2 hk hs w).mono ?_
             rintro e u' w' ⟨rfl, rfl, hb', x0, x1, x2, y0⟩
             show Leaves Try.prog _ _ _ [] FrameMode.returning w'
             refine ⟨.tuple #[.agg #[.int .u8 2, .string (s.extract 0 k), .int .i64 0], .int .i64 0], by simp [results, x0, x1, x2, y0, go_sem], ⟨k, HH.out, .inl ⟨by omega, by simp [*]⟩⟩, hb'⟩)
          | (refine (clo6 s k 1 6 (by omega) w).mono ?_
             rintro e u' w' ⟨rfl, rfl, rfl⟩
             show Leaves Try.prog _ _ _ [] FrameMode.returning _
             refine ⟨.tuple #[.agg #[.int .u8 0, .string ⟨#[]⟩, .int .i64 0], .int .i64 6], by simp [results, go_sem], ⟨k, HH.out, .inr ⟨by omega, rfl⟩⟩, ?_⟩
             repeat (first | exact Below.refl _ _ | refine Below.drew ?_ | refine Below.alloc ?_ (by simp; try omega) _))
          | (refine (clo6 s k 2 6 (by omega) w).mono ?_
             rintro e u' w' ⟨rfl, rfl, rfl⟩
             show Leaves Try.prog _ _ _ [] FrameMode.returning _
             refine ⟨.tuple #[.agg #[.int .u8 0, .string ⟨#[]⟩, .int .i64 0], .int .i64 6], by simp [results, go_sem], ⟨k, HH.out, .inr ⟨by omega, rfl⟩⟩, ?_⟩
             repeat (first | exact Below.refl _ _ | refine Below.drew ?_ | refine Below.alloc ?_ (by simp; try omega) _))
    · obtain rfl : k = s.size := by omega
      have hx1 : (s.size : Int) ≤ s.size := by omega
      have HH := Lib.hid (show headN s s.size from ⟨hk1, hk, hn.out, fun h => by omega⟩)
      go_wp2_with (go_at_call 24; refine (word_any _ _).mono ?_; rintro e w' ⟨rfl, rfl⟩)
      all_goals
        go_region
        go_wp2
        (refine leaves_cons (f := 32) (args := #[.pointer (some ⟨w.heap.size + 1 + 1 + 1, 0, none⟩), .pointer (some ⟨w.heap.size + 1 + 1 + 1 + 1 + 1, 0, none⟩), .pointer (some ⟨w.heap.size, 0, none⟩), .pointer (some ⟨w.heap.size + 1, 0, none⟩), .pointer (some ⟨w.heap.size + 1 + 1 + 1 + 1, 0, none⟩), .pointer (some ⟨w.heap.size + 1 + 1, 0, none⟩)]) (by simp) (by simp [go_sem]) ?_)
        first
        | (refine (clo0 s s.size 1 hk hs w).mono ?_
           rintro e u' w' ⟨rfl, rfl, hb', x0, x1, x2, y0⟩
           show Leaves Try.prog _ _ _ [] FrameMode.returning w'
           refine ⟨.tuple #[.agg #[.int .u8 1, .string (s.extract 0 s.size), .int .i64 0], .int .i64 0], by simp [results, x0, x1, x2, y0, go_sem], ⟨s.size, HH.out, .inl ⟨by omega, by simp [*]⟩⟩, hb'⟩)
        | (refine (clo0 s s.size 2 hk hs w).mono ?_
           rintro e u' w' ⟨rfl, rfl, hb', x0, x1, x2, y0⟩
           show Leaves Try.prog _ _ _ [] FrameMode.returning w'
           refine ⟨.tuple #[.agg #[.int .u8 2, .string (s.extract 0 s.size), .int .i64 0], .int .i64 0], by simp [results, x0, x1, x2, y0, go_sem], ⟨s.size, HH.out, .inl ⟨by omega, by simp [*]⟩⟩, hb'⟩)
        | (refine (clo6 s s.size 1 6 (by omega) w).mono ?_
           rintro e u' w' ⟨rfl, rfl, rfl⟩
           show Leaves Try.prog _ _ _ [] FrameMode.returning _
           refine ⟨.tuple #[.agg #[.int .u8 0, .string ⟨#[]⟩, .int .i64 0], .int .i64 6], by simp [results, go_sem], ⟨s.size, HH.out, .inr ⟨by omega, rfl⟩⟩, ?_⟩
           repeat (first | exact Below.refl _ _ | refine Below.drew ?_ | refine Below.alloc ?_ (by simp; try omega) _))
        | (refine (clo6 s s.size 2 6 (by omega) w).mono ?_
           rintro e u' w' ⟨rfl, rfl, rfl⟩
           show Leaves Try.prog _ _ _ [] FrameMode.returning _
           refine ⟨.tuple #[.agg #[.int .u8 0, .string ⟨#[]⟩, .int .i64 0], .int .i64 6], by simp [results, go_sem], ⟨s.size, HH.out, .inr ⟨by omega, rfl⟩⟩, ?_⟩
           repeat (first | exact Below.refl _ _ | refine Below.drew ?_ | refine Below.alloc ?_ (by simp; try omega) _))
end Go.Proofs.Ytbmflenlbbgjiaa
