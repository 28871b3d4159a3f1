/-
  LexersCheck: the closure that next defers.
-/
import Derived.Test.YtbmflenlbbgjiaaCe
namespace Go.Proofs.Ytbmflenlbbgjiaa
open Go.RowKit
set_option linter.unusedVariables false
set_option linter.unusedSimpArgs false
/-- memory behind the body of next: the text, the offset, the token, the error, the end, the kind -/
abbrev nextW (s : ByteArray) (er n q : Int) (w : World) : World :=
  (((((w.alloc (.cells #[.string s] 9)).alloc (.cells #[.int .i64 0] 3)).alloc (.cells #[.int .u8 0, .string ⟨#[]⟩, .int .i64 0] 32)).alloc (.cells #[.int .i64 er] 24)).alloc (.cells #[.int .i64 n] 3)).alloc (.cells #[.int .u8 q] 5)
set_option maxHeartbeats 8000000 in
theorem clo0 (s : ByteArray) (n : Nat) (q : Int) (hn : n ≤ s.size) (hs : s.size ≤ 300) (w : World) :
    CallsD Try.prog 32 #[.pointer (some ⟨w.heap.size + 1 + 1 + 1, 0, none⟩), .pointer (some ⟨w.heap.size + 1 + 1 + 1 + 1 + 1, 0, none⟩), .pointer (some ⟨w.heap.size, 0, none⟩), .pointer (some ⟨w.heap.size + 1, 0, none⟩), .pointer (some ⟨w.heap.size + 1 + 1 + 1 + 1, 0, none⟩), .pointer (some ⟨w.heap.size + 1 + 1, 0, none⟩)] FrameMode.returning (nextW s 0 n q w).drew
      fun e u' w' => u' = FrameMode.returning ∧ (e = .returned (.tuple #[]) ∧ Below w.heap.size w w' ∧ w'.cell? ⟨w.heap.size + 1 + 1, 0, none⟩ = some (.int .u8 q) ∧ w'.cell? ⟨w.heap.size + 1 + 1, 1, none⟩ = some (.string (s.extract 0 n)) ∧ w'.cell? ⟨w.heap.size + 1 + 1, 2, none⟩ = some (.int .i64 0) ∧ w'.cell? ⟨w.heap.size + 1 + 1 + 1, 0, none⟩ = some (.int .i64 0)) := by
  have hs1 : (n : Int) ≤ s.size := by omega
  have hs2 : ¬ ((s.size : Int) < n) := by omega
  go_enter_d Try.func32, Try.ntmps32
  go_wp2
  go_region
  all_goals
    go_end0
    refine ⟨rfl, ?_, ?_, ?_, ?_, ?_⟩
    · repeat (first | exact Below.refl _ _ | refine Below.drew ?_ | refine Below.alloc ?_ (by simp; try omega) _)
    all_goals simp [go_sem]
set_option maxHeartbeats 8000000 in
theorem clo6 (s : ByteArray) (n : Nat) (q er : Int) (he : ¬ er = 0) (w : World) :
    CallsD Try.prog 32 #[.pointer (some ⟨w.heap.size + 1 + 1 + 1, 0, none⟩), .pointer (some ⟨w.heap.size + 1 + 1 + 1 + 1 + 1, 0, none⟩), .pointer (some ⟨w.heap.size, 0, none⟩), .pointer (some ⟨w.heap.size + 1, 0, none⟩), .pointer (some ⟨w.heap.size + 1 + 1 + 1 + 1, 0, none⟩), .pointer (some ⟨w.heap.size + 1 + 1, 0, none⟩)] FrameMode.returning (nextW s er n q w).drew
      fun e u' w' => u' = FrameMode.returning ∧ (e = .returned (.tuple #[]) ∧ w' = (nextW s er n q w).drew) := by
  have he' : (er == 0) = false := by simpa using he
  clear he
  go_enter_d Try.func32, Try.ntmps32
  go_wp2
  go_end0
  exact ⟨rfl, rfl⟩
end Go.Proofs.Ytbmflenlbbgjiaa
