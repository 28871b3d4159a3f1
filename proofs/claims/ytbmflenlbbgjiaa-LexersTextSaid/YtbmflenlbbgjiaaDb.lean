/-
  LexersLex: the token that begins at an offset.
-/
import Derived.Test.YtbmflenlbbgjiaaDa
namespace Go.Proofs.Ytbmflenlbbgjiaa
open Go.RowKit
set_option linter.unusedVariables false
set_option linter.unusedSimpArgs false
/-- memory behind the body of next -/
abbrev nextX (s : ByteArray) (a : Nat) (er : Int) (n : Nat) (q : Int) (w : World) : World :=
  (((((w.alloc (.cells #[.string s] 9)).alloc (.cells #[.int .i64 a] 3)).alloc (.cells #[.int .u8 0, .string ⟨#[]⟩, .int .i64 0] 32)).alloc (.cells #[.int .i64 er] 24)).alloc (.cells #[.int .i64 n] 3)).alloc (.cells #[.int .u8 q] 5)
set_option maxHeartbeats 8000000 in
theorem clox0 (s : ByteArray) (a n : Nat) (q : Int) (ha : a ≤ n) (hn : n ≤ s.size) (hs : s.size ≤ 4096) (w : World) :
    CallsD Try.prog 32 #[.pointer (some ⟨w.heap.size + 1 + 1 + 1, 0, none⟩), .pointer (some ⟨w.heap.size + 1 + 1 + 1 + 1 + 1, 0, none⟩), .pointer (some ⟨w.heap.size, 0, none⟩), .pointer (some ⟨w.heap.size + 1, 0, none⟩), .pointer (some ⟨w.heap.size + 1 + 1 + 1 + 1, 0, none⟩), .pointer (some ⟨w.heap.size + 1 + 1, 0, none⟩)] FrameMode.returning (nextX s a 0 n q w).drew
      fun e u' w' => u' = FrameMode.returning ∧ (e = .returned (.tuple #[]) ∧ Below w.heap.size w w' ∧ w'.cell? ⟨w.heap.size + 1 + 1, 0, none⟩ = some (.int .u8 q) ∧ w'.cell? ⟨w.heap.size + 1 + 1, 1, none⟩ = some (.string (s.extract a n)) ∧ w'.cell? ⟨w.heap.size + 1 + 1, 2, none⟩ = some (.int .i64 a) ∧ w'.cell? ⟨w.heap.size + 1 + 1 + 1, 0, none⟩ = some (.int .i64 0)) := by
  have hs1 : (n : Int) ≤ s.size := by omega
  have hs2 : ¬ ((s.size : Int) < n) := by omega
  have hs3 : (a : Int) ≤ n := by omega
  have hs4 : ¬ ((n : Int) < a) := by omega
  go_enter_d Try.func32, Try.ntmps32
  go_wp2
  go_region
  all_goals
    go_end0
    refine ⟨rfl, ?_, ?_, ?_, ?_, ?_⟩
    · repeat (first | exact Below.refl _ _ | refine Below.drew ?_ | refine Below.alloc ?_ (by simp; try omega) _)
    all_goals simp [go_sem]
set_option maxHeartbeats 8000000 in
theorem clox6 (s : ByteArray) (a n : Nat) (q er : Int) (he : ¬ er = 0) (w : World) :
    CallsD Try.prog 32 #[.pointer (some ⟨w.heap.size + 1 + 1 + 1, 0, none⟩), .pointer (some ⟨w.heap.size + 1 + 1 + 1 + 1 + 1, 0, none⟩), .pointer (some ⟨w.heap.size, 0, none⟩), .pointer (some ⟨w.heap.size + 1, 0, none⟩), .pointer (some ⟨w.heap.size + 1 + 1 + 1 + 1, 0, none⟩), .pointer (some ⟨w.heap.size + 1 + 1, 0, none⟩)] FrameMode.returning (nextX s a er n q w).drew
      fun e u' w' => u' = FrameMode.returning ∧ (e = .returned (.tuple #[]) ∧ w' = (nextX s a er n q w).drew) := by
  have he' : (er == 0) = false := by simpa using he
  clear he
  go_enter_d Try.func32, Try.ntmps32
  go_wp2
  go_end0
  exact ⟨rfl, rfl⟩
set_option maxHeartbeats 8000000 in
theorem nextx3 (s : ByteArray) (a : Nat) (ha : a < s.size) (hs : s.size ≤ 4096) (hc : clsN ((s[a].toNat : Nat) : Int) = 3) (w : World) :
    Calls Try.prog 22 #[.string s, .int .i64 a] w fun e w' => e = .returned (.tuple #[.agg #[.int .u8 3, .string (s.extract a (a + 1)), .int .i64 a], .int .i64 0]) ∧ Below w.heap.size w w' := by
  have HC := Lib.hid hc
  have hb : (0 : Int) ≤ ((s[a].toNat : Nat) : Int) ∧ ((s[a].toNat : Nat) : Int) ≤ 255 := by have := s[a].toNat_lt; omega
  clear hc
  have z0 : (0 : Int) ≤ (a : Int) := by omega
  have z1 : (a : Int) < (s.size : Int) := by omega
  go_enter_defers Try.func22, Try.ntmps22
  go_wp2_with (go_at_call 21; refine (class_any _ hb.1 hb.2 _).mono ?_; rintro e w' ⟨rfl, rfl⟩; rw [HC.out])
  go_region
  go_wp2
  refine leaves_cons (f := 32) (args := #[.pointer (some ⟨w.heap.size + 1 + 1 + 1, 0, none⟩), .pointer (some ⟨w.heap.size + 1 + 1 + 1 + 1 + 1, 0, none⟩), .pointer (some ⟨w.heap.size, 0, none⟩), .pointer (some ⟨w.heap.size + 1, 0, none⟩), .pointer (some ⟨w.heap.size + 1 + 1 + 1 + 1, 0, none⟩), .pointer (some ⟨w.heap.size + 1 + 1, 0, none⟩)]) (by simp) (by simp [go_sem]) ?_
  refine (clox0 s a (a + 1) 3 (by omega) (by omega) hs w).mono ?_
  rintro e u' w' ⟨rfl, rfl, hb', x0, x1, x2, y0⟩
  show Leaves Try.prog _ _ _ [] FrameMode.returning w'
  refine ⟨.tuple #[.agg #[.int .u8 3, .string (s.extract a (a + 1)), .int .i64 a], .int .i64 0], by simp [results, x0, x1, x2, y0, go_sem], rfl, hb'⟩
set_option maxHeartbeats 8000000 in
theorem nextx4a (s : ByteArray) (a : Nat) (ha : a < s.size) (hs : s.size ≤ 4096) (hc : clsN ((s[a].toNat : Nat) : Int) = 4) (h1 : ¬ a + 1 < s.size) (w : World) :
    Calls Try.prog 22 #[.string s, .int .i64 a] w fun e w' => e = .returned (.tuple #[.agg #[.int .u8 3, .string (s.extract a (a + 1)), .int .i64 a], .int .i64 0]) ∧ Below w.heap.size w w' := by
  have HC := Lib.hid hc
  have hb : (0 : Int) ≤ ((s[a].toNat : Nat) : Int) ∧ ((s[a].toNat : Nat) : Int) ≤ 255 := by have := s[a].toNat_lt; omega
  clear hc
  have z0 : (0 : Int) ≤ (a : Int) := by omega
  have z1 : (a : Int) < (s.size : Int) := by omega
  have hs3 : ¬ ((a : Int) + 1 < s.size) := by omega
  go_enter_defers Try.func22, Try.ntmps22
  go_wp2_with (go_at_call 21; refine (class_any _ hb.1 hb.2 _).mono ?_; rintro e w' ⟨rfl, rfl⟩; rw [HC.out])
  go_region
  go_wp2
  refine leaves_cons (f := 32) (args := #[.pointer (some ⟨w.heap.size + 1 + 1 + 1, 0, none⟩), .pointer (some ⟨w.heap.size + 1 + 1 + 1 + 1 + 1, 0, none⟩), .pointer (some ⟨w.heap.size, 0, none⟩), .pointer (some ⟨w.heap.size + 1, 0, none⟩), .pointer (some ⟨w.heap.size + 1 + 1 + 1 + 1, 0, none⟩), .pointer (some ⟨w.heap.size + 1 + 1, 0, none⟩)]) (by simp) (by simp [go_sem]) ?_
  refine (clox0 s a (a + 1) 3 (by omega) (by omega) hs w).mono ?_
  rintro e u' w' ⟨rfl, rfl, hb', x0, x1, x2, y0⟩
  show Leaves Try.prog _ _ _ [] FrameMode.returning w'
  refine ⟨.tuple #[.agg #[.int .u8 3, .string (s.extract a (a + 1)), .int .i64 a], .int .i64 0], by simp [results, x0, x1, x2, y0, go_sem], rfl, hb'⟩
set_option maxHeartbeats 8000000 in
theorem nextx4b (s : ByteArray) (a : Nat) (ha : a < s.size) (hs : s.size ≤ 4096) (hc : clsN ((s[a].toNat : Nat) : Int) = 4) (h1 : a + 1 < s.size) (h2 : ¬ ((s[a + 1].toNat : Nat) : Int) = 62) (w : World) :
    Calls Try.prog 22 #[.string s, .int .i64 a] w fun e w' => e = .returned (.tuple #[.agg #[.int .u8 3, .string (s.extract a (a + 1)), .int .i64 a], .int .i64 0]) ∧ Below w.heap.size w w' := by
  have HC := Lib.hid hc
  have hb : (0 : Int) ≤ ((s[a].toNat : Nat) : Int) ∧ ((s[a].toNat : Nat) : Int) ≤ 255 := by have := s[a].toNat_lt; omega
  clear hc
  have z0 : (0 : Int) ≤ (a : Int) := by omega
  have z1 : (a : Int) < (s.size : Int) := by omega
  have hs3 : (a : Int) + 1 < s.size := by omega
  have h2' : (((s[a + 1].toNat : Nat) : Int) == 62) = false := by simpa using h2
  clear h2
  go_enter_defers Try.func22, Try.ntmps22
  go_wp2_with (go_at_call 21; refine (class_any _ hb.1 hb.2 _).mono ?_; rintro e w' ⟨rfl, rfl⟩; rw [HC.out])
  go_region
  go_wp2
  refine leaves_cons (f := 32) (args := #[.pointer (some ⟨w.heap.size + 1 + 1 + 1, 0, none⟩), .pointer (some ⟨w.heap.size + 1 + 1 + 1 + 1 + 1, 0, none⟩), .pointer (some ⟨w.heap.size, 0, none⟩), .pointer (some ⟨w.heap.size + 1, 0, none⟩), .pointer (some ⟨w.heap.size + 1 + 1 + 1 + 1, 0, none⟩), .pointer (some ⟨w.heap.size + 1 + 1, 0, none⟩)]) (by simp) (by simp [go_sem]) ?_
  refine (clox0 s a (a + 1) 3 (by omega) (by omega) hs w).mono ?_
  rintro e u' w' ⟨rfl, rfl, hb', x0, x1, x2, y0⟩
  show Leaves Try.prog _ _ _ [] FrameMode.returning w'
  refine ⟨.tuple #[.agg #[.int .u8 3, .string (s.extract a (a + 1)), .int .i64 a], .int .i64 0], by simp [results, x0, x1, x2, y0, go_sem], rfl, hb'⟩
set_option maxHeartbeats 8000000 in
theorem nextx4c (s : ByteArray) (a : Nat) (ha : a < s.size) (hs : s.size ≤ 4096) (hc : clsN ((s[a].toNat : Nat) : Int) = 4) (h1 : a + 1 < s.size) (h2 : ((s[a + 1].toNat : Nat) : Int) = 62) (w : World) :
    Calls Try.prog 22 #[.string s, .int .i64 a] w fun e w' => e = .returned (.tuple #[.agg #[.int .u8 3, .string (s.extract a (a + 2)), .int .i64 a], .int .i64 0]) ∧ Below w.heap.size w w' := by
  have HC := Lib.hid hc
  have hb : (0 : Int) ≤ ((s[a].toNat : Nat) : Int) ∧ ((s[a].toNat : Nat) : Int) ≤ 255 := by have := s[a].toNat_lt; omega
  clear hc
  have z0 : (0 : Int) ≤ (a : Int) := by omega
  have z1 : (a : Int) < (s.size : Int) := by omega
  have hs3 : (a : Int) + 1 < s.size := by omega
  have h2' : (((s[a + 1].toNat : Nat) : Int) == 62) = true := by simpa using h2
  clear h2
  go_enter_defers Try.func22, Try.ntmps22
  go_wp2_with (go_at_call 21; refine (class_any _ hb.1 hb.2 _).mono ?_; rintro e w' ⟨rfl, rfl⟩; rw [HC.out])
  go_region
  go_wp2
  refine leaves_cons (f := 32) (args := #[.pointer (some ⟨w.heap.size + 1 + 1 + 1, 0, none⟩), .pointer (some ⟨w.heap.size + 1 + 1 + 1 + 1 + 1, 0, none⟩), .pointer (some ⟨w.heap.size, 0, none⟩), .pointer (some ⟨w.heap.size + 1, 0, none⟩), .pointer (some ⟨w.heap.size + 1 + 1 + 1 + 1, 0, none⟩), .pointer (some ⟨w.heap.size + 1 + 1, 0, none⟩)]) (by simp) (by simp [go_sem]) ?_
  refine (clox0 s a (a + 2) 3 (by omega) (by omega) hs w).mono ?_
  rintro e u' w' ⟨rfl, rfl, hb', x0, x1, x2, y0⟩
  show Leaves Try.prog _ _ _ [] FrameMode.returning w'
  refine ⟨.tuple #[.agg #[.int .u8 3, .string (s.extract a (a + 2)), .int .i64 a], .int .i64 0], by simp [results, x0, x1, x2, y0, go_sem], rfl, hb'⟩
end Go.Proofs.Ytbmflenlbbgjiaa
