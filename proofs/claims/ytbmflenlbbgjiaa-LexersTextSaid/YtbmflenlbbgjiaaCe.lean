/-
  LexersCheck: the token that begins a text: signs with a minus.
-/
import Derived.Test.YtbmflenlbbgjiaaCd
namespace Go.Proofs.Ytbmflenlbbgjiaa
open Go.RowKit
set_option linter.unusedVariables false
set_option linter.unusedSimpArgs false
set_option maxHeartbeats 8000000 in
theorem next4a (s : ByteArray) (h0 : 0 < s.size) (hs : s.size ≤ 300) (hc : clsN ((s[0].toNat : Nat) : Int) = 4) (h1 : s.size = 1) (w : World) :
    Calls Try.prog 22 #[.string s, .int .i64 0] w fun e w' => e = .returned (.tuple #[.agg #[.int .u8 3, .string (s.extract 0 1), .int .i64 0], .int .i64 0]) ∧ Below w.heap.size w w' := by
  have HC := Lib.hid hc
  have hb : (0 : Int) ≤ ((s[0].toNat : Nat) : Int) ∧ ((s[0].toNat : Nat) : Int) ≤ 255 := by have := s[0].toNat_lt; omega
  clear hc
  have hs1 : (1 : Int) ≤ s.size := by omega
  have hs2 : ¬ ((s.size : Int) < 1) := by omega
  have hs3 : ¬ ((1 : Int) < s.size) := by omega
  go_enter_defers Try.func22, Try.ntmps22
  go_wp2_with (go_at_call 21; refine (class_any _ hb.1 hb.2 _).mono ?_; rintro e w' ⟨rfl, rfl⟩; rw [HC.out])
  go_region
  go_wp2
  refine leaves_cons (f := 32) (args := #[.pointer (some ⟨w.heap.size + 1 + 1 + 1, 0, none⟩), .pointer (some ⟨w.heap.size + 1 + 1 + 1 + 1 + 1, 0, none⟩), .pointer (some ⟨w.heap.size, 0, none⟩), .pointer (some ⟨w.heap.size + 1, 0, none⟩), .pointer (some ⟨w.heap.size + 1 + 1 + 1 + 1, 0, none⟩), .pointer (some ⟨w.heap.size + 1 + 1, 0, none⟩)]) (by simp) (by simp [go_sem]) ?_
  refine CallsD.mono (R := fun e u' w' => u' = FrameMode.returning ∧ (e = .returned (.tuple #[]) ∧ Below w.heap.size w w' ∧ w'.cell? ⟨w.heap.size + 1 + 1, 0, none⟩ = some (.int .u8 3) ∧ w'.cell? ⟨w.heap.size + 1 + 1, 1, none⟩ = some (.string (s.extract 0 1)) ∧ w'.cell? ⟨w.heap.size + 1 + 1, 2, none⟩ = some (.int .i64 0) ∧ w'.cell? ⟨w.heap.size + 1 + 1 + 1, 0, none⟩ = some (.int .i64 0))) ?_ ?_
  · go_enter_d Try.func32, Try.ntmps32
    go_wp2
    go_region
    all_goals
      go_end0
      refine ⟨rfl, ?_, ?_, ?_, ?_, ?_⟩
      · repeat (first | exact Below.refl _ _ | refine Below.drew ?_ | refine Below.alloc ?_ (by simp; try omega) _)
      all_goals simp [go_sem]
  · rintro e u' w' ⟨rfl, rfl, hb', x0, x1, x2, y0⟩
    show Leaves Try.prog _ _ _ [] FrameMode.returning w'
    refine ⟨.tuple #[.agg #[.int .u8 3, .string (s.extract 0 1), .int .i64 0], .int .i64 0], ?_, rfl, hb'⟩
    simp [results, x0, x1, x2, y0, go_sem]
set_option maxHeartbeats 8000000 in
theorem next4b (s : ByteArray) (h0 : 0 < s.size) (hs : s.size ≤ 300) (hc : clsN ((s[0].toNat : Nat) : Int) = 4) (h1 : 1 < s.size) (h2 : ¬ ((s[1].toNat : Nat) : Int) = 62) (w : World) :
    Calls Try.prog 22 #[.string s, .int .i64 0] w fun e w' => e = .returned (.tuple #[.agg #[.int .u8 3, .string (s.extract 0 1), .int .i64 0], .int .i64 0]) ∧ Below w.heap.size w w' := by
  have HC := Lib.hid hc
  have hb : (0 : Int) ≤ ((s[0].toNat : Nat) : Int) ∧ ((s[0].toNat : Nat) : Int) ≤ 255 := by have := s[0].toNat_lt; omega
  clear hc
  have hs1 : (1 : Int) ≤ s.size := by omega
  have hs2 : ¬ ((s.size : Int) < 1) := by omega
  have hs3 : (1 : Int) < s.size := by omega
  have h2' : (((s[1].toNat : Nat) : Int) == 62) = false := by simpa using h2
  clear h2
  go_enter_defers Try.func22, Try.ntmps22
  go_wp2_with (go_at_call 21; refine (class_any _ hb.1 hb.2 _).mono ?_; rintro e w' ⟨rfl, rfl⟩; rw [HC.out])
  go_region
  go_wp2
  refine leaves_cons (f := 32) (args := #[.pointer (some ⟨w.heap.size + 1 + 1 + 1, 0, none⟩), .pointer (some ⟨w.heap.size + 1 + 1 + 1 + 1 + 1, 0, none⟩), .pointer (some ⟨w.heap.size, 0, none⟩), .pointer (some ⟨w.heap.size + 1, 0, none⟩), .pointer (some ⟨w.heap.size + 1 + 1 + 1 + 1, 0, none⟩), .pointer (some ⟨w.heap.size + 1 + 1, 0, none⟩)]) (by simp) (by simp [go_sem]) ?_
  refine CallsD.mono (R := fun e u' w' => u' = FrameMode.returning ∧ (e = .returned (.tuple #[]) ∧ Below w.heap.size w w' ∧ w'.cell? ⟨w.heap.size + 1 + 1, 0, none⟩ = some (.int .u8 3) ∧ w'.cell? ⟨w.heap.size + 1 + 1, 1, none⟩ = some (.string (s.extract 0 1)) ∧ w'.cell? ⟨w.heap.size + 1 + 1, 2, none⟩ = some (.int .i64 0) ∧ w'.cell? ⟨w.heap.size + 1 + 1 + 1, 0, none⟩ = some (.int .i64 0))) ?_ ?_
  · go_enter_d Try.func32, Try.ntmps32
    go_wp2
    go_region
    all_goals
      go_end0
      refine ⟨rfl, ?_, ?_, ?_, ?_, ?_⟩
      · repeat (first | exact Below.refl _ _ | refine Below.drew ?_ | refine Below.alloc ?_ (by simp; try omega) _)
      all_goals simp [go_sem]
  · rintro e u' w' ⟨rfl, rfl, hb', x0, x1, x2, y0⟩
    show Leaves Try.prog _ _ _ [] FrameMode.returning w'
    refine ⟨.tuple #[.agg #[.int .u8 3, .string (s.extract 0 1), .int .i64 0], .int .i64 0], ?_, rfl, hb'⟩
    simp [results, x0, x1, x2, y0, go_sem]
set_option maxHeartbeats 8000000 in
theorem next4c (s : ByteArray) (h0 : 0 < s.size) (hs : s.size ≤ 300) (hc : clsN ((s[0].toNat : Nat) : Int) = 4) (h1 : 1 < s.size) (h2 : ((s[1].toNat : Nat) : Int) = 62) (w : World) :
    Calls Try.prog 22 #[.string s, .int .i64 0] w fun e w' => e = .returned (.tuple #[.agg #[.int .u8 3, .string (s.extract 0 2), .int .i64 0], .int .i64 0]) ∧ Below w.heap.size w w' := by
  have HC := Lib.hid hc
  have hb : (0 : Int) ≤ ((s[0].toNat : Nat) : Int) ∧ ((s[0].toNat : Nat) : Int) ≤ 255 := by have := s[0].toNat_lt; omega
  clear hc
  have hs1 : (2 : Int) ≤ s.size := by omega
  have hs2 : ¬ ((s.size : Int) < 2) := by omega
  have hs3 : (1 : Int) < s.size := by omega
  have h2' : (((s[1].toNat : Nat) : Int) == 62) = true := by simpa using h2
  clear h2
  go_enter_defers Try.func22, Try.ntmps22
  go_wp2_with (go_at_call 21; refine (class_any _ hb.1 hb.2 _).mono ?_; rintro e w' ⟨rfl, rfl⟩; rw [HC.out])
  go_region
  go_wp2
  refine leaves_cons (f := 32) (args := #[.pointer (some ⟨w.heap.size + 1 + 1 + 1, 0, none⟩), .pointer (some ⟨w.heap.size + 1 + 1 + 1 + 1 + 1, 0, none⟩), .pointer (some ⟨w.heap.size, 0, none⟩), .pointer (some ⟨w.heap.size + 1, 0, none⟩), .pointer (some ⟨w.heap.size + 1 + 1 + 1 + 1, 0, none⟩), .pointer (some ⟨w.heap.size + 1 + 1, 0, none⟩)]) (by simp) (by simp [go_sem]) ?_
  refine CallsD.mono (R := fun e u' w' => u' = FrameMode.returning ∧ (e = .returned (.tuple #[]) ∧ Below w.heap.size w w' ∧ w'.cell? ⟨w.heap.size + 1 + 1, 0, none⟩ = some (.int .u8 3) ∧ w'.cell? ⟨w.heap.size + 1 + 1, 1, none⟩ = some (.string (s.extract 0 2)) ∧ w'.cell? ⟨w.heap.size + 1 + 1, 2, none⟩ = some (.int .i64 0) ∧ w'.cell? ⟨w.heap.size + 1 + 1 + 1, 0, none⟩ = some (.int .i64 0))) ?_ ?_
  · go_enter_d Try.func32, Try.ntmps32
    go_wp2
    go_region
    all_goals
      go_end0
      refine ⟨rfl, ?_, ?_, ?_, ?_, ?_⟩
      · repeat (first | exact Below.refl _ _ | refine Below.drew ?_ | refine Below.alloc ?_ (by simp; try omega) _)
      all_goals simp [go_sem]
  · rintro e u' w' ⟨rfl, rfl, hb', x0, x1, x2, y0⟩
    show Leaves Try.prog _ _ _ [] FrameMode.returning w'
    refine ⟨.tuple #[.agg #[.int .u8 3, .string (s.extract 0 2), .int .i64 0], .int .i64 0], ?_, rfl, hb'⟩
    simp [results, x0, x1, x2, y0, go_sem]
end Go.Proofs.Ytbmflenlbbgjiaa
