/-
  LexersLex: the token that begins at an offset: names and words, and all in one.
-/
import Derived.Test.YtbmflenlbbgjiaaDb
namespace Go.Proofs.Ytbmflenlbbgjiaa
open Go.RowKit
set_option linter.unusedVariables false
set_option linter.unusedSimpArgs false
/-- the letters behind the first one, up to an offset -/
def letsX (s : ByteArray) (a k : Nat) : Prop := ((s.toList.drop (a + 1)).take (k - (a + 1))).all letU = true
theorem letsX_succ {s : ByteArray} {a k : Nat} (h : letsX s a k) (h1 : a + 1 ≤ k) (hk : k < s.size) (hc : clsN ((s[k].toNat : Nat) : Int) = 2) : letsX s a (k + 1) := by
  unfold letsX at h ⊢
  have hl : s.toList.length = s.size := by rw [ByteArray.toList_eq]; simp
  rw [show k + 1 - (a + 1) = (k - (a + 1)) + 1 by omega, List.take_add_one, List.all_append, h, List.getElem?_drop, show a + 1 + (k - (a + 1)) = k by omega]
  have : s.toList[k]? = some s[k] := by
    rw [ByteArray.toList_eq]
    show s.data.toList[k]? = some s.data[k]
    simp
  rw [this]
  have := (cls_cases s[k]).2.2.1.1 hc
  simp [this]
/-- what next answers at an offset -/
def nextP (s : ByteArray) (a : Nat) (h : a < s.size) (e : Ending) : Prop :=
  ∃ (q : Int) (m : Nat) (er : Int), tokL s[a] (s.toList.drop (a + 1)) = (q, m, er) ∧
    ((er = 0 ∧ e = .returned (.tuple #[.agg #[.int .u8 q, .string (s.extract a (a + 1 + m)), .int .i64 a], .int .i64 0])) ∨
      (¬ er = 0 ∧ e = .returned (.tuple #[.agg #[.int .u8 0, .string ⟨#[]⟩, .int .i64 0], .int .i64 er])))
theorem tok_let {s : ByteArray} {a k : Nat} (ha : a < s.size) (hc : clsN ((s[a].toNat : Nat) : Int) = 2) (h : letsX s a k) (h1 : a + 1 ≤ k) (hk : k ≤ s.size) (hn : ∀ h : k < s.size, clsN ((s[k].toNat : Nat) : Int) ≠ 2) :
    tokL s[a] (s.toList.drop (a + 1)) = if 16 < k - a then (0, 0, 6) else (if wordL (s.extract a k).toList = true then 2 else 1, k - (a + 1), 0) := by
  have hl : s.toList.length = s.size := by rw [ByteArray.toList_eq]; simp
  obtain ⟨w1, w2⟩ := while_len (l := s.toList.drop (a + 1)) (j := k - (a + 1)) (by rw [List.length_drop, hl]; omega) h (by
    intro hx
    rw [List.length_drop, hl] at hx
    have hk' : k < s.size := by omega
    rw [List.getElem_drop]
    have : s.toList[a + 1 + (k - (a + 1))]? = some s[k] := by
      rw [show a + 1 + (k - (a + 1)) = k by omega, ByteArray.toList_eq]
      show s.data.toList[k]? = some s.data[k]
      simp
    rw [List.getElem?_eq_getElem (by omega)] at this
    rw [Option.some.inj this]
    exact let_not (hn hk'))
  unfold tokL
  rw [if_neg (by omega), if_neg (by omega), if_pos hc, w1, w2]
  have hx : (s.extract a k).toList = s[a] :: (s.toList.drop (a + 1)).take (k - (a + 1)) := by
    rw [ext_at, list_at ha, show k - a = (k - (a + 1)) + 1 by omega, List.take_succ_cons]
  rw [hx]
  by_cases h16 : 16 < k - a
  · rw [if_pos (by omega), if_pos h16]
  · rw [if_neg (by omega), if_neg h16]
set_option maxHeartbeats 8000000 in
theorem nextx2 (s : ByteArray) (a : Nat) (ha : a < s.size) (hs : s.size ≤ 4096) (hc : clsN ((s[a].toNat : Nat) : Int) = 2) (w : World) :
    Calls Try.prog 22 #[.string s, .int .i64 a] w fun e w' => nextP s a ha e ∧ Below w.heap.size w w' := by
  have HC := Lib.hid hc
  have hb : (0 : Int) ≤ ((s[a].toNat : Nat) : Int) ∧ ((s[a].toNat : Nat) : Int) ≤ 255 := by have := s[a].toNat_lt; omega
  clear hc
  have z0 : (0 : Int) ≤ (a : Int) := by omega
  have z1 : (a : Int) < (s.size : Int) := by omega
  go_enter_defers Try.func22, Try.ntmps22
  go_wp2_with (go_at_call 21; refine (class_any _ hb.1 hb.2 _).mono ?_; rintro e w' ⟨rfl, rfl⟩; rw [HC.out])
  go_loopw [45] (fun p wx => ∃ k : Nat, a + 1 ≤ k ∧ k ≤ s.size ∧ wx = nextX s a 0 k 3 w ∧ Hid (letsX s a k)) (fun p wx => s.size - (intOf ((wx.cell? ⟨w.heap.size + 1 + 1 + 1 + 1, 0, none⟩).getD (.int .i64 0))).toNat)
  case atStart => exact ⟨a + 1, by omega, by omega, by first | rfl | (congr 1), Lib.hid (by unfold letsX; simp)⟩
  case round =>
    obtain ⟨k, hk1, hk, rfl, hn⟩ := hrel
    by_cases hgo : ∃ h : k < s.size, clsN ((s[k].toNat : Nat) : Int) = 2
    · obtain ⟨hlt, hl⟩ := hgo
      have hlt' : (k : Int) < s.size := by omega
      have y0 : (0 : Int) ≤ (k : Int) := by omega
      have hbk : (0 : Int) ≤ ((s[k].toNat : Nat) : Int) ∧ ((s[k].toNat : Nat) : Int) ≤ 255 := by have := s[k].toNat_lt; omega
      have HL := Lib.hid hl
      clear hl
      go_wp2_with (go_at_call 21; refine (class_any _ hbk.1 hbk.2 _).mono ?_; rintro e w' ⟨rfl, rfl⟩; rw [HL.out])
      go_roundw
      case rel => exact ⟨k + 1, by omega, by omega, by first | rfl | (congr 1), Lib.hid (letsX_succ hn.out hk1 hlt HL.out)⟩
      case measure => simp [go_sem, intOf]; omega
    · have hx1 : (k : Int) ≤ s.size := by omega
      have hx2 : ¬ ((s.size : Int) < k) := by omega
      have hx3 : (a : Int) ≤ k := by omega
      have hx4 : ¬ ((k : Int) < a) := by omega
      have y0 : (0 : Int) ≤ (k : Int) := by omega
      have HT := Lib.hid (tok_let ha HC.out hn.out hk1 hk (fun h e => hgo ⟨h, e⟩))
      clear hn
      by_cases hlt : k < s.size
      · have hl : ¬ clsN ((s[k].toNat : Nat) : Int) = 2 := fun e => hgo ⟨hlt, e⟩
        have hlt' : (k : Int) < s.size := by omega
        have hbk : (0 : Int) ≤ ((s[k].toNat : Nat) : Int) ∧ ((s[k].toNat : Nat) : Int) ≤ 255 := by have := s[k].toNat_lt; omega
        have hl' : (clsN ((s[k].toNat : Nat) : Int) == 2) = false := by simpa using hl
        clear hgo hl
        by_cases hw : wordL (s.extract a k).toList = true
        · have HW := Lib.hid hw
          by_cases h16 : (16 : Int) < (k : Int) - a
          · have HTX := Lib.hid (HT.out.trans (by rw [if_pos (by omega)]))
            clear HT hw
            go_wp2_with (first | (go_at_call 21; refine (class_any _ hbk.1 hbk.2 _).mono ?_; rintro e w' ⟨rfl, rfl⟩) | (go_at_call 24; refine (word_any _ _).mono ?_; rintro e w' ⟨rfl, rfl⟩; rw [HW.out]))
            go_region
            go_wp2
            refine leaves_cons (f := 32) (args := #[.pointer (some ⟨w.heap.size + 1 + 1 + 1, 0, none⟩), .pointer (some ⟨w.heap.size + 1 + 1 + 1 + 1 + 1, 0, none⟩), .pointer (some ⟨w.heap.size, 0, none⟩), .pointer (some ⟨w.heap.size + 1, 0, none⟩), .pointer (some ⟨w.heap.size + 1 + 1 + 1 + 1, 0, none⟩), .pointer (some ⟨w.heap.size + 1 + 1, 0, none⟩)]) (by simp) (by simp [go_sem]) ?_
            refine (clox6 s a k 2 6 (by omega) w).mono ?_
            rintro e u' w' ⟨rfl, rfl, rfl⟩
            show Leaves Try.prog _ _ _ [] FrameMode.returning _
            refine ⟨.tuple #[.agg #[.int .u8 0, .string ⟨#[]⟩, .int .i64 0], .int .i64 6], by simp [results, go_sem], ⟨_, _, _, HTX.out, .inr ⟨by omega, rfl⟩⟩, ?_⟩
            repeat (first | exact Below.refl _ _ | refine Below.drew ?_ | refine Below.alloc ?_ (by simp; try omega) _)
          · have HTX := Lib.hid (HT.out.trans (by rw [if_neg (by omega), if_pos hw]))
            clear HT hw
            go_wp2_with (first | (go_at_call 21; refine (class_any _ hbk.1 hbk.2 _).mono ?_; rintro e w' ⟨rfl, rfl⟩) | (go_at_call 24; refine (word_any _ _).mono ?_; rintro e w' ⟨rfl, rfl⟩; rw [HW.out]))
            go_region
            go_wp2
            refine leaves_cons (f := 32) (args := #[.pointer (some ⟨w.heap.size + 1 + 1 + 1, 0, none⟩), .pointer (some ⟨w.heap.size + 1 + 1 + 1 + 1 + 1, 0, none⟩), .pointer (some ⟨w.heap.size, 0, none⟩), .pointer (some ⟨w.heap.size + 1, 0, none⟩), .pointer (some ⟨w.heap.size + 1 + 1 + 1 + 1, 0, none⟩), .pointer (some ⟨w.heap.size + 1 + 1, 0, none⟩)]) (by simp) (by simp [go_sem]) ?_
            refine (clox0 s a k 2 (by omega) (by omega) hs w).mono ?_
            rintro e u' w' ⟨rfl, rfl, hb', x0, x1, x2, y0⟩
            show Leaves Try.prog _ _ _ [] FrameMode.returning w'
            refine ⟨.tuple #[.agg #[.int .u8 2, .string (s.extract a k), .int .i64 a], .int .i64 0], by simp [results, x0, x1, x2, y0, go_sem], ⟨_, _, _, HTX.out, .inl ⟨rfl, by rw [show a + 1 + (k - (a + 1)) = k by omega]⟩⟩, hb'⟩
        · have HW := Lib.hid (show wordL (s.extract a k).toList = false by simpa using hw)
          by_cases h16 : (16 : Int) < (k : Int) - a
          · have HTX := Lib.hid (HT.out.trans (by rw [if_pos (by omega)]))
            clear HT hw
            go_wp2_with (first | (go_at_call 21; refine (class_any _ hbk.1 hbk.2 _).mono ?_; rintro e w' ⟨rfl, rfl⟩) | (go_at_call 24; refine (word_any _ _).mono ?_; rintro e w' ⟨rfl, rfl⟩; rw [HW.out]))
            go_region
            go_wp2
            refine leaves_cons (f := 32) (args := #[.pointer (some ⟨w.heap.size + 1 + 1 + 1, 0, none⟩), .pointer (some ⟨w.heap.size + 1 + 1 + 1 + 1 + 1, 0, none⟩), .pointer (some ⟨w.heap.size, 0, none⟩), .pointer (some ⟨w.heap.size + 1, 0, none⟩), .pointer (some ⟨w.heap.size + 1 + 1 + 1 + 1, 0, none⟩), .pointer (some ⟨w.heap.size + 1 + 1, 0, none⟩)]) (by simp) (by simp [go_sem]) ?_
            refine (clox6 s a k 1 6 (by omega) w).mono ?_
            rintro e u' w' ⟨rfl, rfl, rfl⟩
            show Leaves Try.prog _ _ _ [] FrameMode.returning _
            refine ⟨.tuple #[.agg #[.int .u8 0, .string ⟨#[]⟩, .int .i64 0], .int .i64 6], by simp [results, go_sem], ⟨_, _, _, HTX.out, .inr ⟨by omega, rfl⟩⟩, ?_⟩
            repeat (first | exact Below.refl _ _ | refine Below.drew ?_ | refine Below.alloc ?_ (by simp; try omega) _)
          · have HTX := Lib.hid (HT.out.trans (by rw [if_neg (by omega), if_neg hw]))
            clear HT hw
            go_wp2_with (first | (go_at_call 21; refine (class_any _ hbk.1 hbk.2 _).mono ?_; rintro e w' ⟨rfl, rfl⟩) | (go_at_call 24; refine (word_any _ _).mono ?_; rintro e w' ⟨rfl, rfl⟩; rw [HW.out]))
            go_region
            go_wp2
            refine leaves_cons (f := 32) (args := #[.pointer (some ⟨w.heap.size + 1 + 1 + 1, 0, none⟩), .pointer (some ⟨w.heap.size + 1 + 1 + 1 + 1 + 1, 0, none⟩), .pointer (some ⟨w.heap.size, 0, none⟩), .pointer (some ⟨w.heap.size + 1, 0, none⟩), .pointer (some ⟨w.heap.size + 1 + 1 + 1 + 1, 0, none⟩), .pointer (some ⟨w.heap.size + 1 + 1, 0, none⟩)]) (by simp) (by simp [go_sem]) ?_
            refine (clox0 s a k 1 (by omega) (by omega) hs w).mono ?_
            rintro e u' w' ⟨rfl, rfl, hb', x0, x1, x2, y0⟩
            show Leaves Try.prog _ _ _ [] FrameMode.returning w'
            refine ⟨.tuple #[.agg #[.int .u8 1, .string (s.extract a k), .int .i64 a], .int .i64 0], by simp [results, x0, x1, x2, y0, go_sem], ⟨_, _, _, HTX.out, .inl ⟨rfl, by rw [show a + 1 + (k - (a + 1)) = k by omega]⟩⟩, hb'⟩
      · have hlt' : ¬ (k : Int) < s.size := by omega
        clear hgo
        by_cases hw : wordL (s.extract a k).toList = true
        · have HW := Lib.hid hw
          by_cases h16 : (16 : Int) < (k : Int) - a
          · have HTX := Lib.hid (HT.out.trans (by rw [if_pos (by omega)]))
            clear HT hw
            go_wp2_with (first | (go_at_call 24; refine (word_any _ _).mono ?_; rintro e w' ⟨rfl, rfl⟩; rw [HW.out]))
            go_region
            go_wp2
            refine leaves_cons (f := 32) (args := #[.pointer (some ⟨w.heap.size + 1 + 1 + 1, 0, none⟩), .pointer (some ⟨w.heap.size + 1 + 1 + 1 + 1 + 1, 0, none⟩), .pointer (some ⟨w.heap.size, 0, none⟩), .pointer (some ⟨w.heap.size + 1, 0, none⟩), .pointer (some ⟨w.heap.size + 1 + 1 + 1 + 1, 0, none⟩), .pointer (some ⟨w.heap.size + 1 + 1, 0, none⟩)]) (by simp) (by simp [go_sem]) ?_
            refine (clox6 s a k 2 6 (by omega) w).mono ?_
            rintro e u' w' ⟨rfl, rfl, rfl⟩
            show Leaves Try.prog _ _ _ [] FrameMode.returning _
            refine ⟨.tuple #[.agg #[.int .u8 0, .string ⟨#[]⟩, .int .i64 0], .int .i64 6], by simp [results, go_sem], ⟨_, _, _, HTX.out, .inr ⟨by omega, rfl⟩⟩, ?_⟩
            repeat (first | exact Below.refl _ _ | refine Below.drew ?_ | refine Below.alloc ?_ (by simp; try omega) _)
          · have HTX := Lib.hid (HT.out.trans (by rw [if_neg (by omega), if_pos hw]))
            clear HT hw
            go_wp2_with (first | (go_at_call 24; refine (word_any _ _).mono ?_; rintro e w' ⟨rfl, rfl⟩; rw [HW.out]))
            go_region
            go_wp2
            refine leaves_cons (f := 32) (args := #[.pointer (some ⟨w.heap.size + 1 + 1 + 1, 0, none⟩), .pointer (some ⟨w.heap.size + 1 + 1 + 1 + 1 + 1, 0, none⟩), .pointer (some ⟨w.heap.size, 0, none⟩), .pointer (some ⟨w.heap.size + 1, 0, none⟩), .pointer (some ⟨w.heap.size + 1 + 1 + 1 + 1, 0, none⟩), .pointer (some ⟨w.heap.size + 1 + 1, 0, none⟩)]) (by simp) (by simp [go_sem]) ?_
            refine (clox0 s a k 2 (by omega) (by omega) hs w).mono ?_
            rintro e u' w' ⟨rfl, rfl, hb', x0, x1, x2, y0⟩
            show Leaves Try.prog _ _ _ [] FrameMode.returning w'
            refine ⟨.tuple #[.agg #[.int .u8 2, .string (s.extract a k), .int .i64 a], .int .i64 0], by simp [results, x0, x1, x2, y0, go_sem], ⟨_, _, _, HTX.out, .inl ⟨rfl, by rw [show a + 1 + (k - (a + 1)) = k by omega]⟩⟩, hb'⟩
        · have HW := Lib.hid (show wordL (s.extract a k).toList = false by simpa using hw)
          by_cases h16 : (16 : Int) < (k : Int) - a
          · have HTX := Lib.hid (HT.out.trans (by rw [if_pos (by omega)]))
            clear HT hw
            go_wp2_with (first | (go_at_call 24; refine (word_any _ _).mono ?_; rintro e w' ⟨rfl, rfl⟩; rw [HW.out]))
            go_region
            go_wp2
            refine leaves_cons (f := 32) (args := #[.pointer (some ⟨w.heap.size + 1 + 1 + 1, 0, none⟩), .pointer (some ⟨w.heap.size + 1 + 1 + 1 + 1 + 1, 0, none⟩), .pointer (some ⟨w.heap.size, 0, none⟩), .pointer (some ⟨w.heap.size + 1, 0, none⟩), .pointer (some ⟨w.heap.size + 1 + 1 + 1 + 1, 0, none⟩), .pointer (some ⟨w.heap.size + 1 + 1, 0, none⟩)]) (by simp) (by simp [go_sem]) ?_
            refine (clox6 s a k 1 6 (by omega) w).mono ?_
            rintro e u' w' ⟨rfl, rfl, rfl⟩
            show Leaves Try.prog _ _ _ [] FrameMode.returning _
            refine ⟨.tuple #[.agg #[.int .u8 0, .string ⟨#[]⟩, .int .i64 0], .int .i64 6], by simp [results, go_sem], ⟨_, _, _, HTX.out, .inr ⟨by omega, rfl⟩⟩, ?_⟩
            repeat (first | exact Below.refl _ _ | refine Below.drew ?_ | refine Below.alloc ?_ (by simp; try omega) _)
          · have HTX := Lib.hid (HT.out.trans (by rw [if_neg (by omega), if_neg hw]))
            clear HT hw
            go_wp2_with (first | (go_at_call 24; refine (word_any _ _).mono ?_; rintro e w' ⟨rfl, rfl⟩; rw [HW.out]))
            go_region
            go_wp2
            refine leaves_cons (f := 32) (args := #[.pointer (some ⟨w.heap.size + 1 + 1 + 1, 0, none⟩), .pointer (some ⟨w.heap.size + 1 + 1 + 1 + 1 + 1, 0, none⟩), .pointer (some ⟨w.heap.size, 0, none⟩), .pointer (some ⟨w.heap.size + 1, 0, none⟩), .pointer (some ⟨w.heap.size + 1 + 1 + 1 + 1, 0, none⟩), .pointer (some ⟨w.heap.size + 1 + 1, 0, none⟩)]) (by simp) (by simp [go_sem]) ?_
            refine (clox0 s a k 1 (by omega) (by omega) hs w).mono ?_
            rintro e u' w' ⟨rfl, rfl, hb', x0, x1, x2, y0⟩
            show Leaves Try.prog _ _ _ [] FrameMode.returning w'
            refine ⟨.tuple #[.agg #[.int .u8 1, .string (s.extract a k), .int .i64 a], .int .i64 0], by simp [results, x0, x1, x2, y0, go_sem], ⟨_, _, _, HTX.out, .inl ⟨rfl, by rw [show a + 1 + (k - (a + 1)) = k by omega]⟩⟩, hb'⟩
set_option maxHeartbeats 8000000 in
theorem nextx0 (s : ByteArray) (a : Nat) (ha : a < s.size) (hs : s.size ≤ 4096) (h3 : ¬ clsN ((s[a].toNat : Nat) : Int) = 3) (h4 : ¬ clsN ((s[a].toNat : Nat) : Int) = 4) (h2 : ¬ clsN ((s[a].toNat : Nat) : Int) = 2) (w : World) :
    Calls Try.prog 22 #[.string s, .int .i64 a] w fun e w' => nextP s a ha e ∧ Below w.heap.size w w' := by
  have HT := Lib.hid (show tokL s[a] (s.toList.drop (a + 1)) = (0, 0, 5) by unfold tokL; rw [if_neg h3, if_neg h4, if_neg h2])
  have hb : (0 : Int) ≤ ((s[a].toNat : Nat) : Int) ∧ ((s[a].toNat : Nat) : Int) ≤ 255 := by have := s[a].toNat_lt; omega
  have k3 : (clsN ((s[a].toNat : Nat) : Int) == 3) = false := by simpa using h3
  have k4 : (clsN ((s[a].toNat : Nat) : Int) == 4) = false := by simpa using h4
  have k2 : (clsN ((s[a].toNat : Nat) : Int) == 2) = false := by simpa using h2
  clear h3 h4 h2
  have z0 : (0 : Int) ≤ (a : Int) := by omega
  have z1 : (a : Int) < (s.size : Int) := by omega
  go_enter_defers Try.func22, Try.ntmps22
  go_wp2_with (go_at_call 21; refine (class_any _ hb.1 hb.2 _).mono ?_; rintro e w' ⟨rfl, rfl⟩)
  go_region
  go_wp2
  refine leaves_cons (f := 32) (args := #[.pointer (some ⟨w.heap.size + 1 + 1 + 1, 0, none⟩), .pointer (some ⟨w.heap.size + 1 + 1 + 1 + 1 + 1, 0, none⟩), .pointer (some ⟨w.heap.size, 0, none⟩), .pointer (some ⟨w.heap.size + 1, 0, none⟩), .pointer (some ⟨w.heap.size + 1 + 1 + 1 + 1, 0, none⟩), .pointer (some ⟨w.heap.size + 1 + 1, 0, none⟩)]) (by simp) (by simp [go_sem]) ?_
  refine (clox6 s a (a + 1) 3 5 (by omega) w).mono ?_
  rintro e u' w' ⟨rfl, rfl, rfl⟩
  show Leaves Try.prog _ _ _ [] FrameMode.returning _
  refine ⟨.tuple #[.agg #[.int .u8 0, .string ⟨#[]⟩, .int .i64 0], .int .i64 5], by simp [results, go_sem], ⟨_, _, _, HT.out, .inr ⟨by omega, rfl⟩⟩, ?_⟩
  repeat (first | exact Below.refl _ _ | refine Below.drew ?_ | refine Below.alloc ?_ (by simp; try omega) _)
theorem nextx (s : ByteArray) (a : Nat) (ha : a < s.size) (hs : s.size ≤ 4096) (w : World) :
    Calls Try.prog 22 #[.string s, .int .i64 a] w fun e w' => nextP s a ha e ∧ Below w.heap.size w w' := by
  by_cases h3 : clsN ((s[a].toNat : Nat) : Int) = 3
  · refine (nextx3 s a ha hs h3 w).mono ?_
    rintro e w' ⟨rfl, hb⟩
    exact ⟨⟨3, 0, 0, by unfold tokL; rw [if_pos h3], .inl ⟨rfl, rfl⟩⟩, hb⟩
  by_cases h4 : clsN ((s[a].toNat : Nat) : Int) = 4
  · have hd : ∀ h : a + 1 < s.size, (s.toList.drop (a + 1)).head? = some s[a + 1] := by
      intro h; rw [list_at h]; rfl
    by_cases h1 : a + 1 < s.size
    · by_cases h2 : ((s[a + 1].toNat : Nat) : Int) = 62
      · refine (nextx4c s a ha hs h4 h1 h2 w).mono ?_
        rintro e w' ⟨rfl, hb⟩
        refine ⟨⟨3, 1, 0, ?_, .inl ⟨rfl, rfl⟩⟩, hb⟩
        unfold tokL
        rw [if_neg h3, if_pos h4, hd h1, if_pos]
        congr 1
        apply UInt8.toNat_inj.1
        have : (s[a + 1].toNat : Nat) = 62 := by omega
        rw [this]; rfl
      · refine (nextx4b s a ha hs h4 h1 h2 w).mono ?_
        rintro e w' ⟨rfl, hb⟩
        refine ⟨⟨3, 0, 0, ?_, .inl ⟨rfl, rfl⟩⟩, hb⟩
        unfold tokL
        rw [if_neg h3, if_pos h4, hd h1, if_neg]
        intro e
        rw [Option.some.inj e] at h2
        exact absurd rfl h2
    · refine (nextx4a s a ha hs h4 h1 w).mono ?_
      rintro e w' ⟨rfl, hb⟩
      refine ⟨⟨3, 0, 0, ?_, .inl ⟨rfl, rfl⟩⟩, hb⟩
      have hl : s.toList.length = s.size := by rw [ByteArray.toList_eq]; simp
      unfold tokL
      rw [if_neg h3, if_pos h4, List.drop_of_length_le (by omega), if_neg (by simp)]
  by_cases h2 : clsN ((s[a].toNat : Nat) : Int) = 2
  · exact nextx2 s a ha hs h2 w
  · exact nextx0 s a ha hs h3 h4 h2 w
end Go.Proofs.Ytbmflenlbbgjiaa
