/-
  LexersCheck: Check, for any token with a text of at most 300 bytes.
-/
import Derived.Test.YtbmflenlbbgjiaaCh
import Derived.Test.YtbmflenlbbgjiaaZ
namespace Go.Proofs.Ytbmflenlbbgjiaa
open Go.RowKit
set_option linter.unusedVariables false
set_option linter.unusedSimpArgs false
theorem bytes_inj {t s : ByteArray} : t = s ↔ t.toList = s.toList := by
  constructor
  · rintro rfl; rfl
  · intro h
    rw [ByteArray.toList_eq, ByteArray.toList_eq] at h
    exact ByteArray.ext (Array.ext' h)
theorem word_kind {l : List UInt8} (h : wordL l = true) : kindL l = 2 := by
  have hs : l ∉ sgns := by
    unfold wordL at h
    simp only [Bool.or_eq_true, decide_eq_true_eq] at h
    rcases h with (rfl | rfl) | rfl <;> decide +kernel
  unfold kindL
  rw [if_neg hs, if_pos h]
theorem check_out (k a : Int) (s : ByteArray) (hk : k < 1 ∨ 3 < k) (w : World) :
    Calls Try.prog 12 #[.agg #[.int .u8 k, .string s, .int .i64 a]] w fun e w' => e = .returned (.int .i64 (chkL k s.toList)) ∧ Below w.heap.size w w' := by
  have HV := Lib.hid (show chkL k s.toList = 10 by unfold chkL; rw [if_pos hk])
  rcases hk with hk | hk
  · have h2 : ¬ 3 < k := by omega
    go_enter Try.func12, Try.ntmps12
    go_wp2
    go_ret
    exact ⟨by (rw [HV.out]; try rfl), by repeat (first | exact Below.refl _ _ | refine Below.drew ?_ | refine Below.alloc ?_ (by simp; try omega) _)⟩
  · have h2 : ¬ k < 1 := by omega
    go_enter Try.func12, Try.ntmps12
    go_wp2
    go_ret
    exact ⟨by (rw [HV.out]; try rfl), by repeat (first | exact Below.refl _ _ | refine Below.drew ?_ | refine Below.alloc ?_ (by simp; try omega) _)⟩
theorem check_empty (k a : Int) (h1 : 1 ≤ k) (h3 : k ≤ 3) (w : World) :
    Calls Try.prog 12 #[.agg #[.int .u8 k, .string ⟨#[]⟩, .int .i64 a]] w fun e w' => e = .returned (.int .i64 (chkL k [])) ∧ Below w.heap.size w w' := by
  obtain rfl | rfl | rfl : k = 1 ∨ k = 2 ∨ k = 3 := by omega
  all_goals
    go_enter Try.func12, Try.ntmps12
    go_wp2
    go_ret
    exact ⟨by rfl, by repeat (first | exact Below.refl _ _ | refine Below.drew ?_ | refine Below.alloc ?_ (by simp; try omega) _)⟩
set_option maxHeartbeats 4000000 in
theorem check_some (k a : Int) (s : ByteArray) (h1 : 1 ≤ k) (h3 : k ≤ 3) (h0 : 0 < s.size) (hs : s.size ≤ 300) (hw : k = 2 → wordL s.toList = false) (w : World) :
    Calls Try.prog 12 #[.agg #[.int .u8 k, .string s, .int .i64 a]] w fun e w' => e = .returned (.int .i64 (chkL k s.toList)) ∧ Below w.heap.size w w' := by
  have hb : (0 : Int) ≤ ((s[0].toNat : Nat) : Int) ∧ ((s[0].toNat : Nat) : Int) ≤ 255 := by have := s[0].toNat_lt; omega
  have hne : s.toList.isEmpty = false := by obtain ⟨l, hl, -⟩ := list_cons h0; rw [hl]; rfl
  have hc := (cls_cases s[0]).2.2.2.2
  by_cases c0 : clsN ((s[0].toNat : Nat) : Int) = 0
  · have HV := Lib.hid (show chkL k s.toList = if k = 1 then 6 else 5 by
      obtain ⟨l, hl, -⟩ := list_cons h0
      rw [chk_ok h1 h3, hl, kind_01 (.inl c0), if_neg (by omega)])
    have HC := Lib.hid c0
    clear c0 hc
    obtain rfl | rfl | rfl : k = 1 ∨ k = 2 ∨ k = 3 := by omega
    all_goals
      try (have HW := Lib.hid (hw rfl))
      clear hw
      go_enter Try.func12, Try.ntmps12
      go_wp2_with (first | (go_at_call 21; refine (class_any _ hb.1 hb.2 _).mono ?_; rintro e w' ⟨rfl, rfl⟩; rw [HC.out]) | (go_at_call 24; refine (word_any _ _).mono ?_; rintro e w' ⟨rfl, rfl⟩; rw [HW.out]))
      go_ret
      exact ⟨by (rw [HV.out]; try rfl), by repeat (first | exact Below.refl _ _ | refine Below.drew ?_ | refine Below.alloc ?_ (by simp; try omega) _)⟩
  by_cases c1 : clsN ((s[0].toNat : Nat) : Int) = 1
  · have HV := Lib.hid (show chkL k s.toList = if k = 1 then 6 else 5 by
      obtain ⟨l, hl, -⟩ := list_cons h0
      rw [chk_ok h1 h3, hl, kind_01 (.inr c1), if_neg (by omega)])
    have HC := Lib.hid c1
    clear c0 c1 hc
    obtain rfl | rfl | rfl : k = 1 ∨ k = 2 ∨ k = 3 := by omega
    all_goals
      try (have HW := Lib.hid (hw rfl))
      clear hw
      go_enter Try.func12, Try.ntmps12
      go_wp2_with (first | (go_at_call 21; refine (class_any _ hb.1 hb.2 _).mono ?_; rintro e w' ⟨rfl, rfl⟩; rw [HC.out]) | (go_at_call 24; refine (word_any _ _).mono ?_; rintro e w' ⟨rfl, rfl⟩; rw [HW.out]))
      go_ret
      exact ⟨by (rw [HV.out]; try rfl), by repeat (first | exact Below.refl _ _ | refine Below.drew ?_ | refine Below.alloc ?_ (by simp; try omega) _)⟩
  have HN := Lib.hid (show ¬ (clsN ((s[0].toNat : Nat) : Int) = 0 ∨ clsN ((s[0].toNat : Nat) : Int) = 1) by omega)
  have d0 : (clsN ((s[0].toNat : Nat) : Int) == 0) = false := by simpa using c0
  have d1 : (clsN ((s[0].toNat : Nat) : Int) == 1) = false := by simpa using c1
  clear c0 c1 hc
  obtain rfl | rfl | rfl : k = 1 ∨ k = 2 ∨ k = 3 := by omega
  all_goals
    try (have HW := Lib.hid (hw rfl))
    clear hw
    go_enter Try.func12, Try.ntmps12
    go_wp2_with (first | (go_at_call 21; refine (class_any _ hb.1 hb.2 _).mono ?_; rintro e w' ⟨rfl, rfl⟩) | (go_at_call 24; refine (word_any _ _).mono ?_; rintro e w' ⟨rfl, rfl⟩; rw [HW.out]) | fail)
    refine (next_any s h0 hs HN.out _).mono ?_
    rintro e w1 ⟨⟨q, t, er, rfl, ht⟩, hb1⟩
    have B1 := heap_below_keep hb1 (heap_alloc_new w _)
    have b0 := cell_of_block (i := 0) B1 rfl
    have b1 := cell_of_block (i := 1) B1 rfl
    have b2 := cell_of_block (i := 2) B1 rfl
    have lb1 := lt_of_block B1
    have hb2 : Below w.heap.size w w1 := bstep ((Below.refl w.heap.size w).alloc (Nat.le_refl _) _) hb1
    have HT := Lib.hid (ht _ h1 h3)
    clear ht hb1 B1 d0 d1 hne
    go_wp2
    all_goals
      go_ret
      refine ⟨?_, ?_⟩
      · rw [HT.out]; simp_all [bytes_inj]
      · repeat (first | (with_reducible exact hb2) | (with_reducible refine balloc ?_ _) | (with_reducible refine bdrew ?_))
theorem check_word (a : Int) (s : ByteArray) (hw : wordL s.toList = true) (w : World) :
    Calls Try.prog 12 #[.agg #[.int .u8 2, .string s, .int .i64 a]] w fun e w' => e = .returned (.int .i64 (chkL 2 s.toList)) ∧ Below w.heap.size w w' := by
  have HV := Lib.hid (show chkL 2 s.toList = 0 by unfold chkL; rw [if_neg (by omega), if_pos (word_kind hw).symm])
  have HW := Lib.hid hw
  clear hw
  go_enter Try.func12, Try.ntmps12
  go_wp2_with (go_at_call 24; refine (word_any _ _).mono ?_; rintro e w' ⟨rfl, rfl⟩; rw [HW.out])
  go_ret
  exact ⟨by (rw [HV.out]; try rfl), by repeat (first | exact Below.refl _ _ | refine Below.drew ?_ | refine Below.alloc ?_ (by simp; try omega) _)⟩
theorem check_any (k a : Int) (s : ByteArray) (hs : s.size ≤ 300) (w : World) :
    Calls Try.prog 12 #[.agg #[.int .u8 k, .string s, .int .i64 a]] w fun e w' => e = .returned (.int .i64 (chkL k s.toList)) ∧ Below w.heap.size w w' := by
  by_cases hk : k < 1 ∨ 3 < k
  · exact check_out k a s hk w
  · have h1 : 1 ≤ k := by omega
    have h3 : k ≤ 3 := by omega
    by_cases h0 : s.size = 0
    · obtain rfl : s = ⟨#[]⟩ := by
        apply ByteArray.ext
        exact Array.eq_empty_of_size_eq_zero h0
      rw [show (⟨#[]⟩ : ByteArray).toList = [] by rw [ByteArray.toList_eq]]
      exact check_empty k a h1 h3 w
    · by_cases hw : k = 2 ∧ wordL s.toList = true
      · obtain ⟨rfl, hw⟩ := hw
        exact check_word a s hw w
      · exact check_some k a s h1 h3 (by omega) hs (fun e => by
          cases h : wordL s.toList
          · rfl
          · exact absurd ⟨e, h⟩ hw) w
end Go.Proofs.Ytbmflenlbbgjiaa
