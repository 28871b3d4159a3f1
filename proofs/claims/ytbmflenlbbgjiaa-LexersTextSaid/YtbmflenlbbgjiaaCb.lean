/-
  LexersCheck: words, signs, and what a text is as a whole.
-/
import Derived.Test.YtbmflenlbbgjiaaCa
import Derived.Test.YtbmflenlbbgjiaaPa
namespace Go.Proofs.Ytbmflenlbbgjiaa
open Go.RowKit
set_option linter.unusedVariables false
set_option linter.unusedSimpArgs false
def wNs : List UInt8 := [110, 97, 109, 101, 115, 112, 97, 99, 101]
def wRel : List UInt8 := [114, 101, 108, 97, 116, 105, 111, 110]
def wThis : List UInt8 := [116, 104, 105, 115]
def wordL (l : List UInt8) : Bool := decide (l = wNs) || decide (l = wRel) || decide (l = wThis)
def sgns : List (List UInt8) := [[123], [125], [91], [93], [40], [41], [58], [44], [59], [61], [124], [38], [35], [45], [45, 62]]
def letU (c : UInt8) : Bool := letB (c.toNat : Nat)
def kindL (l : List UInt8) : Int := if l ∈ sgns then 3 else if wordL l = true then 2 else if l.all letU = true ∧ 1 ≤ l.length ∧ l.length ≤ 16 then 1 else 0
set_option maxHeartbeats 4000000 in
theorem word_any (s : ByteArray) (w : World) :
    Calls Try.prog 24 #[.string s] w fun e w' => e = .returned (.bool (wordL s.toList)) ∧ w' = w := by
  unfold wordL wNs wRel wThis
  by_cases c1 : s.toList = [110, 97, 109, 101, 115, 112, 97, 99, 101] <;> by_cases c2 : s.toList = [114, 101, 108, 97, 116, 105, 111, 110] <;> by_cases c3 : s.toList = [116, 104, 105, 115] <;>
    (go_enter Try.func24, Try.ntmps24
     go_wp2
     go_ret
     simp_all)
/-- none of the first signs -/
def notYet (s : ByteArray) (k : Nat) : Prop := ∀ l ∈ sgns.take k, s.toList ≠ l
theorem notYet_all {s : ByteArray} (h : notYet s 15) : s.toList ∉ sgns := fun hm => h _ hm rfl
theorem notYet_succ {s : ByteArray} {k : Nat} (h : notYet s k) {l : List UInt8} (hl : sgns[k]? = some l) (hn : ¬ s.toList = l) : notYet s (k + 1) := by
  intro m hm
  rw [List.take_add_one, hl] at hm
  simp only [Option.toList_some, List.mem_append, List.mem_singleton] at hm
  rcases hm with hm | rfl
  · exact h m hm
  · exact hn
theorem kind_sgn {s : ByteArray} {k : Nat} {l : List UInt8} (hl : sgns[k]? = some l) (h : s.toList = l) : kindL s.toList = 3 := by
  unfold kindL
  rw [if_pos (by rw [h]; exact List.mem_of_getElem? hl)]
/-- the letters up to an offset -/
def letsTo (s : ByteArray) (k : Nat) : Prop := (s.toList.take k).all letU = true
theorem lets_succ {s : ByteArray} {k : Nat} (h : letsTo s k) (hk : k < s.size) (hl : letB ((s[k].toNat : Nat) : Int) = true) : letsTo s (k + 1) := by
  unfold letsTo at h ⊢
  rw [ByteArray.toList_eq] at h ⊢
  rw [take_succ' s k hk, List.all_append, h]
  simpa [letU] using hl
theorem lets_all {s : ByteArray} (h : letsTo s s.size) : s.toList.all letU = true := by
  unfold letsTo at h
  rw [List.take_of_length_le (by rw [ByteArray.toList_eq]; simp)] at h
  exact h
theorem kind_miss {s : ByteArray} {k : Nat} (hk : k < s.size) (hl : letB ((s[k].toNat : Nat) : Int) = false) : ¬ (s.toList.all letU = true ∧ 1 ≤ s.toList.length ∧ s.toList.length ≤ 16) := by
  rintro ⟨h, -⟩
  rw [ByteArray.toList_eq, List.all_eq_true] at h
  have hm : s[k] ∈ s.data.toList := by
    show s.data[k] ∈ s.data.toList
    simp
  have := h _ hm
  unfold letU at this
  rw [hl] at this
  cases this
set_option maxHeartbeats 8000000 in
theorem kind_any (s : ByteArray) (hs : s.size ≤ 300) (w : World) :
    Calls Try.prog 17 #[.string s] w fun e w' => e = .returned (.int .i64 (kindL s.toList)) ∧ Below w.heap.size w w' := by
  go_enter Try.func17, Try.ntmps17
  go_wp2
  go_loop [4] (fun i => ∃ k : Nat, k ≤ 15 ∧ i = .int .i64 k ∧ Hid (notYet s k)) (fun i => 15 - (intOf i).toNat)
  case atStart => exact ⟨0, by omega, rfl, Lib.hid (show notYet s 0 from fun l hl => by rw [List.take_zero] at hl; cases hl)⟩
  case round =>
    obtain ⟨k, hk, rfl, hn⟩ := hrel
    have hk' : k = 0 ∨ k = 1 ∨ k = 2 ∨ k = 3 ∨ k = 4 ∨ k = 5 ∨ k = 6 ∨ k = 7 ∨ k = 8 ∨ k = 9 ∨ k = 10 ∨ k = 11 ∨ k = 12 ∨ k = 13 ∨ k = 14 ∨ k = 15 := by omega
    rcases hk' with rfl | rfl | rfl | rfl | rfl | rfl | rfl | rfl | rfl | rfl | rfl | rfl | rfl | rfl | rfl | rfl
    · go_wp2
      · have hc : s.toList = [123] := by first | assumption | simpa using ‹(s.toList == [123]) = true›
        have hv := kind_sgn (k := 0) rfl hc
        go_ret
        exact ⟨by (rw [hv]; try rfl), (Below.refl _ _).alloc (Nat.le_refl _) _⟩
      · rename_i hc
        have hv := Lib.hid (notYet_succ hn.out (k := 0) (l := [123]) rfl (by simpa using hc))
        clear hn
        go_round
        case rel => exact ⟨1, by omega, rfl, hv⟩
        case measure => simp [intOf]
    · go_wp2
      · have hc : s.toList = [125] := by first | assumption | simpa using ‹(s.toList == [125]) = true›
        have hv := kind_sgn (k := 1) rfl hc
        go_ret
        exact ⟨by (rw [hv]; try rfl), (Below.refl _ _).alloc (Nat.le_refl _) _⟩
      · rename_i hc
        have hv := Lib.hid (notYet_succ hn.out (k := 1) (l := [125]) rfl (by simpa using hc))
        clear hn
        go_round
        case rel => exact ⟨2, by omega, rfl, hv⟩
        case measure => simp [intOf]
    · go_wp2
      · have hc : s.toList = [91] := by first | assumption | simpa using ‹(s.toList == [91]) = true›
        have hv := kind_sgn (k := 2) rfl hc
        go_ret
        exact ⟨by (rw [hv]; try rfl), (Below.refl _ _).alloc (Nat.le_refl _) _⟩
      · rename_i hc
        have hv := Lib.hid (notYet_succ hn.out (k := 2) (l := [91]) rfl (by simpa using hc))
        clear hn
        go_round
        case rel => exact ⟨3, by omega, rfl, hv⟩
        case measure => simp [intOf]
    · go_wp2
      · have hc : s.toList = [93] := by first | assumption | simpa using ‹(s.toList == [93]) = true›
        have hv := kind_sgn (k := 3) rfl hc
        go_ret
        exact ⟨by (rw [hv]; try rfl), (Below.refl _ _).alloc (Nat.le_refl _) _⟩
      · rename_i hc
        have hv := Lib.hid (notYet_succ hn.out (k := 3) (l := [93]) rfl (by simpa using hc))
        clear hn
        go_round
        case rel => exact ⟨4, by omega, rfl, hv⟩
        case measure => simp [intOf]
    · go_wp2
      · have hc : s.toList = [40] := by first | assumption | simpa using ‹(s.toList == [40]) = true›
        have hv := kind_sgn (k := 4) rfl hc
        go_ret
        exact ⟨by (rw [hv]; try rfl), (Below.refl _ _).alloc (Nat.le_refl _) _⟩
      · rename_i hc
        have hv := Lib.hid (notYet_succ hn.out (k := 4) (l := [40]) rfl (by simpa using hc))
        clear hn
        go_round
        case rel => exact ⟨5, by omega, rfl, hv⟩
        case measure => simp [intOf]
    · go_wp2
      · have hc : s.toList = [41] := by first | assumption | simpa using ‹(s.toList == [41]) = true›
        have hv := kind_sgn (k := 5) rfl hc
        go_ret
        exact ⟨by (rw [hv]; try rfl), (Below.refl _ _).alloc (Nat.le_refl _) _⟩
      · rename_i hc
        have hv := Lib.hid (notYet_succ hn.out (k := 5) (l := [41]) rfl (by simpa using hc))
        clear hn
        go_round
        case rel => exact ⟨6, by omega, rfl, hv⟩
        case measure => simp [intOf]
    · go_wp2
      · have hc : s.toList = [58] := by first | assumption | simpa using ‹(s.toList == [58]) = true›
        have hv := kind_sgn (k := 6) rfl hc
        go_ret
        exact ⟨by (rw [hv]; try rfl), (Below.refl _ _).alloc (Nat.le_refl _) _⟩
      · rename_i hc
        have hv := Lib.hid (notYet_succ hn.out (k := 6) (l := [58]) rfl (by simpa using hc))
        clear hn
        go_round
        case rel => exact ⟨7, by omega, rfl, hv⟩
        case measure => simp [intOf]
    · go_wp2
      · have hc : s.toList = [44] := by first | assumption | simpa using ‹(s.toList == [44]) = true›
        have hv := kind_sgn (k := 7) rfl hc
        go_ret
        exact ⟨by (rw [hv]; try rfl), (Below.refl _ _).alloc (Nat.le_refl _) _⟩
      · rename_i hc
        have hv := Lib.hid (notYet_succ hn.out (k := 7) (l := [44]) rfl (by simpa using hc))
        clear hn
        go_round
        case rel => exact ⟨8, by omega, rfl, hv⟩
        case measure => simp [intOf]
    · go_wp2
      · have hc : s.toList = [59] := by first | assumption | simpa using ‹(s.toList == [59]) = true›
        have hv := kind_sgn (k := 8) rfl hc
        go_ret
        exact ⟨by (rw [hv]; try rfl), (Below.refl _ _).alloc (Nat.le_refl _) _⟩
      · rename_i hc
        have hv := Lib.hid (notYet_succ hn.out (k := 8) (l := [59]) rfl (by simpa using hc))
        clear hn
        go_round
        case rel => exact ⟨9, by omega, rfl, hv⟩
        case measure => simp [intOf]
    · go_wp2
      · have hc : s.toList = [61] := by first | assumption | simpa using ‹(s.toList == [61]) = true›
        have hv := kind_sgn (k := 9) rfl hc
        go_ret
        exact ⟨by (rw [hv]; try rfl), (Below.refl _ _).alloc (Nat.le_refl _) _⟩
      · rename_i hc
        have hv := Lib.hid (notYet_succ hn.out (k := 9) (l := [61]) rfl (by simpa using hc))
        clear hn
        go_round
        case rel => exact ⟨10, by omega, rfl, hv⟩
        case measure => simp [intOf]
    · go_wp2
      · have hc : s.toList = [124] := by first | assumption | simpa using ‹(s.toList == [124]) = true›
        have hv := kind_sgn (k := 10) rfl hc
        go_ret
        exact ⟨by (rw [hv]; try rfl), (Below.refl _ _).alloc (Nat.le_refl _) _⟩
      · rename_i hc
        have hv := Lib.hid (notYet_succ hn.out (k := 10) (l := [124]) rfl (by simpa using hc))
        clear hn
        go_round
        case rel => exact ⟨11, by omega, rfl, hv⟩
        case measure => simp [intOf]
    · go_wp2
      · have hc : s.toList = [38] := by first | assumption | simpa using ‹(s.toList == [38]) = true›
        have hv := kind_sgn (k := 11) rfl hc
        go_ret
        exact ⟨by (rw [hv]; try rfl), (Below.refl _ _).alloc (Nat.le_refl _) _⟩
      · rename_i hc
        have hv := Lib.hid (notYet_succ hn.out (k := 11) (l := [38]) rfl (by simpa using hc))
        clear hn
        go_round
        case rel => exact ⟨12, by omega, rfl, hv⟩
        case measure => simp [intOf]
    · go_wp2
      · have hc : s.toList = [35] := by first | assumption | simpa using ‹(s.toList == [35]) = true›
        have hv := kind_sgn (k := 12) rfl hc
        go_ret
        exact ⟨by (rw [hv]; try rfl), (Below.refl _ _).alloc (Nat.le_refl _) _⟩
      · rename_i hc
        have hv := Lib.hid (notYet_succ hn.out (k := 12) (l := [35]) rfl (by simpa using hc))
        clear hn
        go_round
        case rel => exact ⟨13, by omega, rfl, hv⟩
        case measure => simp [intOf]
    · go_wp2
      · have hc : s.toList = [45] := by first | assumption | simpa using ‹(s.toList == [45]) = true›
        have hv := kind_sgn (k := 13) rfl hc
        go_ret
        exact ⟨by (rw [hv]; try rfl), (Below.refl _ _).alloc (Nat.le_refl _) _⟩
      · rename_i hc
        have hv := Lib.hid (notYet_succ hn.out (k := 13) (l := [45]) rfl (by simpa using hc))
        clear hn
        go_round
        case rel => exact ⟨14, by omega, rfl, hv⟩
        case measure => simp [intOf]
    · go_wp2
      · have hc : s.toList = [45, 62] := by first | assumption | simpa using ‹(s.toList == [45, 62]) = true›
        have hv := kind_sgn (k := 14) rfl hc
        go_ret
        exact ⟨by (rw [hv]; try rfl), (Below.refl _ _).alloc (Nat.le_refl _) _⟩
      · rename_i hc
        have hv := Lib.hid (notYet_succ hn.out (k := 14) (l := [45, 62]) rfl (by simpa using hc))
        clear hn
        go_round
        case rel => exact ⟨15, by omega, rfl, hv⟩
        case measure => simp [intOf]
    · have hns := notYet_all hn.out
      have HS := Lib.hid hns
      clear hn hns
      by_cases c1 : s.toList = [110, 97, 109, 101, 115, 112, 97, 99, 101]
      · have HV := Lib.hid (show kindL s.toList = 2 by unfold kindL; rw [if_neg HS.out, if_pos (by rw [c1]; rfl)])
        go_wp2
        go_ret
        exact ⟨by first | rfl | (rw [HV.out]; rfl), (Below.refl _ _).alloc (Nat.le_refl _) _⟩
      by_cases c2 : s.toList = [114, 101, 108, 97, 116, 105, 111, 110]
      · have HV := Lib.hid (show kindL s.toList = 2 by unfold kindL; rw [if_neg HS.out, if_pos (by rw [c2]; rfl)])
        go_wp2
        go_ret
        exact ⟨by first | rfl | (rw [HV.out]; rfl), (Below.refl _ _).alloc (Nat.le_refl _) _⟩
      go_wp2
      · have h := ‹((s.toList == [110, 97, 109, 101, 115, 112, 97, 99, 101]) = true ∨ (s.toList == [114, 101, 108, 97, 116, 105, 111, 110]) = true) ∨ (s.toList == [116, 104, 105, 115]) = true›
        have hw : wordL s.toList = true := by
          unfold wordL wNs wRel wThis
          simpa using h
        have HV := Lib.hid (show kindL s.toList = 2 by unfold kindL; rw [if_neg HS.out, if_pos hw])
        go_ret
        exact ⟨by (rw [HV.out]; try rfl), (Below.refl _ _).alloc (Nat.le_refl _) _⟩
      · have h := ‹((s.toList == [110, 97, 109, 101, 115, 112, 97, 99, 101]) = false ∧ (s.toList == [114, 101, 108, 97, 116, 105, 111, 110]) = false) ∧ (s.toList == [116, 104, 105, 115]) = false›
        have hw : wordL s.toList = false := by
          unfold wordL wNs wRel wThis
          simpa using h
        have HW := Lib.hid (show kindL s.toList = if s.toList.all letU = true ∧ 1 ≤ s.toList.length ∧ s.toList.length ≤ 16 then 1 else 0 by
          unfold kindL; rw [if_neg HS.out, if_neg (by rw [hw]; simp)])
        clear hw h HS
        go_loop [5] (fun i => ∃ k : Nat, k ≤ s.size ∧ i = .int .i64 k ∧ Hid (letsTo s k)) (fun i => s.size - (intOf i).toNat)
        case atStart => exact ⟨0, by omega, rfl, Lib.hid (show letsTo s 0 by unfold letsTo; simp)⟩
        case round =>
          obtain ⟨k, hk, rfl, hn⟩ := hrel
          by_cases hlt : k < s.size
          · have hb : (0 : Int) ≤ ((s[k].toNat : Nat) : Int) ∧ ((s[k].toNat : Nat) : Int) ≤ 255 := by have := s[k].toNat_lt; omega
            go_wp2_with fail
            refine (letter_any _ hb.1 hb.2 _).mono ?_
            rintro e w' ⟨rfl, rfl⟩
            cases hl : letB ((s[k].toNat : Nat) : Int)
            · have HL := Lib.hid (kind_miss hlt hl)
              go_wp2
              go_ret
              exact ⟨by (rw [HW.out, if_neg HL.out]; try rfl), (Below.refl _ _).alloc (Nat.le_refl _) _⟩
            · have HL := Lib.hid (lets_succ hn.out hlt hl)
              clear hn
              go_wp2
              go_round
              case rel => exact ⟨k + 1, by omega, by go_num, HL⟩
              case measure => simp [intOf]; omega
          · obtain rfl : k = s.size := by omega
            have HA := Lib.hid (lets_all hn.out)
            clear hn
            by_cases c1 : (s.size : Int) < 1
            · go_wp2
              go_ret
              exact ⟨by (rw [HW.out, if_neg (by rw [ByteArray.toList_eq]; simp; omega)]; try rfl), (Below.refl _ _).alloc (Nat.le_refl _) _⟩
            · by_cases c2 : (16 : Int) < s.size
              · go_wp2
                go_ret
                exact ⟨by (rw [HW.out, if_neg (by rw [ByteArray.toList_eq]; simp; omega)]; try rfl), (Below.refl _ _).alloc (Nat.le_refl _) _⟩
              · go_wp2
                go_ret
                exact ⟨by (rw [HW.out, if_pos ⟨HA.out, by rw [ByteArray.toList_eq]; simp; omega, by rw [ByteArray.toList_eq]; simp; omega⟩]; try rfl), (Below.refl _ _).alloc (Nat.le_refl _) _⟩
end Go.Proofs.Ytbmflenlbbgjiaa
