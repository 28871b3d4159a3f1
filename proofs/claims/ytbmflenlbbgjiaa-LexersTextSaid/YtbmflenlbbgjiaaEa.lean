/-
  LexersText: the table of texts, and Of.
-/
import Derived.Test.YtbmflenlbbgjiaaDe
namespace Go.Proofs.Ytbmflenlbbgjiaa
open Go.RowKit
set_option linter.unusedVariables false
set_option linter.unusedSimpArgs false
def sgTab : List (List UInt8) := [[123], [125], [91], [93], [40], [41], [58], [44], [59], [61], [124], [38], [35], [45], [45, 62], [110, 97, 109, 101, 115, 112, 97, 99, 101], [114, 101, 108, 97, 116, 105, 111, 110], [116, 104, 105, 115], [97], [98, 50], [116, 104, 105], [116, 104, 105, 115, 120], [48], [100, 111, 99], [48, 49, 50, 51, 52, 53, 54, 55, 56, 57, 97, 98, 99, 100, 101, 102]]
def sg (n : Int) : List UInt8 := (sgTab[(n % 25).toNat]?).getD []
theorem sg_all {p : List UInt8 → Prop} (n : Int) (h0 : 0 ≤ n) (h : ∀ l ∈ sgTab, p l) : p (sg n) := by
  unfold sg
  have : (n % 25).toNat < sgTab.length := by
    show _ < 25
    omega
  rw [List.getElem?_eq_getElem this]
  exact h _ (List.getElem_mem this)
theorem sg_kind (n : Int) (h0 : 0 ≤ n) : 1 ≤ kindL (sg n) ∧ kindL (sg n) ≤ 3 := sg_all (p := fun l => 1 ≤ kindL l ∧ kindL l ≤ 3) n h0 (by decide +kernel)
theorem sg_len (n : Int) (h0 : 0 ≤ n) : 1 ≤ (sg n).length ∧ (sg n).length ≤ 16 := sg_all (p := fun l => 1 ≤ l.length ∧ l.length ≤ 16) n h0 (by decide +kernel)
set_option maxRecDepth 100000 in
set_option maxHeartbeats 8000000 in
theorem text_tab (n : Int) (h0 : 0 ≤ n) (h1 : n ≤ 255) (w : World) :
    Calls Try.prog 25 #[.int .u8 n] w fun e w' => e = .returned (.string (txt (sg n))) ∧ Below w.heap.size w w' := by
  have hc : n % 25 = 0 ∨ n % 25 = 1 ∨ n % 25 = 2 ∨ n % 25 = 3 ∨ n % 25 = 4 ∨ n % 25 = 5 ∨ n % 25 = 6 ∨ n % 25 = 7 ∨ n % 25 = 8 ∨ n % 25 = 9 ∨ n % 25 = 10 ∨ n % 25 = 11 ∨ n % 25 = 12 ∨ n % 25 = 13 ∨ n % 25 = 14 ∨ n % 25 = 15 ∨ n % 25 = 16 ∨ n % 25 = 17 ∨ n % 25 = 18 ∨ n % 25 = 19 ∨ n % 25 = 20 ∨ n % 25 = 21 ∨ n % 25 = 22 ∨ n % 25 = 23 ∨ n % 25 = 24 := by omega
  rcases hc with h | h | h | h | h | h | h | h | h | h | h | h | h | h | h | h | h | h | h | h | h | h | h | h | h
  · have HV := Lib.hid (show sg n = [123] by unfold sg; rw [h]; rfl)
    have h2 : n.tmod 25 = 0 := by rw [Int.tmod_eq_emod_of_nonneg h0]; exact h
    go_enter Try.func25, Try.ntmps25
    go_wp2
    go_ret
    exact ⟨by (rw [HV.out]; try rfl), balloc (Below.refl _ _) _⟩
  · have HV := Lib.hid (show sg n = [125] by unfold sg; rw [h]; rfl)
    have h2 : n.tmod 25 = 1 := by rw [Int.tmod_eq_emod_of_nonneg h0]; exact h
    go_enter Try.func25, Try.ntmps25
    go_wp2
    go_ret
    exact ⟨by (rw [HV.out]; try rfl), balloc (Below.refl _ _) _⟩
  · have HV := Lib.hid (show sg n = [91] by unfold sg; rw [h]; rfl)
    have h2 : n.tmod 25 = 2 := by rw [Int.tmod_eq_emod_of_nonneg h0]; exact h
    go_enter Try.func25, Try.ntmps25
    go_wp2
    go_ret
    exact ⟨by (rw [HV.out]; try rfl), balloc (Below.refl _ _) _⟩
  · have HV := Lib.hid (show sg n = [93] by unfold sg; rw [h]; rfl)
    have h2 : n.tmod 25 = 3 := by rw [Int.tmod_eq_emod_of_nonneg h0]; exact h
    go_enter Try.func25, Try.ntmps25
    go_wp2
    go_ret
    exact ⟨by (rw [HV.out]; try rfl), balloc (Below.refl _ _) _⟩
  · have HV := Lib.hid (show sg n = [40] by unfold sg; rw [h]; rfl)
    have h2 : n.tmod 25 = 4 := by rw [Int.tmod_eq_emod_of_nonneg h0]; exact h
    go_enter Try.func25, Try.ntmps25
    go_wp2
    go_ret
    exact ⟨by (rw [HV.out]; try rfl), balloc (Below.refl _ _) _⟩
  · have HV := Lib.hid (show sg n = [41] by unfold sg; rw [h]; rfl)
    have h2 : n.tmod 25 = 5 := by rw [Int.tmod_eq_emod_of_nonneg h0]; exact h
    go_enter Try.func25, Try.ntmps25
    go_wp2
    go_ret
    exact ⟨by (rw [HV.out]; try rfl), balloc (Below.refl _ _) _⟩
  · have HV := Lib.hid (show sg n = [58] by unfold sg; rw [h]; rfl)
    have h2 : n.tmod 25 = 6 := by rw [Int.tmod_eq_emod_of_nonneg h0]; exact h
    go_enter Try.func25, Try.ntmps25
    go_wp2
    go_ret
    exact ⟨by (rw [HV.out]; try rfl), balloc (Below.refl _ _) _⟩
  · have HV := Lib.hid (show sg n = [44] by unfold sg; rw [h]; rfl)
    have h2 : n.tmod 25 = 7 := by rw [Int.tmod_eq_emod_of_nonneg h0]; exact h
    go_enter Try.func25, Try.ntmps25
    go_wp2
    go_ret
    exact ⟨by (rw [HV.out]; try rfl), balloc (Below.refl _ _) _⟩
  · have HV := Lib.hid (show sg n = [59] by unfold sg; rw [h]; rfl)
    have h2 : n.tmod 25 = 8 := by rw [Int.tmod_eq_emod_of_nonneg h0]; exact h
    go_enter Try.func25, Try.ntmps25
    go_wp2
    go_ret
    exact ⟨by (rw [HV.out]; try rfl), balloc (Below.refl _ _) _⟩
  · have HV := Lib.hid (show sg n = [61] by unfold sg; rw [h]; rfl)
    have h2 : n.tmod 25 = 9 := by rw [Int.tmod_eq_emod_of_nonneg h0]; exact h
    go_enter Try.func25, Try.ntmps25
    go_wp2
    go_ret
    exact ⟨by (rw [HV.out]; try rfl), balloc (Below.refl _ _) _⟩
  · have HV := Lib.hid (show sg n = [124] by unfold sg; rw [h]; rfl)
    have h2 : n.tmod 25 = 10 := by rw [Int.tmod_eq_emod_of_nonneg h0]; exact h
    go_enter Try.func25, Try.ntmps25
    go_wp2
    go_ret
    exact ⟨by (rw [HV.out]; try rfl), balloc (Below.refl _ _) _⟩
  · have HV := Lib.hid (show sg n = [38] by unfold sg; rw [h]; rfl)
    have h2 : n.tmod 25 = 11 := by rw [Int.tmod_eq_emod_of_nonneg h0]; exact h
    go_enter Try.func25, Try.ntmps25
    go_wp2
    go_ret
    exact ⟨by (rw [HV.out]; try rfl), balloc (Below.refl _ _) _⟩
  · have HV := Lib.hid (show sg n = [35] by unfold sg; rw [h]; rfl)
    have h2 : n.tmod 25 = 12 := by rw [Int.tmod_eq_emod_of_nonneg h0]; exact h
    go_enter Try.func25, Try.ntmps25
    go_wp2
    go_ret
    exact ⟨by (rw [HV.out]; try rfl), balloc (Below.refl _ _) _⟩
  · have HV := Lib.hid (show sg n = [45] by unfold sg; rw [h]; rfl)
    have h2 : n.tmod 25 = 13 := by rw [Int.tmod_eq_emod_of_nonneg h0]; exact h
    go_enter Try.func25, Try.ntmps25
    go_wp2
    go_ret
    exact ⟨by (rw [HV.out]; try rfl), balloc (Below.refl _ _) _⟩
  · have HV := Lib.hid (show sg n = [45, 62] by unfold sg; rw [h]; rfl)
    have h2 : n.tmod 25 = 14 := by rw [Int.tmod_eq_emod_of_nonneg h0]; exact h
    go_enter Try.func25, Try.ntmps25
    go_wp2
    go_ret
    exact ⟨by (rw [HV.out]; try rfl), balloc (Below.refl _ _) _⟩
  · have HV := Lib.hid (show sg n = [110, 97, 109, 101, 115, 112, 97, 99, 101] by unfold sg; rw [h]; rfl)
    have h2 : n.tmod 25 = 15 := by rw [Int.tmod_eq_emod_of_nonneg h0]; exact h
    go_enter Try.func25, Try.ntmps25
    go_wp2
    go_ret
    exact ⟨by (rw [HV.out]; try rfl), balloc (Below.refl _ _) _⟩
  · have HV := Lib.hid (show sg n = [114, 101, 108, 97, 116, 105, 111, 110] by unfold sg; rw [h]; rfl)
    have h2 : n.tmod 25 = 16 := by rw [Int.tmod_eq_emod_of_nonneg h0]; exact h
    go_enter Try.func25, Try.ntmps25
    go_wp2
    go_ret
    exact ⟨by (rw [HV.out]; try rfl), balloc (Below.refl _ _) _⟩
  · have HV := Lib.hid (show sg n = [116, 104, 105, 115] by unfold sg; rw [h]; rfl)
    have h2 : n.tmod 25 = 17 := by rw [Int.tmod_eq_emod_of_nonneg h0]; exact h
    go_enter Try.func25, Try.ntmps25
    go_wp2
    go_ret
    exact ⟨by (rw [HV.out]; try rfl), balloc (Below.refl _ _) _⟩
  · have HV := Lib.hid (show sg n = [97] by unfold sg; rw [h]; rfl)
    have h2 : n.tmod 25 = 18 := by rw [Int.tmod_eq_emod_of_nonneg h0]; exact h
    go_enter Try.func25, Try.ntmps25
    go_wp2
    go_ret
    exact ⟨by (rw [HV.out]; try rfl), balloc (Below.refl _ _) _⟩
  · have HV := Lib.hid (show sg n = [98, 50] by unfold sg; rw [h]; rfl)
    have h2 : n.tmod 25 = 19 := by rw [Int.tmod_eq_emod_of_nonneg h0]; exact h
    go_enter Try.func25, Try.ntmps25
    go_wp2
    go_ret
    exact ⟨by (rw [HV.out]; try rfl), balloc (Below.refl _ _) _⟩
  · have HV := Lib.hid (show sg n = [116, 104, 105] by unfold sg; rw [h]; rfl)
    have h2 : n.tmod 25 = 20 := by rw [Int.tmod_eq_emod_of_nonneg h0]; exact h
    go_enter Try.func25, Try.ntmps25
    go_wp2
    go_ret
    exact ⟨by (rw [HV.out]; try rfl), balloc (Below.refl _ _) _⟩
  · have HV := Lib.hid (show sg n = [116, 104, 105, 115, 120] by unfold sg; rw [h]; rfl)
    have h2 : n.tmod 25 = 21 := by rw [Int.tmod_eq_emod_of_nonneg h0]; exact h
    go_enter Try.func25, Try.ntmps25
    go_wp2
    go_ret
    exact ⟨by (rw [HV.out]; try rfl), balloc (Below.refl _ _) _⟩
  · have HV := Lib.hid (show sg n = [48] by unfold sg; rw [h]; rfl)
    have h2 : n.tmod 25 = 22 := by rw [Int.tmod_eq_emod_of_nonneg h0]; exact h
    go_enter Try.func25, Try.ntmps25
    go_wp2
    go_ret
    exact ⟨by (rw [HV.out]; try rfl), balloc (Below.refl _ _) _⟩
  · have HV := Lib.hid (show sg n = [100, 111, 99] by unfold sg; rw [h]; rfl)
    have h2 : n.tmod 25 = 23 := by rw [Int.tmod_eq_emod_of_nonneg h0]; exact h
    go_enter Try.func25, Try.ntmps25
    go_wp2
    go_ret
    exact ⟨by (rw [HV.out]; try rfl), balloc (Below.refl _ _) _⟩
  · have HV := Lib.hid (show sg n = [48, 49, 50, 51, 52, 53, 54, 55, 56, 57, 97, 98, 99, 100, 101, 102] by unfold sg; rw [h]; rfl)
    have h2 : n.tmod 25 = 24 := by rw [Int.tmod_eq_emod_of_nonneg h0]; exact h
    go_enter Try.func25, Try.ntmps25
    go_wp2
    go_ret
    exact ⟨by (rw [HV.out]; try rfl), balloc (Below.refl _ _) _⟩
end Go.Proofs.Ytbmflenlbbgjiaa
