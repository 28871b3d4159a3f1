/-
  Names: what is a name; both checks tell it.
-/
import Derived.Test.YtfjlhplaifkenaaZ
import Derived.Test.YtfjlhplaifkenaaY
import Derived.Lib.Hide
namespace Go.Proofs.Ytfjlhplaifkenaa
open Go.RowKit
set_option linter.unusedVariables false
set_option linter.unusedSimpArgs false
def letB (b : UInt8) : Bool := (decide (97 ≤ b.toNat) && decide (b.toNat ≤ 122)) || (decide (48 ≤ b.toNat) && decide (b.toNat ≤ 57))
def isName (l : List UInt8) : Bool := decide (1 ≤ l.length) && decide (l.length ≤ 16) && l.all letB
def ckN (s : ByteArray) : Int := if isName s.data.toList = true then 0 else 6
theorem letB_iff {b : UInt8} : letB b = true ↔ (97 ≤ (b.toNat : Int) ∧ (b.toNat : Int) ≤ 122) ∨ (48 ≤ (b.toNat : Int) ∧ (b.toNat : Int) ≤ 57) := by
  simp only [letB, Bool.or_eq_true, Bool.and_eq_true, decide_eq_true_eq]; omega
theorem at_getD {s : ByteArray} {k : Nat} (h : k < s.size) : s.data.toList.getD k 0 = s[k] := by
  have : k < s.data.toList.length := by simpa using h
  rw [List.getD_eq_getElem?_getD, List.getElem?_eq_getElem this]
  simp
  rfl
theorem ck_short {s : ByteArray} (h : (s.size : Int) < 1) : ckN s = 6 := by
  have : s.data.toList.length = s.size := by simp
  simp [ckN, isName]; intro h1; omega
theorem ck_long {s : ByteArray} (h : (16 : Int) < s.size) : ckN s = 6 := by
  have : s.data.toList.length = s.size := by simp
  simp [ckN, isName]; intro h1 h2; omega
theorem ck_bad {s : ByteArray} {k : Nat} (h : k < s.size) (hb : letB s[k] = false) : ckN s = 6 := by
  unfold ckN
  rw [if_neg]
  intro hn
  simp only [isName, Bool.and_eq_true, List.all_eq_true] at hn
  have := hn.2 s[k] (by rw [← at_getD h]; rw [List.getD_eq_getElem?_getD]; have : k < s.data.toList.length := by simpa using h
                        rw [List.getElem?_eq_getElem this]; exact List.getElem_mem this)
  rw [hb] at this
  simp at this
theorem ck_good {s : ByteArray} {k : Nat} (h1 : 1 ≤ (s.size : Int)) (h2 : (s.size : Int) ≤ 16) (hk : s.size ≤ k) (h : ∀ j, j < k → letB (s.data.toList.getD j 0) = true) : ckN s = 0 := by
  unfold ckN
  have hl : s.data.toList.length = s.size := by simp
  rw [if_pos]
  simp only [isName, Bool.and_eq_true, decide_eq_true_eq, List.all_eq_true]
  refine ⟨⟨by omega, by omega⟩, fun x hx => ?_⟩
  obtain ⟨j, hj, rfl⟩ := List.getElem_of_mem hx
  have := h j (by omega)
  rwa [List.getD_eq_getElem?_getD, List.getElem?_eq_getElem hj] at this
theorem step_ok {s : ByteArray} {k : Nat} (h : k < s.size) (r : ∀ j, j < k → letB (s.data.toList.getD j 0) = true) (hl : letB s[k] = true) : ∀ j, j < k + 1 → letB (s.data.toList.getD j 0) = true := by
  intro j hj
  by_cases e : j = k
  · subst e; rw [at_getD h]; exact hl
  · exact r j (by omega)
set_option maxHeartbeats 1000000 in
theorem check_any (s : ByteArray) (w : World) :
    Calls Try.prog 9 #[.string s] w fun e w' => e = .returned (.int .i64 (ckN s)) ∧ Below w.heap.size w w' := by
  by_cases h1 : (s.size : Int) < 1
  · go_enter Try.func9, Try.ntmps9
    go_wp2
    go_ret
    exact ⟨ret_int (ck_short h1).symm, Below.refl _ _⟩
  by_cases h2 : (16 : Int) < s.size
  · go_enter Try.func9, Try.ntmps9
    go_wp2
    go_ret
    exact ⟨ret_int (ck_long h2).symm, Below.refl _ _⟩
  go_enter Try.func9, Try.ntmps9
  go_wp2
  go_loop [14] (fun x => ∃ k : Nat, x = .int .i64 k ∧ k ≤ s.size ∧ ∀ j, j < k → letB (s.data.toList.getD j 0) = true) (fun x => s.size - (intOf x).toNat)
  case atStart => exact ⟨0, rfl, by omega, by intro j hj; omega⟩
  case round =>
    obtain ⟨k, rfl, r1, r2⟩ := hrel
    by_cases hk : k < s.size
    · cases hl : letB s[k]
      · have hn := hl
        rw [Bool.eq_false_iff, ne_eq, letB_iff] at hn
        have hb := Lib.hid (ck_bad hk hl)
        rcases (by omega : (s[k].toNat : Int) < 48 ∨ (57 < (s[k].toNat : Int) ∧ (s[k].toNat : Int) < 97) ∨ 122 < (s[k].toNat : Int)) with c | ⟨c, d⟩ | c
        all_goals
          clear hn
          go_wp2
        all_goals first
          | (go_ret; exact ⟨ret_int hb.out.symm, Below.refl _ _⟩)
          | (exfalso; simp only [Bool.not_eq_false', Bool.not_eq_true', decide_eq_true_eq, decide_eq_false_iff_not] at *; omega)
      · have hs := Lib.hid (step_ok hk r2 hl)
        rw [letB_iff] at hl
        rcases hl with ⟨c, d⟩ | ⟨c, d⟩
        all_goals
          go_wp2
        all_goals first
          | exact ⟨⟨k + 1, by simp, by omega, hs.out⟩, by simp [intOf]; omega⟩
          | (exfalso; simp only [Bool.not_eq_false', Bool.not_eq_true', decide_eq_true_eq, decide_eq_false_iff_not] at *; omega)
    · go_wp2
      go_ret
      exact ⟨ret_int (ck_good h1 h2 (by omega) r2).symm, Below.refl _ _⟩
theorem ck_or (s : ByteArray) : ckN s = 0 ∨ ckN s = 6 := by unfold ckN; split <;> simp
set_option maxHeartbeats 1000000 in
theorem refCheck_any (s : ByteArray) (w : World) :
    Calls Try.prog 10 #[.string s] w fun e w' => e = .returned (.int .i64 (ckN s)) ∧ Below w.heap.size w w' := by
  by_cases h1 : (s.size : Int) < 1
  · go_enter Try.func10, Try.ntmps10
    go_wp2
    go_loop [3, 4] (fun x y => x = .bool false ∧ y = .int .i64 0) (fun _ _ => 0)
    case atStart => exact ⟨rfl, rfl⟩
    case round =>
      obtain ⟨rfl, rfl⟩ := hrel
      go_wp2
      go_ret
      exact ⟨ret_int (ck_short h1).symm, Below.refl _ _⟩
  by_cases h2 : (16 : Int) < s.size
  · go_enter Try.func10, Try.ntmps10
    go_wp2
    go_loop [3, 4] (fun x y => x = .bool false ∧ y = .int .i64 0) (fun _ _ => 0)
    case atStart => exact ⟨by simp; omega, rfl⟩
    case round =>
      obtain ⟨rfl, rfl⟩ := hrel
      go_wp2
      go_ret
      exact ⟨ret_int (ck_long h2).symm, Below.refl _ _⟩
  go_enter Try.func10, Try.ntmps10
  go_wp2
  go_loop [3, 4] (fun x y => ∃ (b : Bool) (k : Nat), x = .bool b ∧ y = .int .i64 k ∧ k ≤ s.size ∧ ((b = true ∧ ∀ j, j < k → letB (s.data.toList.getD j 0) = true) ∨ (b = false ∧ ckN s = 6))) (fun _ y => s.size - (intOf y).toNat)
  case atStart => exact ⟨true, 0, by simp, rfl, by omega, .inl ⟨rfl, by intro j hj; omega⟩⟩
  case round =>
    obtain ⟨b, k, rfl, rfl, r1, r2⟩ := hrel
    rcases r2 with ⟨rfl, r2⟩ | ⟨rfl, r2⟩
    · by_cases hk : k < s.size
      · cases hl : letB s[k]
        · have hn := hl
          rw [Bool.eq_false_iff, ne_eq, letB_iff] at hn
          have hb := Lib.hid (ck_bad hk hl)
          rcases (by omega : (s[k].toNat : Int) < 48 ∨ (57 < (s[k].toNat : Int) ∧ (s[k].toNat : Int) < 97) ∨ 122 < (s[k].toNat : Int)) with c | ⟨c, d⟩ | c
          all_goals
            clear hn
            go_wp2
          all_goals first
            | exact ⟨⟨false, k + 1, by simp; omega, by simp, by omega, .inr ⟨rfl, hb.out⟩⟩, by simp [intOf]; omega⟩
            | exact ⟨⟨false, k + 1, by simp, by simp, by omega, .inr ⟨rfl, hb.out⟩⟩, by simp [intOf]; omega⟩
            | (exfalso; simp only [Bool.not_eq_false', Bool.not_eq_true', decide_eq_true_eq, decide_eq_false_iff_not] at *; omega)
        · have hs := Lib.hid (step_ok hk r2 hl)
          rw [letB_iff] at hl
          rcases hl with ⟨c, d⟩ | ⟨c, d⟩
          all_goals
            go_wp2
          all_goals first
            | exact ⟨⟨true, k + 1, by simp; omega, by simp, by omega, .inl ⟨rfl, hs.out⟩⟩, by simp [intOf]; omega⟩
            | exact ⟨⟨true, k + 1, by simp, by simp, by omega, .inl ⟨rfl, hs.out⟩⟩, by simp [intOf]; omega⟩
            | (exfalso; simp only [Bool.not_eq_false', Bool.not_eq_true', decide_eq_true_eq, decide_eq_false_iff_not] at *; omega)
      · have hg := Lib.hid (ck_good h1 h2 (by omega) r2)
        clear r2
        go_wp2
        all_goals
          go_ret
          exact ⟨ret_int hg.out.symm, Below.refl _ _⟩
    · have hb := Lib.hid r2
      clear r2
      by_cases hk : k < s.size
      · go_wp2
        all_goals
          go_ret
          exact ⟨ret_int hb.out.symm, Below.refl _ _⟩
      · go_wp2
        all_goals
          go_ret
          exact ⟨ret_int hb.out.symm, Below.refl _ _⟩
end Go.Proofs.Ytfjlhplaifkenaa
