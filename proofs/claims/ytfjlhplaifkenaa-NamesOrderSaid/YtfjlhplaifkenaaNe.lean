/-
  The order of strings that the definition has is that of package strings.
-/
import Derived.Test.YtfjlhplaifkenaaNa
import Derived.Lib.Bytealg
namespace Go.Proofs.Ytfjlhplaifkenaa
open Go.RowKit
set_option linter.unusedVariables false
set_option linter.unusedSimpArgs false
def cmpN (a b : ByteArray) : Int := Lib.compareBytes a.data.toList b.data.toList
theorem drop_at {s : ByteArray} {k : Nat} (h : k < s.size) : s.data.toList.drop k = s[k] :: s.data.toList.drop (k + 1) := by
  have hl : k < s.data.toList.length := by simpa using h
  rw [List.drop_eq_getElem_cons hl]
  rfl
theorem drop_end {s : ByteArray} {k : Nat} (h : s.size ≤ k) : s.data.toList.drop k = [] := List.drop_eq_nil_of_le (by simpa using h)
theorem cmp_lt {a b : ByteArray} {k : Nat} (ha : k < a.size) (hb : k < b.size) (r : cmpN a b = Lib.compareBytes (a.data.toList.drop k) (b.data.toList.drop k)) (h : (a[k].toNat : Int) < (b[k].toNat : Int)) : cmpN a b = -1 := by
  rw [r, drop_at ha, drop_at hb, Lib.compareBytes, if_pos]
  exact UInt8.lt_iff_toNat_lt.2 (by omega)
theorem cmp_gt {a b : ByteArray} {k : Nat} (ha : k < a.size) (hb : k < b.size) (r : cmpN a b = Lib.compareBytes (a.data.toList.drop k) (b.data.toList.drop k)) (h : (b[k].toNat : Int) < (a[k].toNat : Int)) : cmpN a b = 1 := by
  rw [r, drop_at ha, drop_at hb, Lib.compareBytes, if_neg, if_pos]
  · exact UInt8.lt_iff_toNat_lt.2 (by omega)
  · intro h2; have := UInt8.lt_iff_toNat_lt.1 h2; omega
theorem cmp_eq {a b : ByteArray} {k : Nat} (ha : k < a.size) (hb : k < b.size) (r : cmpN a b = Lib.compareBytes (a.data.toList.drop k) (b.data.toList.drop k)) (h : (a[k].toNat : Int) = (b[k].toNat : Int)) : cmpN a b = Lib.compareBytes (a.data.toList.drop (k + 1)) (b.data.toList.drop (k + 1)) := by
  rw [r, drop_at ha, drop_at hb, Lib.compareBytes, if_neg, if_neg]
  · intro h2; have := UInt8.lt_iff_toNat_lt.1 h2; omega
  · intro h2; have := UInt8.lt_iff_toNat_lt.1 h2; omega
theorem cmp_short {a b : ByteArray} {k : Nat} (ha : a.size ≤ k) (hb : k < b.size) (r : cmpN a b = Lib.compareBytes (a.data.toList.drop k) (b.data.toList.drop k)) : cmpN a b = -1 := by
  rw [r, drop_end ha, drop_at hb]; rfl
theorem cmp_long {a b : ByteArray} {k : Nat} (ha : k < a.size) (hb : b.size ≤ k) (r : cmpN a b = Lib.compareBytes (a.data.toList.drop k) (b.data.toList.drop k)) : cmpN a b = 1 := by
  rw [r, drop_end hb, drop_at ha]; rfl
theorem cmp_same {a b : ByteArray} {k : Nat} (ha : a.size ≤ k) (hb : b.size ≤ k) (r : cmpN a b = Lib.compareBytes (a.data.toList.drop k) (b.data.toList.drop k)) : cmpN a b = 0 := by
  rw [r, drop_end ha, drop_end hb]; rfl
set_option maxHeartbeats 2000000 in
theorem refOrder_any (a b : ByteArray) (hs : (a.size : Int) ≤ 1000000000) (w : World) :
    Calls Try.prog 36 #[.string a, .string b] w fun e w' => e = .returned (.int .i64 (cmpN a b)) ∧ Below w.heap.size w w' := by
  go_enter Try.func36, Try.ntmps36
  go_wp2
  go_loopw [5] (fun x wr => ∃ k : Nat, x = .int .i64 k ∧ k ≤ a.size ∧ k ≤ b.size ∧ cmpN a b = Lib.compareBytes (a.data.toList.drop k) (b.data.toList.drop k) ∧ Below w.heap.size w wr) (fun x _ => a.size - (intOf x).toNat)
  case atStart => exact ⟨0, rfl, by omega, by omega, rfl, Below.refl _ _⟩
  case round =>
    obtain ⟨k, rfl, r1, r2, r3, hbw⟩ := hrel
    by_cases ha : k < a.size
    · have ka : (k : Int) < (a.size : Int) := by omega
      by_cases hb : k < b.size
      · have kb : (k : Int) < (b.size : Int) := by omega
        rcases (by omega : (a[k].toNat : Int) < (b[k].toNat : Int) ∨ (b[k].toNat : Int) < (a[k].toNat : Int) ∨ (a[k].toNat : Int) = (b[k].toNat : Int)) with c | c | c
        · have h := Lib.hid (cmp_lt ha hb r3 c)
          clear r3
          go_wp2
          go_quiet (fail)
          go_wp2
          go_ret
          exact ⟨ret_int h.out.symm, by repeat (first | (with_reducible exact Below.refl _ _) | (with_reducible assumption) | (with_reducible refine bdrew ?_) | (with_reducible refine bdrewN ?_ _))⟩
        · have h := Lib.hid (cmp_gt ha hb r3 c)
          clear r3
          have c1 : ¬ (a[k].toNat : Int) < (b[k].toNat : Int) := by omega
          go_wp2
          go_quiet (fail)
          go_wp2
          go_quiet (fail)
          go_wp2
          go_ret
          exact ⟨ret_int h.out.symm, by repeat (first | (with_reducible exact Below.refl _ _) | (with_reducible assumption) | (with_reducible refine bdrew ?_) | (with_reducible refine bdrewN ?_ _))⟩
        · have h := Lib.hid (cmp_eq ha hb r3 c)
          clear r3
          have c1 : ¬ (a[k].toNat : Int) < (b[k].toNat : Int) := by omega
          have c2 : ¬ (b[k].toNat : Int) < (a[k].toNat : Int) := by omega
          clear c
          go_wp2
          go_quiet (fail)
          go_wp2
          go_quiet (fail)
          go_wp2
          go_round
          case rel => exact ⟨k + 1, by simp, by omega, by omega, h.out, by repeat (first | (with_reducible exact Below.refl _ _) | (with_reducible assumption) | (with_reducible refine bdrew ?_) | (with_reducible refine bdrewN ?_ _))⟩
          case measure => simp [intOf]; omega
      · have h := Lib.hid (cmp_long ha (by omega) r3)
        clear r3
        go_wp2
        all_goals first
          | (go_ret; exact ⟨ret_int h.out.symm, by repeat (first | (with_reducible exact Below.refl _ _) | (with_reducible assumption) | (with_reducible refine bdrew ?_) | (with_reducible refine bdrewN ?_ _))⟩)
          | (exfalso; omega)
    · by_cases hb : k < b.size
      · have h := Lib.hid (cmp_short (by omega) hb r3)
        clear r3
        go_wp2
        all_goals first
          | (go_ret; exact ⟨ret_int h.out.symm, by repeat (first | (with_reducible exact Below.refl _ _) | (with_reducible assumption) | (with_reducible refine bdrew ?_) | (with_reducible refine bdrewN ?_ _))⟩)
          | (exfalso; omega)
      · have h := Lib.hid (cmp_same (by omega) (by omega) r3)
        clear r3
        go_wp2
        all_goals first
          | (go_ret; exact ⟨ret_int h.out.symm, by repeat (first | (with_reducible exact Below.refl _ _) | (with_reducible assumption) | (with_reducible refine bdrew ?_) | (with_reducible refine bdrewN ?_ _))⟩)
          | (exfalso; omega)
end Go.Proofs.Ytfjlhplaifkenaa
