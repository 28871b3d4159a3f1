/-
  LexersLex: tokens and texts, pure.
-/
import Derived.Test.YtbmflenlbbgjiaaCk
namespace Go.Proofs.Ytbmflenlbbgjiaa
open Go.RowKit
set_option linter.unusedVariables false
set_option linter.unusedSimpArgs false
/-- the token that begins a text that is not empty: kind, how many bytes behind the first one, error -/
def tokL (c : UInt8) (r : List UInt8) : Int × Nat × Int :=
  if clsN (c.toNat : Nat) = 3 then (3, 0, 0)
  else if clsN (c.toNat : Nat) = 4 then (3, if r.head? = some 62 then 1 else 0, 0)
  else if clsN (c.toNat : Nat) = 2 then
    if 16 < (r.takeWhile letU).length + 1 then (0, 0, 6)
    else (if wordL (c :: r.takeWhile letU) = true then 2 else 1, (r.takeWhile letU).length, 0)
  else (0, 0, 5)
def txt (l : List UInt8) : ByteArray := ⟨l.toArray⟩
theorem txt_list (l : List UInt8) : (txt l).toList = l := by rw [ByteArray.toList_eq]; rfl
/-- the tokens of a text from an offset on, the offset, the error -/
def lexW : List UInt8 → Nat → List Tok × Nat × Int
  | [], a => ([], a, 0)
  | c :: r, a =>
    if clsN (c.toNat : Nat) = 1 then lexW r (a + 1)
    else if (tokL c r).2.2 = 0 then
      if (lexW (r.drop (tokL c r).2.1) (a + 1 + (tokL c r).2.1)).2.2 = 0 then
        (((tokL c r).1, txt (c :: r.take (tokL c r).2.1), (a : Int)) :: (lexW (r.drop (tokL c r).2.1) (a + 1 + (tokL c r).2.1)).1, (lexW (r.drop (tokL c r).2.1) (a + 1 + (tokL c r).2.1)).2.1, 0)
      else ([], (lexW (r.drop (tokL c r).2.1) (a + 1 + (tokL c r).2.1)).2.1, (lexW (r.drop (tokL c r).2.1) (a + 1 + (tokL c r).2.1)).2.2)
    else ([], a, (tokL c r).2.2)
termination_by l => l.length
decreasing_by all_goals (simp; try omega)
def joinR (acc : List Tok) (R : List Tok × Nat × Int) : List Tok × Nat × Int := if R.2.2 = 0 then (acc ++ R.1, R.2.1, 0) else ([], R.2.1, R.2.2)
def lexR (s : ByteArray) : List Tok × Nat × Int := joinR [] (lexW s.toList 0)
/-- what is found up to an offset -/
def lexAt (s : ByteArray) (acc : List Tok) (a : Nat) : Prop := lexR s = joinR acc (lexW (s.toList.drop a) a)
theorem at_start (s : ByteArray) : lexAt s [] 0 := rfl
theorem list_at {s : ByteArray} {a : Nat} (h : a < s.size) : s.toList.drop a = s[a] :: s.toList.drop (a + 1) := by
  have hl : s.toList.length = s.size := by rw [ByteArray.toList_eq]; simp
  rw [List.drop_eq_getElem_cons (by omega)]
  congr 1
  have : s.toList[a]? = some s[a] := by
    rw [ByteArray.toList_eq]
    show s.data.toList[a]? = some s.data[a]
    simp
  rw [List.getElem?_eq_getElem (by omega)] at this
  exact Option.some.inj this
theorem at_blank {s : ByteArray} {acc : List Tok} {a : Nat} (h : lexAt s acc a) (ha : a < s.size) (hc : clsN ((s[a].toNat : Nat) : Int) = 1) : lexAt s acc (a + 1) := by
  unfold lexAt at h ⊢
  rw [h, list_at ha]
  conv => lhs; rw [lexW]
  rw [if_pos hc]
theorem ext_at (s : ByteArray) (a b : Nat) : (s.extract a b).toList = (s.toList.drop a).take (b - a) := by
  rw [ByteArray.toList_eq, ByteArray.toList_eq]
  simp [List.extract_eq_take_drop]
theorem at_tok {s : ByteArray} {acc : List Tok} {a m : Nat} {q : Int} (h : lexAt s acc a) (ha : a < s.size) (hc : ¬ clsN ((s[a].toNat : Nat) : Int) = 1) (ht : tokL s[a] (s.toList.drop (a + 1)) = (q, m, 0)) :
    lexAt s (acc ++ [(q, s.extract a (a + 1 + m), (a : Int))]) (a + 1 + m) := by
  unfold lexAt at h ⊢
  rw [h, list_at ha]
  conv => lhs; rw [lexW]
  rw [if_neg hc, ht]
  simp only [if_pos, List.drop_drop]
  have hx : txt (s[a] :: (s.toList.drop (a + 1)).take m) = s.extract a (a + 1 + m) := by
    rw [bytes_inj, txt_list, ext_at, show a + 1 + m - a = m + 1 by omega, list_at ha, List.take_succ_cons]
  rw [hx]
  by_cases h0 : (lexW (s.toList.drop (a + 1 + m)) (a + 1 + m)).2.2 = 0
  · simp [joinR, h0]
  · simp [joinR, h0]
theorem at_err {s : ByteArray} {acc : List Tok} {a m : Nat} {q e : Int} (h : lexAt s acc a) (ha : a < s.size) (hc : ¬ clsN ((s[a].toNat : Nat) : Int) = 1) (ht : tokL s[a] (s.toList.drop (a + 1)) = (q, m, e)) (he : ¬ e = 0) :
    lexR s = ([], a, e) := by
  unfold lexAt at h
  rw [h, list_at ha, lexW, if_neg hc, ht, if_neg he]
  simp [joinR, he]
theorem at_end {s : ByteArray} {acc : List Tok} {a : Nat} (h : lexAt s acc a) (ha : ¬ a < s.size) (hs : a ≤ s.size) : lexR s = (acc, s.size, 0) := by
  have hl : s.toList.length = s.size := by rw [ByteArray.toList_eq]; simp
  obtain rfl : a = s.size := by omega
  unfold lexAt at h
  rw [h, List.drop_of_length_le (by omega), lexW]
  simp [joinR]
theorem tok_len {c : UInt8} {r : List UInt8} {q e : Int} {m : Nat} (h : tokL c r = (q, m, e)) : m ≤ r.length := by
  unfold tokL at h
  split at h
  · cases h; omega
  · split at h
    · cases h
      split
      · rename_i h; cases r <;> simp at h ⊢
      · omega
    · split at h
      · split at h
        · cases h; omega
        · cases h; exact (List.takeWhile_sublist _).length_le
      · cases h; omega
theorem tok_end {s : ByteArray} {a m : Nat} {q e : Int} (ha : a < s.size) (h : tokL s[a] (s.toList.drop (a + 1)) = (q, m, e)) : a + 1 + m ≤ s.size := by
  have := tok_len h
  have hl : s.toList.length = s.size := by rw [ByteArray.toList_eq]; simp
  rw [List.length_drop, hl] at this
  omega
theorem while_len {l : List UInt8} {j : Nat} (hj : j ≤ l.length) (h1 : (l.take j).all letU = true) (h2 : ∀ h : j < l.length, letU l[j] = false) : (l.takeWhile letU).length = j ∧ l.takeWhile letU = l.take j := by
  have hc : l.takeWhile letU = l.take j := by
    conv => lhs; rw [← List.take_append_drop j l]
    rw [List.takeWhile_append_of_pos (by simpa using h1)]
    have : (l.drop j).takeWhile letU = [] := by
      by_cases h : j < l.length
      · rw [List.drop_eq_getElem_cons h, List.takeWhile_cons_of_neg (by rw [h2 h]; simp)]
      · rw [List.drop_of_length_le (by omega)]; rfl
    rw [this, List.append_nil]
  exact ⟨by rw [hc, List.length_take]; omega, hc⟩
/-- what a token is as a whole -/
theorem tok_kind {c : UInt8} {r : List UInt8} {q : Int} {m : Nat} (h : tokL c r = (q, m, 0)) : kindL (c :: r.take m) = q ∧ 1 ≤ q ∧ q ≤ 3 := by
  unfold tokL at h
  split at h
  · rename_i h3
    cases h
    rw [List.take_zero, kind_3 h3]; simp
  · split at h
    · rename_i h4
      cases h
      rw [kind_4 h4, if_pos]
      · simp
      · split
        · rename_i h62
          match r, h62 with
          | x :: r, h62 => simp at h62; subst h62; right; rfl
        · left; simp
    · split at h
      · rename_i h2
        split at h
        · cases h
        · rename_i h16
          cases h
          have hc : letU c = true := (cls_cases c).2.2.1.1 h2
          have ht : r.take (r.takeWhile letU).length = r.takeWhile letU := (List.prefix_iff_eq_take.1 (List.takeWhile_prefix letU)).symm
          rw [ht]
          have hk := kind_2 (l := c :: r.takeWhile letU) (n := (r.takeWhile letU).length + 1) (by omega) (by simp) (by rw [List.take_of_length_le (by simp)]; simp [hc]) (by intro h; simp at h)
          rw [hk, if_pos ⟨by simp, by omega⟩, List.take_of_length_le (by simp)]
          refine ⟨rfl, ?_⟩
          split <;> omega
      · cases h
end Go.Proofs.Ytbmflenlbbgjiaa
