/-
  LexersLex: what is true of the tokens of a text; same; Bare.
-/
import Derived.Test.YtbmflenlbbgjiaaDe
import Derived.Laws.BytesString
namespace Go.Proofs.Ytbmflenlbbgjiaa
open Go.RowKit
set_option linter.unusedVariables false
set_option linter.unusedSimpArgs false
def nbU (c : UInt8) : Bool := decide (¬ clsN ((c.toNat : Nat) : Int) = 1)
/-- tokens one behind the other, from an offset on, up to another one -/
def chain (lo hi : Int) : List Tok → Prop
  | [] => True
  | x :: xs => lo ≤ x.2.2 ∧ x.2.1.size ≤ 40 ∧ x.2.2 + x.2.1.size ≤ hi ∧ 1 ≤ x.1 ∧ x.1 ≤ 3 ∧ chkT x = 0 ∧ chain (x.2.2 + x.2.1.size) hi xs
def texts (xs : List Tok) : List UInt8 := (xs.map fun x => x.2.1.toList).flatten
theorem chain_lo {lo lo' hi : Int} (h : lo' ≤ lo) : ∀ {xs : List Tok}, chain lo hi xs → chain lo' hi xs
  | [], _ => trivial
  | x :: xs, c => ⟨by have := c.1; omega, c.2⟩
theorem tok_nb {c : UInt8} {r : List UInt8} {q : Int} {m : Nat} (hc : ¬ clsN ((c.toNat : Nat) : Int) = 1) (h : tokL c r = (q, m, 0)) : (c :: r.take m).all nbU = true ∧ m ≤ 16 := by
  have hcb : nbU c = true := by unfold nbU; simpa using hc
  unfold tokL at h
  split at h
  · cases h; simp [hcb]
  · split at h
    · cases h
      split
      · rename_i h62
        match r, h62 with
        | x :: r, h62 => simp at h62; subst h62; simp [hcb]; decide +kernel
      · simp [hcb]
    · split at h
      · split at h
        · cases h
        · rename_i h16
          cases h
          refine ⟨?_, by omega⟩
          rw [(List.prefix_iff_eq_take.1 (List.takeWhile_prefix letU)).symm, List.all_cons, hcb, Bool.true_and, List.all_eq_true]
          intro x hx
          have hl : letU x = true := by
            have := List.all_takeWhile (p := letU) (l := r)
            rw [List.all_eq_true] at this
            exact this x hx
          have := (cls_cases x).2.2.1.2 hl
          unfold nbU
          simp; omega
      · cases h
theorem txt_size (l : List UInt8) : (txt l).size = l.length := rfl
theorem lex_good : ∀ (n : Nat) (l : List UInt8) (a : Nat), l.length ≤ n → (lexW l a).2.2 = 0 → chain a (a + l.length) (lexW l a).1 ∧ texts (lexW l a).1 = l.filter nbU
  | 0, l, a, hn, _ => by
    obtain rfl : l = [] := List.eq_nil_of_length_eq_zero (by omega)
    rw [lexW]
    exact ⟨trivial, rfl⟩
  | n + 1, [], a, _, _ => by
    rw [lexW]
    exact ⟨trivial, rfl⟩
  | n + 1, c :: r, a, hn, h => by
    simp only [List.length_cons] at hn
    rw [lexW] at h ⊢
    by_cases hb : clsN ((c.toNat : Nat) : Int) = 1
    · rw [if_pos hb] at h ⊢
      obtain ⟨h1, h2⟩ := lex_good n r (a + 1) (by omega) h
      refine ⟨?_, ?_⟩
      · rw [show ((a : Int) + ((c :: r).length : Nat)) = ((a + 1 : Nat) : Int) + (r.length : Nat) by simp; omega]
        exact chain_lo (by omega) h1
      · rw [h2, List.filter_cons_of_neg (by unfold nbU; simp [hb])]
    · rw [if_neg hb] at h ⊢
      by_cases he : (tokL c r).2.2 = 0
      · rw [if_pos he] at h ⊢
        obtain ⟨q, m, e, ht⟩ : ∃ q m e, tokL c r = (q, m, e) := ⟨_, _, _, rfl⟩
        rw [ht] at h he ⊢
        simp only at h he ⊢
        subst he
        by_cases hr : (lexW (r.drop m) (a + 1 + m)).2.2 = 0
        · rw [if_pos hr]
          obtain ⟨h1, h2⟩ := lex_good n (r.drop m) (a + 1 + m) (by simp; omega) hr
          have hml := tok_len ht
          obtain ⟨hk, hk1, hk3⟩ := tok_kind ht
          obtain ⟨hnb, hm16⟩ := tok_nb hb ht
          have hsz : (txt (c :: r.take m)).size = m + 1 := by rw [txt_size]; simp; omega
          refine ⟨⟨by simp, by simp only [hsz]; omega, ?_, hk1, hk3, ?_, ?_⟩, ?_⟩
          · simp only [hsz, List.length_cons]; omega
          · unfold chkT; rw [chk_ok hk1 hk3, txt_list, if_pos hk]
          · simp only [hsz]
            rw [show ((a : Int) + ((m + 1 : Nat) : Int)) = ((a + 1 + m : Nat) : Int) by omega, show ((a : Int) + ((c :: r).length : Nat)) = ((a + 1 + m : Nat) : Int) + ((r.drop m).length : Nat) by simp; omega]
            exact h1
          · unfold texts at h2 ⊢
            rw [List.map_cons, List.flatten_cons, h2, txt_list]
            conv => rhs; rw [← List.take_append_drop m r]
            have e := (List.filter_eq_self (p := nbU) (l := c :: r.take m)).2 (fun x hx => List.all_eq_true.1 hnb x hx)
            rw [← List.cons_append, List.filter_append, e]
        · rw [if_neg hr] at h
          exact absurd h hr
      · rw [if_neg he] at h
        exact absurd h he
theorem lex_fine (s : ByteArray) (h : (lexR s).2.2 = 0) : chain 0 s.size (lexR s).1 ∧ texts (lexR s).1 = s.toList.filter nbU := by
  have hl : s.toList.length = s.size := by rw [ByteArray.toList_eq]; simp
  unfold lexR joinR at h ⊢
  by_cases h0 : (lexW s.toList 0).2.2 = 0
  · rw [if_pos h0]
    have := lex_good _ s.toList 0 (Nat.le_refl _) h0
    rw [hl] at this
    simpa using this
  · rw [if_neg h0] at h
    exact absurd h h0
theorem chain_at : ∀ {xs : List Tok} {lo hi : Int}, chain lo hi xs → ∀ i (h : i < xs.length), lo ≤ (xs[i]).2.2 ∧ (xs[i]).2.1.size ≤ 40 ∧ (xs[i]).2.2 + (xs[i]).2.1.size ≤ hi ∧ 1 ≤ (xs[i]).1 ∧ (xs[i]).1 ≤ 3 ∧ chkT xs[i] = 0
  | x :: xs, lo, hi, c, 0, _ => ⟨c.1, c.2.1, c.2.2.1, c.2.2.2.1, c.2.2.2.2.1, c.2.2.2.2.2.1⟩
  | x :: xs, lo, hi, c, i + 1, h => by
    have h' : i < xs.length := by simpa using h
    have := chain_at c.2.2.2.2.2.2 i h'
    have c1 := c.1
    simp only [List.getElem_cons_succ]
    exact ⟨by omega, this.2⟩
theorem chain_next : ∀ {xs : List Tok} {lo hi : Int}, chain lo hi xs → ∀ i (h : i + 1 < xs.length), (xs[i]).2.2 + (xs[i]).2.1.size ≤ (xs[i + 1]).2.2
  | x :: xs, lo, hi, c, 0, h => by
    have h' : 0 < xs.length := by simpa using h
    exact (chain_at c.2.2.2.2.2.2 0 h').1
  | x :: xs, lo, hi, c, i + 1, h => by
    have h' : i + 1 < xs.length := by simpa using h
    exact chain_next c.2.2.2.2.2.2 i h'
theorem texts_succ {xs : List Tok} {k : Nat} (h : k < xs.length) : texts (xs.take (k + 1)) = texts (xs.take k) ++ (xs[k]).2.1.toList := by
  unfold texts
  rw [List.take_add_one, List.getElem?_eq_getElem h, List.map_append, List.flatten_append]
  simp
end Go.Proofs.Ytbmflenlbbgjiaa
