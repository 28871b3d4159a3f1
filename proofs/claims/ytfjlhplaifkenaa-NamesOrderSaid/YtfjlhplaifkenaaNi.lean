/-
  The order of strings is total: turned round it is the opposite, and it goes on; so is that of triples.
-/
import Derived.Test.YtfjlhplaifkenaaNh
namespace Go.Proofs.Ytfjlhplaifkenaa
open Go.Proofs.Ytfjlhplaifkenaa.Vx Go.RowKit
theorem cmp_anti : ∀ (l m : List UInt8), Lib.compareBytes l m = - Lib.compareBytes m l
  | [], [] => by simp [Lib.compareBytes]
  | [], _ :: _ => by simp [Lib.compareBytes]
  | _ :: _, [] => by simp [Lib.compareBytes]
  | x :: l, y :: m => by
    unfold Lib.compareBytes
    by_cases h1 : x < y
    · rw [if_pos h1, if_neg (fun h => UInt8.lt_irrefl _ (UInt8.lt_trans h h1)), if_pos h1]
    · rw [if_neg h1]
      by_cases h2 : y < x
      · rw [if_pos h2, if_pos h2]; rfl
      · rw [if_neg h2, if_neg h2, if_neg h1, cmp_anti l m]
theorem cmp_bound : ∀ (l m : List UInt8), -1 ≤ Lib.compareBytes l m ∧ Lib.compareBytes l m ≤ 1
  | [], [] => by simp [Lib.compareBytes]
  | [], _ :: _ => by simp [Lib.compareBytes]
  | _ :: _, [] => by simp [Lib.compareBytes]
  | x :: l, y :: m => by
    unfold Lib.compareBytes
    split
    · simp
    · split
      · simp
      · exact cmp_bound l m
theorem cmp_on : ∀ (l m n : List UInt8), Lib.compareBytes l m ≤ 0 → Lib.compareBytes m n ≤ 0 → Lib.compareBytes l n ≤ 0
  | [], _, [] => by simp [Lib.compareBytes]
  | [], _, _ :: _ => by simp [Lib.compareBytes]
  | _ :: _, [], _ => by simp [Lib.compareBytes]
  | _ :: _, _ :: _, [] => by simp [Lib.compareBytes]
  | x :: l, y :: m, z :: n => by
    unfold Lib.compareBytes
    intro h1 h2
    by_cases a1 : x < y
    · by_cases b1 : y < z
      · rw [if_pos (UInt8.lt_trans a1 b1)]; decide
      · rw [if_neg b1] at h2
        by_cases b2 : z < y
        · rw [if_pos b2] at h2; omega
        · have : y = z := UInt8.le_antisymm (UInt8.not_lt.1 b2) (UInt8.not_lt.1 b1)
          subst this; rw [if_pos a1]; decide
    · rw [if_neg a1] at h1
      by_cases a2 : y < x
      · rw [if_pos a2] at h1; omega
      · rw [if_neg a2] at h1
        have : x = y := UInt8.le_antisymm (UInt8.not_lt.1 a2) (UInt8.not_lt.1 a1)
        subst this
        by_cases b1 : x < z
        · rw [if_pos b1]; decide
        · rw [if_neg b1] at h2 ⊢
          by_cases b2 : z < x
          · rw [if_pos b2] at h2; omega
          · rw [if_neg b2] at h2 ⊢
            exact cmp_on l m n h1 h2
structure IsOrd {α : Type} (f : α → α → Int) : Prop where
  anti : ∀ a b, f a b = - f b a
  on : ∀ a b c, f a b ≤ 0 → f b c ≤ 0 → f a c ≤ 0
  bound : ∀ a b, -1 ≤ f a b ∧ f a b ≤ 1
theorem cmpN_ord : IsOrd cmpN := ⟨fun _ _ => cmp_anti _ _, fun _ _ _ => cmp_on _ _ _, fun _ _ => cmp_bound _ _⟩
def lexN {α β : Type} (f : α → α → Int) (g : β → β → Int) (p q : α × β) : Int := if f p.1 q.1 = 0 then g p.2 q.2 else f p.1 q.1
theorem lex_ord {α β : Type} {f : α → α → Int} {g : β → β → Int} (hf : IsOrd f) (hg : IsOrd g) : IsOrd (lexN f g) := by
  refine ⟨fun p q => ?_, fun p q r => ?_, fun p q => ?_⟩
  · have h1 := hf.anti p.1 q.1
    have h2 := hg.anti p.2 q.2
    unfold lexN
    by_cases h : f p.1 q.1 = 0
    · rw [if_pos h, if_pos (by omega), h2]
    · rw [if_neg h, if_neg (by omega), h1]
  · have a1 := hf.anti p.1 q.1
    have a2 := hf.anti q.1 r.1
    have a3 := hf.anti p.1 r.1
    have o1 := hf.on p.1 q.1 r.1
    have o2 := hf.on q.1 r.1 p.1
    have o3 := hf.on r.1 p.1 q.1
    have g1 := hg.on p.2 q.2 r.2
    unfold lexN
    by_cases h1 : f p.1 q.1 = 0 <;> by_cases h2 : f q.1 r.1 = 0 <;> by_cases h3 : f p.1 r.1 = 0 <;> simp only [h1, h2, h3, if_true, if_false] <;> intro x y <;> omega
  · have h1 := hf.bound p.1 q.1
    have h2 := hg.bound p.2 q.2
    unfold lexN
    split <;> assumption
theorem lex_zero {α β : Type} {f : α → α → Int} {g : β → β → Int} (p q : α × β) : lexN f g p q = 0 ↔ f p.1 q.1 = 0 ∧ g p.2 q.2 = 0 := by
  unfold lexN
  split
  · rename_i h; simp [h]
  · rename_i h; simp [h]
abbrev Tri := ByteArray × ByteArray × ByteArray
def triN (p q : Tri) : Int := cgN p.1 p.2.1 p.2.2 q.1 q.2.1 q.2.2
theorem triN_lex : triN = lexN cmpN (lexN cmpN cmpN) := rfl
theorem triN_ord : IsOrd triN := by rw [triN_lex]; exact lex_ord cmpN_ord (lex_ord cmpN_ord cmpN_ord)
theorem cmpN_zero (a b : ByteArray) : cmpN a b = 0 ↔ sEqB a b = true := by
  rw [cmpN, cmp_zero, sEqB, decide_eq_true_eq]
theorem triN_zero (p q : Tri) : triN p q = 0 ↔ sEqB p.1 q.1 = true ∧ sEqB p.2.1 q.2.1 = true ∧ sEqB p.2.2 q.2.2 = true := by
  rw [triN_lex, lex_zero, lex_zero, cmpN_zero, cmpN_zero, cmpN_zero]
theorem triN_same (p : Tri) : triN p p = 0 := by have := triN_ord.anti p p; omega
end Go.Proofs.Ytfjlhplaifkenaa
