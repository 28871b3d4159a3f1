import Derived.Test.YtehbfajmileefaaY
import Derived.Test.YtehbfajmileefaaZ
namespace Go.Proofs.Ytehbfajmileefaa
open Go.RowKit
set_option linter.unusedVariables false
set_option linter.unusedSimpArgs false
def wBad (w : Int) : Bool := decide (w < 1) || decide (8 < w)
def wE (ws : List Int) : Int := if 16 < ws.length then 3 else if ws.any wBad = true ∨ ws.length = 0 then 4 else 0
def chkE (ws : List Int) (tn cr rd : Int) : Int := if ¬ wE ws = 0 then wE ws else if tn < 0 ∨ (ws.length : Int) - 1 < tn ∨ rd < 0 ∨ 4611686018427387904 < rd ∨ cr < 0 ∨ ws.getD tn.toNat 0 < cr then 4 else 0
theorem wE_ok {ws : List Int} (h : wE ws = 0) : 1 ≤ ws.length ∧ ws.length ≤ 16 ∧ ∀ i (h : i < ws.length), 1 ≤ ws[i] ∧ ws[i] ≤ 8 := by
  unfold wE at h
  split at h
  · omega
  · split at h
    · omega
    · rename_i h1 h2
      refine ⟨by omega, by omega, fun i hi => ?_⟩
      have h3 : ws.any wBad = false := by
        cases h : ws.any wBad
        · rfl
        · exact absurd (.inl h) h2
      rw [List.any_eq_false] at h3
      have := h3 _ (List.getElem_mem hi)
      unfold wBad at this
      simp at this
      omega
theorem chkE_ok {ws : List Int} {tn cr rd : Int} (h : chkE ws tn cr rd = 0) : wE ws = 0 ∧ 0 ≤ tn ∧ tn < ws.length ∧ 0 ≤ rd ∧ rd ≤ 4611686018427387904 ∧ 0 ≤ cr ∧ cr ≤ ws.getD tn.toNat 0 := by
  unfold chkE at h
  split at h
  · rename_i h1; exact absurd h h1
  · rename_i h1
    split at h
    · omega
    · exact ⟨by omega, by omega, by omega, by omega, by omega, by omega, by omega⟩
def stepT (ws : List Int) (s : Nat × Int × Int) : Nat × Int × Int := if s.1 + 1 = ws.length then (0, ws.getD 0 0, s.2.2 + 1) else (s.1 + 1, ws.getD (s.1 + 1) 0, s.2.2)
def stT (ws : List Int) (s : Nat × Int × Int) : Nat → Nat × Int × Int
  | 0 => s
  | i + 1 => stepT ws (stT ws s i)
def okT (ab : List Bool) (s : Nat × Int × Int) : Bool := decide (0 < s.2.1) && ab.getD s.1 false
def findT (ws : List Int) (s : Nat × Int × Int) (ab : List Bool) : Option Nat := (List.range (ws.length + 1)).find? fun i => okT ab (stT ws s i)
theorem find_least {ws : List Int} {s : Nat × Int × Int} {ab : List Bool} {i : Nat} (hi : i ≤ ws.length) (h : okT ab (stT ws s i) = true) (hn : ∀ j, j < i → okT ab (stT ws s j) = false) : findT ws s ab = some i := by
  unfold findT
  rw [List.find?_eq_some_iff_getElem]
  exact ⟨h, i, by simp; omega, by simp, fun j hj => by simpa using hn j hj⟩
theorem find_none {ws : List Int} {s : Nat × Int × Int} {ab : List Bool} (hn : ∀ j, j ≤ ws.length → okT ab (stT ws s j) = false) : findT ws s ab = none := by
  unfold findT
  rw [List.find?_eq_none]
  intro j hj
  have := hn j (by simp at hj; omega)
  simp [this]
theorem stT_turn {ws : List Int} {s : Nat × Int × Int} (h0 : s.1 < ws.length) : ∀ i, (stT ws s i).1 = (s.1 + i) % ws.length
  | 0 => by rw [Nat.add_zero, Nat.mod_eq_of_lt h0]; rfl
  | i + 1 => by
    have ih := stT_turn h0 i
    have hlt : (s.1 + i) % ws.length < ws.length := Nat.mod_lt _ (by omega)
    show (stepT ws (stT ws s i)).1 = _
    unfold stepT
    rw [ih]
    split
    · rename_i h
      show 0 = _
      rw [show s.1 + (i + 1) = (s.1 + i) + 1 by omega, Nat.add_mod]
      have : 1 % ws.length = 1 ∨ ws.length = 1 := by
        by_cases hh : ws.length = 1
        · exact .inr hh
        · exact .inl (Nat.mod_eq_of_lt (by omega))
      rcases this with e | e
      · rw [e, h, Nat.mod_self]
      · rw [e]; simp [Nat.mod_one]
    · rename_i h
      show (s.1 + i) % ws.length + 1 = _
      rw [show s.1 + (i + 1) = (s.1 + i) + 1 by omega, Nat.add_mod (s.1 + i) 1, Nat.mod_eq_of_lt (a := 1) (by omega), Nat.mod_eq_of_lt (a := (s.1 + i) % ws.length + 1) (by omega)]
theorem stT_credit (ws : List Int) (s : Nat × Int × Int) (i : Nat) : (stT ws s (i + 1)).2.1 = ws.getD (stT ws s (i + 1)).1 0 := by
  show (stepT ws (stT ws s i)).2.1 = ws.getD (stepT ws (stT ws s i)).1 0
  unfold stepT
  split <;> rfl
theorem stT_round (ws : List Int) (s : Nat × Int × Int) (i : Nat) : (stT ws s (i + 1)).2.2 = (stT ws s i).2.2 + (if (stT ws s (i + 1)).1 = 0 then 1 else 0) := by
  show (stepT ws (stT ws s i)).2.2 = (stT ws s i).2.2 + (if (stepT ws (stT ws s i)).1 = 0 then 1 else 0)
  unfold stepT
  split
  · simp
  · simp
theorem stT_rounds (ws : List Int) (s : Nat × Int × Int) : ∀ i, s.2.2 ≤ (stT ws s i).2.2 ∧ (stT ws s i).2.2 ≤ s.2.2 + i
  | 0 => by simp [stT]
  | i + 1 => by
    have := stT_rounds ws s i
    rw [stT_round]
    split <;> omega
theorem find_some {ws : List Int} {s : Nat × Int × Int} {ab : List Bool} (h0 : s.1 < ws.length) (hw : ∀ i (h : i < ws.length), 1 ≤ ws[i]) (hl : ab.length = ws.length) {j : Nat} (hj : j < ws.length) (ha : ab.getD j false = true) :
    ∃ i, i ≤ ws.length ∧ okT ab (stT ws s i) = true := by
  refine ⟨if s.1 < j then j - s.1 else j + ws.length - s.1, by split <;> omega, ?_⟩
  have key : ∀ i, 1 ≤ i → (s.1 + i) % ws.length = j → okT ab (stT ws s i) = true := by
    intro i h1 hm
    obtain ⟨k, rfl⟩ : ∃ k, i = k + 1 := ⟨i - 1, by omega⟩
    have ht := stT_turn (ws := ws) h0 (k + 1)
    rw [hm] at ht
    unfold okT
    rw [stT_credit, ht, ha]
    have := hw j hj
    simp only [Bool.and_true, decide_eq_true_eq]
    rw [List.getD_eq_getElem?_getD, List.getElem?_eq_getElem hj]
    simp only [Option.getD_some]
    omega
  split
  · rename_i h
    exact key _ (by omega) (by rw [show s.1 + (j - s.1) = j by omega]; exact Nat.mod_eq_of_lt hj)
  · rename_i h
    exact key _ (by omega) (by rw [show s.1 + (j + ws.length - s.1) = j + ws.length by omega, Nat.add_mod_right]; exact Nat.mod_eq_of_lt hj)
def nextF (ws : List Int) (tn cr rd : Int) (ab : List Bool) : (Int × Int × Int) × Int × Int :=
  if ¬ chkE ws tn cr rd = 0 then ((0, 0, 0), -1, chkE ws tn cr rd)
  else if ¬ ab.length = ws.length then ((0, 0, 0), -1, 1)
  else match findT ws (tn.toNat, cr, rd) ab with
    | none => ((tn, cr, rd), -1, 0)
    | some i => if 4611686018427387904 < (stT ws (tn.toNat, cr, rd) i).2.2 then ((0, 0, 0), -1, 4)
      else ((((stT ws (tn.toNat, cr, rd) i).1 : Int), (stT ws (tn.toNat, cr, rd) i).2.1 - 1, (stT ws (tn.toNat, cr, rd) i).2.2), ((stT ws (tn.toNat, cr, rd) i).1 : Int), 0)
end Go.Proofs.Ytehbfajmileefaa
