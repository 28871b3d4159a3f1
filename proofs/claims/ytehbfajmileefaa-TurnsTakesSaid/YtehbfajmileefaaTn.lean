import Derived.Test.YtehbfajmileefaaTa
namespace Go.Proofs.Ytehbfajmileefaa
open Go.RowKit
set_option linter.unusedVariables false
set_option linter.unusedSimpArgs false
theorem next_bad {ws : List Int} {tn cr rd : Int} {ab : List Bool} (h : ¬ chkE ws tn cr rd = 0) : nextF ws tn cr rd ab = ((0, 0, 0), -1, chkE ws tn cr rd) := by unfold nextF; rw [if_pos h]
theorem next_len {ws : List Int} {tn cr rd : Int} {ab : List Bool} (h : chkE ws tn cr rd = 0) (hl : ¬ ab.length = ws.length) : nextF ws tn cr rd ab = ((0, 0, 0), -1, 1) := by unfold nextF; rw [if_neg (by simpa using h), if_pos hl]
theorem next_none {ws : List Int} {tn cr rd : Int} {ab : List Bool} (h : chkE ws tn cr rd = 0) (hl : ab.length = ws.length) (hf : findT ws (tn.toNat, cr, rd) ab = none) : nextF ws tn cr rd ab = ((tn, cr, rd), -1, 0) := by
  unfold nextF; rw [if_neg (by simpa using h), if_neg (by simpa using hl), hf]
theorem next_over {ws : List Int} {tn cr rd : Int} {ab : List Bool} {i : Nat} (h : chkE ws tn cr rd = 0) (hl : ab.length = ws.length) (hf : findT ws (tn.toNat, cr, rd) ab = some i) (ho : 4611686018427387904 < (stT ws (tn.toNat, cr, rd) i).2.2) : nextF ws tn cr rd ab = ((0, 0, 0), -1, 4) := by
  unfold nextF; rw [if_neg (by simpa using h), if_neg (by simpa using hl), hf]; simp only []; rw [if_pos ho]
theorem next_some {ws : List Int} {tn cr rd : Int} {ab : List Bool} {i : Nat} (h : chkE ws tn cr rd = 0) (hl : ab.length = ws.length) (hf : findT ws (tn.toNat, cr, rd) ab = some i) (ho : ¬ 4611686018427387904 < (stT ws (tn.toNat, cr, rd) i).2.2) :
    nextF ws tn cr rd ab = ((((stT ws (tn.toNat, cr, rd) i).1 : Int), (stT ws (tn.toNat, cr, rd) i).2.1 - 1, (stT ws (tn.toNat, cr, rd) i).2.2), ((stT ws (tn.toNat, cr, rd) i).1 : Int), 0) := by
  unfold nextF; rw [if_neg (by simpa using h), if_neg (by simpa using hl), hf]; simp only []; rw [if_neg ho]
theorem rounds_eq {ws : List Int} {s : Nat × Int × Int} (h0 : s.1 < ws.length) : ∀ i, (stT ws s i).2.2 = s.2.2 + ((s.1 + i) / ws.length : Nat)
  | 0 => by rw [Nat.add_zero, Nat.div_eq_of_lt h0]; simp [stT]
  | i + 1 => by
    rw [stT_round, rounds_eq h0 i, stT_turn h0 (i + 1), show s.1 + (i + 1) = (s.1 + i) + 1 by omega, Nat.succ_div]
    by_cases hd : (s.1 + i + 1) % ws.length = 0
    · rw [if_pos hd, if_pos (Nat.dvd_of_mod_eq_zero hd)]; omega
    · rw [if_neg hd, if_neg (fun h => hd (Nat.mod_eq_zero_of_dvd h))]; omega
theorem round_le {ws : List Int} {s : Nat × Int × Int} (h0 : s.1 < ws.length) {i : Nat} (hi : i ≤ ws.length) : (stT ws s i).2.2 ≤ s.2.2 + 1 := by
  rw [rounds_eq h0 i]
  have : (s.1 + i) / ws.length < 2 := Nat.div_lt_of_lt_mul (by omega)
  omega
theorem find_ok {ws : List Int} {s : Nat × Int × Int} {ab : List Bool} {i : Nat} (h : findT ws s ab = some i) : i ≤ ws.length ∧ okT ab (stT ws s i) = true := by
  unfold findT at h
  have h1 := List.find?_some h
  have h2 := List.mem_of_find?_eq_some h
  rw [List.mem_range] at h2
  exact ⟨by omega, h1⟩
theorem next_facts {ws : List Int} {tn cr rd : Int} {ab : List Bool} (hp : 0 ≤ (nextF ws tn cr rd ab).2.1) :
    (nextF ws tn cr rd ab).2.1 < ab.length ∧ ab.getD (nextF ws tn cr rd ab).2.1.toNat false = true ∧ (nextF ws tn cr rd ab).1.2.2 ≤ rd + 1 ∧ (nextF ws tn cr rd ab).2.2 = 0 := by
  by_cases hc : chkE ws tn cr rd = 0
  · by_cases hl : ab.length = ws.length
    · cases hf : findT ws (tn.toNat, cr, rd) ab with
      | none => rw [next_none hc hl hf] at hp; exact absurd (show (0 : Int) ≤ -1 from hp) (by decide)
      | some i =>
        by_cases ho : 4611686018427387904 < (stT ws (tn.toNat, cr, rd) i).2.2
        · rw [next_over hc hl hf ho] at hp; exact absurd (show (0 : Int) ≤ -1 from hp) (by decide)
        · rw [next_some hc hl hf ho]
          obtain ⟨hi, hok⟩ := find_ok hf
          obtain ⟨-, t0, t1, -⟩ := chkE_ok hc
          have hlt : (tn.toNat, cr, rd).1 < ws.length := by show tn.toNat < ws.length; omega
          have h1 := stT_turn hlt i
          have h2 : (stT ws (tn.toNat, cr, rd) i).1 < ws.length := by rw [h1]; exact Nat.mod_lt _ (by omega)
          have h3 := round_le hlt hi
          unfold okT at hok
          simp only [Bool.and_eq_true, decide_eq_true_eq] at hok
          refine ⟨?_, ?_, h3, rfl⟩
          · show ((stT ws (tn.toNat, cr, rd) i).1 : Int) < (ab.length : Int); omega
          · show ab.getD ((stT ws (tn.toNat, cr, rd) i).1 : Int).toNat false = true
            rw [Int.toNat_natCast]; exact hok.2
    · rw [next_len hc hl] at hp; exact absurd (show (0 : Int) ≤ -1 from hp) (by decide)
  · rw [next_bad hc] at hp; exact absurd (show (0 : Int) ≤ -1 from hp) (by decide)
end Go.Proofs.Ytehbfajmileefaa
