/-
  Windows of a play: of what was taken between two steps, these included, and what is there behind them, there is never more than the burst and the rate times the ticks.
-/
import Derived.Test.YteojndglglkgpaaG
import Derived.Test.YteojndglglkgpaaM
namespace Go.Proofs.Yteojndglglkgpaa
open Go.RowKit
set_option linter.unusedVariables false
/-- what was taken from step i on, of the first k -/
def winS (xs : List (Int × Int)) (ds : List Bool) (i : Nat) : Nat → Int
  | 0 => 0
  | k + 1 => winS xs ds i k + (if i ≤ k ∧ ds.getD k false = true then (xs.getD k (0, 0)).2 else 0)
/-- the ticks behind step i, of the first k -/
def winW (xs : List (Int × Int)) (i : Nat) : Nat → Int
  | 0 => 0
  | k + 1 => winW xs i k + (if i < k then (xs.getD k (0, 0)).1 else 0)
theorem winS_zero {xs : List (Int × Int)} {ds : List Bool} {i : Nat} : ∀ {k : Nat}, k ≤ i → winS xs ds i k = 0
  | 0, _ => rfl
  | k + 1, h => by rw [winS, winS_zero (by omega), if_neg (by omega)]; rfl
theorem winW_zero {xs : List (Int × Int)} {i : Nat} : ∀ {k : Nat}, k ≤ i + 1 → winW xs i k = 0
  | 0, _ => rfl
  | k + 1, h => by rw [winW, winW_zero (by omega), if_neg (by omega)]; rfl
theorem Come.done {R B T L : Int} {xs : List (Int × Int)} {k : Nat} {T' L' t' : Int} {ds : List Bool} (c : Come R B T L xs k T' L' t' ds) {r : Int × Int × List Bool} (h : playM R B T L L xs = some r) :
    ∃ es, r.2.2 = ds ++ es := by
  have e := c.eq
  rw [h] at e
  obtain ⟨q, _, hq⟩ := Option.map_eq_some_iff.1 e.symm
  exact ⟨q.2.2, by rw [← hq]⟩
theorem gM_step {T R a b B : Int} (hT : T ≤ B) (hR : 0 ≤ R) (ha : 0 ≤ a) (hb : 0 ≤ b) : gM T R (a + b) B ≤ gM T R a B + R * b := by
  rw [← gM_add hT hR ha hb]
  have := Int.mul_nonneg hR hb
  unfold gM
  split <;> split <;> omega
/-- what holds before step k of the window that begins at i -/
theorem win_inv {R B T L : Int} {xs : List (Int × Int)} {r : Int × Int × List Bool} (hok : okB R B T L = true) (h : playM R B T L L xs = some r) (i : Nat) :
    ∀ k, k ≤ xs.length → ∃ T' L' t' ds, Come R B T L xs k T' L' t' ds ∧ (i < k → winS xs r.2.2 i k + gM T' R (t' - L') B ≤ B + R * winW xs i k) := by
  intro k
  induction k with
  | zero => exact fun _ => ⟨T, L, L, [], Come.start hok, fun h => absurd h (by omega)⟩
  | succ k ih =>
    intro hk
    obtain ⟨T', L', t', ds, hc, hw⟩ := ih (by omega)
    have hlt : k < xs.length := by omega
    obtain ⟨hbad, hgood⟩ := hc.next hlt
    obtain ⟨q1, q2, q3, q4, q5, q6, q7, q8⟩ := okB_iff hc.ok
    have lo := hc.lo
    have hxk : xs.getD k (0, 0) = xs[k] := by simp [List.getD, hlt]
    by_cases c : 0 ≤ (xs[k]).1 ∧ (xs[k]).1 ≤ 4611686018427387904 - t' ∧ 0 ≤ (xs[k]).2
    · obtain ⟨_, hy, hn⟩ := hgood c
      have hst : gM T' R (t' + (xs[k]).1 - L') B ≤ gM T' R (t' - L') B + R * (xs[k]).1 := by
        rw [show t' + (xs[k]).1 - L' = (t' - L') + (xs[k]).1 by omega]
        exact gM_step (by omega) (by omega) (by omega) c.1
      have hle : gM T' R (t' + (xs[k]).1 - L') B ≤ B := gM_le
      have hge : 0 ≤ gM T' R (t' + (xs[k]).1 - L') B := Int.le_trans q5 (gM_ge (by omega) (by omega) (by omega))
      have hW : R * (winW xs i k + (xs[k]).1) = R * winW xs i k + R * (xs[k]).1 := Int.mul_add _ _ _
      by_cases g : (xs[k]).2 ≤ gM T' R (t' + (xs[k]).1 - L') B
      · have c' := hy g
        obtain ⟨es, he⟩ := c'.done h
        have hd : r.2.2.getD k false = true := by
          rw [he]; simp [List.getD, ← hc.len]
        refine ⟨_, _, _, _, c', fun hi => ?_⟩
        rw [Int.sub_self]
        have hz : gM (gM T' R (t' + (xs[k]).1 - L') B - (xs[k]).2) R 0 B = gM T' R (t' + (xs[k]).1 - L') B - (xs[k]).2 := by
          unfold gM at hle ⊢; rw [Int.mul_zero, Int.add_zero]; rw [if_neg (by omega)]
        rw [hz, winS, winW, hxk, hd]
        by_cases e : i = k
        · subst e
          rw [winS_zero (Nat.le_refl _), winW_zero (by omega), if_pos ⟨Nat.le_refl _, rfl⟩, if_neg (by omega)]
          simp
          omega
        · have := hw (by omega)
          rw [if_pos ⟨by omega, rfl⟩, if_pos (by omega), hW]
          omega
      · have c' := hn (by omega)
        obtain ⟨es, he⟩ := c'.done h
        have hd : r.2.2.getD k false = false := by
          rw [he]; simp [List.getD, ← hc.len]
        refine ⟨_, _, _, _, c', fun hi => ?_⟩
        rw [winS, winW, hxk, hd]
        by_cases e : i = k
        · subst e
          rw [winS_zero (Nat.le_refl _), winW_zero (by omega), if_neg (by simp), if_neg (by omega)]
          simp
          omega
        · have := hw (by omega)
          rw [if_neg (by simp), if_pos (by omega), hW]
          omega
    · rw [hbad c] at h; cases h
/-- between any two steps, these included, no more was taken than may be -/
theorem win_le {R B T L : Int} {xs : List (Int × Int)} {r : Int × Int × List Bool} (hok : okB R B T L = true) (h : playM R B T L L xs = some r) {i k : Nat} (hi : i < k) (hk : k ≤ xs.length)
    (hb : winS xs r.2.2 i k ≤ 9223372036854775807) : winS xs r.2.2 i k ≤ gM B R (winW xs i k) 9223372036854775807 := by
  obtain ⟨T', L', t', ds, hc, hw⟩ := win_inv hok h i k hk
  have := hw hi
  obtain ⟨q1, q2, q3, q4, q5, q6, q7, q8⟩ := okB_iff hc.ok
  have lo := hc.lo
  have hge : 0 ≤ gM T' R (t' - L') B := Int.le_trans q5 (gM_ge (by omega) (by omega) (by omega))
  unfold gM
  split <;> omega
end Go.Proofs.Yteojndglglkgpaa
