/-
  Windows of what a gate admits: of what was admitted between two steps, these included, and what is there behind them, there is never more than the burst and the rate times the ticks.
-/
import Derived.Test.YtnogbjpiocckiaaLr
namespace Go.Proofs.Ytnogbjpiocckiaa
open Go.RowKit
set_option linter.unusedVariables false
/-- what was admitted from step i on, of the first k -/
def winN (ns : List Int) (i : Nat) : Nat → Int
  | 0 => 0
  | k + 1 => winN ns i k + (if i ≤ k then ns.getD k 0 else 0)
theorem winN_zero {ns : List Int} {i : Nat} : ∀ {k : Nat}, k ≤ i → winN ns i k = 0
  | 0, _ => rfl
  | k + 1, h => by rw [winN, winN_zero (by omega), if_neg (by omega)]; rfl
theorem getD_lt {l : List Int} {k : Nat} (x : Int) (h : k < l.length) : (l ++ [x]).getD k 0 = l.getD k 0 := by
  simp only [List.getD]; rw [List.getElem?_append_left h]
theorem getD_at (l : List Int) (x : Int) : (l ++ [x]).getD l.length 0 = x := by
  simp [List.getD]
theorem winN_snoc {ns : List Int} {i : Nat} (x : Int) : ∀ {k : Nat}, k ≤ ns.length → winN (ns ++ [x]) i k = winN ns i k
  | 0, _ => rfl
  | k + 1, h => by rw [winN, winN, winN_snoc x (by omega), getD_lt x (by omega)]
theorem gM_step' {T R a b B : Int} (hT : T ≤ B) (hR : 0 ≤ R) (ha : 0 ≤ a) (hb : 0 ≤ b) : gM T R (a + b) B ≤ gM T R a B + R * b := by
  rw [← gM_add hT hR ha hb]
  have := Int.mul_nonneg hR hb
  unfold gM
  split <;> split <;> omega
/-- what is known of a gate's steps -/
structure GW (R B : Int) (ts ns : List Int) (T L t : Int) : Prop where
  len : ns.length = ts.length
  ok : okB R B T L = true
  lo : L ≤ t
  hi : t ≤ 4611686018427387904
  small : ∀ i, 0 ≤ ns.getD i 0 ∧ ns.getD i 0 ≤ 7
  past : ∀ i, i < ts.length → 0 ≤ ts.getD i 0 ∧ ts.getD i 0 ≤ t
  now : ∀ i, i < ts.length → winN ns i ts.length + gM T R (t - L) B ≤ B + R * (t - ts.getD i 0)
  win : ∀ i k, i ≤ k → k < ts.length → winN ns i (k + 1) ≤ B + R * (ts.getD k 0 - ts.getD i 0) ∧ ts.getD i 0 ≤ ts.getD k 0
theorem GW.start {R B T L : Int} (h : okB R B T L = true) : GW R B [] [] T L L := by
  obtain ⟨a1, a2, a3, a4, a5, a6, a7, a8⟩ := okB_iff h
  exact ⟨rfl, h, Int.le_refl _, a8, fun i => by simp [List.getD], fun i hi => absurd hi (by simp), fun i hi => absurd hi (by simp), fun i k _ hi => absurd hi (by simp)⟩
theorem GW.step {R B T L t t' T' L' n : Int} {ts ns : List Int} (h : GW R B ts ns T L t) (h1 : t ≤ t') (h2 : t' ≤ 4611686018427387904) (hn : 0 ≤ n ∧ n ≤ 7) (hok : okB R B T' L' = true) (hlo : L' ≤ t')
    (hav : gM T' R (t' - L') B + n = gM T R (t' - L) B) : GW R B (ts ++ [t']) (ns ++ [n]) T' L' t' := by
  obtain ⟨a1, a2, a3, a4, a5, a6, a7, a8⟩ := okB_iff h.ok
  obtain ⟨b1, b2, b3, b4, b5, b6, b7, b8⟩ := okB_iff hok
  have hlen := h.len
  have hl0 := h.lo
  have hst : gM T R (t' - L) B ≤ gM T R (t - L) B + R * (t' - t) := by
    rw [show t' - L = (t - L) + (t' - t) by omega]
    exact gM_step' a6 a1 (by omega) (by omega)
  have hge : 0 ≤ gM T' R (t' - L') B := Int.le_trans b5 (gM_ge b6 b1 (by omega))
  have hle : gM T R (t' - L) B ≤ B := gM_le
  have hw : ∀ i, i ≤ ts.length → winN (ns ++ [n]) i (ts.length + 1) + gM T' R (t' - L') B ≤ B + R * (t' - (ts ++ [t']).getD i 0) := by
    intro i hi
    rw [winN, if_pos hi, winN_snoc n (by omega), ← hlen, getD_at, hlen]
    by_cases e : i = ts.length
    · subst e
      rw [getD_at, winN_zero (Nat.le_refl _), Int.sub_self, Int.mul_zero]; omega
    · have hi' : i < ts.length := by omega
      have q := h.now i hi'
      rw [getD_lt t' hi']
      have hm : R * (t' - ts.getD i 0) = R * (t - ts.getD i 0) + R * (t' - t) := by rw [← Int.mul_add]; congr 1; omega
      rw [hm]; omega
  refine ⟨by simp [hlen], hok, hlo, h2, fun i => ?_, fun i hi => ?_, fun i hi => ?_, fun i k hik hk => ?_⟩
  · by_cases e : i < ns.length
    · rw [getD_lt n e]; exact h.small i
    · by_cases e2 : i = ns.length
      · subst e2; rw [getD_at]; exact hn
      · simp [List.getD, show ¬ i < ns.length + 1 by omega]
  · simp only [List.length_append, List.length_cons, List.length_nil] at hi
    by_cases e : i < ts.length
    · rw [getD_lt t' e]; have := h.past i e; omega
    · obtain rfl : i = ts.length := by omega
      rw [getD_at]; omega
  · simp only [List.length_append, List.length_cons, List.length_nil] at hi ⊢
    exact hw i (by omega)
  · simp only [List.length_append, List.length_cons, List.length_nil] at hk
    by_cases e : k < ts.length
    · rw [winN_snoc n (by omega), getD_lt t' e, getD_lt t' (by omega)]
      exact h.win i k hik e
    · obtain rfl : k = ts.length := by omega
      have q := hw i hik
      rw [getD_at]
      refine ⟨by omega, ?_⟩
      by_cases e : i < ts.length
      · rw [getD_lt t' e]; have := h.past i e; omega
      · obtain rfl : i = ts.length := by omega
        rw [getD_at]; omega
theorem winN_small {R B T L t : Int} {ts ns : List Int} (h : GW R B ts ns T L t) (i : Nat) : ∀ k, 0 ≤ winN ns i k ∧ winN ns i k ≤ 7 * k
  | 0 => by simp [winN]
  | k + 1 => by
    have ih := winN_small h i k
    have := h.small k
    rw [winN]; split <;> omega
/-- admitted -/
theorem av_yes {R B T L t' n : Int} (h : okB R B T L = true) (hn : 0 ≤ n) (hlo : L ≤ t') (hhi : t' ≤ 4611686018427387904) (hg : n ≤ gM T R (t' - L) B) :
    okB R B (gM T R (t' - L) B - n) t' = true ∧ gM (gM T R (t' - L) B - n) R (t' - t') B + n = gM T R (t' - L) B := by
  obtain ⟨a1, a2, a3, a4, a5, a6, a7, a8⟩ := okB_iff h
  have hle : gM T R (t' - L) B ≤ B := gM_le
  refine ⟨okB_true (by omega), ?_⟩
  rw [Int.sub_self]
  generalize gM T R (t' - L) B = g at *
  unfold gM; rw [Int.mul_zero, Int.add_zero, if_neg (by omega)]; omega
/-- between any two steps, these included, no more was admitted than may be -/
theorem GW.le {R B T L t : Int} {ts ns : List Int} (h : GW R B ts ns T L t) {i k : Nat} (hik : i ≤ k) (hk : k < ts.length) (hf : ts.length ≤ 1000) :
    winN ns i (k + 1) ≤ gM B R (ts.getD k 0 - ts.getD i 0) 9223372036854775807 := by
  have := h.win i k hik hk
  have := winN_small h i (k + 1)
  unfold gM
  split <;> omega
end Go.Proofs.Ytnogbjpiocckiaa
