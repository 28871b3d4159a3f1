import Derived.Test.YtehbfajmileefaaHy
import Derived.Test.YtehbfajmileefaaHz
import Derived.Test.YtehbfajmileefaaTa
import Derived.Test.YtehbfajmileefaaTn
import Derived.Test.YtehbfajmileefaaLv
set_option linter.unusedSimpArgs false
set_option linter.unusedVariables false
set_option maxRecDepth 10000
namespace Go.Proofs.Ytehbfajmileefaa.Hx
open Go.RowKit Go.Proofs.Ytehbfajmileefaa.Vx Go.Proofs.Ytehbfajmileefaa.Fx Go.Proofs.Ytehbfajmileefaa.Px
noncomputable abbrev hx (n m : Nat) : Clh := callH prg tabH (Nat.beq 9) n m
def lI (l : List Int) (cp : Cp) : W := .l (l.map iW) cp
def lB (l : List Bool) (cp : Cp) : W := .l (l.map bW) cp
theorem h33 (n m : Nat) (a b c : Int) : hx (n + 1) m 33 [.i .i64 a, .i .i64 b, .i .i64 c] = .val (.b (decide (b ≤ a) && decide (a ≤ c))) := by
  rw [hx, q33 rfl]
  by_cases h : b ≤ a <;> simp only [d33, d33_1, h, jn_e, bH0, isRo, putW, bQ, Nat.reduceAdd, Nat.reduceEqDiff, Nat.reduceLT, Nat.reduceLeDiff, bR, packW, Bool.false_and]
theorem h37 (n m : Nat) (a : Int) : hx (n + 2) m 37 [.i .i64 a] = .val (.b (wBad a)) := by
  rw [hx, q37 rfl]
  simp only [d37, d37_1, hCall, List.map_cons, List.map_nil, pur_i, h33, jn_e, bH0, isRo, putW, bQ, Nat.reduceAdd, Nat.reduceEqDiff, Nat.reduceLT, Nat.reduceLeDiff, bR, packW, wBad]
  congr 2
  simp only [Bool.not_and, ← decide_not, Int.not_le]
theorem l39 (n m : Nat) {kr : W → W → Nm → CW} {k0 : W → Nm → CW} {l : List Int} {cp : Cp} (hm : l.length < 4294967296) : ∀ (r j : Nat), j + r = l.length → ∀ (j' : Nat), r < j' → ∀ M, ∃ (i : Nat),
    d39_5 (hx (n + 2) m) m kr k0 j' (.l (l.map iW) cp) (.fn 37 [] []) (.i .i64 l.length) (.i .i64 j) (.tup []) M = if (l.drop j).any wBad = true then kr (.tup []) (.i .i64 i) ⟨[], 0⟩ else k0 (.tup []) ⟨[], 0⟩
  | r, j, hj, 0, h0, M => by omega
  | 0, j, hj, j' + 1, h0, M => by
    refine ⟨0, ?_⟩
    have e : l.drop j = [] := List.drop_eq_nil_of_le (by omega)
    simp only [d39_5, bC, reach, d39_5b, jn_e, bH0, isRo, putW, bQ, Nat.reduceAdd, Nat.reduceEqDiff, Nat.reduceLT, Nat.reduceLeDiff, show ¬ ((j : Int) < l.length) by omega, e, List.any_nil]
  | r + 1, j, hj, j' + 1, h0, M => by
    have hjl : j < l.length := by omega
    obtain ⟨i, ih⟩ := l39 n m (kr := kr) (k0 := k0) (cp := cp) hm r (j + 1) (by omega) j' (by omega) ⟨[], 0⟩
    have e2 : l.drop j = l[j] :: l.drop (j + 1) := List.drop_eq_getElem_cons hjl
    simp only [d39_5, bC, reach, d39_5b, jn_e, bH0, isRo, putW, bQ, Nat.reduceAdd, Nat.reduceEqDiff, Nat.reduceLT, Nat.reduceLeDiff, show (j : Int) < l.length by omega, hIndexAddr_l, Int.natCast_nonneg, Int.toNat_natCast, List.getElem?_map, List.getElem?_eq_getElem hjl, Option.map_some, iW, hCall, pur_i, h37, frz_of, W.flat, W.fl1, Bool.true_or]
    cases hw : wBad l[j] with
    | true => exact ⟨j, by simp only [e2, List.any_cons, hw, Bool.true_or, if_true]⟩
    | false =>
      refine ⟨i, ?_⟩
      rw [wrap64 (by omega) (by omega)]
      simp only [Bool.false_eq_true, if_false, e2, List.any_cons, hw, Bool.false_or]
      exact ih
theorem h39 (n m : Nat) {l : List Int} {cp : Cp} (hl : l.length < m) (hm : l.length < 4294967296) : ∃ i : Int, hx (n + 3) m 39 [.l (l.map iW) cp, .fn 37 [] []] = .val (.i .i64 i) ∧ (0 ≤ i ↔ l.any wBad = true) := by
  rw [hx, q39 rfl]
  simp only [d39, d39_1, d39_2, d39_3, d39_4, jn_e, bH0, isRo, putW, bQ, Nat.reduceAdd, Nat.reduceEqDiff, Nat.reduceLT, Nat.reduceLeDiff, List.length_map]
  obtain ⟨i, e⟩ := l39 n m (cp := cp) (kr := fun z r0 M' => finH prg z [(.tmp 4, r0)] M') (k0 := fun t511 M' => finH prg t511 [(.tmp 4, .i .i64 (-1))] M') hm l.length 0 (by omega) m hl ⟨[], 0⟩
  rw [List.drop_zero] at e
  cases h : l.any wBad with
  | true => rw [h] at e; exact ⟨i, e.trans (by simp only [if_true, bR, packW, jn_e, bH0, isRo, putW, bQ, Nat.reduceAdd, Nat.reduceEqDiff, Nat.reduceLT, Nat.reduceLeDiff]), by simp⟩
  | false => rw [h] at e; exact ⟨-1, e.trans (by simp only [Bool.false_eq_true, if_false, bR, packW, jn_e, bH0, isRo, putW, bQ, Nat.reduceAdd, Nat.reduceEqDiff, Nat.reduceLT, Nat.reduceLeDiff]), by simp⟩
theorem h36 (n m : Nat) {l : List Int} {cp : Cp} (hl : l.length < m) (hm : l.length < 4294967296) : hx (n + 4) m 36 [.l (l.map iW) cp, .fn 37 [] []] = .val (.b (l.any wBad)) := by
  rw [hx, q36 rfl]
  obtain ⟨i, e, hi⟩ := h39 n m (cp := cp) hl hm
  simp only [d36, d36_1, hCall, List.map_cons, List.map_nil, pur_l, pur_fn, e, jn_e, bH0, isRo, putW, bQ, Nat.reduceAdd, Nat.reduceEqDiff, Nat.reduceLT, Nat.reduceLeDiff, bR, packW]
  congr 2
  rw [Bool.eq_iff_iff, decide_eq_true_iff]
  exact hi
theorem h30 (n m : Nat) {l : List Int} {cp : Cp} (hl : l.length < m) (hm : l.length < 4294967296) : hx (n + 5) m 30 [.l (l.map iW) cp] = .val (.i .i64 (wE l)) := by
  rw [hx, q30 rfl]
  simp only [d30, d30_1, jn_e, bH0, isRo, putW, bQ, Nat.reduceAdd, Nat.reduceEqDiff, Nat.reduceLT, Nat.reduceLeDiff, List.length_map]
  by_cases h : (16 : Int) < l.length
  · have e : wE l = 3 := by unfold wE; rw [if_pos (by omega)]
    simp only [h, jn_e, bH0, isRo, putW, bQ, Nat.reduceAdd, Nat.reduceEqDiff, Nat.reduceLT, Nat.reduceLeDiff, bR, packW, e]
  · by_cases h0 : (l.length : Int) = 0
    · have e : wE l = 4 := by unfold wE; rw [if_neg (by omega), if_pos (.inr (by omega))]
      simp only [h, h0, jn_e, bH0, isRo, putW, bQ, Nat.reduceAdd, Nat.reduceEqDiff, Nat.reduceLT, Nat.reduceLeDiff, bR, packW, e, show ¬ (16 : Int) < 0 by omega]
    · simp only [h, h0, jn_e, bH0, isRo, putW, bQ, Nat.reduceAdd, Nat.reduceEqDiff, Nat.reduceLT, Nat.reduceLeDiff, bR, packW, hCall, List.map_cons, List.map_nil, pur_fn, h36 n m hl hm, frz_of, W.flat, W.fl1, Bool.true_or]
      cases hw : l.any wBad with
      | true =>
        have e : wE l = 4 := by unfold wE; rw [if_neg (by omega), if_pos (.inl hw)]
        simp only [bR, packW, jn_e, bH0, isRo, putW, bQ, Nat.reduceAdd, Nat.reduceEqDiff, Nat.reduceLT, Nat.reduceLeDiff, e]
      | false =>
        have e : wE l = 0 := by unfold wE; rw [if_neg (by omega), if_neg (by rw [hw]; intro h; rcases h with h | h; (exact absurd h (by simp)); omega)]
        simp only [bR, packW, jn_e, bH0, isRo, putW, bQ, Nat.reduceAdd, Nat.reduceEqDiff, Nat.reduceLT, Nat.reduceLeDiff, e]
theorem l11 (n m : Nat) {kr : W → W → Nm → CW} {k0 : W → W → Nm → CW} {l : List Int} {cp : Cp} (hm : l.length < 4294967296) : ∀ (r j : Nat), j + r = l.length → ∀ (j' : Nat), r < j' → ∀ M,
    d11_6 (hx n m) m kr k0 j' (.l (l.map iW) cp) (.i .i64 j) (.tup []) M = if (l.drop j).any wBad = true then kr (.tup []) (.i .i64 4) ⟨[], 0⟩ else k0 (.l (l.map iW) cp) (.tup []) ⟨[], 0⟩
  | r, j, hj, 0, h0, M => by omega
  | 0, j, hj, j' + 1, h0, M => by
    have e : l.drop j = [] := List.drop_eq_nil_of_le (by omega)
    simp only [d11_6, bC, reach, d11_6b, jn_e, bH0, isRo, putW, bQ, Nat.reduceAdd, Nat.reduceEqDiff, Nat.reduceLT, Nat.reduceLeDiff, List.length_map, show ¬ ((j : Int) < l.length) by omega, e, List.any_nil]
  | r + 1, j, hj, j' + 1, h0, M => by
    have hjl : j < l.length := by omega
    have ih := l11 n m (kr := kr) (k0 := k0) (cp := cp) hm r (j + 1) (by omega) j' (by omega) ⟨[], 0⟩
    have e2 : l.drop j = l[j] :: l.drop (j + 1) := List.drop_eq_getElem_cons hjl
    simp only [d11_6, bC, reach, d11_6b, jn_e, bH0, isRo, putW, bQ, Nat.reduceAdd, Nat.reduceEqDiff, Nat.reduceLT, Nat.reduceLeDiff, List.length_map, show (j : Int) < l.length by omega, hIndexAddr_l, Int.natCast_nonneg, Int.toNat_natCast, List.getElem?_map, List.getElem?_eq_getElem hjl, Option.map_some, iW, e2, List.any_cons, wBad]
    by_cases h1 : l[j] < 1
    · simp only [h1, jn_e, bH0, isRo, putW, bQ, Nat.reduceAdd, Nat.reduceEqDiff, Nat.reduceLT, Nat.reduceLeDiff, Bool.true_or]
    · by_cases h8 : 8 < l[j]
      · simp only [h1, h8, jn_e, bH0, isRo, putW, bQ, Nat.reduceAdd, Nat.reduceEqDiff, Nat.reduceLT, Nat.reduceLeDiff, Bool.or_true, Bool.true_or]
      · simp only [h1, h8, jn_e, bH0, isRo, putW, bQ, Nat.reduceAdd, Nat.reduceEqDiff, Nat.reduceLT, Nat.reduceLeDiff, Bool.or_self, Bool.false_or]
        rw [wrap64 (by omega) (by omega)]
        exact ih
theorem h11 (n m : Nat) {l : List Int} {cp : Cp} (hl : l.length < m) (hm : l.length < 4294967296) : hx (n + 1) m 11 [.l (l.map iW) cp] = .val (.i .i64 (wE l)) := by
  rw [hx, q11 rfl]
  simp only [d11, d11_1, d11_2, jn_e, bH0, isRo, putW, bQ, Nat.reduceAdd, Nat.reduceEqDiff, Nat.reduceLT, Nat.reduceLeDiff, List.length_map]
  unfold wE
  by_cases h : (16 : Int) < l.length
  · simp only [h, jn_e, bH0, isRo, putW, bQ, Nat.reduceAdd, Nat.reduceEqDiff, Nat.reduceLT, Nat.reduceLeDiff, bR, packW]; rw [if_pos (by omega)]
  · simp only [h, jn_e, bH0, isRo, putW, bQ, Nat.reduceAdd, Nat.reduceEqDiff, Nat.reduceLT, Nat.reduceLeDiff, d11_3, d11_4, d11_5]
    refine (l11 n m (cp := cp) hm l.length 0 (by omega) m hl ⟨[], 0⟩).trans ?_
    rw [if_neg (show ¬ 16 < l.length by omega), List.drop_zero]
    cases hw : l.any wBad with
    | true => simp only [if_true, bR, packW, jn_e, bH0, isRo, putW, bQ, Nat.reduceAdd, Nat.reduceEqDiff, Nat.reduceLT, Nat.reduceLeDiff, true_or]
    | false =>
      by_cases h0 : (l.length : Int) = 0
      · simp only [Bool.false_eq_true, if_false, bR, packW, jn_e, bH0, isRo, putW, bQ, Nat.reduceAdd, Nat.reduceEqDiff, Nat.reduceLT, Nat.reduceLeDiff, false_or, List.length_map, h0]; rw [if_pos (by omega)]
      · simp only [Bool.false_eq_true, if_false, bR, packW, jn_e, bH0, isRo, putW, bQ, Nat.reduceAdd, Nat.reduceEqDiff, Nat.reduceLT, Nat.reduceLeDiff, false_or, List.length_map, h0]; rw [if_neg (by omega)]
theorem l14 (n m : Nat) {kr : W → W → Nm → CW} {k0 : W → Nm → CW} {l k : List Int} {cp cq : Cp} (hm : l.length < 4294967296) (hlk : l.length = k.length) : ∀ (r j : Nat), j + r = l.length → ∀ (j' : Nat), r < j' → ∀ M,
    d14_6 (hx n m) m kr k0 j' (.l (l.map iW) cp) (.l (k.map iW) cq) (.i .i64 j) (.tup []) M = if l.drop j = k.drop j then k0 (.tup []) ⟨[], 0⟩ else kr (.tup []) (.i .i64 0) ⟨[], 0⟩
  | r, j, hj, 0, h0, M => by omega
  | 0, j, hj, j' + 1, h0, M => by
    rw [List.drop_eq_nil_of_le (by omega), List.drop_eq_nil_of_le (by omega), if_pos rfl]
    simp only [d14_6, bC, reach, d14_6b, jn_e, bH0, isRo, putW, bQ, Nat.reduceAdd, Nat.reduceEqDiff, Nat.reduceLT, Nat.reduceLeDiff, List.length_map, show ¬ ((j : Int) < l.length) by omega]
  | r + 1, j, hj, j' + 1, h0, M => by
    have hjl : j < l.length := by omega
    have hjk : j < k.length := by omega
    have ih := l14 n m (kr := kr) (k0 := k0) (cp := cp) (cq := cq) hm hlk r (j + 1) (by omega) j' (by omega) ⟨[], 0⟩
    rw [List.drop_eq_getElem_cons hjl, List.drop_eq_getElem_cons hjk]
    simp only [d14_6, bC, reach, d14_6b, jn_e, bH0, isRo, putW, bQ, Nat.reduceAdd, Nat.reduceEqDiff, Nat.reduceLT, Nat.reduceLeDiff, List.length_map, show (j : Int) < l.length by omega, hIndexAddr_l, Int.natCast_nonneg, Int.toNat_natCast, List.getElem?_map, List.getElem?_eq_getElem hjl, List.getElem?_eq_getElem hjk, Option.map_some, iW, List.cons.injEq]
    by_cases h1 : l[j] = k[j]
    · simp only [h1, jn_e, bH0, isRo, putW, bQ, Nat.reduceAdd, Nat.reduceEqDiff, Nat.reduceLT, Nat.reduceLeDiff]
      rw [wrap64 (by omega) (by omega)]
      exact ih
    · simp only [h1, jn_e, bH0, isRo, putW, bQ, Nat.reduceAdd, Nat.reduceEqDiff, Nat.reduceLT, Nat.reduceLeDiff, false_and]
theorem h14 (n m : Nat) {l k : List Int} {cp cq : Cp} (hl : l.length < m) (hm : l.length < 4294967296) (hk : k.length < 4294967296) : hx (n + 1) m 14 [.l (l.map iW) cp, .l (k.map iW) cq] = .val (.i .i64 (if l = k then 1 else 0)) := by
  rw [hx, q14 rfl]
  simp only [d14, d14_1, d14_2, jn_e, bH0, isRo, putW, bQ, Nat.reduceAdd, Nat.reduceEqDiff, Nat.reduceLT, Nat.reduceLeDiff, List.length_map]
  by_cases h : (l.length : Int) = k.length
  · simp only [h, jn_e, bH0, isRo, putW, bQ, Nat.reduceAdd, Nat.reduceEqDiff, Nat.reduceLT, Nat.reduceLeDiff, d14_3, d14_4, d14_5]
    refine (l14 n m (cp := cp) (cq := cq) hm (by omega) l.length 0 (by omega) m hl ⟨[], 0⟩).trans ?_
    rw [List.drop_zero, List.drop_zero]
    by_cases e : l = k
    · rw [if_pos e, if_pos e]; simp only [bR, packW, jn_e, bH0, isRo, putW, bQ, Nat.reduceAdd, Nat.reduceEqDiff, Nat.reduceLT, Nat.reduceLeDiff]
    · rw [if_neg e, if_neg e]; simp only [bR, packW, jn_e, bH0, isRo, putW, bQ, Nat.reduceAdd, Nat.reduceEqDiff, Nat.reduceLT, Nat.reduceLeDiff]
  · simp only [h, jn_e, bH0, isRo, putW, bQ, Nat.reduceAdd, Nat.reduceEqDiff, Nat.reduceLT, Nat.reduceLeDiff, bR, packW]
    rw [if_neg (fun e => h (by rw [e]))]
theorem l22 (n m : Nat) {kr : W → W → Nm → CW} {k0 : W → W → Nm → CW} {l : List Int} {cp : Cp} {a : Int} (hm : l.length < 4294967296) : ∀ (r j : Nat), j + r = l.length → ∀ (j' : Nat), r < j' → ∀ (c : Nat), c ≤ j → ∀ M,
    d22_6 (hx n m) m kr k0 j' (.l (l.map iW) cp) (.i .i64 a) (.i .i64 c) (.i .i64 j) (.tup []) M = k0 (.i .i64 ((c + (l.drop j).count a : Nat) : Int)) (.tup []) ⟨[], 0⟩
  | r, j, hj, 0, h0, c, hc, M => by omega
  | 0, j, hj, j' + 1, h0, c, hc, M => by
    rw [List.drop_eq_nil_of_le (by omega), List.count_nil]
    simp only [d22_6, bC, reach, d22_6b, jn_e, bH0, isRo, putW, bQ, Nat.reduceAdd, Nat.reduceEqDiff, Nat.reduceLT, Nat.reduceLeDiff, List.length_map, show ¬ ((j : Int) < l.length) by omega]
  | r + 1, j, hj, j' + 1, h0, c, hc, M => by
    have hjl : j < l.length := by omega
    rw [List.drop_eq_getElem_cons hjl, List.count_cons]
    simp only [d22_6, bC, reach, d22_6b, jn_e, bH0, isRo, putW, bQ, Nat.reduceAdd, Nat.reduceEqDiff, Nat.reduceLT, Nat.reduceLeDiff, List.length_map, show (j : Int) < l.length by omega, hIndexAddr_l, Int.natCast_nonneg, Int.toNat_natCast, List.getElem?_map, List.getElem?_eq_getElem hjl, Option.map_some, iW]
    by_cases h1 : l[j] = a
    · have ih := l22 n m (kr := kr) (k0 := k0) (cp := cp) (a := a) hm r (j + 1) (by omega) j' (by omega) (c + 1) (by omega) ⟨[], 0⟩
      simp only [h1, jn_e, bH0, isRo, putW, bQ, Nat.reduceAdd, Nat.reduceEqDiff, Nat.reduceLT, Nat.reduceLeDiff, beq_self_eq_true]
      rw [wrap64 (by omega) (by omega), wrap64 (by omega) (by omega)]
      refine ih.trans ?_
      congr 3; omega
    · have ih := l22 n m (kr := kr) (k0 := k0) (cp := cp) (a := a) hm r (j + 1) (by omega) j' (by omega) c (by omega) ⟨[], 0⟩
      simp only [h1, jn_e, bH0, isRo, putW, bQ, Nat.reduceAdd, Nat.reduceEqDiff, Nat.reduceLT, Nat.reduceLeDiff, beq_iff_eq]
      rw [wrap64 (by omega) (by omega)]
      exact ih
theorem h22 (n m : Nat) {l : List Int} {cp : Cp} {a : Int} (hl : l.length < m) (hm : l.length < 4294967296) : hx (n + 1) m 22 [.l (l.map iW) cp, .i .i64 a] = .val (.i .i64 (l.count a : Nat)) := by
  rw [hx, q22 rfl]
  simp only [d22, d22_1, d22_2, d22_3, d22_4, d22_5]
  refine (l22 n m (cp := cp) (c := 0) hm l.length 0 (by omega) m hl (by omega) ⟨[], 0⟩).trans ?_
  simp only [bR, packW, jn_e, bH0, isRo, putW, bQ, Nat.reduceAdd, Nat.reduceEqDiff, Nat.reduceLT, Nat.reduceLeDiff, List.drop_zero]
def tW (w : W) (tn cr rd : Int) : W := .agg [w, .i .i64 tn, .i .i64 cr, .i .i64 rd]
theorem h15 (n m : Nat) {l k : List Int} {cp cq : Cp} {a b c a' b' c' : Int} (hl : l.length < m) (hm : l.length < 4294967296) (hk : k.length < 4294967296) :
    hx (n + 2) m 15 [tW (.l (l.map iW) cp) a b c, tW (.l (k.map iW) cq) a' b' c'] = .val (.i .i64 (if a = a' ∧ b = b' ∧ c = c' ∧ l = k then 1 else 0)) := by
  rw [hx, q15 rfl]
  simp only [d15, d15_1, tW, jn_e, bH0, isRo, putW, bQ, Nat.reduceAdd, Nat.reduceEqDiff, Nat.reduceLT, Nat.reduceLeDiff]
  by_cases h1 : a = a'
  · by_cases h2 : b = b'
    · by_cases h3 : c = c'
      · simp only [h1, h2, h3, jn_e, bH0, isRo, putW, bQ, Nat.reduceAdd, Nat.reduceEqDiff, Nat.reduceLT, Nat.reduceLeDiff, hCall, List.map_cons, List.map_nil, pur_l, h14 n m hl hm hk, bR, packW]
      · simp only [h1, h2, h3, jn_e, bH0, isRo, putW, bQ, Nat.reduceAdd, Nat.reduceEqDiff, Nat.reduceLT, Nat.reduceLeDiff, bR, packW, and_false, false_and]
    · simp only [h1, h2, jn_e, bH0, isRo, putW, bQ, Nat.reduceAdd, Nat.reduceEqDiff, Nat.reduceLT, Nat.reduceLeDiff, bR, packW, and_false, false_and]
  · simp only [h1, jn_e, bH0, isRo, putW, bQ, Nat.reduceAdd, Nat.reduceEqDiff, Nat.reduceLT, Nat.reduceLeDiff, bR, packW, and_false, false_and]
end Go.Proofs.Ytehbfajmileefaa.Hx
namespace Go.Proofs.Ytehbfajmileefaa.Hx
open Go.RowKit Go.Proofs.Ytehbfajmileefaa.Vx Go.Proofs.Ytehbfajmileefaa.Fx Go.Proofs.Ytehbfajmileefaa.Px
theorem h12 (n m : Nat) {l : List Int} {cp : Cp} {tn cr rd : Int} (hl : l.length < m) (hm : l.length < 4294967296) : hx (n + 6) m 12 [tW (.l (l.map iW) cp) tn cr rd] = .val (.i .i64 (chkE l tn cr rd)) := by
  rw [hx, q12 rfl]
  have e30 : ∀ cp, hx (n + 5) m 30 [.l (l.map iW) cp] = _ := fun cp => h30 n m hl hm
  have e33 : ∀ a b c, hx (n + 5) m 33 [.i .i64 a, .i .i64 b, .i .i64 c] = _ := fun a b c => h33 (n + 4) m a b c
  simp only [d12, d12_1, tW, jn_e, bH0, isRo, putW, bQ, Nat.reduceAdd, Nat.reduceEqDiff, Nat.reduceLT, Nat.reduceLeDiff, hCall, List.map_cons, List.map_nil, pur_l, pur_i, e30, e33, frz_of, W.flat, W.fl1, Bool.true_or, List.length_map]
  unfold chkE
  by_cases h : wE l = 0
  rotate_left
  · simp only [h, jn_e, bH0, isRo, putW, bQ, Nat.reduceAdd, Nat.reduceEqDiff, Nat.reduceLT, Nat.reduceLeDiff, bR, packW, not_false_eq_true]
  obtain ⟨w1, w2, w3⟩ := wE_ok h
  rw [wrap64 (by omega) (by omega)]
  simp only [h, jn_e, bH0, isRo, putW, bQ, Nat.reduceAdd, Nat.reduceEqDiff, Nat.reduceLT, Nat.reduceLeDiff, not_true_eq_false]
  by_cases h1 : 0 ≤ tn ∧ tn ≤ (l.length : Int) - 1
  rotate_left
  · have e : (decide (0 ≤ tn) && decide (tn ≤ (l.length : Int) - 1)) = false := by simp only [Bool.and_eq_false_iff, decide_eq_false_iff_not]; omega
    simp only [e, jn_e, bH0, isRo, putW, bQ, Nat.reduceAdd, Nat.reduceEqDiff, Nat.reduceLT, Nat.reduceLeDiff, bR, packW]
    rw [if_pos (by omega)]
  have e : (decide (0 ≤ tn) && decide (tn ≤ (l.length : Int) - 1)) = true := by simp only [Bool.and_eq_true, decide_eq_true_eq]; exact h1
  have htn : tn.toNat < l.length := by omega
  have hg : l.getD tn.toNat 0 = l[tn.toNat] := by rw [List.getD_eq_getElem?_getD, List.getElem?_eq_getElem htn]; rfl
  simp only [e, jn_e, bH0, isRo, putW, bQ, Nat.reduceAdd, Nat.reduceEqDiff, Nat.reduceLT, Nat.reduceLeDiff, hIndexAddr_l, if_pos h1.1, List.getElem?_map, List.getElem?_eq_getElem htn, Option.map_some, iW, pur_i, e33, hg, hCall, List.map_cons, List.map_nil, frz_of, W.flat, W.fl1, Bool.true_or]
  by_cases h2 : 0 ≤ cr ∧ cr ≤ l[tn.toNat]
  rotate_left
  · have e : (decide (0 ≤ cr) && decide (cr ≤ l[tn.toNat])) = false := by simp only [Bool.and_eq_false_iff, decide_eq_false_iff_not]; omega
    simp only [e, jn_e, bH0, isRo, putW, bQ, Nat.reduceAdd, Nat.reduceEqDiff, Nat.reduceLT, Nat.reduceLeDiff, bR, packW]
    rw [if_pos (by omega)]
  have e2 : (decide (0 ≤ cr) && decide (cr ≤ l[tn.toNat])) = true := by simp only [Bool.and_eq_true, decide_eq_true_eq]; exact h2
  simp only [e2, jn_e, bH0, isRo, putW, bQ, Nat.reduceAdd, Nat.reduceEqDiff, Nat.reduceLT, Nat.reduceLeDiff]
  by_cases h3 : rd < 0
  · simp only [h3, jn_e, bH0, isRo, putW, bQ, Nat.reduceAdd, Nat.reduceEqDiff, Nat.reduceLT, Nat.reduceLeDiff, bR, packW, true_or, or_true]
  · by_cases h4 : 4611686018427387904 < rd
    · simp only [h3, h4, jn_e, bH0, isRo, putW, bQ, Nat.reduceAdd, Nat.reduceEqDiff, Nat.reduceLT, Nat.reduceLeDiff, bR, packW, true_or, or_true]
    · simp only [h3, h4, jn_e, bH0, isRo, putW, bQ, Nat.reduceAdd, Nat.reduceEqDiff, Nat.reduceLT, Nat.reduceLeDiff, bR, packW, false_or]
      rw [if_neg (by omega)]
theorem h13 (n m : Nat) {l : List Int} {cp : Cp} {tn cr rd : Int} (hl : l.length < m) (hm : l.length < 4294967296) : hx (n + 2) m 13 [tW (.l (l.map iW) cp) tn cr rd] = .val (.i .i64 (chkE l tn cr rd)) := by
  rw [hx, q13 rfl]
  have e11 : ∀ cp, hx (n + 1) m 11 [.l (l.map iW) cp] = _ := fun cp => h11 n m hl hm
  simp only [d13, d13_1, tW, jn_e, bH0, isRo, putW, bQ, Nat.reduceAdd, Nat.reduceEqDiff, Nat.reduceLT, Nat.reduceLeDiff, hCall, List.map_cons, List.map_nil, pur_l, pur_i, e11, frz_of, W.flat, W.fl1, Bool.true_or, List.length_map]
  unfold chkE
  have hpos : 0 < wE l ↔ ¬ wE l = 0 := by unfold wE; split <;> (try split) <;> simp
  by_cases h : wE l = 0
  rotate_left
  · simp only [hpos.2 h, h, jn_e, bH0, isRo, putW, bQ, Nat.reduceAdd, Nat.reduceEqDiff, Nat.reduceLT, Nat.reduceLeDiff, bR, packW, not_false_eq_true, hCall, List.map_cons, List.map_nil, pur_l, e11, frz_of, W.flat, W.fl1, Bool.true_or]
  obtain ⟨w1, w2, w3⟩ := wE_ok h
  rw [wrap64 (by omega) (by omega)]
  simp only [h, jn_e, bH0, isRo, putW, bQ, Nat.reduceAdd, Nat.reduceEqDiff, Nat.reduceLT, Nat.reduceLeDiff, not_true_eq_false, Int.lt_irrefl]
  by_cases a1 : tn < 0
  · simp only [a1, jn_e, bH0, isRo, putW, bQ, Nat.reduceAdd, Nat.reduceEqDiff, Nat.reduceLT, Nat.reduceLeDiff, bR, packW, true_or]
  by_cases a2 : (l.length : Int) - 1 < tn
  · simp only [a1, a2, jn_e, bH0, isRo, putW, bQ, Nat.reduceAdd, Nat.reduceEqDiff, Nat.reduceLT, Nat.reduceLeDiff, bR, packW, true_or, or_true]
  by_cases a3 : rd < 0
  · simp only [a1, a2, a3, jn_e, bH0, isRo, putW, bQ, Nat.reduceAdd, Nat.reduceEqDiff, Nat.reduceLT, Nat.reduceLeDiff, bR, packW, true_or, or_true]
  by_cases a4 : 4611686018427387904 < rd
  · simp only [a1, a2, a3, a4, jn_e, bH0, isRo, putW, bQ, Nat.reduceAdd, Nat.reduceEqDiff, Nat.reduceLT, Nat.reduceLeDiff, bR, packW, true_or, or_true]
  have htn : tn.toNat < l.length := by omega
  have hg : l.getD tn.toNat 0 = l[tn.toNat] := by rw [List.getD_eq_getElem?_getD, List.getElem?_eq_getElem htn]; rfl
  by_cases a5 : cr < 0
  · simp only [a1, a2, a3, a4, a5, jn_e, bH0, isRo, putW, bQ, Nat.reduceAdd, Nat.reduceEqDiff, Nat.reduceLT, Nat.reduceLeDiff, bR, packW, true_or, or_true]
  simp only [a1, a2, a3, a4, a5, jn_e, bH0, isRo, putW, bQ, Nat.reduceAdd, Nat.reduceEqDiff, Nat.reduceLT, Nat.reduceLeDiff, hIndexAddr_l, if_pos (show 0 ≤ tn by omega), List.getElem?_map, List.getElem?_eq_getElem htn, Option.map_some, iW, hg, or_false, false_or]
  by_cases a6 : l[tn.toNat] < cr
  · simp only [a6, jn_e, bH0, isRo, putW, bQ, Nat.reduceAdd, Nat.reduceEqDiff, Nat.reduceLT, Nat.reduceLeDiff, bR, packW]
  · simp only [a6, jn_e, bH0, isRo, putW, bQ, Nat.reduceAdd, Nat.reduceEqDiff, Nat.reduceLT, Nat.reduceLeDiff, bR, packW]
theorem eqB (t u : Bool) (K : W → CW) : hBinG prg .eql 4 (.b t) (.b u) K = K (.b (t == u)) := by
  cases t <;> cases u <;> kernel_rfl
theorem l38 (n m : Nat) {kr : W → W → Nm → CW} {k0 : W → Nm → CW} {l : List Bool} {cp : Cp} (hm : l.length < 4294967296) : ∀ (r j : Nat), j + r = l.length → ∀ (j' : Nat), r < j' → ∀ M, ∃ (i : Nat),
    d38_5 (hx n m) m kr k0 j' (.l (l.map bW) cp) (.b true) (.i .i64 l.length) (.i .i64 j) (.tup []) M = if (l.drop j).any _root_.id = true then kr (.tup []) (.i .i64 i) ⟨[], 0⟩ else k0 (.tup []) ⟨[], 0⟩
  | r, j, hj, 0, h0, M => by omega
  | 0, j, hj, j' + 1, h0, M => by
    refine ⟨0, ?_⟩
    have e : l.drop j = [] := List.drop_eq_nil_of_le (by omega)
    simp only [d38_5, bC, reach, d38_5b, jn_e, bH0, isRo, putW, bQ, Nat.reduceAdd, Nat.reduceEqDiff, Nat.reduceLT, Nat.reduceLeDiff, show ¬ ((j : Int) < l.length) by omega, e, List.any_nil]
  | r + 1, j, hj, j' + 1, h0, M => by
    have hjl : j < l.length := by omega
    obtain ⟨i, ih⟩ := l38 n m (kr := kr) (k0 := k0) (cp := cp) hm r (j + 1) (by omega) j' (by omega) ⟨[], 0⟩
    have e2 : l.drop j = l[j] :: l.drop (j + 1) := List.drop_eq_getElem_cons hjl
    simp only [d38_5, bC, reach, d38_5b, jn_e, bH0, isRo, putW, bQ, Nat.reduceAdd, Nat.reduceEqDiff, Nat.reduceLT, Nat.reduceLeDiff, show (j : Int) < l.length by omega, hIndexAddr_l, Int.natCast_nonneg, Int.toNat_natCast, List.getElem?_map, List.getElem?_eq_getElem hjl, Option.map_some, bW, eqB, e2, List.any_cons, _root_.id]
    cases hw : l[j] with
    | true => exact ⟨j, by simp only [beq_self_eq_true, jn_e, bH0, isRo, putW, bQ, Nat.reduceAdd, Nat.reduceEqDiff, Nat.reduceLT, Nat.reduceLeDiff, Bool.true_or]⟩
    | false =>
      refine ⟨i, ?_⟩
      rw [wrap64 (by omega) (by omega)]
      simp only [show (true == false) = false from rfl, jn_e, bH0, isRo, putW, bQ, Nat.reduceAdd, Nat.reduceEqDiff, Nat.reduceLT, Nat.reduceLeDiff, Bool.false_or]
      exact ih
theorem h38 (n m : Nat) {l : List Bool} {cp : Cp} (hl : l.length < m) (hm : l.length < 4294967296) : ∃ i : Int, hx (n + 1) m 38 [.l (l.map bW) cp, .b true] = .val (.i .i64 i) ∧ (0 ≤ i ↔ l.any _root_.id = true) := by
  rw [hx, q38 rfl]
  simp only [d38, d38_1, d38_2, d38_3, d38_4, jn_e, bH0, isRo, putW, bQ, Nat.reduceAdd, Nat.reduceEqDiff, Nat.reduceLT, Nat.reduceLeDiff, List.length_map]
  obtain ⟨i, e⟩ := l38 n m (cp := cp) (kr := fun z r0 M' => finH prg z [(.tmp 4, r0)] M') (k0 := fun t511 M' => finH prg t511 [(.tmp 4, .i .i64 (-1))] M') hm l.length 0 (by omega) m hl ⟨[], 0⟩
  rw [List.drop_zero] at e
  cases h : l.any _root_.id with
  | true => rw [h] at e; exact ⟨i, e.trans (by simp only [if_true, bR, packW, jn_e, bH0, isRo, putW, bQ, Nat.reduceAdd, Nat.reduceEqDiff, Nat.reduceLT, Nat.reduceLeDiff]), by simp⟩
  | false => rw [h] at e; exact ⟨-1, e.trans (by simp only [Bool.false_eq_true, if_false, bR, packW, jn_e, bH0, isRo, putW, bQ, Nat.reduceAdd, Nat.reduceEqDiff, Nat.reduceLT, Nat.reduceLeDiff]), by simp⟩
theorem h34 (n m : Nat) {l : List Bool} {cp : Cp} (hl : l.length < m) (hm : l.length < 4294967296) : hx (n + 2) m 34 [.l (l.map bW) cp, .b true] = .val (.b (l.any _root_.id)) := by
  rw [hx, q34 rfl]
  obtain ⟨i, e, hi⟩ := h38 n m (cp := cp) hl hm
  simp only [d34, d34_1, hCall, List.map_cons, List.map_nil, pur_l, pur_b, e, jn_e, bH0, isRo, putW, bQ, Nat.reduceAdd, Nat.reduceEqDiff, Nat.reduceLT, Nat.reduceLeDiff, bR, packW]
  congr 2
  rw [Bool.eq_iff_iff, decide_eq_true_iff]
  exact hi
theorem noE {α : Type} {l : List α} (h : l ≠ []) (cp : Cp) : (cp.isE && l.isEmpty) = false := by
  cases l with
  | nil => exact absurd rfl h
  | cons a l => simp
theorem clip_l {t e z : Nat} (hu : prg.underlying t = some (.slice e)) (hz : szOf prg e = some z) {rows : List W} {cp : Cp} {N : Nm} {K : W → CW} (hr : (rows.all fun r => decide (r.cells.length = z)) = true) (hE : (cp.isE && rows.isEmpty) = false) :
    hSlice prg t (.l rows cp) none (some (.i .i64 rows.length)) (some (.i .i64 rows.length)) N K = K (.l rows (.n rows.length)) := by
  simp only [hSlice, hu, hz, oW_some, hr, hE, if_true, Option.isSome_some, Bool.not_true, Bool.and_false, Bool.false_eq_true, if_false, hBnd, Int.natCast_nonneg, Int.le_refl, and_self, Int.toNat_natCast, Nat.sub_zero, List.take_length, List.drop_zero]
theorem one22 {l : List Int} : ((l.map iW).all fun r => decide (r.cells.length = 1)) = true := all_map (f := iW) (fun _ => rfl) l
theorem h31 (n m : Nat) {l : List Int} {cp : Cp} (hE : (cp.isE && l.isEmpty) = false) : hx (n + 1) m 31 [.l (l.map iW) cp] = .val (.l (l.map iW) (.n l.length)) := by
  rw [hx, q31 rfl]
  have e := fun (N : Nm) (K : W → CW) => clip_l (t := 22) (e := 3) (z := 1) (cp := cp) (N := N) (K := K) (by kernel_rfl) (by kernel_rfl) (one22 (l := l)) (by rw [List.isEmpty_map]; exact hE)
  simp only [List.length_map] at e
  simp only [d31, d31_1, jn_e, bH0, isRo, putW, bQ, Nat.reduceAdd, Nat.reduceEqDiff, Nat.reduceLT, Nat.reduceLeDiff, List.length_map, e, bR, packW]
theorem h32 (n m : Nat) {l : List Int} {cp : Cp} (hne : l ≠ []) (hm : l.length < 4294967296) : hx (n + 1) m 32 [.l (l.map iW) cp] = .val (.l (l.map iW) .any) := by
  rw [hx, q32 rfl]
  obtain ⟨a, l', rfl⟩ := List.exists_cons_of_ne_nil hne
  have e1 : ∀ K, hBinG prg .eql 22 (.l ((a :: l').map iW) cp) (.c .nils) K = K (.b false) := fun K => by kernel_rfl
  have e2 : ∀ KN, hSlitO prg 22 0 [] ⟨[], 0⟩ KN = KN (.sl 0 0 0 (.is 0) 1) ⟨[(0, ⟨3, 1, [], false, false, true⟩)], 1⟩ := fun KN => by kernel_rfl
  simp only [d32, d32_1, e1, jn_e, bH0, isRo, putW, bQ, Nat.reduceAdd, Nat.reduceEqDiff, Nat.reduceLT, Nat.reduceLeDiff, e2]
  have hs : szI prg 22 = some (3, 1, 8) := by kernel_rfl
  have hf : ((a :: l').map iW).flatMap W.cells = (a :: l').map iW := by
    generalize a :: l' = k
    induction k with
    | nil => rfl
    | cons b k ih => simp only [List.map_cons, List.flatMap_cons, ih]; rfl
  have hpu : ((a :: l').map iW).all W.pu = true := all_map (f := iW) (fun _ => rfl) _
  have h1 : ((a :: l').map iW).all W.one = true := all_map (f := iW) (fun _ => rfl) _
  have hlen : ¬ (a :: l').length = 0 := by simp
  have hemp : (cp.isE && ((a :: l').map iW).isEmpty) = false := by simp
  unfold hApp
  simp only [hs, oW_some, hSrc, hemp, one22, and_self, if_true, hf, List.length_map, if_neg hlen, h1, hNews, hpu, cond_true, lookN_cons, List.length_nil, Nat.zero_mul, Nat.zero_add, Nat.add_zero]
  simp only [jn_e, bH0, isRo, putW, bQ, Nat.reduceAdd, Nat.reduceEqDiff, Nat.reduceLT, Nat.reduceLeDiff]
  have hmb : maxBytes = 1099511627776 := rfl
  have hm' : l'.length + 1 < 4294967296 := by simpa using hm
  rw [if_pos ⟨by omega, by omega⟩]
  simp only [bR, packW, jn_e, bH0, isRo, putW, bQ, Nat.reduceAdd, Nat.reduceEqDiff, Nat.reduceLT, Nat.reduceLeDiff]
  have hp := pur_sl (k := 3) (H := [(1, ⟨3, 1, (a :: l').map iW, true, false, true⟩), (0, ⟨3, 1, [], false, false, true⟩)]) (id := 1) (off := 0) (len := (a :: l').length) (z := 1) (cap := .rest 0) (b := ⟨3, 1, (a :: l').map iW, true, false, true⟩) (by simp [lookN_cons]) (by simp) (by simp [capFits]) (by omega) rfl
  rw [List.drop_zero, chunk_map iW (fun _ => rfl)] at hp
  exact congrArg CW.val hp
end Go.Proofs.Ytehbfajmileefaa.Hx
namespace Go.Proofs.Ytehbfajmileefaa.Hx
open Go.RowKit Go.Proofs.Ytehbfajmileefaa.Vx Go.Proofs.Ytehbfajmileefaa.Fx Go.Proofs.Ytehbfajmileefaa.Px
theorem wE_ne {ws : List Int} (h : wE ws = 0) : ws ≠ [] := by intro e; have := (wE_ok h).1; rw [e] at this; simp at this
theorem ag24 : aggB prg 24 = some true := by kernel_rfl
theorem sz24 : szOf prg 24 = some 4 := by kernel_rfl
def bx (w : W) (a b c : Int) : BN := ⟨24, 4, [w, .i .i64 a, .i .i64 b, .i .i64 c], false, false, true⟩
theorem part24 (w : W) (a b c : Int) : partW prg 24 [w, .i .i64 a, .i .i64 b, .i .i64 c] 0 = some (tW w a b c) := by
  rw [partW_agg ag24 sz24]; rfl
def resN (w : W) (f : (Int × Int × Int) × Int × Int) : W := .tup [tW (if f.2.2 = 0 then w else .c .nils) f.1.1 f.1.2.1 f.1.2.2, .i .i64 f.2.1, .i .i64 f.2.2]
noncomputable def kr16 : W → W → W → W → Nm → CW := fun z r0 r1 r2 M' => finH prg z [(.cell 4 24, r0), (.tmp 5, r1), (.tmp 6, r2)] M'
noncomputable def k016 : W → W → W → Nm → CW := fun t2 t4 t511 M =>
  hLoadN 4 t2 M fun t75 => hStoreN 4 t4 t75 M fun _ M15 => kr16 t511 t4 (.i .i64 (-1)) (.i .i64 0) M15
def mem16 (w : W) (tn cr rd : Int) (S : Nat × Int × Int) : Nm := ⟨[(0, bx w tn cr rd), (1, bx (.c .nils) 0 0 0), (2, bx w S.1 S.2.1 S.2.2)], 3⟩
theorem credit_le {ws : List Int} (hw : ∀ i (h : i < ws.length), 1 ≤ ws[i] ∧ ws[i] ≤ 8) {tn : Nat} {cr rd : Int} (ht : tn < ws.length) (hc : cr ≤ ws.getD tn 0) (i : Nat) : (stT ws (tn, cr, rd) i).2.1 ≤ 8 := by
  cases i with
  | zero =>
    show cr ≤ 8
    rw [List.getD_eq_getElem?_getD, List.getElem?_eq_getElem ht] at hc
    have := (hw tn ht).2
    simp only [Option.getD_some] at hc
    omega
  | succ i =>
    have h2 : (stT ws (tn, cr, rd) (i + 1)).1 < ws.length := by rw [stT_turn (s := (tn, cr, rd)) ht]; exact Nat.mod_lt _ (by omega)
    rw [stT_credit, List.getD_eq_getElem?_getD, List.getElem?_eq_getElem h2]
    exact (hw _ h2).2
theorem l16 (n m : Nat) {ws : List Int} {ab : List Bool} {cp cq : Cp} {tn cr rd : Int} (hlen : ab.length = ws.length) (hm : ws.length < 4294967296) (hc : chkE ws tn cr rd = 0) :
    ∀ (r i : Nat), i + r = ws.length + 1 → (∀ j, j < i → okT ab (stT ws (tn.toNat, cr, rd) j) = false) → ∀ j', r ≤ j' →
    d16_9b (hx n m) m kr16 k016 (d16_9 (hx n m) m kr16 k016 j') (.l (ab.map bW) cq) (.ptr 0 0) (.ptr 1 0) (.i .i64 ws.length) (.ptr 2 0) (.i .i64 i) (.tup [])
      (mem16 (.l (ws.map iW) cp) tn cr rd (stT ws (tn.toNat, cr, rd) (i - 1))) = .val (resN (.l (ws.map iW) cp) (nextF ws tn cr rd ab)) := by
  obtain ⟨g1, g2, g3, g4, g5, g6, g7⟩ := chkE_ok hc
  obtain ⟨w1, w2, w3⟩ := wE_ok g1
  have ht : tn.toNat < ws.length := by omega
  intro r
  induction r with
  | zero =>
    intro i hi hno j' hj'
    rw [next_none hc hlen (find_none fun j hj => hno j (by omega))]
    simp only [d16_9b, mem16, k016, kr16, jn_e, bH0, isRo, putW, bQ, Nat.reduceAdd, Nat.reduceEqDiff, Nat.reduceLT, Nat.reduceLeDiff, decide_eq_false (show ¬ (i : Int) ≤ ws.length by omega), bx]
    simp only [bR, packW, jn_e, bH0, isRo, putW, bQ, Nat.reduceAdd, Nat.reduceEqDiff, Nat.reduceLT, Nat.reduceLeDiff, part24]
    rfl
  | succ r ih =>
    intro i hi hno j' hj'
    obtain ⟨j', rfl⟩ : ∃ q, j' = q + 1 := ⟨j' - 1, by omega⟩
    have hturn := stT_turn (ws := ws) (s := (tn.toNat, cr, rd)) ht i
    have hturn2 : (stT ws (tn.toNat, cr, rd) i).1 < ws.length := by rw [hturn]; exact Nat.mod_lt _ (by omega)
    have hrds := stT_rounds ws (tn.toNat, cr, rd) i
    simp only at hrds
    have hcred := credit_le w3 (rd := rd) ht g7 i
    have hab : (stT ws (tn.toNat, cr, rd) i).1 < ab.length := by omega
    have hget : ab.getD (stT ws (tn.toNat, cr, rd) i).1 false = ab[(stT ws (tn.toNat, cr, rd) i).1] := by rw [List.getD_eq_getElem?_getD, List.getElem?_eq_getElem hab]; rfl
    have en : IntKind.i64.wrap ((i : Int) + 1) = ((i + 1 : Nat) : Int) := by rw [wrap64 (by omega) (by omega)]; rfl
    have hnext : okT ab (stT ws (tn.toNat, cr, rd) i) = false → ∀ j, j < i + 1 → okT ab (stT ws (tn.toNat, cr, rd) j) = false := fun h j hj => by
      by_cases e : j = i
      · subst e; exact h
      · exact hno j (by omega)
    simp only [d16_9b, bH0, isRo, putW, bQ, Nat.reduceAdd, Nat.reduceEqDiff, Nat.reduceLT, Nat.reduceLeDiff, decide_eq_true (show (i : Int) ≤ ws.length by omega)]
    rw [jn_e]
    refine jn_cut (fun ck => ck (.l (ab.map bW) cq) (.ptr 0 0) (.ptr 1 0) (.i .i64 ws.length) (.ptr 2 0) (.i .i64 i) (.tup [])
      (mem16 (.l (ws.map iW) cp) tn cr rd (stT ws (tn.toNat, cr, rd) i)) = .val (resN (.l (ws.map iW) cp) (nextF ws tn cr rd ab))) ?_ ?_
    ·
      have next : okT ab (stT ws (tn.toNat, cr, rd) i) = false → d16_9 (hx n m) m kr16 k016 (j' + 1) (.l (ab.map bW) cq) (.ptr 0 0) (.ptr 1 0) (.i .i64 ws.length) (.ptr 2 0) (.i .i64 (((i + 1 : Nat)) : Int)) (.tup [])
          (mem16 (.l (ws.map iW) cp) tn cr rd (stT ws (tn.toNat, cr, rd) i)) = .val (resN (.l (ws.map iW) cp) (nextF ws tn cr rd ab)) := by
        intro h
        have := ih (i + 1) (by omega) (hnext h) j' (by omega)
        rw [Nat.add_sub_cancel] at this
        rw [← this]
        rfl
      simp only [mem16, bx] at next
      simp only [mem16, bx, jn_e, bH0, isRo, putW, bQ, Nat.reduceAdd, Nat.reduceEqDiff, Nat.reduceLT, Nat.reduceLeDiff, hIndexAddr_l, Int.natCast_nonneg, Int.toNat_natCast, List.getElem?_map, List.getElem?_eq_getElem hab, Option.map_some, bW]
      cases hb : ab[(stT ws (tn.toNat, cr, rd) i).1] with
      | false =>
        simp only [jn_e, bH0, isRo, putW, bQ, Nat.reduceAdd, Nat.reduceEqDiff, Nat.reduceLT, Nat.reduceLeDiff, en]
        exact next (by unfold okT; rw [hget, hb, Bool.and_false])
      | true =>
        by_cases hcr : 0 < (stT ws (tn.toNat, cr, rd) i).2.1
        rotate_left
        · simp only [hcr, jn_e, bH0, isRo, putW, bQ, Nat.reduceAdd, Nat.reduceEqDiff, Nat.reduceLT, Nat.reduceLeDiff, en]
          exact next (by unfold okT; rw [decide_eq_false hcr, Bool.false_and])
        have hfind : findT ws (tn.toNat, cr, rd) ab = some i := find_least (by omega) (by unfold okT; rw [hget, hb, decide_eq_true hcr]; rfl) hno
        by_cases hbig : 4611686018427387904 < (stT ws (tn.toNat, cr, rd) i).2.2
        · rw [next_over hc hlen hfind hbig]
          simp only [hcr, hbig, jn_e, bH0, isRo, putW, bQ, Nat.reduceAdd, Nat.reduceEqDiff, Nat.reduceLT, Nat.reduceLeDiff, kr16, bR, packW, part24]
          rfl
        · rw [next_some hc hlen hfind hbig]
          simp only [hcr, hbig, jn_e, bH0, isRo, putW, bQ, Nat.reduceAdd, Nat.reduceEqDiff, Nat.reduceLT, Nat.reduceLeDiff]
          rw [wrap64 (by omega) (by omega)]
          simp only [jn_e, bH0, isRo, putW, bQ, Nat.reduceAdd, Nat.reduceEqDiff, Nat.reduceLT, Nat.reduceLeDiff, kr16, bR, packW, part24]
          rfl
    · intro ck hck
      by_cases hi0 : i = 0
      · subst hi0
        simp only [jn_e, bH0, isRo, putW, bQ, Nat.reduceAdd, Nat.reduceEqDiff, Nat.reduceLT, Nat.reduceLeDiff, show ¬ (0 : Int) < ((0 : Nat) : Int) by omega]
        exact hck
      obtain ⟨i', rfl⟩ : ∃ q, i = q + 1 := ⟨i - 1, by omega⟩
      have erem : Int.tmod (tn + ((i' + 1 : Nat) : Int)) ws.length = (((stT ws (tn.toNat, cr, rd) (i' + 1)).1 : Nat) : Int) := by
        rw [hturn, show tn + ((i' + 1 : Nat) : Int) = ((tn.toNat + (i' + 1) : Nat) : Int) by omega]; rfl
      have hcr : (stT ws (tn.toNat, cr, rd) (i' + 1)).2.1 = ws[(stT ws (tn.toNat, cr, rd) (i' + 1)).1]'hturn2 := by
        rw [stT_credit, List.getD_eq_getElem?_getD, List.getElem?_eq_getElem hturn2]; rfl
      have hround := stT_round ws (tn.toNat, cr, rd) i'
      have hrds' := stT_rounds ws (tn.toNat, cr, rd) i'
      simp only at hrds'
      simp only [mem16, bx, jn_e, bH0, isRo, putW, bQ, Nat.reduceAdd, Nat.reduceEqDiff, Nat.reduceLT, Nat.reduceLeDiff, decide_eq_true (show (0 : Int) < ((i' + 1 : Nat) : Int) by omega), Nat.add_sub_cancel]
      rw [wrap64 (by omega) (by omega)]
      simp only [rem64 _ _ (show (ws.length : Int) ≠ 0 by omega), erem, jn_e, bH0, isRo, putW, bQ, Nat.reduceAdd, Nat.reduceEqDiff, Nat.reduceLT, Nat.reduceLeDiff, hIndexAddr_l, Int.natCast_nonneg, Int.toNat_natCast, List.getElem?_map, List.getElem?_eq_getElem hturn2, Option.map_some, iW]
      by_cases hz : (stT ws (tn.toNat, cr, rd) (i' + 1)).1 = 0
      · rw [if_pos hz] at hround
        simp only [decide_eq_true (show (((stT ws (tn.toNat, cr, rd) (i' + 1)).1 : Nat) : Int) = 0 by omega), jn_e, bH0, isRo, putW, bQ, Nat.reduceAdd, Nat.reduceEqDiff, Nat.reduceLT, Nat.reduceLeDiff]
        rw [wrap64 (by omega) (by omega), ← hround, ← hcr]
        exact hck
      · rw [if_neg hz, Int.add_zero] at hround
        simp only [decide_eq_false (show ¬ (((stT ws (tn.toNat, cr, rd) (i' + 1)).1 : Nat) : Int) = 0 by omega), jn_e, bH0, isRo, putW, bQ, Nat.reduceAdd, Nat.reduceEqDiff, Nat.reduceLT, Nat.reduceLeDiff]
        rw [← hcr, ← hround]
        exact hck
end Go.Proofs.Ytehbfajmileefaa.Hx
namespace Go.Proofs.Ytehbfajmileefaa.Hx
open Go.RowKit Go.Proofs.Ytehbfajmileefaa.Vx Go.Proofs.Ytehbfajmileefaa.Fx Go.Proofs.Ytehbfajmileefaa.Px
theorem h16 (n m : Nat) {ws : List Int} {ab : List Bool} {cp cq : Cp} {tn cr rd : Int} (hl : ws.length + 1 < m) (hm : ws.length < 4294967296) (hma : ab.length < 4294967296) :
    hx (n + 3) m 16 [tW (.l (ws.map iW) cp) tn cr rd, .l (ab.map bW) cq] = .val (resN (.l (ws.map iW) cp) (nextF ws tn cr rd ab)) := by
  rw [hx, q16 rfl]
  have e13 : ∀ cp, hx (n + 2) m 13 [.agg [.l (ws.map iW) cp, .i .i64 tn, .i .i64 cr, .i .i64 rd]] = _ := fun cp => h13 n m (l := ws) (cp := cp) (tn := tn) (cr := cr) (rd := rd) (by omega) hm
  have hpos : 0 < chkE ws tn cr rd ↔ ¬ chkE ws tn cr rd = 0 := by
    have : chkE ws tn cr rd = 0 ∨ chkE ws tn cr rd = 3 ∨ chkE ws tn cr rd = 4 := by
      unfold chkE
      split
      · unfold wE; split
        · exact .inr (.inl rfl)
        · split
          · exact .inr (.inr rfl)
          · exact .inl rfl
      · split
        · exact .inr (.inr rfl)
        · exact .inl rfl
    omega
  simp only [d16, d16_1, d16_2, tW, jn_e, bH0, isRo, putW, bQ, Nat.reduceAdd, Nat.reduceEqDiff, Nat.reduceLT, Nat.reduceLeDiff, hCall, List.map_cons, List.map_nil, pur_agg, pur_l, pur_i, e13, frz_of, W.flat, W.fl1, Bool.true_or]
  by_cases hc : chkE ws tn cr rd = 0
  rotate_left
  · simp only [hpos.2 hc, jn_e, bH0, isRo, putW, bQ, Nat.reduceAdd, Nat.reduceEqDiff, Nat.reduceLT, Nat.reduceLeDiff, hCall, List.map_cons, List.map_nil, pur_agg, pur_l, pur_i, e13, frz_of, W.flat, W.fl1, Bool.true_or]
    simp only [bR, packW, jn_e, bH0, isRo, putW, bQ, Nat.reduceAdd, Nat.reduceEqDiff, Nat.reduceLT, Nat.reduceLeDiff, part24, next_bad hc, resN, if_neg hc, tW]
  simp only [hc, jn_e, bH0, isRo, putW, bQ, Nat.reduceAdd, Nat.reduceEqDiff, Nat.reduceLT, Nat.reduceLeDiff, d16_3, List.length_map, Int.lt_irrefl]
  by_cases hlen : ab.length = ws.length
  rotate_left
  · have : ¬ (ab.length : Int) = ws.length := by omega
    simp only [this, jn_e, bH0, isRo, putW, bQ, Nat.reduceAdd, Nat.reduceEqDiff, Nat.reduceLT, Nat.reduceLeDiff]
    simp only [bR, packW, jn_e, bH0, isRo, putW, bQ, Nat.reduceAdd, Nat.reduceEqDiff, Nat.reduceLT, Nat.reduceLeDiff, part24, next_len hc hlen, resN, tW]
    rfl
  have : (ab.length : Int) = ws.length := by omega
  simp only [this, jn_e, bH0, isRo, putW, bQ, Nat.reduceAdd, Nat.reduceEqDiff, Nat.reduceLT, Nat.reduceLeDiff, d16_4, d16_5, d16_6, d16_7, d16_8]
  obtain ⟨m, rfl⟩ : ∃ q, m = q + 1 := ⟨m - 1, by omega⟩
  have := l16 (n + 2) (m + 1) (cp := cp) (cq := cq) (tn := tn) (cr := cr) (rd := rd) hlen hm hc (ws.length + 1) 0 (by omega) (fun j hj => by omega) m (by omega)
  rw [← this]
  simp only [List.length_map, ← hlen]
  obtain ⟨-, g2, g3, -⟩ := chkE_ok hc
  have et : ((stT ws (tn.toNat, cr, rd) (0 - 1)).1 : Int) = tn := by show ((tn.toNat : Nat) : Int) = tn; omega
  simp only [mem16, et]
  rfl
theorem l17 (n m : Nat) {ws : List Int} {ab : List Bool} {cp cq : Cp} {tn cr rd : Int} {kr : W → W → W → W → W → Nm → CW} {k0 : W → W → Nm → CW} (hlen : ab.length = ws.length) (hm : ws.length < 4294967296) (hc : chkE ws tn cr rd = 0) {K : Nat} (hK : okT ab (stT ws (tn.toNat, cr, rd) K) = true) (hk4 : K < 4294967296) :
    ∀ (r i : Nat), i + r = K → (∀ j, i ≤ j → j < K → okT ab (stT ws (tn.toNat, cr, rd) j) = false) → ∀ j', r ≤ j' →
    d17_10b (hx n m) m kr k0 (d17_10 (hx n m) m kr k0 j') (.l (ab.map bW) cq) (.ptr 0 0) (.tup [])
      ⟨[(0, bx (.l (ws.map iW) cp) (stT ws (tn.toNat, cr, rd) i).1 (stT ws (tn.toNat, cr, rd) i).2.1 (stT ws (tn.toNat, cr, rd) i).2.2)], 1⟩
      = k0 (.ptr 0 0) (.tup []) ⟨[(0, bx (.l (ws.map iW) cp) (stT ws (tn.toNat, cr, rd) K).1 (stT ws (tn.toNat, cr, rd) K).2.1 (stT ws (tn.toNat, cr, rd) K).2.2)], 1⟩ := by
  obtain ⟨g1, g2, g3, g4, g5, g6, g7⟩ := chkE_ok hc
  obtain ⟨w1, w2, w3⟩ := wE_ok g1
  have ht : tn.toNat < ws.length := by omega
  have ok : ∀ i, (h : (stT ws (tn.toNat, cr, rd) i).1 < ab.length) → okT ab (stT ws (tn.toNat, cr, rd) i) = (decide (0 < (stT ws (tn.toNat, cr, rd) i).2.1) && ab[(stT ws (tn.toNat, cr, rd) i).1]) := fun i h => by
    unfold okT; rw [List.getD_eq_getElem?_getD, List.getElem?_eq_getElem h]; rfl
  intro r
  induction r with
  | zero =>
    intro i hi hno j' hj'
    have : i = K := by omega
    subst this
    have hab : (stT ws (tn.toNat, cr, rd) i).1 < ab.length := by rw [hlen, stT_turn (s := (tn.toNat, cr, rd)) ht]; exact Nat.mod_lt _ (by omega)
    rw [ok i hab, Bool.and_eq_true, decide_eq_true_eq] at hK
    simp only [d17_10b, bx, jn_e, bH0, isRo, putW, bQ, Nat.reduceAdd, Nat.reduceEqDiff, Nat.reduceLT, Nat.reduceLeDiff, hK.1, hK.2, hIndexAddr_l, Int.natCast_nonneg, Int.toNat_natCast, List.getElem?_map, List.getElem?_eq_getElem hab, Option.map_some, bW]
  | succ r ih =>
    intro i hi hno j' hj'
    obtain ⟨j', rfl⟩ : ∃ q, j' = q + 1 := ⟨j' - 1, by omega⟩
    have hturn2 : (stT ws (tn.toNat, cr, rd) i).1 < ws.length := by rw [stT_turn (s := (tn.toNat, cr, rd)) ht]; exact Nat.mod_lt _ (by omega)
    have hab : (stT ws (tn.toNat, cr, rd) i).1 < ab.length := by omega
    have hrds := stT_rounds ws (tn.toNat, cr, rd) i
    simp only at hrds
    have hno1 := hno i (Nat.le_refl _) (by omega)
    rw [ok i hab] at hno1
    have h := ih (i + 1) (by omega) (fun j h1 h2 => hno j (by omega) h2) j' (by omega)
    have hst : stT ws (tn.toNat, cr, rd) (i + 1) = stepT ws (stT ws (tn.toNat, cr, rd) i) := rfl
    have next : d17_10 (hx n m) m kr k0 (j' + 1) (.l (ab.map bW) cq) (.ptr 0 0) (.tup []) ⟨[(0, bx (.l (ws.map iW) cp) (stT ws (tn.toNat, cr, rd) (i + 1)).1 (stT ws (tn.toNat, cr, rd) (i + 1)).2.1 (stT ws (tn.toNat, cr, rd) (i + 1)).2.2)], 1⟩ = k0 (.ptr 0 0) (.tup []) ⟨[(0, bx (.l (ws.map iW) cp) (stT ws (tn.toNat, cr, rd) K).1 (stT ws (tn.toNat, cr, rd) K).2.1 (stT ws (tn.toNat, cr, rd) K).2.2)], 1⟩ := by
      rw [← h]; rfl
    rw [← next, hst]
    have hw0 : ws[0]? = some (ws.getD 0 0) := by rw [List.getD_eq_getElem?_getD, List.getElem?_eq_getElem (by omega : 0 < ws.length)]; rfl
    have adv : ∀ (x : Bool), (decide (0 < (stT ws (tn.toNat, cr, rd) i).2.1) && ab[(stT ws (tn.toNat, cr, rd) i).1]) = x → x = false →
        d17_10b (hx n m) m kr k0 (d17_10 (hx n m) m kr k0 (j' + 1)) (.l (ab.map bW) cq) (.ptr 0 0) (.tup []) ⟨[(0, bx (.l (ws.map iW) cp) (stT ws (tn.toNat, cr, rd) i).1 (stT ws (tn.toNat, cr, rd) i).2.1 (stT ws (tn.toNat, cr, rd) i).2.2)], 1⟩ =
        d17_10 (hx n m) m kr k0 (j' + 1) (.l (ab.map bW) cq) (.ptr 0 0) (.tup []) ⟨[(0, bx (.l (ws.map iW) cp) (stepT ws (stT ws (tn.toNat, cr, rd) i)).1 (stepT ws (stT ws (tn.toNat, cr, rd) i)).2.1 (stepT ws (stT ws (tn.toNat, cr, rd) i)).2.2)], 1⟩ := by
      intro x hx hf
      subst hf
      have go : ∀ c a : Bool, (c && a) = false → (if c = true then a else false) = false := by decide
      unfold stepT
      by_cases hcr : 0 < (stT ws (tn.toNat, cr, rd) i).2.1
      all_goals
        by_cases hz : (stT ws (tn.toNat, cr, rd) i).1 + 1 = ws.length
        · simp only [hcr, decide_true, decide_false, Bool.true_and, Bool.false_and] at hx
          simp only [d17_10b, bx, jn_e, bH0, isRo, putW, bQ, Nat.reduceAdd, Nat.reduceEqDiff, Nat.reduceLT, Nat.reduceLeDiff, hcr, hx, hIndexAddr_l, Int.natCast_nonneg, Int.toNat_natCast, List.getElem?_map, List.getElem?_eq_getElem hab, Option.map_some, bW, List.length_map]
          rw [wrap64 (by omega) (by omega)]
          simp only [decide_eq_true (show ((stT ws (tn.toNat, cr, rd) i).1 : Int) + 1 = ws.length by omega), jn_e, bH0, isRo, putW, bQ, Nat.reduceAdd, Nat.reduceEqDiff, Nat.reduceLT, Nat.reduceLeDiff, if_pos hz]
          rw [wrap64 (by omega) (by omega)]
          simp only [jn_e, bH0, isRo, putW, bQ, Nat.reduceAdd, Nat.reduceEqDiff, Nat.reduceLT, Nat.reduceLeDiff, hIndexAddr_l, Int.le_refl, Int.toNat_zero, List.getElem?_map, hw0, Option.map_some, iW]
          all_goals rfl
        · simp only [hcr, decide_true, decide_false, Bool.true_and, Bool.false_and] at hx
          simp only [d17_10b, bx, jn_e, bH0, isRo, putW, bQ, Nat.reduceAdd, Nat.reduceEqDiff, Nat.reduceLT, Nat.reduceLeDiff, hcr, hx, hIndexAddr_l, Int.natCast_nonneg, Int.toNat_natCast, List.getElem?_map, List.getElem?_eq_getElem hab, Option.map_some, bW, List.length_map]
          rw [wrap64 (by omega) (by omega)]
          have hlt : (stT ws (tn.toNat, cr, rd) i).1 + 1 < ws.length := by omega
          have hw1 : ws[(stT ws (tn.toNat, cr, rd) i).1 + 1]? = some (ws.getD ((stT ws (tn.toNat, cr, rd) i).1 + 1) 0) := by rw [List.getD_eq_getElem?_getD, List.getElem?_eq_getElem hlt]; rfl
          have ecast : ((stT ws (tn.toNat, cr, rd) i).1 : Int) + 1 = (((stT ws (tn.toNat, cr, rd) i).1 + 1 : Nat) : Int) := by omega
          simp only [decide_eq_false (show ¬ ((stT ws (tn.toNat, cr, rd) i).1 : Int) + 1 = ws.length by omega), jn_e, bH0, isRo, putW, bQ, Nat.reduceAdd, Nat.reduceEqDiff, Nat.reduceLT, Nat.reduceLeDiff, if_neg hz]
          simp only [ecast, jn_e, bH0, isRo, putW, bQ, Nat.reduceAdd, Nat.reduceEqDiff, Nat.reduceLT, Nat.reduceLeDiff, hIndexAddr_l, Int.natCast_nonneg, Int.toNat_natCast, List.getElem?_map, hw1, Option.map_some, iW]
          all_goals rfl
    exact adv _ hno1 rfl
def resX (w : W) (f : (Int × Int × Int) × Int × Int) : W := .tup [tW (if f.2.2 = 0 then w else .c .nils) f.1.1 f.1.2.1 f.1.2.2, .i .i64 (max f.2.1 0), .b (decide (0 ≤ f.2.1)), .i .i64 f.2.2]
theorem h17 (n m : Nat) {ws : List Int} {ab : List Bool} {cp cq : Cp} {tn cr rd : Int} (hl : ws.length + 1 < m) (hla : ab.length < m) (hm : ws.length < 4294967296) (hma : ab.length < 4294967296) :
    hx (n + 7) m 17 [tW (.l (ws.map iW) cp) tn cr rd, .l (ab.map bW) cq] = .val (resX (.l (ws.map iW) (.n ws.length)) (nextF ws tn cr rd ab)) := by
  rw [hx, q17 rfl]
  have e12 : ∀ cp, hx (n + 6) m 12 [.agg [.l (ws.map iW) cp, .i .i64 tn, .i .i64 cr, .i .i64 rd]] = _ := fun cp => h12 n m (l := ws) (cp := cp) (tn := tn) (cr := cr) (rd := rd) (by omega) hm
  simp only [d17, d17_1, d17_2, tW, jn_e, bH0, isRo, putW, bQ, Nat.reduceAdd, Nat.reduceEqDiff, Nat.reduceLT, Nat.reduceLeDiff, hCall, List.map_cons, List.map_nil, pur_agg, pur_l, pur_i, e12, frz_of, W.flat, W.fl1, Bool.true_or]
  by_cases hc : chkE ws tn cr rd = 0
  rotate_left
  · simp only [hc, jn_e, bH0, isRo, putW, bQ, Nat.reduceAdd, Nat.reduceEqDiff, Nat.reduceLT, Nat.reduceLeDiff]
    simp only [bR, packW, jn_e, bH0, isRo, putW, bQ, Nat.reduceAdd, Nat.reduceEqDiff, Nat.reduceLT, Nat.reduceLeDiff, part24, next_bad hc, resX, if_neg hc, tW]
    rfl
  obtain ⟨g1, g2, g3, g4, g5, g6, g7⟩ := chkE_ok hc
  obtain ⟨w1, w2, w3⟩ := wE_ok g1
  simp only [hc, jn_e, bH0, isRo, putW, bQ, Nat.reduceAdd, Nat.reduceEqDiff, Nat.reduceLT, Nat.reduceLeDiff, d17_3, List.length_map]
  by_cases hlen : ab.length = ws.length
  rotate_left
  · have : ¬ (ab.length : Int) = ws.length := by omega
    simp only [this, jn_e, bH0, isRo, putW, bQ, Nat.reduceAdd, Nat.reduceEqDiff, Nat.reduceLT, Nat.reduceLeDiff]
    simp only [bR, packW, jn_e, bH0, isRo, putW, bQ, Nat.reduceAdd, Nat.reduceEqDiff, Nat.reduceLT, Nat.reduceLeDiff, part24, next_len hc hlen, resX, tW]
    rfl
  have : (ab.length : Int) = ws.length := by omega
  have e32 : ∀ cp, hx (n + 6) m 32 [.l (ws.map iW) cp] = _ := fun cp => h32 (n + 5) m (cp := cp) (wE_ne g1) hm
  have e31 : ∀ cp, hx (n + 6) m 31 [.l (ws.map iW) cp] = _ := fun cp => h31 (n + 5) m (cp := cp) (l := ws) (noE (wE_ne g1) cp)
  have e34 : ∀ cp, hx (n + 6) m 34 [.l (ab.map bW) cp, .b true] = _ := fun cp => h34 (n + 4) m (cp := cp) hla hma
  simp only [this, jn_e, bH0, isRo, putW, bQ, Nat.reduceAdd, Nat.reduceEqDiff, Nat.reduceLT, Nat.reduceLeDiff, d17_4, d17_5, d17_6, hCall, List.map_cons, List.map_nil, pur_l, pur_b, e31, e32, e34, frz_of, W.flat, W.fl1, Bool.true_or, Bool.or_true]
  have ht : tn.toNat < ws.length := by omega
  have etn : ((tn.toNat : Nat) : Int) = tn := by omega
  cases hany : ab.any _root_.id with
  | false =>
    have hnone : findT ws (tn.toNat, cr, rd) ab = none := by
      refine find_none fun j hj => ?_
      unfold okT
      have : ab.getD (stT ws (tn.toNat, cr, rd) j).1 false = false := by
        rw [List.getD_eq_getElem?_getD]
        cases hh : ab[(stT ws (tn.toNat, cr, rd) j).1]? with
        | none => rfl
        | some b =>
          have := List.any_eq_false.1 hany b (List.mem_of_getElem? hh)
          simpa using this
      rw [this, Bool.and_false]
    rw [next_none hc hlen hnone]
    simp only [jn_e, bH0, isRo, putW, bQ, Nat.reduceAdd, Nat.reduceEqDiff, Nat.reduceLT, Nat.reduceLeDiff]
    simp only [bR, packW, jn_e, bH0, isRo, putW, bQ, Nat.reduceAdd, Nat.reduceEqDiff, Nat.reduceLT, Nat.reduceLeDiff, part24, resX, tW]
    rfl
  | true =>
    obtain ⟨j0, hj0, hjt⟩ : ∃ j, ∃ h : j < ab.length, ab[j] = true := by
      obtain ⟨b, hb, hbt⟩ := List.any_eq_true.1 hany
      obtain ⟨j, hj, e⟩ := List.mem_iff_getElem.1 hb
      exact ⟨j, hj, by rw [e]; exact hbt⟩
    obtain ⟨i0, hi0, hok0⟩ := find_some (ws := ws) (s := (tn.toNat, cr, rd)) (ab := ab) (by simp; omega) (fun i h => (w3 i h).1) hlen (j := j0) (by omega) (by rw [List.getD_eq_getElem?_getD, List.getElem?_eq_getElem hj0, hjt]; rfl)
    cases hfind : findT ws (tn.toNat, cr, rd) ab with
    | none =>
      exfalso
      unfold findT at hfind
      have := List.find?_eq_none.1 hfind i0 (by simp; omega)
      exact this hok0
    | some K =>
      obtain ⟨hK1, hK2⟩ := find_ok hfind
      have hK3 : ∀ j, 0 ≤ j → j < K → okT ab (stT ws (tn.toNat, cr, rd) j) = false := fun j _ hj => by
        unfold findT at hfind
        obtain ⟨-, k1, k2⟩ := List.find?_eq_some_iff_getElem.1 hfind
        obtain ⟨hi, e, h⟩ := k2
        have ei : k1 = K := by simpa using e
        subst ei
        have := h j hj
        simpa using this
      simp only [jn_e, bH0, isRo, putW, bQ, Nat.reduceAdd, Nat.reduceEqDiff, Nat.reduceLT, Nat.reduceLeDiff, d17_7, d17_8, d17_9]
      obtain ⟨m, rfl⟩ : ∃ q, m = q + 1 := ⟨m - 1, by omega⟩
      have hcred : 0 < (stT ws (tn.toNat, cr, rd) K).2.1 := by unfold okT at hK2; simp only [Bool.and_eq_true, decide_eq_true_eq] at hK2; exact hK2.1
      have hcred2 := credit_le w3 (rd := rd) ht g7 K
      have key : ∀ (kr : W → W → W → W → W → Nm → CW) (k0 : W → W → Nm → CW), d17_10 (hx (n + 6) (m + 1)) (m + 1) kr k0 (m + 1) (.l (ab.map bW) cq) (.ptr 1 0) (.tup []) ⟨[(1, ⟨24, 4, [.l (ws.map iW) (.n ws.length), .i .i64 tn, .i .i64 cr, .i .i64 rd], false, false, true⟩), (0, ⟨24, 4, [.l (ws.map iW) cp, .i .i64 tn, .i .i64 cr, .i .i64 rd], false, false, true⟩)], 2⟩
          = k0 (.ptr 0 0) (.tup []) ⟨[(0, bx (.l (ws.map iW) (.n ws.length)) (stT ws (tn.toNat, cr, rd) K).1 (stT ws (tn.toNat, cr, rd) K).2.1 (stT ws (tn.toNat, cr, rd) K).2.2)], 1⟩ := by
        intro kr k0
        have h := l17 (n + 6) (m + 1) (cp := .n ws.length) (cq := cq) (tn := tn) (cr := cr) (rd := rd) (kr := kr) (k0 := k0) hlen hm hc hK2 (by omega) K 0 (by omega) hK3 m (by omega)
        rw [← h]
        have et : ((stT ws (tn.toNat, cr, rd) 0).1 : Int) = tn := etn
        rw [et]
        rfl
      simp only [key, bx, jn_e, bH0, isRo, putW, bQ, Nat.reduceAdd, Nat.reduceEqDiff, Nat.reduceLT, Nat.reduceLeDiff]
      by_cases hbig : 4611686018427387904 < (stT ws (tn.toNat, cr, rd) K).2.2
      · rw [next_over hc hlen hfind hbig]
        simp only [hbig, jn_e, bH0, isRo, putW, bQ, Nat.reduceAdd, Nat.reduceEqDiff, Nat.reduceLT, Nat.reduceLeDiff]
        simp only [bR, packW, jn_e, bH0, isRo, putW, bQ, Nat.reduceAdd, Nat.reduceEqDiff, Nat.reduceLT, Nat.reduceLeDiff, part24, resX, tW]
        rfl
      · rw [next_some hc hlen hfind hbig]
        simp only [hbig, jn_e, bH0, isRo, putW, bQ, Nat.reduceAdd, Nat.reduceEqDiff, Nat.reduceLT, Nat.reduceLeDiff]
        rw [wrap64 (by omega) (by omega)]
        simp only [bR, packW, jn_e, bH0, isRo, putW, bQ, Nat.reduceAdd, Nat.reduceEqDiff, Nat.reduceLT, Nat.reduceLeDiff, part24, resX, tW, Int.natCast_nonneg]
        rw [Int.max_eq_left (by omega)]
end Go.Proofs.Ytehbfajmileefaa.Hx
namespace Go.Proofs.Ytehbfajmileefaa.Hx
open Go.RowKit Go.Proofs.Ytehbfajmileefaa.Vx Go.Proofs.Ytehbfajmileefaa.Fx Go.Proofs.Ytehbfajmileefaa.Px
def runF (ws : List Int) : Int → Int → Int → List (List Bool) → (Int × Int × Int) × List Int × Int
  | tn, cr, rd, [] => ((tn, cr, rd), [], 0)
  | tn, cr, rd, ab :: ls =>
    if (nextF ws tn cr rd ab).2.2 ≠ 0 then ((0, 0, 0), [], (nextF ws tn cr rd ab).2.2)
    else if (runF ws (nextF ws tn cr rd ab).1.1 (nextF ws tn cr rd ab).1.2.1 (nextF ws tn cr rd ab).1.2.2 ls).2.2 ≠ 0 then ((0, 0, 0), [], (runF ws (nextF ws tn cr rd ab).1.1 (nextF ws tn cr rd ab).1.2.1 (nextF ws tn cr rd ab).1.2.2 ls).2.2)
    else ((runF ws (nextF ws tn cr rd ab).1.1 (nextF ws tn cr rd ab).1.2.1 (nextF ws tn cr rd ab).1.2.2 ls).1, (nextF ws tn cr rd ab).2.1 :: (runF ws (nextF ws tn cr rd ab).1.1 (nextF ws tn cr rd ab).1.2.1 (nextF ws tn cr rd ab).1.2.2 ls).2.1, 0)
theorem next_err (ws : List Int) (tn cr rd : Int) (ab : List Bool) : 0 ≤ (nextF ws tn cr rd ab).2.2 := by
  unfold nextF
  split
  · show 0 ≤ chkE ws tn cr rd
    unfold chkE wE; split <;> (try split) <;> (try split) <;> omega
  · split
    · show (0 : Int) ≤ 1; omega
    · split
      · show (0 : Int) ≤ 0; omega
      · split
        · show (0 : Int) ≤ 4; omega
        · show (0 : Int) ≤ 0; omega
theorem slit22 (c : Int) (H : List (Nat × BN)) (nx : Nat) (KN : W → Nm → CW) : hSlitO prg 22 1 [(0, .i .i64 c)] ⟨H, nx⟩ KN = KN (.sl nx 0 1 (.is 1) 1) ⟨(nx, ⟨3, 1, [.i .i64 c], false, false, true⟩) :: H, nx + 1⟩ := by kernel_rfl
theorem sz22 : szI prg 22 = some (3, 1, 8) := by kernel_rfl
theorem app22_n {H : List (Nat × BN)} {nx i : Nat} {c : Int} {KN : W → Nm → CW} (h : lookN H i = some ⟨3, 1, [.i .i64 c], false, false, true⟩) :
    hApp prg 22 22 (.c .nils) (.sl i 0 1 (.is 1) 1) ⟨H, nx⟩ KN = KN (.sl nx 0 1 (.rest 0) 1) ⟨(nx, ⟨3, 1, [.i .i64 c], true, false, true⟩) :: H, nx + 1⟩ :=
  app_nil sz22 (src_sl h (by omega) rfl) (by omega) rfl rfl (by decide) (by decide)
theorem app22_s {H : List (Nat × BN)} {nx i d k : Nat} {c : Int} {cs : List W} {KN : W → Nm → CW} (h : lookN H i = some ⟨3, 1, [.i .i64 c], false, false, true⟩) (hd : lookN H d = some ⟨3, 1, cs, true, false, true⟩) (hk : k = cs.length) (hb : k < 4294967296) :
    hApp prg 22 22 (.sl d 0 k (.rest 0) 1) (.sl i 0 1 (.is 1) 1) ⟨H, nx⟩ KN = KN (.sl nx 0 (k + 1) (.rest 0) 1) ⟨(nx, ⟨3, 1, cs ++ [.i .i64 c], true, false, true⟩) :: delN H d, nx + 1⟩ :=
  have hmb : maxBytes = 1099511627776 := rfl
  app_own sz22 (src_sl h (by omega) rfl) (by omega) rfl rfl hd (by omega) (by omega) (by omega)
def accW (xs : List Int) : W := if xs = [] then .c .nils else .sl 2 0 xs.length (.rest 0) 1
def accM (w : W) (tn cr rd : Int) (xs : List Int) : Nm := if xs = [] then ⟨[(0, bx w tn cr rd), (1, bx (.c .nils) 0 0 0)], 2⟩
  else ⟨[(0, bx w tn cr rd), (1, bx (.c .nils) 0 0 0), (2, ⟨3, 1, xs.map iW, true, false, true⟩)], 3⟩
def lst (xs : List Int) (cp : Cp) : W := if xs = [] then .c .nils else .l (xs.map iW) cp
theorem pur_ints {k id : Nat} {l : List Int} {ro : Bool} {H : List (Nat × BN)} (hb : lookN H id = some ⟨3, 1, l.map iW, true, ro, true⟩) : pur (k + 1) H (.sl id 0 l.length (.rest 0) 1) = .l (l.map iW) .any := by
  rw [pur_sl hb (by simp) (by simp [capFits]) (by omega) rfl, List.drop_zero, chunk_map iW (fun _ => rfl)]; rfl
theorem run_err {ws : List Int} {tn cr rd : Int} {ls : List (List Bool)} (h : (runF ws tn cr rd ls).2.2 ≠ 0) : (runF ws tn cr rd ls).1 = (0, 0, 0) := by
  cases ls with
  | nil => exact absurd rfl h
  | cons ab ls =>
    simp only [runF] at h ⊢
    split at h
    · rename_i h1; rw [if_pos h1]
    · rename_i h1
      rw [if_neg h1]
      split at h
      · rename_i h2; rw [if_pos h2]
      · exact absurd rfl h
def bL (c : List Bool → Cp) (ab : List Bool) : W := .l (ab.map bW) (c ab)
noncomputable def kr19 : W → W → W → W → Nm → CW := fun z r0 r1 r2 M' => finH prg z [(.cell 4 24, r0), (.tmp 5, r1), (.tmp 6, r2)] M'
noncomputable def k019 : W → W → W → W → Nm → CW := fun t2 t4 t7 t511 M =>
  hLoadN 4 t2 M fun t47 => hStoreN 4 t4 t47 M fun _ M8 => kr19 t511 t4 t7 (.i .i64 (0)) M8
def resT (w : W) (xs : List Int) (cp : Cp) (q : (Int × Int × Int) × List Int × Int) : W := .tup [tW (if q.2.2 = 0 then w else .c .nils) q.1.1 q.1.2.1 q.1.2.2, (if q.2.2 = 0 then lst (xs ++ q.2.1) cp else .c .nils), .i .i64 q.2.2]
theorem key19n (n m : Nat) {ws : List Int} {ls : List (List Bool)} {cp cq : Cp} {c : List Bool → Cp} (hm : ws.length + 1 < m) (hm2 : ws.length < 4294967296) {j : Nat} (hjl : j < ls.length) (hj : ls.length < 4294967296) (hab : ls[j].length < 4294967296) (tn cr rd : Int) (k0 : W → W → W → W → Nm → CW) (q : W → W → W → W → W → W → Nm → CW) :
    ∀ (a b d cl er : Int), ((a, b, d), cl, er) = nextF ws tn cr rd ls[j] → d19_8b (hx (n + 3) m) m kr19 k0 q (.l (ls.map (bL c)) cq) (.ptr 0 0) (.ptr 1 0) (.c .nils) (.i .i64 j) (.tup []) ⟨[(0, bx (.l (ws.map iW) cp) tn cr rd), (1, bx (.c .nils) 0 0 0)], 2⟩ =
      if er ≠ 0 then .val (.tup [tW (.c .nils) 0 0 0, .c .nils, .i .i64 er]) else
      q (.l (ls.map (bL c)) cq) (.ptr 0 0) (.ptr 1 0) (.sl 4 0 1 (.rest 0) 1) (.i .i64 ((j : Int) + 1)) (.tup []) ⟨[(4, ⟨3, 1, [.i .i64 cl], true, false, true⟩), (3, ⟨3, 1, [.i .i64 cl], false, false, true⟩), (2, bx (.l (ws.map iW) cp) a b d), (0, bx (.l (ws.map iW) cp) a b d), (1, bx (.c .nils) 0 0 0)], 5⟩ := by
  intro a b d cl er hf
  have e16 : hx (n + 3) m 16 [.agg [.l (ws.map iW) cp, .i .i64 tn, .i .i64 cr, .i .i64 rd], .l (ls[j].map bW) (c ls[j])] = _ := h16 n m (cp := cp) (cq := c ls[j]) (tn := tn) (cr := cr) (rd := rd) hm hm2 hab
  have herr := next_err ws tn cr rd ls[j]
  rw [← hf] at e16 herr
  simp only at herr ⊢
  simp only [resN, tW] at e16
  by_cases he : er = 0
  · subst he
    rw [if_pos rfl] at e16
    rw [if_neg (by simp)]
    simp only [d19_8b, bL, bx, jn_e, bH0, isRo, putW, bQ, Nat.reduceAdd, Nat.reduceEqDiff, Nat.reduceLT, Nat.reduceLeDiff, List.length_map, show (j : Int) < ls.length by omega, hIndexAddr_l, Int.natCast_nonneg, Int.toNat_natCast, List.getElem?_map, List.getElem?_eq_getElem hjl, Option.map_some, hCall, List.map_cons, List.map_nil, pur_agg, pur_l, pur_i, e16, frz, W.flat, W.fl1, Bool.false_and, Bool.or_true, Bool.or_self, Bool.false_or, Int.lt_irrefl, slit22]
    rw [app22_n (by rw [lookN_cons, if_pos rfl]), wrap64 (by omega) (by omega)]
    simp only [jn_e, bH0, isRo, putW, bQ, Nat.reduceAdd, Nat.reduceEqDiff, Nat.reduceLT, Nat.reduceLeDiff]
  · have hpos : 0 < er := by omega
    rw [if_pos he]
    simp only [d19_8b, bL, bx, jn_e, bH0, isRo, putW, bQ, Nat.reduceAdd, Nat.reduceEqDiff, Nat.reduceLT, Nat.reduceLeDiff, List.length_map, show (j : Int) < ls.length by omega, hIndexAddr_l, Int.natCast_nonneg, Int.toNat_natCast, List.getElem?_map, List.getElem?_eq_getElem hjl, Option.map_some, hCall, List.map_cons, List.map_nil, pur_agg, pur_l, pur_i, e16, frz, W.flat, W.fl1, Bool.false_and, Bool.or_true, Bool.or_self, Bool.false_or, hpos, he, W.one]
    simp only [kr19, bR, packW, jn_e, bH0, isRo, putW, bQ, Nat.reduceAdd, Nat.reduceEqDiff, Nat.reduceLT, Nat.reduceLeDiff, part24, he, tW]
theorem key19s (n m : Nat) {ws : List Int} {ls : List (List Bool)} {cp cq : Cp} {c : List Bool → Cp} (hm : ws.length + 1 < m) (hm2 : ws.length < 4294967296) {j : Nat} (hjl : j < ls.length) (hj : ls.length < 4294967296) (hab : ls[j].length < 4294967296) (tn cr rd : Int) (k0 : W → W → W → W → Nm → CW) (q : W → W → W → W → W → W → Nm → CW) {xs : List Int} (hxs : xs.length = j) :
    ∀ (a b d cl er : Int), ((a, b, d), cl, er) = nextF ws tn cr rd ls[j] → d19_8b (hx (n + 3) m) m kr19 k0 q (.l (ls.map (bL c)) cq) (.ptr 0 0) (.ptr 1 0) (.sl 2 0 xs.length (.rest 0) 1) (.i .i64 j) (.tup []) ⟨[(0, bx (.l (ws.map iW) cp) tn cr rd), (1, bx (.c .nils) 0 0 0), (2, ⟨3, 1, xs.map iW, true, false, true⟩)], 3⟩ =
      if er ≠ 0 then .val (.tup [tW (.c .nils) 0 0 0, .c .nils, .i .i64 er]) else
      q (.l (ls.map (bL c)) cq) (.ptr 0 0) (.ptr 1 0) (.sl 5 0 (xs.length + 1) (.rest 0) 1) (.i .i64 ((j : Int) + 1)) (.tup []) ⟨[(5, ⟨3, 1, xs.map iW ++ [.i .i64 cl], true, false, true⟩), (4, ⟨3, 1, [.i .i64 cl], false, false, true⟩), (3, bx (.l (ws.map iW) cp) a b d), (0, bx (.l (ws.map iW) cp) a b d), (1, bx (.c .nils) 0 0 0)], 6⟩ := by
  intro a b d cl er hf
  have e16 : hx (n + 3) m 16 [.agg [.l (ws.map iW) cp, .i .i64 tn, .i .i64 cr, .i .i64 rd], .l (ls[j].map bW) (c ls[j])] = _ := h16 n m (cp := cp) (cq := c ls[j]) (tn := tn) (cr := cr) (rd := rd) hm hm2 hab
  have herr := next_err ws tn cr rd ls[j]
  rw [← hf] at e16 herr
  simp only at herr ⊢
  simp only [resN, tW] at e16
  by_cases he : er = 0
  · subst he
    rw [if_pos rfl] at e16
    rw [if_neg (by simp)]
    simp only [d19_8b, bL, bx, jn_e, bH0, isRo, putW, bQ, Nat.reduceAdd, Nat.reduceEqDiff, Nat.reduceLT, Nat.reduceLeDiff, List.length_map, show (j : Int) < ls.length by omega, hIndexAddr_l, Int.natCast_nonneg, Int.toNat_natCast, List.getElem?_map, List.getElem?_eq_getElem hjl, Option.map_some, hCall, List.map_cons, List.map_nil, pur_agg, pur_l, pur_i, e16, frz, W.flat, W.fl1, Bool.false_and, Bool.or_true, Bool.or_self, Bool.false_or, Int.lt_irrefl, slit22]
    rw [app22_s (cs := xs.map iW) (by rw [lookN_cons, if_pos rfl]) (by simp only [lookN_cons, Nat.reduceEqDiff, if_false, if_true]) (by simp) (by omega), wrap64 (by omega) (by omega)]
    simp only [jn_e, bH0, isRo, putW, bQ, Nat.reduceAdd, Nat.reduceEqDiff, Nat.reduceLT, Nat.reduceLeDiff]
  · have hpos : 0 < er := by omega
    rw [if_pos he]
    simp only [d19_8b, bL, bx, jn_e, bH0, isRo, putW, bQ, Nat.reduceAdd, Nat.reduceEqDiff, Nat.reduceLT, Nat.reduceLeDiff, List.length_map, show (j : Int) < ls.length by omega, hIndexAddr_l, Int.natCast_nonneg, Int.toNat_natCast, List.getElem?_map, List.getElem?_eq_getElem hjl, Option.map_some, hCall, List.map_cons, List.map_nil, pur_agg, pur_l, pur_i, e16, frz, W.flat, W.fl1, Bool.false_and, Bool.or_true, Bool.or_self, Bool.false_or, hpos, he, W.one]
    simp only [kr19, bR, packW, jn_e, bH0, isRo, putW, bQ, Nat.reduceAdd, Nat.reduceEqDiff, Nat.reduceLT, Nat.reduceLeDiff, part24, he, tW]
theorem l19 (n m : Nat) {ws : List Int} {ls : List (List Bool)} {cp cq : Cp} {c : List Bool → Cp} (hm : ws.length + 1 < m) (hm2 : ws.length < 4294967296) (hls : ls.length < 4294967296) (hab : ∀ ab ∈ ls, ab.length < 4294967296) :
    ∀ (r j : Nat), j + r = ls.length → ∀ (tn cr rd : Int) (xs : List Int), xs.length = j → ∀ j', r ≤ j' →
    d19_8b (hx (n + 3) m) m kr19 k019 (d19_8 (hx (n + 3) m) m kr19 k019 j') (.l (ls.map (bL c)) cq) (.ptr 0 0) (.ptr 1 0) (accW xs) (.i .i64 j) (.tup []) (accM (.l (ws.map iW) cp) tn cr rd xs)
      = .val (resT (.l (ws.map iW) cp) xs .any (runF ws tn cr rd (ls.drop j))) := by
  intro r
  induction r with
  | zero =>
    intro j hj tn cr rd xs hxs j' hj'
    rw [List.drop_eq_nil_of_le (by omega)]
    by_cases hx : xs = []
    · simp only [d19_8b, accW, accM, if_pos hx, bx, k019, kr19, jn_e, bH0, isRo, putW, bQ, Nat.reduceAdd, Nat.reduceEqDiff, Nat.reduceLT, Nat.reduceLeDiff, List.length_map, show ¬ (j : Int) < ls.length by omega]
      simp only [bR, packW, jn_e, bH0, isRo, putW, bQ, Nat.reduceAdd, Nat.reduceEqDiff, Nat.reduceLT, Nat.reduceLeDiff, part24]
      subst hx
      rfl
    · simp only [d19_8b, accW, accM, if_neg hx, bx, k019, kr19, jn_e, bH0, isRo, putW, bQ, Nat.reduceAdd, Nat.reduceEqDiff, Nat.reduceLT, Nat.reduceLeDiff, List.length_map, show ¬ (j : Int) < ls.length by omega]
      simp only [bR, packW, jn_e, bH0, isRo, putW, bQ, Nat.reduceAdd, Nat.reduceEqDiff, Nat.reduceLT, Nat.reduceLeDiff, part24]
      rw [pur_ints (l := xs) (ro := false) rfl]
      simp only [resT, runF, List.append_nil, lst, if_neg hx, if_true, tW, List.map_cons, List.map_nil, pur_agg, pur_l, pur_i]
  | succ r ih =>
    intro j hj tn cr rd xs hxs j' hj'
    obtain ⟨j', rfl⟩ : ∃ q, j' = q + 1 := ⟨j' - 1, by omega⟩
    have hjl : j < ls.length := by omega
    rw [List.drop_eq_getElem_cons hjl]
    have e16 : hx (n + 3) m 16 [.agg [.l (ws.map iW) cp, .i .i64 tn, .i .i64 cr, .i .i64 rd], .l (ls[j].map bW) (c ls[j])] = _ := h16 n m (cp := cp) (cq := c ls[j]) (tn := tn) (cr := cr) (rd := rd) hm hm2 (hab _ (List.getElem_mem hjl))
    have herr := next_err ws tn cr rd ls[j]
    simp only [runF]
    have step : d19_8b (hx (n + 3) m) m kr19 k019 (d19_8 (hx (n + 3) m) m kr19 k019 (j' + 1)) (.l (ls.map (bL c)) cq) (.ptr 0 0) (.ptr 1 0) (accW xs) (.i .i64 j) (.tup []) (accM (.l (ws.map iW) cp) tn cr rd xs) =
        if (nextF ws tn cr rd ls[j]).2.2 ≠ 0 then .val (.tup [tW (.c .nils) 0 0 0, .c .nils, .i .i64 (nextF ws tn cr rd ls[j]).2.2]) else
        d19_8b (hx (n + 3) m) m kr19 k019 (d19_8 (hx (n + 3) m) m kr19 k019 j') (.l (ls.map (bL c)) cq) (.ptr 0 0) (.ptr 1 0) (accW (xs ++ [(nextF ws tn cr rd ls[j]).2.1])) (.i .i64 ((j + 1 : Nat) : Int)) (.tup []) (accM (.l (ws.map iW) cp) (nextF ws tn cr rd ls[j]).1.1 (nextF ws tn cr rd ls[j]).1.2.1 (nextF ws tn cr rd ls[j]).1.2.2 (xs ++ [(nextF ws tn cr rd ls[j]).2.1])) := by
      have ha := hab _ (List.getElem_mem hjl)
      have e : ∀ (t1 t2 t4 t7 t8 t511 : W) (M : Nm), d19_8 (hx (n + 3) m) m kr19 k019 (j' + 1) t1 t2 t4 t7 t8 t511 M = jn (fun (σ : List Nat) => d19_8b (hx (n + 3) m) m kr19 k019 (d19_8 (hx (n + 3) m) m kr19 k019 j') (ren 4 σ t1) (ren 4 σ t2) (ren 4 σ t4) (ren 4 σ t7) (ren 4 σ t8) (ren 4 σ t511) ⟨canH M.H σ 0 σ, σ.length⟩) (reach M.H [t1, t2, t4, t7, t8, t511]) := fun _ _ _ _ _ _ _ => rfl
      by_cases hx0 : xs = []
      · have hk := key19n n m (cp := cp) (cq := cq) (c := c) hm hm2 hjl hls ha tn cr rd k019 (d19_8 (hx (n + 3) m) m kr19 k019 (j' + 1)) (nextF ws tn cr rd ls[j]).1.1 (nextF ws tn cr rd ls[j]).1.2.1 (nextF ws tn cr rd ls[j]).1.2.2 (nextF ws tn cr rd ls[j]).2.1 (nextF ws tn cr rd ls[j]).2.2 rfl
        simp only [accW, accM, if_pos hx0]
        rw [hk]
        by_cases he : (nextF ws tn cr rd ls[j]).2.2 ≠ 0
        · rw [if_pos he, if_pos he]
        · rw [if_neg he, if_neg he, e]
          generalize d19_8 (hx (n + 3) m) m kr19 k019 j' = q
          simp only [hx0, List.nil_append, if_neg (show ¬ ([(nextF ws tn cr rd ls[j]).2.1] : List Int) = [] by simp), bC, reach, jn_e, bK, Nat.reduceEqDiff, Nat.reduceAdd, bx, iW, show (((j + 1 : Nat)) : Int) = (j : Int) + 1 from rfl]
      · have hk := key19s n m (cp := cp) (cq := cq) (c := c) hm hm2 hjl hls ha tn cr rd k019 (d19_8 (hx (n + 3) m) m kr19 k019 (j' + 1)) hxs (nextF ws tn cr rd ls[j]).1.1 (nextF ws tn cr rd ls[j]).1.2.1 (nextF ws tn cr rd ls[j]).1.2.2 (nextF ws tn cr rd ls[j]).2.1 (nextF ws tn cr rd ls[j]).2.2 rfl
        simp only [accW, accM, if_neg hx0]
        rw [hk]
        by_cases he : (nextF ws tn cr rd ls[j]).2.2 ≠ 0
        · rw [if_pos he, if_pos he]
        · rw [if_neg he, if_neg he, e]
          generalize d19_8 (hx (n + 3) m) m kr19 k019 j' = q
          simp only [if_neg (show ¬ xs ++ [(nextF ws tn cr rd ls[j]).2.1] = [] by simp), bC, reach, jn_e, bK, Nat.reduceEqDiff, Nat.reduceAdd, bx, iW, List.length_append, List.map_append, show (((j + 1 : Nat)) : Int) = (j : Int) + 1 from rfl]
    rw [step]
    have eR : ∀ f : (Int × Int × Int) × Int × Int, f.2.2 ≠ 0 → CW.val (.tup [tW (.c .nils) 0 0 0, .c .nils, .i .i64 f.2.2]) = .val (resT (.l (ws.map iW) cp) xs .any ((0, 0, 0), [], f.2.2)) := fun f h => by simp only [resT, if_neg h]
    generalize nextF ws tn cr rd ls[j] = f
    by_cases he : f.2.2 = 0
    · rw [if_neg (by simpa using he), if_neg (by simpa using he), ih (j + 1) (by omega) _ _ _ _ (by simp [hxs]) j' (by omega)]
      have hrun := run_err (ws := ws) (tn := f.1.1) (cr := f.1.2.1) (rd := f.1.2.2) (ls := ls.drop (j + 1))
      generalize runF ws f.1.1 f.1.2.1 f.1.2.2 (ls.drop (j + 1)) = q at hrun ⊢
      by_cases hq : q.2.2 = 0
      · rw [if_neg (by simpa using hq)]
        simp only [resT, hq, if_true, List.append_assoc, List.cons_append, List.nil_append]
      · rw [if_pos (by simpa using hq)]
        simp only [resT, if_neg hq, hrun hq]
    · rw [if_pos (by simpa using he), if_pos (by simpa using he)]
      exact eR f (by simpa using he)
end Go.Proofs.Ytehbfajmileefaa.Hx
namespace Go.Proofs.Ytehbfajmileefaa.Hx
open Go.RowKit Go.Proofs.Ytehbfajmileefaa.Vx Go.Proofs.Ytehbfajmileefaa.Fx Go.Proofs.Ytehbfajmileefaa.Px
theorem h19 (n m : Nat) {ws : List Int} {ls : List (List Bool)} {cp cq : Cp} {c : List Bool → Cp} {tn cr rd : Int} (hm : ws.length + 1 < m) (hlm : ls.length < m) (hm2 : ws.length < 4294967296) (hls : ls.length ≤ 4096) (hab : ∀ ab ∈ ls, ab.length < 4294967296) (hc : chkE ws tn cr rd = 0) :
    hx (n + 4) m 19 [tW (.l (ws.map iW) cp) tn cr rd, .l (ls.map (bL c)) cq] = .val (resT (.l (ws.map iW) cp) [] .any (runF ws tn cr rd ls)) := by
  rw [hx, q19 rfl]
  have e13 : ∀ cp, hx (n + 3) m 13 [.agg [.l (ws.map iW) cp, .i .i64 tn, .i .i64 cr, .i .i64 rd]] = _ := fun cp => h13 (n + 1) m (l := ws) (cp := cp) (tn := tn) (cr := cr) (rd := rd) (by omega) hm2
  obtain ⟨m, rfl⟩ : ∃ q, m = q + 1 := ⟨m - 1, by omega⟩
  have hl := l19 n (m + 1) (cp := cp) (cq := cq) (c := c) hm hm2 (by omega) hab ls.length 0 (by omega) tn cr rd [] rfl m (by omega)
  rw [List.drop_zero] at hl
  have hl : d19_8b (hx (n + 3) (m + 1)) (m + 1) kr19 k019 (d19_8 (hx (n + 3) (m + 1)) (m + 1) kr19 k019 m) (.l (ls.map (bL c)) cq) (.ptr 0 0) (.ptr 1 0) (.c .nils) (.i .i64 0) (.tup []) ⟨[(0, bx (.l (ws.map iW) cp) tn cr rd), (1, bx (.c .nils) 0 0 0)], 2⟩ = _ := hl
  have e : ∀ (t1 t2 t4 t7 t8 t511 : W) (M : Nm), d19_8 (hx (n + 3) (m + 1)) (m + 1) kr19 k019 (m + 1) t1 t2 t4 t7 t8 t511 M = jn (fun (σ : List Nat) => d19_8b (hx (n + 3) (m + 1)) (m + 1) kr19 k019 (d19_8 (hx (n + 3) (m + 1)) (m + 1) kr19 k019 m) (ren 4 σ t1) (ren 4 σ t2) (ren 4 σ t4) (ren 4 σ t7) (ren 4 σ t8) (ren 4 σ t511) ⟨canH M.H σ 0 σ, σ.length⟩) (reach M.H [t1, t2, t4, t7, t8, t511]) := fun _ _ _ _ _ _ _ => rfl
  simp only [d19, d19_1, d19_2, tW, jn_e, bH0, isRo, putW, bQ, Nat.reduceAdd, Nat.reduceEqDiff, Nat.reduceLT, Nat.reduceLeDiff, hCall, List.map_cons, List.map_nil, pur_agg, pur_l, pur_i, e13, frz_of, W.flat, W.fl1, Bool.true_or, hc, Int.lt_irrefl, d19_3, List.length_map, show ¬ (4096 : Int) < ls.length by omega, d19_4, d19_5, d19_6, d19_7]
  refine Eq.trans (e _ _ _ _ _ _ _) ?_
  rw [← hl]
  generalize d19_8 (hx (n + 3) (m + 1)) (m + 1) kr19 k019 m = q
  simp only [bC, reach, jn_e, bK, Nat.reduceEqDiff, Nat.reduceAdd, bx]
theorem next_cli (ws : List Int) (tn cr rd : Int) (ab : List Bool) : (nextF ws tn cr rd ab).2.1 = -1 ∨ 0 ≤ (nextF ws tn cr rd ab).2.1 := by
  unfold nextF
  split
  · exact .inl rfl
  · split
    · exact .inl rfl
    · split
      · exact .inl rfl
      · split
        · exact .inl rfl
        · exact .inr (Int.natCast_nonneg _)
noncomputable def kr20 : W → W → W → W → Nm → CW := fun z r0 r1 r2 M' => finH prg z [(.cell 4 24, r0), (.tmp 5, r1), (.tmp 6, r2)] M'
def acw (xs : List Int) : W := if xs = [] then .c .nils else .sl 1 0 xs.length (.rest 0) 1
def acm (w : W) (tn cr rd : Int) (xs : List Int) : Nm := if xs = [] then ⟨[(0, bx w tn cr rd)], 1⟩
  else ⟨[(0, bx w tn cr rd), (1, ⟨3, 1, xs.map iW, true, false, true⟩)], 2⟩
theorem key20n (n m : Nat) {ws : List Int} {ls : List (List Bool)} {cq : Cp} {c : List Bool → Cp} (hm : ws.length + 1 < m) (hm2 : ws.length < 4294967296) {j : Nat} (hjl : j < ls.length) (hj : ls.length < 4294967296) (hab : ls[j].length < 4294967296) (hab2 : ls[j].length < m) (tn cr rd : Int) (k0 : W → W → W → Nm → CW) (q : W → W → W → W → W → W → Nm → CW) :
    ∀ (a b d cl er : Int), ((a, b, d), cl, er) = nextF ws tn cr rd ls[j] → d20_9b (hx (n + 7) m) m kr20 k0 q (.ptr 0 0) (.c .nils) (.l (ls.map (bL c)) cq) (.i .i64 ls.length) (.i .i64 j) (.tup []) ⟨[(0, bx (.l (ws.map iW) (.n ws.length)) tn cr rd)], 1⟩ =
      if er ≠ 0 then .val (.tup [tW (.c .nils) 0 0 0, .c .nils, .i .i64 er]) else
      q (.ptr 0 0) (.sl 3 0 1 (.rest 0) 1) (.l (ls.map (bL c)) cq) (.i .i64 ls.length) (.i .i64 ((j : Int) + 1)) (.tup []) ⟨[(3, ⟨3, 1, [.i .i64 cl], true, false, true⟩), (2, ⟨3, 1, [.i .i64 cl], false, false, true⟩), (1, bx (.l (ws.map iW) (.n ws.length)) a b d), (0, bx (.l (ws.map iW) (.n ws.length)) a b d)], 4⟩ := by
  intro a b d cl er hf
  have e17 : hx (n + 7) m 17 [.agg [.l (ws.map iW) (.n ws.length), .i .i64 tn, .i .i64 cr, .i .i64 rd], .l (ls[j].map bW) (c ls[j])] = _ := h17 n m (cp := .n ws.length) (cq := c ls[j]) (tn := tn) (cr := cr) (rd := rd) hm hab2 hm2 hab
  have hcl := next_cli ws tn cr rd ls[j]
  rw [← hf] at e17 hcl
  simp only at hcl
  simp only [resX, tW] at e17
  by_cases he : er = 0
  · subst he
    rw [if_pos rfl] at e17
    rw [if_neg (by simp)]
    by_cases h0 : 0 ≤ cl
    · have hmax : max cl 0 = cl := by omega
      simp only [d20_9b, bL, bx, jn_e, bH0, isRo, putW, bQ, Nat.reduceAdd, Nat.reduceEqDiff, Nat.reduceLT, Nat.reduceLeDiff, List.length_map, show (j : Int) < ls.length by omega, hIndexAddr_l, Int.natCast_nonneg, Int.toNat_natCast, List.getElem?_map, List.getElem?_eq_getElem hjl, Option.map_some, hCall, List.map_cons, List.map_nil, pur_agg, pur_l, pur_i, e17, frz, W.flat, W.fl1, Bool.false_and, Bool.or_true, Bool.or_self, Bool.false_or, h0, hmax, slit22]
      rw [app22_n (by rw [lookN_cons, if_pos rfl])]
      simp only [jn_e, bH0, isRo, putW, bQ, Nat.reduceAdd, Nat.reduceEqDiff, Nat.reduceLT, Nat.reduceLeDiff]
      rw [wrap64 (by omega) (by omega)]
    · have hm1 : cl = -1 := by omega
      simp only [d20_9b, bL, bx, jn_e, bH0, isRo, putW, bQ, Nat.reduceAdd, Nat.reduceEqDiff, Nat.reduceLT, Nat.reduceLeDiff, List.length_map, show (j : Int) < ls.length by omega, hIndexAddr_l, Int.natCast_nonneg, Int.toNat_natCast, List.getElem?_map, List.getElem?_eq_getElem hjl, Option.map_some, hCall, List.map_cons, List.map_nil, pur_agg, pur_l, pur_i, e17, frz, W.flat, W.fl1, Bool.false_and, Bool.or_true, Bool.or_self, Bool.false_or, h0, slit22]
      rw [app22_n (by rw [lookN_cons, if_pos rfl])]
      simp only [jn_e, bH0, isRo, putW, bQ, Nat.reduceAdd, Nat.reduceEqDiff, Nat.reduceLT, Nat.reduceLeDiff, hm1]
      rw [wrap64 (by omega) (by omega)]
  · rw [if_pos he]
    simp only [d20_9b, bL, bx, jn_e, bH0, isRo, putW, bQ, Nat.reduceAdd, Nat.reduceEqDiff, Nat.reduceLT, Nat.reduceLeDiff, List.length_map, show (j : Int) < ls.length by omega, hIndexAddr_l, Int.natCast_nonneg, Int.toNat_natCast, List.getElem?_map, List.getElem?_eq_getElem hjl, Option.map_some, hCall, List.map_cons, List.map_nil, pur_agg, pur_l, pur_i, e17, frz, W.flat, W.fl1, Bool.false_and, Bool.or_true, Bool.or_self, Bool.false_or, he, W.one]
    simp only [kr20, bR, packW, jn_e, bH0, isRo, putW, bQ, Nat.reduceAdd, Nat.reduceEqDiff, Nat.reduceLT, Nat.reduceLeDiff, part24, he, tW]
theorem key20s (n m : Nat) {ws : List Int} {ls : List (List Bool)} {cq : Cp} {c : List Bool → Cp} (hm : ws.length + 1 < m) (hm2 : ws.length < 4294967296) {j : Nat} (hjl : j < ls.length) (hj : ls.length < 4294967296) (hab : ls[j].length < 4294967296) (hab2 : ls[j].length < m) (tn cr rd : Int) (k0 : W → W → W → Nm → CW) (q : W → W → W → W → W → W → Nm → CW) {xs : List Int} (hxs : xs.length = j) :
    ∀ (a b d cl er : Int), ((a, b, d), cl, er) = nextF ws tn cr rd ls[j] → d20_9b (hx (n + 7) m) m kr20 k0 q (.ptr 0 0) (.sl 1 0 xs.length (.rest 0) 1) (.l (ls.map (bL c)) cq) (.i .i64 ls.length) (.i .i64 j) (.tup []) ⟨[(0, bx (.l (ws.map iW) (.n ws.length)) tn cr rd), (1, ⟨3, 1, xs.map iW, true, false, true⟩)], 2⟩ =
      if er ≠ 0 then .val (.tup [tW (.c .nils) 0 0 0, .c .nils, .i .i64 er]) else
      q (.ptr 0 0) (.sl 4 0 (xs.length + 1) (.rest 0) 1) (.l (ls.map (bL c)) cq) (.i .i64 ls.length) (.i .i64 ((j : Int) + 1)) (.tup []) ⟨[(4, ⟨3, 1, xs.map iW ++ [.i .i64 cl], true, false, true⟩), (3, ⟨3, 1, [.i .i64 cl], false, false, true⟩), (2, bx (.l (ws.map iW) (.n ws.length)) a b d), (0, bx (.l (ws.map iW) (.n ws.length)) a b d)], 5⟩ := by
  intro a b d cl er hf
  have e17 : hx (n + 7) m 17 [.agg [.l (ws.map iW) (.n ws.length), .i .i64 tn, .i .i64 cr, .i .i64 rd], .l (ls[j].map bW) (c ls[j])] = _ := h17 n m (cp := .n ws.length) (cq := c ls[j]) (tn := tn) (cr := cr) (rd := rd) hm hab2 hm2 hab
  have hcl := next_cli ws tn cr rd ls[j]
  rw [← hf] at e17 hcl
  simp only at hcl
  simp only [resX, tW] at e17
  by_cases he : er = 0
  · subst he
    rw [if_pos rfl] at e17
    rw [if_neg (by simp)]
    by_cases h0 : 0 ≤ cl
    · have hmax : max cl 0 = cl := by omega
      simp only [d20_9b, bL, bx, jn_e, bH0, isRo, putW, bQ, Nat.reduceAdd, Nat.reduceEqDiff, Nat.reduceLT, Nat.reduceLeDiff, List.length_map, show (j : Int) < ls.length by omega, hIndexAddr_l, Int.natCast_nonneg, Int.toNat_natCast, List.getElem?_map, List.getElem?_eq_getElem hjl, Option.map_some, hCall, List.map_cons, List.map_nil, pur_agg, pur_l, pur_i, e17, frz, W.flat, W.fl1, Bool.false_and, Bool.or_true, Bool.or_self, Bool.false_or, h0, hmax, slit22]
      rw [app22_s (cs := xs.map iW) (by rw [lookN_cons, if_pos rfl]) (by simp only [lookN_cons, Nat.reduceEqDiff, if_false, if_true]) (by simp) (by omega)]
      simp only [jn_e, bH0, isRo, putW, bQ, Nat.reduceAdd, Nat.reduceEqDiff, Nat.reduceLT, Nat.reduceLeDiff]
      rw [wrap64 (by omega) (by omega)]
    · have hm1 : cl = -1 := by omega
      simp only [d20_9b, bL, bx, jn_e, bH0, isRo, putW, bQ, Nat.reduceAdd, Nat.reduceEqDiff, Nat.reduceLT, Nat.reduceLeDiff, List.length_map, show (j : Int) < ls.length by omega, hIndexAddr_l, Int.natCast_nonneg, Int.toNat_natCast, List.getElem?_map, List.getElem?_eq_getElem hjl, Option.map_some, hCall, List.map_cons, List.map_nil, pur_agg, pur_l, pur_i, e17, frz, W.flat, W.fl1, Bool.false_and, Bool.or_true, Bool.or_self, Bool.false_or, h0, slit22]
      rw [app22_s (cs := xs.map iW) (by rw [lookN_cons, if_pos rfl]) (by simp only [lookN_cons, Nat.reduceEqDiff, if_false, if_true]) (by simp) (by omega)]
      simp only [jn_e, bH0, isRo, putW, bQ, Nat.reduceAdd, Nat.reduceEqDiff, Nat.reduceLT, Nat.reduceLeDiff, hm1]
      rw [wrap64 (by omega) (by omega)]
  · rw [if_pos he]
    simp only [d20_9b, bL, bx, jn_e, bH0, isRo, putW, bQ, Nat.reduceAdd, Nat.reduceEqDiff, Nat.reduceLT, Nat.reduceLeDiff, List.length_map, show (j : Int) < ls.length by omega, hIndexAddr_l, Int.natCast_nonneg, Int.toNat_natCast, List.getElem?_map, List.getElem?_eq_getElem hjl, Option.map_some, hCall, List.map_cons, List.map_nil, pur_agg, pur_l, pur_i, e17, frz, W.flat, W.fl1, Bool.false_and, Bool.or_true, Bool.or_self, Bool.false_or, he, W.one]
    simp only [kr20, bR, packW, jn_e, bH0, isRo, putW, bQ, Nat.reduceAdd, Nat.reduceEqDiff, Nat.reduceLT, Nat.reduceLeDiff, part24, he, tW]
theorem h31n (n m : Nat) : hx (n + 1) m 31 [.c .nils] = .val (.c .nils) := by
  rw [hx, q31 rfl]
  have e : ∀ K, hSlice prg 22 (.c .nils) none (some (.i .i64 0)) (some (.i .i64 0)) ⟨[], 0⟩ K = K (.c .nils) := fun K => by kernel_rfl
  simp only [d31, d31_1, jn_e, bH0, isRo, putW, bQ, Nat.reduceAdd, Nat.reduceEqDiff, Nat.reduceLT, Nat.reduceLeDiff, e, bR, packW]
noncomputable def k020 (cl : Clh) : W → W → W → Nm → CW := fun t4 t5 t511 M =>
    jn (fun (n4 : Nat) =>
    gate (oldV n4 true t4) true true <|
    hLoadN 4 t4 M fun t56 =>
    gate true true true <|
    gate true (adsW M.H none [t4]) true <|
    hCall cl 31 [t5] M fun t58 M10 =>
    gate true true true <|
    hStoreN 4 t4 t56 M10 fun _ M11 =>
    gate true true true <|
    gate true true true <|
    kr20 t511 t4 t58 (.i .i64 (0)) M11) M.nx
theorem l20 (n m : Nat) {ws : List Int} {ls : List (List Bool)} {cq : Cp} {c : List Bool → Cp} (hm : ws.length + 1 < m) (hm2 : ws.length < 4294967296) (hls : ls.length < 4294967296) (hab : ∀ ab ∈ ls, ab.length < 4294967296 ∧ ab.length < m) :
    ∀ (r j : Nat), j + r = ls.length → ∀ (tn cr rd : Int) (xs : List Int), xs.length = j → ∀ j', r ≤ j' →
    d20_9b (hx (n + 7) m) m kr20 (k020 (hx (n + 7) m)) (d20_9 (hx (n + 7) m) m kr20 (k020 (hx (n + 7) m)) j') (.ptr 0 0) (acw xs) (.l (ls.map (bL c)) cq) (.i .i64 ls.length) (.i .i64 j) (.tup []) (acm (.l (ws.map iW) (.n ws.length)) tn cr rd xs)
      = .val (resT (.l (ws.map iW) (.n ws.length)) xs (.n (xs ++ (runF ws tn cr rd (ls.drop j)).2.1).length) (runF ws tn cr rd (ls.drop j))) := by
  intro r
  induction r with
  | zero =>
    intro j hj tn cr rd xs hxs j' hj'
    rw [List.drop_eq_nil_of_le (by omega)]
    have e31 : ∀ (l : List Int), hx (n + 7) m 31 [.l (l.map iW) .any] = _ := fun l => h31 (n + 6) m (l := l) (cp := .any) rfl
    have e31n : hx (n + 7) m 31 [.c .nils] = _ := h31n (n + 6) m
    by_cases hx0 : xs = []
    · simp only [d20_9b, acw, acm, if_pos hx0, bx, k020, kr20, jn_e, bH0, isRo, putW, bQ, Nat.reduceAdd, Nat.reduceEqDiff, Nat.reduceLT, Nat.reduceLeDiff, List.length_map, show ¬ (j : Int) < ls.length by omega, hCall, List.map_cons, List.map_nil, pur_c, e31n, frz_of, W.flat, W.fl1, Bool.true_or]
      simp only [bR, packW, jn_e, bH0, isRo, putW, bQ, Nat.reduceAdd, Nat.reduceEqDiff, Nat.reduceLT, Nat.reduceLeDiff, part24]
      subst hx0
      rfl
    · have hp := pur_ints (k := 3) (id := 1) (l := xs) (ro := false) (H := [(0, ⟨24, 4, [.l (ws.map iW) (.n ws.length), .i .i64 tn, .i .i64 cr, .i .i64 rd], false, false, true⟩), (1, ⟨3, 1, xs.map iW, true, false, true⟩)]) (by simp only [lookN_cons, Nat.reduceEqDiff, if_false, if_true, Nat.zero_ne_one])
      simp only [d20_9b, acw, acm, if_neg hx0, bx, k020, kr20, jn_e, bH0, isRo, putW, bQ, Nat.reduceAdd, Nat.reduceEqDiff, Nat.reduceLT, Nat.reduceLeDiff, List.length_map, show ¬ (j : Int) < ls.length by omega, hCall, List.map_cons, List.map_nil, hp, e31, frz, W.flat, W.fl1, Bool.or_self, List.flatMap_cons, List.flatMap_nil, ids_sl, Nat.zero_ne_one, frzH_cons, frzH_nil, memN_cons, memN_nil, Bool.or_false, Nat.one_ne_zero]
      simp only [bR, packW, jn_e, bH0, isRo, putW, bQ, Nat.reduceAdd, Nat.reduceEqDiff, Nat.reduceLT, Nat.reduceLeDiff, part24]
      simp only [resT, runF, List.append_nil, lst, if_neg hx0, if_true, tW, List.map_cons, List.map_nil, pur_agg, pur_l, pur_i]
  | succ r ih =>
    intro j hj tn cr rd xs hxs j' hj'
    obtain ⟨j', rfl⟩ : ∃ q, j' = q + 1 := ⟨j' - 1, by omega⟩
    have hjl : j < ls.length := by omega
    rw [List.drop_eq_getElem_cons hjl]
    simp only [runF]
    have step : d20_9b (hx (n + 7) m) m kr20 (k020 (hx (n + 7) m)) (d20_9 (hx (n + 7) m) m kr20 (k020 (hx (n + 7) m)) (j' + 1)) (.ptr 0 0) (acw xs) (.l (ls.map (bL c)) cq) (.i .i64 ls.length) (.i .i64 j) (.tup []) (acm (.l (ws.map iW) (.n ws.length)) tn cr rd xs) =
        if (nextF ws tn cr rd ls[j]).2.2 ≠ 0 then .val (.tup [tW (.c .nils) 0 0 0, .c .nils, .i .i64 (nextF ws tn cr rd ls[j]).2.2]) else
        d20_9b (hx (n + 7) m) m kr20 (k020 (hx (n + 7) m)) (d20_9 (hx (n + 7) m) m kr20 (k020 (hx (n + 7) m)) j') (.ptr 0 0) (acw (xs ++ [(nextF ws tn cr rd ls[j]).2.1])) (.l (ls.map (bL c)) cq) (.i .i64 ls.length) (.i .i64 ((j + 1 : Nat) : Int)) (.tup []) (acm (.l (ws.map iW) (.n ws.length)) (nextF ws tn cr rd ls[j]).1.1 (nextF ws tn cr rd ls[j]).1.2.1 (nextF ws tn cr rd ls[j]).1.2.2 (xs ++ [(nextF ws tn cr rd ls[j]).2.1])) := by
      have ha := hab _ (List.getElem_mem hjl)
      have e : ∀ (t4 t5 t30 t31 t32 t511 : W) (M : Nm), d20_9 (hx (n + 7) m) m kr20 (k020 (hx (n + 7) m)) (j' + 1) t4 t5 t30 t31 t32 t511 M = jn (fun (σ : List Nat) => d20_9b (hx (n + 7) m) m kr20 (k020 (hx (n + 7) m)) (d20_9 (hx (n + 7) m) m kr20 (k020 (hx (n + 7) m)) j') (ren 4 σ t4) (ren 4 σ t5) (ren 4 σ t30) (ren 4 σ t31) (ren 4 σ t32) (ren 4 σ t511) ⟨canH M.H σ 0 σ, σ.length⟩) (reach M.H [t4, t5, t30, t31, t32, t511]) := fun _ _ _ _ _ _ _ => rfl
      by_cases hx0 : xs = []
      · have hk := key20n n m (cq := cq) (c := c) hm hm2 hjl hls ha.1 ha.2 tn cr rd (k020 (hx (n + 7) m)) (d20_9 (hx (n + 7) m) m kr20 (k020 (hx (n + 7) m)) (j' + 1)) (nextF ws tn cr rd ls[j]).1.1 (nextF ws tn cr rd ls[j]).1.2.1 (nextF ws tn cr rd ls[j]).1.2.2 (nextF ws tn cr rd ls[j]).2.1 (nextF ws tn cr rd ls[j]).2.2 rfl
        simp only [acw, acm, if_pos hx0]
        rw [hk]
        by_cases he : (nextF ws tn cr rd ls[j]).2.2 ≠ 0
        · rw [if_pos he, if_pos he]
        · rw [if_neg he, if_neg he, e]
          generalize d20_9 (hx (n + 7) m) m kr20 (k020 (hx (n + 7) m)) j' = q
          simp only [hx0, List.nil_append, if_neg (show ¬ ([(nextF ws tn cr rd ls[j]).2.1] : List Int) = [] by simp), bC, reach, jn_e, bK, Nat.reduceEqDiff, Nat.reduceAdd, bx, iW, show (((j + 1 : Nat)) : Int) = (j : Int) + 1 from rfl]
      · have hk := key20s n m (cq := cq) (c := c) hm hm2 hjl hls ha.1 ha.2 tn cr rd (k020 (hx (n + 7) m)) (d20_9 (hx (n + 7) m) m kr20 (k020 (hx (n + 7) m)) (j' + 1)) hxs (nextF ws tn cr rd ls[j]).1.1 (nextF ws tn cr rd ls[j]).1.2.1 (nextF ws tn cr rd ls[j]).1.2.2 (nextF ws tn cr rd ls[j]).2.1 (nextF ws tn cr rd ls[j]).2.2 rfl
        simp only [acw, acm, if_neg hx0]
        rw [hk]
        by_cases he : (nextF ws tn cr rd ls[j]).2.2 ≠ 0
        · rw [if_pos he, if_pos he]
        · rw [if_neg he, if_neg he, e]
          generalize d20_9 (hx (n + 7) m) m kr20 (k020 (hx (n + 7) m)) j' = q
          simp only [if_neg (show ¬ xs ++ [(nextF ws tn cr rd ls[j]).2.1] = [] by simp), bC, reach, jn_e, bK, Nat.reduceEqDiff, Nat.reduceAdd, bx, iW, List.length_append, List.map_append, show (((j + 1 : Nat)) : Int) = (j : Int) + 1 from rfl]
    rw [step]
    have eR : ∀ (f : (Int × Int × Int) × Int × Int) cp, f.2.2 ≠ 0 → CW.val (.tup [tW (.c .nils) 0 0 0, .c .nils, .i .i64 f.2.2]) = .val (resT (.l (ws.map iW) (.n ws.length)) xs cp ((0, 0, 0), [], f.2.2)) := fun f cp h => by simp only [resT, if_neg h]
    generalize nextF ws tn cr rd ls[j] = f
    by_cases he : f.2.2 = 0
    · rw [if_neg (by simpa using he), if_neg (by simpa using he), ih (j + 1) (by omega) _ _ _ _ (by simp [hxs]) j' (by omega)]
      have hrun := run_err (ws := ws) (tn := f.1.1) (cr := f.1.2.1) (rd := f.1.2.2) (ls := ls.drop (j + 1))
      generalize runF ws f.1.1 f.1.2.1 f.1.2.2 (ls.drop (j + 1)) = q at hrun ⊢
      by_cases hq : q.2.2 = 0
      · rw [if_neg (by simpa using hq)]
        simp only [resT, hq, if_true, List.append_assoc, List.cons_append, List.nil_append]
      · rw [if_pos (by simpa using hq)]
        simp only [resT, if_neg hq, hrun hq]
    · rw [if_pos (by simpa using he), if_pos (by simpa using he)]
      exact eR f _ (by simpa using he)
theorem h20 (n m : Nat) {ws : List Int} {ls : List (List Bool)} {cp cq : Cp} {c : List Bool → Cp} {tn cr rd : Int} (hm : ws.length + 1 < m) (hlm : ls.length < m) (hm2 : ws.length < 4294967296) (hls : ls.length ≤ 4096) (hab : ∀ ab ∈ ls, ab.length < 4294967296 ∧ ab.length < m) (hc : chkE ws tn cr rd = 0) :
    hx (n + 8) m 20 [tW (.l (ws.map iW) cp) tn cr rd, .l (ls.map (bL c)) cq] = .val (resT (.l (ws.map iW) (.n ws.length)) [] (.n (runF ws tn cr rd ls).2.1.length) (runF ws tn cr rd ls)) := by
  rw [hx, q20 rfl]
  have e12 : ∀ cp, hx (n + 7) m 12 [.agg [.l (ws.map iW) cp, .i .i64 tn, .i .i64 cr, .i .i64 rd]] = _ := fun cp => h12 (n + 1) m (l := ws) (cp := cp) (tn := tn) (cr := cr) (rd := rd) (by omega) hm2
  have e32 : ∀ cp, hx (n + 7) m 32 [.l (ws.map iW) cp] = _ := fun cp => h32 (n + 6) m (cp := cp) (wE_ne (chkE_ok hc).1) hm2
  have e31 : ∀ cp, hx (n + 7) m 31 [.l (ws.map iW) cp] = _ := fun cp => h31 (n + 6) m (cp := cp) (l := ws) (noE (wE_ne (chkE_ok hc).1) cp)
  obtain ⟨m, rfl⟩ : ∃ q, m = q + 1 := ⟨m - 1, by omega⟩
  have hl := l20 n (m + 1) (cq := cq) (c := c) hm hm2 (by omega) hab ls.length 0 (by omega) tn cr rd [] rfl m (by omega)
  rw [List.drop_zero] at hl
  have hl : d20_9b (hx (n + 7) (m + 1)) (m + 1) kr20 (k020 (hx (n + 7) (m + 1))) (d20_9 (hx (n + 7) (m + 1)) (m + 1) kr20 (k020 (hx (n + 7) (m + 1))) m) (.ptr 0 0) (.c .nils) (.l (ls.map (bL c)) cq) (.i .i64 ls.length) (.i .i64 0) (.tup []) ⟨[(0, bx (.l (ws.map iW) (.n ws.length)) tn cr rd)], 1⟩ = _ := hl
  have e : ∀ (t4 t5 t30 t31 t32 t511 : W) (M : Nm), d20_9 (hx (n + 7) (m + 1)) (m + 1) kr20 (k020 (hx (n + 7) (m + 1))) (m + 1) t4 t5 t30 t31 t32 t511 M = jn (fun (σ : List Nat) => d20_9b (hx (n + 7) (m + 1)) (m + 1) kr20 (k020 (hx (n + 7) (m + 1))) (d20_9 (hx (n + 7) (m + 1)) (m + 1) kr20 (k020 (hx (n + 7) (m + 1))) m) (ren 4 σ t4) (ren 4 σ t5) (ren 4 σ t30) (ren 4 σ t31) (ren 4 σ t32) (ren 4 σ t511) ⟨canH M.H σ 0 σ, σ.length⟩) (reach M.H [t4, t5, t30, t31, t32, t511]) := fun _ _ _ _ _ _ _ => rfl
  simp only [d20, d20_1, d20_2, tW, bH0, isRo, putW, bQ, Nat.reduceAdd, Nat.reduceEqDiff, Nat.reduceLT, Nat.reduceLeDiff, hCall, List.map_cons, List.map_nil, pur_agg, pur_l, pur_i, e12, e31, e32, frz_of, W.flat, W.fl1, Bool.true_or, Bool.or_true, hc, Int.lt_irrefl, d20_3, List.length_map, show ¬ (4096 : Int) < ls.length by omega, d20_4, d20_5, d20_6, d20_7, d20_8]
  refine Eq.trans (e _ _ _ _ _ _ _) ?_
  refine Eq.trans ?_ hl
  generalize d20_9 (hx (n + 7) (m + 1)) (m + 1) kr20 (k020 (hx (n + 7) (m + 1))) m = q
  simp only [bC, reach, jn_e, bK, Nat.reduceEqDiff, Nat.reduceAdd, bx]
end Go.Proofs.Ytehbfajmileefaa.Hx
namespace Go.Proofs.Ytehbfajmileefaa.Hx
open Go.RowKit Go.Proofs.Ytehbfajmileefaa.Vx Go.Proofs.Ytehbfajmileefaa.Fx Go.Proofs.Ytehbfajmileefaa.Px
def IsI (w : W) (l : List Int) : Prop := (w = .c .nils ∧ l = []) ∨ ∃ cp, w = .l (l.map iW) cp
section
variable {w : W} {l : List Int}
theorem IsI.len (h : IsI w l) (K : W → CW) : hLenS w K = K (.i .i64 l.length) := by
  rcases h with ⟨rfl, rfl⟩ | ⟨cp, rfl⟩
  · rfl
  · rw [hLenS_l, List.length_map]
theorem IsI.idx (h : IsI w l) {j : Nat} (hj : j < l.length) (K : W → CW) : hIndexAddr 1 w (.i .i64 j) K = K (.p [.i .i64 l[j]] 0) := by
  rcases h with ⟨rfl, rfl⟩ | ⟨cp, rfl⟩
  · simp at hj
  · rw [hIndexAddr_l, if_pos (Int.natCast_nonneg _)]
    simp only [Int.toNat_natCast, List.getElem?_map, List.getElem?_eq_getElem hj, Option.map_some, oW_some, iW, W.cells, List.length_cons, List.length_nil, Nat.zero_add, if_true]
theorem IsI.ren (h : IsI w l) (k : Nat) (σ : List Nat) : Hx.ren k σ w = w := by
  rcases h with ⟨rfl, rfl⟩ | ⟨cp, rfl⟩
  · exact ren_c _ _
  · exact ren_l _ _ _
theorem IsI.ids (h : IsI w l) (k : Nat) (H : List (Nat × BN)) : Hx.ids k H w = [] := by
  rcases h with ⟨rfl, rfl⟩ | ⟨cp, rfl⟩
  · exact ids_c _ _
  · exact ids_l _ _ _
theorem IsI.pur (h : IsI w l) (k : Nat) (H : List (Nat × BN)) : Hx.pur k H w = w := by
  rcases h with ⟨rfl, rfl⟩ | ⟨cp, rfl⟩
  · exact pur_c _ _ _
  · exact pur_l _ _ _ _
theorem lst_is (l : List Int) (cp : Cp) : IsI (lst l cp) l := by
  unfold lst
  split
  · rename_i h; exact .inl ⟨rfl, h⟩
  · exact .inr ⟨cp, rfl⟩
end
def badT (n : Int) (x : Int) : Bool := !(decide (-1 ≤ x) && decide (x ≤ n - 1))
def cB (c : Nat → Int) : BN := ⟨70, 16, (List.range 16).map fun p => iW (c p), false, false, true⟩
noncomputable def kr21 : W → W → W → Nm → CW := fun z r0 r1 M' => finH prg z [(.tmp 4, r0), (.tmp 5, r1)] M'
theorem cells_set (c : Nat → Int) (p : Nat) (hp : p < 16) (x : Int) : ((List.range 16).map fun p => iW (c p)).set p (.i .i64 x) = (List.range 16).map fun q => iW (if q = p then x else c q) := by
  apply List.ext_getElem?
  intro i
  rw [List.getElem?_set]
  have er : (List.range 16)[i]? = if i < 16 then some i else none := by
    by_cases h16 : i < 16
    · rw [if_pos h16, List.getElem?_range h16]
    · rw [if_neg h16, List.getElem?_eq_none (by simp; omega)]
  simp only [List.getElem?_map, List.length_map, List.length_range, er]
  by_cases h : p = i
  · subst h; simp [hp, iW]
  · rw [if_neg h]
    by_cases h16 : i < 16
    · simp only [if_pos h16, Option.map_some, if_neg (Ne.symm h)]
    · simp only [if_neg h16, Option.map_none]
theorem l21 (n m : Nat) {w : W} {l : List Int} {k : Int} {k0 : W → W → W → Nm → CW} (hw : IsI w l) (hm : l.length < 4294967296) (hk1 : 1 ≤ k) (hk : k ≤ 16) : ∀ (r j : Nat), j + r = l.length → ∀ (c : Nat → Int), (∀ p, 0 ≤ c p ∧ c p ≤ j) → ∀ j', r ≤ j' →
    d21_8b (hx (n + 1) m) m kr21 k0 (d21_8 (hx (n + 1) m) m kr21 k0 j') (.i .i64 k) (.ptr 0 0) w (.i .i64 l.length) (.i .i64 j) (.tup []) ⟨[(0, cB c)], 1⟩ =
      if (l.drop j).any (badT k) = true then .val (.tup [.c .nils, .i .i64 4]) else k0 (.i .i64 k) (.ptr 0 0) (.tup []) ⟨[(0, cB fun p => c p + ((l.drop j).count (p : Int) : Nat))], 1⟩ := by
  intro r
  induction r with
  | zero =>
    intro j hj c hc j' hj'
    rw [List.drop_eq_nil_of_le (by omega), if_neg (by simp)]
    simp only [d21_8b, jn_e, bH0, isRo, putW, bQ, Nat.reduceAdd, Nat.reduceEqDiff, Nat.reduceLT, Nat.reduceLeDiff, show ¬ (j : Int) < l.length by omega]
    simp
  | succ r ih =>
    intro j hj c hc j' hj'
    obtain ⟨j', rfl⟩ : ∃ q, j' = q + 1 := ⟨j' - 1, by omega⟩
    have hjl : j < l.length := by omega
    have e33 : ∀ a b c, hx (n + 1) m 33 [.i .i64 a, .i .i64 b, .i .i64 c] = _ := fun a b c => h33 n m a b c
    have e : ∀ (c : Nat → Int), d21_8 (hx (n + 1) m) m kr21 k0 (j' + 1) (.i .i64 k) (.ptr 0 0) w (.i .i64 l.length) (.i .i64 ((j : Int) + 1)) (.tup []) ⟨[(0, cB c)], 1⟩ = d21_8b (hx (n + 1) m) m kr21 k0 (d21_8 (hx (n + 1) m) m kr21 k0 j') (.i .i64 k) (.ptr 0 0) w (.i .i64 l.length) (.i .i64 ((j + 1 : Nat) : Int)) (.tup []) ⟨[(0, cB c)], 1⟩ := by
      intro c
      have e0 : ∀ (t1 t6 t15 t16 t17 t511 : W) (M : Nm), d21_8 (hx (n + 1) m) m kr21 k0 (j' + 1) t1 t6 t15 t16 t17 t511 M = jn (fun (σ : List Nat) => d21_8b (hx (n + 1) m) m kr21 k0 (d21_8 (hx (n + 1) m) m kr21 k0 j') (ren 4 σ t1) (ren 4 σ t6) (ren 4 σ t15) (ren 4 σ t16) (ren 4 σ t17) (ren 4 σ t511) ⟨canH M.H σ 0 σ, σ.length⟩) (reach M.H [t1, t6, t15, t16, t17, t511]) := fun _ _ _ _ _ _ _ => rfl
      rw [e0]
      generalize d21_8 (hx (n + 1) m) m kr21 k0 j' = q
      simp only [bC, reach, jn_e, bK, Nat.reduceEqDiff, Nat.reduceAdd, hw.ids, hw.ren, cB, show (((j + 1 : Nat)) : Int) = (j : Int) + 1 from rfl]
    rw [List.drop_eq_getElem_cons hjl, List.any_cons]
    generalize hq : d21_8 (hx (n + 1) m) m kr21 k0 (j' + 1) = q at e ⊢
    have one : ∀ p : Nat, p < 16 → ((List.range 16).map fun p => iW (c p))[p]? = some (.i .i64 (c p)) := fun p hp => by
      rw [List.getElem?_map, List.getElem?_range hp]; rfl
    simp only [d21_8b, jn_e, bH0, isRo, putW, bQ, Nat.reduceAdd, Nat.reduceEqDiff, Nat.reduceLT, Nat.reduceLeDiff, show (j : Int) < l.length by omega, hw.idx hjl, hCall, List.map_cons, List.map_nil, pur_i]
    rw [wrap64 (n := k - 1) (by omega) (by omega)]
    simp only [e33, frz_of, W.flat, W.fl1, Bool.true_or, jn_e, bH0, isRo, putW, bQ, Nat.reduceAdd, Nat.reduceEqDiff, Nat.reduceLT, Nat.reduceLeDiff]
    cases hbad : badT k l[j] with
    | true =>
      have hc' : (decide (-1 ≤ l[j]) && decide (l[j] ≤ k - 1)) = false := by simpa only [badT, Bool.not_eq_true'] using hbad
      simp only [hc', jn_e, bH0, isRo, putW, bQ, Nat.reduceAdd, Nat.reduceEqDiff, Nat.reduceLT, Nat.reduceLeDiff, Bool.true_or, kr21, bR, packW]
    | false =>
      have hc' : (decide (-1 ≤ l[j]) && decide (l[j] ≤ k - 1)) = true := by simpa only [badT, Bool.not_eq_false'] using hbad
      have hrange : -1 ≤ l[j] ∧ l[j] ≤ k - 1 := by simpa using hc'
      simp only [hc', jn_e, bH0, isRo, putW, bQ, Nat.reduceAdd, Nat.reduceEqDiff, Nat.reduceLT, Nat.reduceLeDiff, Bool.false_or, ge_iff_le]
      rw [wrap64 (n := (j : Int) + 1) (by omega) (by omega)]
      by_cases hp : 0 ≤ l[j]
      · have h15 : l[j] < 16 := by have := hrange.2; omega
        have hp16 : l[j].toNat < 16 := by omega
        have hb := hc l[j].toNat
        have h15' : l[j] < ((16 : Nat) : Int) := h15
        simp only [hp, h15', jn_e, bH0, isRo, putW, bQ, Nat.reduceAdd, Nat.reduceEqDiff, Nat.reduceLT, Nat.reduceLeDiff, hIndexArr_ptr, if_pos (show (0 : Int) ≤ l[j] ∧ l[j] < (16 : Nat) from ⟨hp, h15⟩), cB, Nat.mul_one, one _ hp16]
        rw [wrap64 (n := c l[j].toNat + 1) (by omega) (by omega)]
        simp only [cells_set c _ hp16, List.length_map, List.length_range, hp16, jn_e, bH0, isRo, putW, bQ, Nat.reduceAdd, Nat.reduceEqDiff, Nat.reduceLT, Nat.reduceLeDiff]
        refine (e (fun q => if q = l[j].toNat then c l[j].toNat + 1 else c q)).trans ?_
        rw [ih (j + 1) (by omega) _ (fun p => by split <;> (have := hc p; omega)) j' (by omega)]
        have hfun : (fun p : Nat => (if p = l[j].toNat then c l[j].toNat + 1 else c p) + (((l.drop (j + 1)).count (p : Int) : Nat) : Int)) = fun p : Nat => c p + (((l[j] :: l.drop (j + 1)).count (p : Int) : Nat) : Int) := by
          funext p
          rw [List.count_cons]
          by_cases e : p = l[j].toNat
          · have h1 : (l[j] == (p : Int)) = true := by simp; omega
            rw [if_pos e, h1, if_pos rfl, e]; omega
          · have h1 : (l[j] == (p : Int)) = false := by simp; omega
            rw [if_neg e, h1, if_neg (by simp)]; rfl
        rw [hfun]
        rfl
      · simp only [hp, jn_e, bH0, isRo, putW, bQ, Nat.reduceAdd, Nat.reduceEqDiff, Nat.reduceLT, Nat.reduceLeDiff]
        refine (e c).trans ?_
        rw [ih (j + 1) (by omega) c (fun p => by have := hc p; omega) j' (by omega)]
        by_cases h : (l.drop (j + 1)).any (badT k) = true
        · rw [if_pos h, if_pos h]
        · rw [if_neg h, if_neg h]
          congr 4
          simp only [cB]
          congr 2
          funext p
          rw [List.count_cons, if_neg (by simp; omega)]
          rfl
end Go.Proofs.Ytehbfajmileefaa.Hx
namespace Go.Proofs.Ytehbfajmileefaa.Hx
open Go.RowKit Go.Proofs.Ytehbfajmileefaa.Vx Go.Proofs.Ytehbfajmileefaa.Fx Go.Proofs.Ytehbfajmileefaa.Px
def servedE (l : List Int) (k : Int) : Int := if 4096 < (l.length : Int) then 3 else if k < 1 ∨ 16 < k then 4 else if l.any (badT k) then 4 else 0
def counts (l : List Int) (k : Int) : List Int := (List.range k.toNat).map fun (p : Nat) => ((l.count (p : Int) : Nat) : Int)
theorem u70 : prg.underlying 70 = some (.array 16 3) := by kernel_rfl
theorem s3 : szOf prg 3 = some 1 := by kernel_rfl
theorem sl70 {k : Int} (h1 : 1 ≤ k) (h2 : k ≤ 16) (N : Nm) (K : W → CW) : hSlice prg 70 (.ptr 0 0) none (some (.i .i64 k)) none N K = K (.sl 0 0 k.toNat (.is 16) 1) := by
  unfold hSlice
  simp only [u70, s3, Option.isSome_none, Bool.false_and, Bool.false_eq_true, if_false, oW_some, hBnd, if_pos (show 0 ≤ k ∧ k ≤ ((16 : Nat) : Int) by omega), Nat.zero_mul, Nat.add_zero, Nat.sub_zero, ite_self]
theorem chunk_take : ∀ (n : Nat) (l : List W), (∀ w ∈ l, mkRow 1 [w] = w) → n ≤ l.length → chunk n 1 l = l.take n
  | 0, l, _, _ => rfl
  | n + 1, [], _, h => by simp at h
  | n + 1, w :: l, h, hn => by
    show mkRow 1 [w] :: chunk n 1 l = w :: l.take n
    rw [h w (by simp), chunk_take n l (fun v hv => h v (List.mem_cons_of_mem _ hv)) (by simpa using hn)]
theorem h21 (n m : Nat) {w : W} {l : List Int} {k : Int} (hw : IsI w l) (hl : l.length < m) (hm : l.length ≤ 4096) :
    hx (n + 2) m 21 [w, .i .i64 k] = .val (if servedE l k ≠ 0 then .tup [.c .nils, .i .i64 (servedE l k)] else .tup [.l ((counts l k).map iW) (.n (counts l k).length), .i .i64 0]) := by
  rw [hx, q21 rfl]
  have e33 : ∀ a b c, hx (n + 1) m 33 [.i .i64 a, .i .i64 b, .i .i64 c] = _ := fun a b c => h33 n m a b c
  have h4 : ¬ (4096 : Int) < l.length := by omega
  simp only [d21, d21_1, d21_2, hw.len, jn_e, bH0, isRo, putW, bQ, Nat.reduceAdd, Nat.reduceEqDiff, Nat.reduceLT, Nat.reduceLeDiff, h4, d21_3, hCall, List.map_cons, List.map_nil, pur_i, e33, frz_of, W.flat, W.fl1, Bool.true_or]
  by_cases hk : 1 ≤ k ∧ k ≤ 16
  rotate_left
  · have e : (decide (1 ≤ k) && decide (k ≤ 16)) = false := by simp only [Bool.and_eq_false_iff, decide_eq_false_iff_not]; omega
    have es : servedE l k = 4 := by unfold servedE; rw [if_neg h4, if_pos (by omega)]
    simp only [e, jn_e, bH0, isRo, putW, bQ, Nat.reduceAdd, Nat.reduceEqDiff, Nat.reduceLT, Nat.reduceLeDiff, es]
    simp only [bR, packW, jn_e, bH0, isRo, putW, bQ, Nat.reduceAdd, Nat.reduceEqDiff, Nat.reduceLT, Nat.reduceLeDiff]
    rfl
  have e : (decide (1 ≤ k) && decide (k ≤ 16)) = true := by simp only [Bool.and_eq_true, decide_eq_true_eq]; exact hk
  simp only [e, jn_e, bH0, isRo, putW, bQ, Nat.reduceAdd, Nat.reduceEqDiff, Nat.reduceLT, Nat.reduceLeDiff, d21_4, d21_5, d21_6, d21_7, hw.len]
  obtain ⟨m, rfl⟩ : ∃ q, m = q + 1 := ⟨m - 1, by omega⟩
  have hl := l21 n (m + 1) (k := k) (k0 := fun t1 t6 t511 M => hSlice prg 70 t6 none (some t1) none M fun t35 => hCall (hx (n + 1) (m + 1)) 32 [t35] M fun t36 M4 => hCall (hx (n + 1) (m + 1)) 31 [t36] M4 fun t37 M5 => kr21 t511 t37 (.i .i64 (0)) M5)
    hw (by omega) hk.1 hk.2 l.length 0 (by omega) (fun _ => 0) (fun p => by simp) m (by omega)
  rw [List.drop_zero] at hl
  have e0 : ∀ (kr : W → W → W → Nm → CW) (k0 : W → W → W → Nm → CW) (t1 t6 t15 t16 t17 t511 : W) (M : Nm), d21_8 (hx (n + 1) (m + 1)) (m + 1) kr k0 (m + 1) t1 t6 t15 t16 t17 t511 M = jn (fun (σ : List Nat) => d21_8b (hx (n + 1) (m + 1)) (m + 1) kr k0 (d21_8 (hx (n + 1) (m + 1)) (m + 1) kr k0 m) (ren 4 σ t1) (ren 4 σ t6) (ren 4 σ t15) (ren 4 σ t16) (ren 4 σ t17) (ren 4 σ t511) ⟨canH M.H σ 0 σ, σ.length⟩) (reach M.H [t1, t6, t15, t16, t17, t511]) := fun _ _ _ _ _ _ _ _ _ => rfl
  refine (e0 _ _ _ _ _ _ _ _ _).trans ?_
  have hcb : cB (fun _ => 0) = ⟨70, 16, [.i .i64 0, .i .i64 0, .i .i64 0, .i .i64 0, .i .i64 0, .i .i64 0, .i .i64 0, .i .i64 0, .i .i64 0, .i .i64 0, .i .i64 0, .i .i64 0, .i .i64 0, .i .i64 0, .i .i64 0, .i .i64 0], false, false, true⟩ := rfl
  rw [hcb] at hl
  have hl' := hl
  unfold kr21 at hl'
  refine Eq.trans ?_ (hl'.trans ?_)
  · generalize d21_8 (hx (n + 1) (m + 1)) (m + 1) _ _ m = q
    simp only [bC, reach, jn_e, bK, Nat.reduceEqDiff, Nat.reduceAdd, hw.ids, hw.ren]
    rfl
  · by_cases hany : l.any (badT k) = true
    · have es : servedE l k = 4 := by unfold servedE; rw [if_neg h4, if_neg (by omega), if_pos hany]
      rw [if_pos hany, es]
      rfl
    · have es : servedE l k = 0 := by unfold servedE; rw [if_neg h4, if_neg (by omega), if_neg hany]
      rw [if_neg hany, es, if_neg (by simp), sl70 hk.1 hk.2]
      have hc : (counts l k).length = k.toNat := by simp [counts]
      have hne : counts l k ≠ [] := by intro h; rw [h] at hc; simp at hc; omega
      have hp := pur_sl (k := 3) (id := 0) (off := 0) (len := k.toNat) (z := 1) (cap := .is 16) (b := cB fun p => 0 + ((l.count (p : Int) : Nat) : Int)) (H := [(0, cB fun p => 0 + ((l.count (p : Int) : Nat) : Int))]) (by rw [lookN_cons, if_pos rfl]) (by simp [cB]; omega) (by simp [capFits]; omega) (by omega) rfl
      have hch : chunk k.toNat 1 ((cB fun p => 0 + ((l.count (p : Int) : Nat) : Int)).cells.drop 0) = (counts l k).map iW := by
        rw [List.drop_zero]
        show chunk k.toNat 1 ((List.range 16).map fun (p : Nat) => iW (0 + ((l.count (p : Int) : Nat) : Int))) = _
        rw [chunk_take _ _ (by intro w hw; obtain ⟨p, -, rfl⟩ := List.mem_map.1 hw; rfl) (by simp; omega), ← List.map_take, List.take_range, Nat.min_eq_left (by omega)]
        simp only [counts, List.map_map, Int.zero_add]
        rfl
      rw [hch] at hp
      have e32 : ∀ cp, hx (n + 1) (m + 1) 32 [.l ((counts l k).map iW) cp] = _ := fun cp => h32 n (m + 1) (cp := cp) hne (by omega)
      have e31 : ∀ cp, hx (n + 1) (m + 1) 31 [.l ((counts l k).map iW) cp] = _ := fun cp => h31 n (m + 1) (cp := cp) (l := counts l k) (noE hne cp)
      simp only [hCall, List.map_cons, List.map_nil, hp, e32, e31, pur_l, kr21, cpOf]
      simp only [bR, packW, jn_e, bH0, isRo, putW, bQ, Nat.reduceAdd, Nat.reduceEqDiff, Nat.reduceLT, Nat.reduceLeDiff]
theorem h14n (n m : Nat) : hx (n + 1) (m + 1) 14 [.c .nils, .c .nils] = .val (.i .i64 1) := by
  rw [hx, q14 rfl]
  simp only [d14, d14_1, d14_2, jn_e, bH0, isRo, putW, bQ, Nat.reduceAdd, Nat.reduceEqDiff, Nat.reduceLT, Nat.reduceLeDiff, d14_3, d14_4, d14_5, d14_6, bC, reach, d14_6b, Int.lt_irrefl]
  simp only [bR, packW, jn_e, bH0, isRo, putW, bQ, Nat.reduceAdd, Nat.reduceEqDiff, Nat.reduceLT, Nat.reduceLeDiff]
theorem h14l (n m : Nat) {l k : List Int} {cp cq : Cp} (hl : l.length < m) (hm : l.length < 4294967296) (h : l = k) : hx (n + 1) m 14 [lst l cp, lst k cq] = .val (.i .i64 1) := by
  subst h
  by_cases h : l = []
  · obtain ⟨m, rfl⟩ : ∃ q, m = q + 1 := ⟨m - 1, by omega⟩
    simp only [lst, if_pos h]; exact h14n n m
  · simp only [lst, if_neg h]
    rw [h14 n m hl hm hm, if_pos rfl]
theorem h22l (n m : Nat) {w : W} {l : List Int} {a : Int} (hw : IsI w l) (hl : l.length < m) (hm : l.length < 4294967296) : hx (n + 1) m 22 [w, .i .i64 a] = .val (.i .i64 (l.count a : Nat)) := by
  rcases hw with ⟨rfl, rfl⟩ | ⟨cp, rfl⟩
  · obtain ⟨m, rfl⟩ : ∃ q, m = q + 1 := ⟨m - 1, by omega⟩
    rw [hx, q22 rfl]
    simp only [d22, d22_1, d22_2, d22_3, d22_4, d22_5, d22_6, bC, reach, d22_6b, jn_e, bH0, isRo, putW, bQ, Nat.reduceAdd, Nat.reduceEqDiff, Nat.reduceLT, Nat.reduceLeDiff, Int.lt_irrefl]
    simp only [bR, packW, jn_e, bH0, isRo, putW, bQ, Nat.reduceAdd, Nat.reduceEqDiff, Nat.reduceLT, Nat.reduceLeDiff]
    rfl
  · exact h22 n m hl hm
end Go.Proofs.Ytehbfajmileefaa.Hx
namespace Go.Proofs.Ytehbfajmileefaa.Hx
open Go.RowKit Go.Proofs.Ytehbfajmileefaa.Vx Go.Proofs.Ytehbfajmileefaa.Fx Go.Proofs.Ytehbfajmileefaa.Px
def uW (u : Int) : W := .i .u8 u
def wOf (us : List Int) : List Int := (us.take 5).map fun u => 1 + u % 8
def ofB (w : W) (a b c : Int) : BN := ⟨42, 4, [w, .i .u8 a, .i .u8 b, .i .u8 c], false, false, true⟩
def ofM (B : BN) (xs : List Int) : Nm := if xs = [] then ⟨[(0, B), (1, bx (.c .nils) 0 0 0), (2, bx (.c .nils) 0 0 0)], 3⟩
  else ⟨[(0, B), (1, bx (.c .nils) 0 0 0), (2, ⟨24, 4, [.sl 3 0 xs.length (.rest 0) 1, .i .i64 0, .i .i64 0, .i .i64 0], false, false, false⟩), (3, ⟨3, 1, xs.map iW, true, false, true⟩)], 4⟩
theorem rem8 {P : Program} {t : Nat} {K : W → CW} (u : Int) (h : 0 ≤ u) : hBinG P .rem t (.i .u8 u) (.i .u8 8) K = K (.i .u8 (u % 8)) := by
  have : Int.tmod u 8 = u % 8 := Int.tmod_eq_emod_of_nonneg h
  simp [hBinG, nilB, W.sv, W.sv1, oW, hSc, binV, mkRem, V.sw, this]
theorem wrap8 {n : Int} (h1 : 0 ≤ n) (h2 : n ≤ 255) : IntKind.i64.wrap n = n := wrap64 (by omega) (by omega)
section
variable {us : List Int} {cp : Cp} {a b c : Int} {cl : Clh} {m : Nat} {kr : W → W → Nm → CW}
theorem key18n (k0 : W → W → W → W → Nm → CW) (q : W → W → W → W → W → Nm → CW) (hj : 0 < us.length) (h0 : (0 : Int) ≤ us[0]) :
    d18_6b cl m kr k0 q (.ptr 0 0) (.ptr 1 0) (.ptr 2 0) (.i .i64 0) (.tup []) ⟨[(0, ofB (.l (us.map uW) cp) a b c), (1, bx (.c .nils) 0 0 0), (2, bx (.c .nils) 0 0 0)], 3⟩
    = q (.ptr 0 0) (.ptr 1 0) (.ptr 2 0) (.i .i64 1) (.tup []) ⟨[(4, ⟨3, 1, [.i .i64 ((1 : Int) + us[0] % 8)], true, false, true⟩), (3, ⟨3, 1, [.i .i64 ((1 : Int) + us[0] % 8)], false, false, true⟩), (0, ofB (.l (us.map uW) cp) a b c), (1, bx (.c .nils) 0 0 0), (2, ⟨24, 4, [.sl 4 0 1 (.rest 0) 1, .i .i64 0, .i .i64 0, .i .i64 0], false, false, false⟩)], 5⟩ := by
  have h1 : (0 : Int) < us.length := by omega
  have e1 : hIndexAddr 1 (.l (us.map uW) cp) (.i .i64 0) = fun K => K (.p [.i .u8 us[0]] 0) := by
    funext K
    rw [hIndexAddr_l, if_pos (Int.le_refl _)]
    simp only [Int.toNat_zero, List.getElem?_map, List.getElem?_eq_getElem hj, Option.map_some, oW_some, uW, W.cells, List.length_cons, List.length_nil, Nat.zero_add, if_true]
  simp only [d18_6b, ofB, bx, jn_e, bH0, isRo, putW, bQ, Nat.reduceAdd, Nat.reduceEqDiff, Nat.reduceLT, Nat.reduceLeDiff, List.length_map, h1, show (0 : Int) < 5 from by decide, e1, rem8 _ h0]
  rw [wrap64 (n := (us[0] : Int) % 8) (by omega) (by omega), wrap64 (n := (1 : Int) + us[0] % 8) (by omega) (by omega)]
  simp only [slit22]
  rw [app22_n (by rw [lookN_cons, if_pos rfl])]
  simp only [jn_e, bH0, isRo, putW, bQ, Nat.reduceAdd, Nat.reduceEqDiff, Nat.reduceLT, Nat.reduceLeDiff, Bool.and_false]
  rfl
theorem key18s (k0 : W → W → W → W → Nm → CW) (q : W → W → W → W → W → Nm → CW) {j : Nat} (hj : j < us.length) (h5 : j < 5) (h0 : (0 : Int) ≤ us[j]) {xs : List Int} (hxs : xs.length = j) :
    d18_6b cl m kr k0 q (.ptr 0 0) (.ptr 1 0) (.ptr 2 0) (.i .i64 j) (.tup []) ⟨[(0, ofB (.l (us.map uW) cp) a b c), (1, bx (.c .nils) 0 0 0), (2, ⟨24, 4, [.sl 3 0 xs.length (.rest 0) 1, .i .i64 0, .i .i64 0, .i .i64 0], false, false, false⟩), (3, ⟨3, 1, xs.map iW, true, false, true⟩)], 4⟩
    = q (.ptr 0 0) (.ptr 1 0) (.ptr 2 0) (.i .i64 ((j : Int) + 1)) (.tup []) ⟨[(5, ⟨3, 1, xs.map iW ++ [.i .i64 ((1 : Int) + us[j] % 8)], true, false, true⟩), (4, ⟨3, 1, [.i .i64 ((1 : Int) + us[j] % 8)], false, false, true⟩), (0, ofB (.l (us.map uW) cp) a b c), (1, bx (.c .nils) 0 0 0), (2, ⟨24, 4, [.sl 5 0 (xs.length + 1) (.rest 0) 1, .i .i64 0, .i .i64 0, .i .i64 0], false, false, false⟩)], 6⟩ := by
  have h1 : (j : Int) < us.length := by omega
  have h2 : (j : Int) < 5 := by omega
  have e1 : hIndexAddr 1 (.l (us.map uW) cp) (.i .i64 j) = fun K => K (.p [.i .u8 us[j]] 0) := by
    funext K
    rw [hIndexAddr_l, if_pos (Int.natCast_nonneg _)]
    simp only [Int.toNat_natCast, List.getElem?_map, List.getElem?_eq_getElem hj, Option.map_some, oW_some, uW, W.cells, List.length_cons, List.length_nil, Nat.zero_add, if_true]
  simp only [d18_6b, ofB, bx, jn_e, bH0, isRo, putW, bQ, Nat.reduceAdd, Nat.reduceEqDiff, Nat.reduceLT, Nat.reduceLeDiff, List.length_map, h1, h2, e1, rem8 _ h0]
  rw [wrap64 (n := (us[j] : Int) % 8) (by omega) (by omega), wrap64 (n := (1 : Int) + us[j] % 8) (by omega) (by omega)]
  simp only [slit22]
  rw [app22_s (cs := xs.map iW) (by rw [lookN_cons, if_pos rfl]) (by simp only [lookN_cons, Nat.reduceEqDiff, if_false, if_true]) (by simp) (by omega), wrap64 (by omega) (by omega)]
  simp only [jn_e, bH0, isRo, putW, bQ, Nat.reduceAdd, Nat.reduceEqDiff, Nat.reduceLT, Nat.reduceLeDiff, Bool.and_false]
theorem l18 {k0 : W → W → W → W → Nm → CW} (hu : ∀ u ∈ us, 0 ≤ u) : ∀ (r j : Nat), j + r = 5 → j ≤ us.length → ∀ (xs : List Int), xs = wOf (us.take j) → ∀ j', r ≤ j' →
    d18_6b cl m kr k0 (d18_6 cl m kr k0 j') (.ptr 0 0) (.ptr 1 0) (.ptr 2 0) (.i .i64 j) (.tup []) (ofM (ofB (.l (us.map uW) cp) a b c) xs)
      = k0 (.ptr 0 0) (.ptr 1 0) (.ptr 2 0) (.tup []) (ofM (ofB (.l (us.map uW) cp) a b c) (wOf us)) := by
  intro r
  induction r with
  | zero =>
    intro j hj hjl xs hxs j' hj'
    obtain rfl : j = 5 := by omega
    have e : xs = wOf us := by rw [hxs]; simp [wOf, List.take_take]
    subst e
    by_cases hx : wOf us = []
    · simp only [d18_6b, ofM, if_pos hx, ofB, bx, jn_e, bH0, isRo, putW, bQ, Nat.reduceAdd, Nat.reduceEqDiff, Nat.reduceLT, Nat.reduceLeDiff, show ¬ ((5 : Nat) : Int) < 5 by omega, List.length_map]
      by_cases h : ((5 : Nat) : Int) < us.length <;> simp only [h, jn_e, bH0, isRo, putW, bQ, Nat.reduceAdd, Nat.reduceEqDiff, Nat.reduceLT, Nat.reduceLeDiff]
    · simp only [d18_6b, ofM, if_neg hx, ofB, bx, jn_e, bH0, isRo, putW, bQ, Nat.reduceAdd, Nat.reduceEqDiff, Nat.reduceLT, Nat.reduceLeDiff, show ¬ ((5 : Nat) : Int) < 5 by omega, List.length_map]
      by_cases h : ((5 : Nat) : Int) < us.length <;> simp only [h, jn_e, bH0, isRo, putW, bQ, Nat.reduceAdd, Nat.reduceEqDiff, Nat.reduceLT, Nat.reduceLeDiff]
  | succ r ih =>
    intro j hj hjl xs hxs j' hj'
    obtain ⟨j', rfl⟩ : ∃ q, j' = q + 1 := ⟨j' - 1, by omega⟩
    by_cases hjl2 : j < us.length
    rotate_left
    · have e : xs = wOf us := by rw [hxs, List.take_of_length_le (by omega)]
      subst e
      have h : ¬ (j : Int) < us.length := by omega
      by_cases hx : wOf us = []
      · simp only [d18_6b, ofM, if_pos hx, ofB, bx, jn_e, bH0, isRo, putW, bQ, Nat.reduceAdd, Nat.reduceEqDiff, Nat.reduceLT, Nat.reduceLeDiff, h, List.length_map]
      · simp only [d18_6b, ofM, if_neg hx, ofB, bx, jn_e, bH0, isRo, putW, bQ, Nat.reduceAdd, Nat.reduceEqDiff, Nat.reduceLT, Nat.reduceLeDiff, h, List.length_map]
    have h0 := hu _ (List.getElem_mem hjl2)
    have exs : wOf (us.take (j + 1)) = xs ++ [(1 : Int) + us[j] % 8] := by
      rw [hxs]
      simp only [wOf, List.take_take, show min 5 (j + 1) = j + 1 by omega, show min 5 j = j by omega]
      rw [List.take_succ_eq_append_getElem hjl2, List.map_append]; rfl
    have hlen : xs.length = j := by rw [hxs]; simp [wOf]; omega
    have step : d18_6b cl m kr k0 (d18_6 cl m kr k0 (j' + 1)) (.ptr 0 0) (.ptr 1 0) (.ptr 2 0) (.i .i64 j) (.tup []) (ofM (ofB (.l (us.map uW) cp) a b c) xs)
        = d18_6b cl m kr k0 (d18_6 cl m kr k0 j') (.ptr 0 0) (.ptr 1 0) (.ptr 2 0) (.i .i64 ((j + 1 : Nat) : Int)) (.tup []) (ofM (ofB (.l (us.map uW) cp) a b c) (xs ++ [(1 : Int) + us[j] % 8])) := by
      have e : ∀ (t1 t2 t3 t4 t511 : W) (M : Nm), d18_6 cl m kr k0 (j' + 1) t1 t2 t3 t4 t511 M = jn (fun (σ : List Nat) => d18_6b cl m kr k0 (d18_6 cl m kr k0 j') (ren 4 σ t1) (ren 4 σ t2) (ren 4 σ t3) (ren 4 σ t4) (ren 4 σ t511) ⟨canH M.H σ 0 σ, σ.length⟩) (reach M.H [t1, t2, t3, t4, t511]) := fun _ _ _ _ _ _ => rfl
      by_cases hx0 : xs = []
      · have hj0 : j = 0 := by rw [← hlen, hx0]; rfl
        subst hj0
        have hk := key18n (cl := cl) (m := m) (kr := kr) (cp := cp) (a := a) (b := b) (c := c) k0 (d18_6 cl m kr k0 (j' + 1)) hjl2 h0
        simp only [ofM, if_pos hx0]
        refine Eq.trans hk ?_
        rw [e]
        generalize d18_6 cl m kr k0 j' = q
        simp only [hx0, List.nil_append, if_neg (show ¬ ([(1 : Int) + us[0] % 8] : List Int) = [] by simp), bC, reach, jn_e, bK, Nat.reduceEqDiff, Nat.reduceAdd, ofB, bx, iW]
        rfl
      · have hk := key18s (cl := cl) (m := m) (kr := kr) (cp := cp) (a := a) (b := b) (c := c) k0 (d18_6 cl m kr k0 (j' + 1)) hjl2 (by omega) h0 hlen
        simp only [ofM, if_neg hx0]
        rw [hk, e]
        generalize d18_6 cl m kr k0 j' = q
        simp only [if_neg (show ¬ xs ++ [(1 : Int) + us[j] % 8] = [] by simp), bC, reach, jn_e, bK, Nat.reduceEqDiff, Nat.reduceAdd, ofB, bx, iW, List.length_append, List.map_append, show (((j + 1 : Nat)) : Int) = (j : Int) + 1 from rfl]
    rw [step]
    exact ih (j + 1) (by omega) (by omega) _ exs.symm j' (by omega)
end
end Go.Proofs.Ytehbfajmileefaa.Hx
namespace Go.Proofs.Ytehbfajmileefaa.Hx
open Go.RowKit Go.Proofs.Ytehbfajmileefaa.Vx Go.Proofs.Ytehbfajmileefaa.Fx Go.Proofs.Ytehbfajmileefaa.Px
def ofW (us : List Int) : List Int := if wOf us = [] then [1] else wOf us
def ofT (us : List Int) (a : Int) : Int := a % (ofW us).length
def ofC (us : List Int) (a b : Int) : Int := b % ((ofW us).getD (ofT us a).toNat 0 + 1)
def ofP (us : List Int) : Cp := if wOf us = [] then .n 1 else .any
theorem u8mem {us : List Int} (h : ∀ u ∈ us, 0 ≤ u) : ∀ w ∈ ofW us, 1 ≤ w ∧ w ≤ 8 := by
  intro w hw
  unfold ofW at hw
  split at hw
  · simp at hw; omega
  · obtain ⟨u, hu, rfl⟩ := List.mem_map.1 hw
    omega
theorem of_len (us : List Int) : 1 ≤ (ofW us).length ∧ (ofW us).length ≤ 5 := by
  unfold ofW
  split
  · simp
  · rename_i h
    have := List.length_pos_iff.2 h
    simp [wOf] at this ⊢; omega
theorem of_chk {us : List Int} {a b c : Int} (h : ∀ u ∈ us, 0 ≤ u) (ha : 0 ≤ a) (hb : 0 ≤ b) (hc : 0 ≤ c) (hc2 : c ≤ 255) : chkE (ofW us) (ofT us a) (ofC us a b) c = 0 := by
  have hl := of_len us
  have hw : wE (ofW us) = 0 := by
    unfold wE
    rw [if_neg (by omega), if_neg]
    rintro (h1 | h1)
    · obtain ⟨w, hw, e⟩ := List.any_eq_true.1 h1
      have := u8mem h w hw
      simp only [wBad, Bool.or_eq_true, decide_eq_true_eq] at e
      omega
    · omega
  have ht : 0 ≤ ofT us a ∧ ofT us a < (ofW us).length := ⟨Int.emod_nonneg _ (by omega), Int.emod_lt_of_pos _ (by omega)⟩
  have hg := u8mem h ((ofW us).getD (ofT us a).toNat 0) (by rw [List.getD_eq_getElem?_getD, List.getElem?_eq_getElem (by omega), Option.getD_some]; exact List.getElem_mem _)
  have hcr : 0 ≤ ofC us a b ∧ ofC us a b < (ofW us).getD (ofT us a).toNat 0 + 1 := ⟨Int.emod_nonneg _ (by omega), Int.emod_lt_of_pos _ (by omega)⟩
  unfold chkE
  rw [if_neg (by omega), if_neg (by omega)]
noncomputable def k018 (kr : W → W → Nm → CW) : W → W → W → W → Nm → CW := fun t1 t2 t3 t511 M =>
    jn (fun (j2 : W → W → W → W → Nm → CW) =>
      hFieldAddr 0 t3 fun t29 =>
      hLoad1 t29 M fun t30 =>
      hLenS t30 fun t31 =>
      hBin .eql t31 (.i .i64 (0)) fun t32 =>
      hIf t32 (
        hSlitO prg 22 1 [(0, (.i .i64 (1)))] M fun t33 M9 =>
        hFieldAddr 0 t3 fun t34 =>
        hStore1 t34 t33 M9 fun _ M10 =>
      j2 t1 t2 t3 t511 M10) (
      j2 t1 t2 t3 t511 M)) (fun t1 t2 t3 t511 M8 =>
      hFieldAddr 1 t1 fun t35 =>
      hLoad1 t35 M8 fun t36 =>
      hConv .i64 t36 fun t37 =>
      hFieldAddr 0 t3 fun t38 =>
      hLoad1 t38 M8 fun t39 =>
      hLenS t39 fun t40 =>
      hBinG prg .rem 3 t37 t40 fun t41 =>
      hFieldAddr 1 t3 fun t42 =>
      hStore1 t42 t41 M8 fun _ M11 =>
      hFieldAddr 2 t1 fun t43 =>
      hLoad1 t43 M11 fun t44 =>
      hConv .i64 t44 fun t45 =>
      hFieldAddr 0 t3 fun t46 =>
      hLoad1 t46 M11 fun t47 =>
      hFieldAddr 1 t3 fun t48 =>
      hLoad1 t48 M11 fun t49 =>
      hIndexAddr 1 t47 t49 fun t50 =>
      hLoad1 t50 M11 fun t51 =>
      hBin .add t51 (.i .i64 (1)) fun t52 =>
      hBinG prg .rem 3 t45 t52 fun t53 =>
      hFieldAddr 2 t3 fun t54 =>
      hStore1 t54 t53 M11 fun _ M12 =>
      hFieldAddr 3 t1 fun t55 =>
      hLoad1 t55 M12 fun t56 =>
      hConv .i64 t56 fun t57 =>
      hFieldAddr 3 t3 fun t58 =>
      hStore1 t58 t57 M12 fun _ M13 =>
      hLoadN 4 t3 M13 fun t59 =>
      hStoreN 4 t2 t59 M13 fun _ M14 =>
      kr t511 t2 M14)
theorem d18_k (cl : Clh) (m : Nat) (kr : W → W → Nm → CW) (kn : W → W → Nm → CW) (t1 t2 t3 t511 : W) (M : Nm) : d18_3 cl m kr kn t1 t2 t3 t511 M = d18_4 cl m kr (k018 kr) t1 t2 t3 t511 M := (rfl)
theorem h18 (n m : Nat) {us : List Int} {cp : Cp} {a b c : Int} (h : ∀ u ∈ us, 0 ≤ u) (ha : 0 ≤ a ∧ a ≤ 255) (hb : 0 ≤ b ∧ b ≤ 255) (hc : 0 ≤ c ∧ c ≤ 255) (hm6 : 6 ≤ m) :
    hx (n + 1) m 18 [.agg [.l (us.map uW) cp, .i .u8 a, .i .u8 b, .i .u8 c]] = .val (tW (.l ((ofW us).map iW) (ofP us)) (ofT us a) (ofC us a b) c) := by
  rw [hx, q18 rfl]
  obtain ⟨m, rfl⟩ : ∃ q, m = q + 1 := ⟨m - 1, by omega⟩
  have hl := l18 (cl := hx n (m + 1)) (m := m + 1) (kr := fun z r0 M' => finH prg z [(.cell 2 24, r0)] M') (k0 := k018 fun z r0 M' => finH prg z [(.cell 2 24, r0)] M') (a := a) (b := b) (c := c) (cp := cp) h 5 0 (by omega) (by omega) [] (by simp [wOf]) m (by omega)
  have e : ∀ (kr : W → W → Nm → CW) (k0 : W → W → W → W → Nm → CW) (t1 t2 t3 t4 t511 : W) (M : Nm), d18_6 (hx n (m + 1)) (m + 1) kr k0 (m + 1) t1 t2 t3 t4 t511 M = jn (fun (σ : List Nat) => d18_6b (hx n (m + 1)) (m + 1) kr k0 (d18_6 (hx n (m + 1)) (m + 1) kr k0 m) (ren 4 σ t1) (ren 4 σ t2) (ren 4 σ t3) (ren 4 σ t4) (ren 4 σ t511) ⟨canH M.H σ 0 σ, σ.length⟩) (reach M.H [t1, t2, t3, t4, t511]) := fun _ _ _ _ _ _ _ _ => rfl
  simp only [d18, d18_1, d18_2, bH0, isRo, putW, bQ, Nat.reduceAdd, Nat.reduceEqDiff, Nat.reduceLT, Nat.reduceLeDiff, d18_k, d18_4, d18_5]
  refine (e _ _ _ _ _ _ _ _).trans ?_
  have hl : d18_6b (hx n (m + 1)) (m + 1) (fun z r0 M' => finH prg z [(.cell 2 24, r0)] M') (k018 fun z r0 M' => finH prg z [(.cell 2 24, r0)] M') (d18_6 (hx n (m + 1)) (m + 1) (fun z r0 M' => finH prg z [(.cell 2 24, r0)] M') (k018 fun z r0 M' => finH prg z [(.cell 2 24, r0)] M') m) (.ptr 0 0) (.ptr 1 0) (.ptr 2 0) (.i .i64 0) (.tup []) ⟨[(0, ofB (.l (us.map uW) cp) a b c), (1, bx (.c .nils) 0 0 0), (2, bx (.c .nils) 0 0 0)], 3⟩ = _ := hl
  refine Eq.trans ?_ (hl.trans ?_)
  · generalize d18_6 (hx n (m + 1)) (m + 1) _ _ m = q
    simp only [bC, reach, jn_e, bK, Nat.reduceEqDiff, Nat.reduceAdd, ofB, bx]
  · have hof := of_len us
    have ht : 0 ≤ ofT us a ∧ ofT us a < (ofW us).length := ⟨Int.emod_nonneg _ (by omega), Int.emod_lt_of_pos _ (by omega)⟩
    have hw := u8mem h ((ofW us).getD (ofT us a).toNat 0) (by rw [List.getD_eq_getElem?_getD, List.getElem?_eq_getElem (by omega), Option.getD_some]; exact List.getElem_mem _)
    have er1 : Int.tmod a (ofW us).length = ofT us a := Int.tmod_eq_emod_of_nonneg (by omega)
    have er2 : Int.tmod b ((ofW us).getD (ofT us a).toNat 0 + 1) = ofC us a b := Int.tmod_eq_emod_of_nonneg (by omega)
    by_cases hx : wOf us = []
    · have ew : ofW us = [1] := if_pos hx
      rw [ew] at er1 er2 ht hw
      simp only [ofM, if_pos hx, ofB, bx, k018, jn_e, bH0, isRo, putW, bQ, Nat.reduceAdd, Nat.reduceEqDiff, Nat.reduceLT, Nat.reduceLeDiff, slit22, ofP, ew]
      have t0 : ofT us a = 0 := by simp only [List.length_cons, List.length_nil] at ht; omega
      have er1 : Int.tmod a ((1 : Nat) : Int) = 0 := er1.trans t0
      have er2 : Int.tmod b (1 + 1) = ofC us a b := by rw [t0] at er2; exact er2
      rw [wrap8 ha.1 ha.2]
      simp only [rem64 _ _ (show ((1 : Nat) : Int) ≠ 0 by decide), er1, jn_e, bH0, isRo, putW, bQ, Nat.reduceAdd, Nat.reduceEqDiff, Nat.reduceLT, Nat.reduceLeDiff]
      rw [wrap8 hb.1 hb.2]
      simp only [hIndexAddr_sl, if_pos (show (0 : Int) ≤ 0 ∧ (0 : Int) < ((1 : Nat) : Int) by decide), Int.toNat_zero, Nat.zero_mul, jn_e, bH0, isRo, putW, bQ, Nat.reduceAdd, Nat.reduceEqDiff, Nat.reduceLT, Nat.reduceLeDiff]
      rw [wrap64 (n := 1 + 1) (by omega) (by omega)]
      simp only [rem64 _ _ (show (1 + 1 : Int) ≠ 0 by decide), er2, jn_e, bH0, isRo, putW, bQ, Nat.reduceAdd, Nat.reduceEqDiff, Nat.reduceLT, Nat.reduceLeDiff]
      rw [wrap8 hc.1 hc.2]
      simp only [bR, packW, jn_e, bH0, isRo, putW, bQ, Nat.reduceAdd, Nat.reduceEqDiff, Nat.reduceLT, Nat.reduceLeDiff, part24, tW]
      rw [pur_sl (b := ⟨3, 1, [.i .i64 1], false, false, true⟩) (by simp only [lookN_cons, Nat.reduceEqDiff, if_false, if_true]) (by simp) (by simp [capFits]) (by omega) rfl, t0]
      rfl
    · have ew : ofW us = wOf us := if_neg hx
      have hne : ¬ ((wOf us).length : Int) = 0 := by have := List.length_pos_iff.2 hx; omega
      have hi : ((wOf us).map iW)[(ofT us a).toNat]? = some (.i .i64 ((wOf us).getD (ofT us a).toNat 0)) := by
        rw [List.getElem?_map, List.getD_eq_getElem?_getD, List.getElem?_eq_getElem (by rw [← ew]; omega)]; rfl
      rw [ew] at er1 er2 ht hw
      simp only [ofM, if_neg hx, ofB, bx, k018, jn_e, bH0, isRo, putW, bQ, Nat.reduceAdd, Nat.reduceEqDiff, Nat.reduceLT, Nat.reduceLeDiff, hne]
      rw [wrap8 ha.1 ha.2]
      simp only [rem64 _ _ hne, er1, jn_e, bH0, isRo, putW, bQ, Nat.reduceAdd, Nat.reduceEqDiff, Nat.reduceLT, Nat.reduceLeDiff]
      rw [wrap8 hb.1 hb.2]
      simp only [hIndexAddr_sl, if_pos ht, Nat.mul_one, hi, jn_e, bH0, isRo, putW, bQ, Nat.reduceAdd, Nat.reduceEqDiff, Nat.reduceLT, Nat.reduceLeDiff]
      rw [wrap64 (n := (wOf us).getD (ofT us a).toNat 0 + 1) (by omega) (by omega)]
      simp only [rem64 _ _ (show (wOf us).getD (ofT us a).toNat 0 + 1 ≠ 0 by omega), er2, jn_e, bH0, isRo, putW, bQ, Nat.reduceAdd, Nat.reduceEqDiff, Nat.reduceLT, Nat.reduceLeDiff]
      rw [wrap8 hc.1 hc.2]
      simp only [bR, packW, jn_e, bH0, isRo, putW, bQ, Nat.reduceAdd, Nat.reduceEqDiff, Nat.reduceLT, Nat.reduceLeDiff, part24]
      simp only [tW, pur_agg, pur_i, List.map_cons, List.map_nil]
      rw [pur_ints (l := wOf us) (ro := false) (by simp only [lookN_cons, Nat.reduceEqDiff, if_false, if_true]), ew, ofP, if_neg hx]
end Go.Proofs.Ytehbfajmileefaa.Hx
namespace Go.Proofs.Ytehbfajmileefaa.Hx
open Go.RowKit Go.Proofs.Ytehbfajmileefaa.Vx Go.Proofs.Ytehbfajmileefaa.Fx Go.Proofs.Ytehbfajmileefaa.Px
theorem lives9 (n m : Nat) : hx (n + 1) m 9 [] = .val (.b true) := (rfl)
theorem run_len (ws : List Int) : ∀ (ls : List (List Bool)) (tn cr rd : Int), (runF ws tn cr rd ls).2.1.length ≤ ls.length
  | [], _, _, _ => Nat.le_refl _
  | ab :: ls, tn, cr, rd => by
    have ih := run_len ws ls (nextF ws tn cr rd ab).1.1 (nextF ws tn cr rd ab).1.2.1 (nextF ws tn cr rd ab).1.2.2
    simp only [runF]
    split
    · simp
    · split
      · simp
      · simp only [List.length_cons]; omega
theorem run_cli (ws : List Int) : ∀ (ls : List (List Bool)) (tn cr rd : Int), ∀ c ∈ (runF ws tn cr rd ls).2.1, -1 ≤ c
  | [], _, _, _ => by simp [runF]
  | ab :: ls, tn, cr, rd => by
    have ih := run_cli ws ls (nextF ws tn cr rd ab).1.1 (nextF ws tn cr rd ab).1.2.1 (nextF ws tn cr rd ab).1.2.2
    have hn := next_cli ws tn cr rd ab
    simp only [runF]
    split
    · simp
    · split
      · simp
      · intro c hc
        rcases List.mem_cons.1 hc with rfl | hc
        · omega
        · exact ih c hc
theorem h15n (n m : Nat) : hx (n + 2) (m + 1) 15 [tW (.c .nils) 0 0 0, tW (.c .nils) 0 0 0] = .val (.i .i64 1) := by
  rw [hx, q15 rfl]
  have e14 : hx (n + 1) (m + 1) 14 [.c .nils, .c .nils] = _ := h14n n m
  simp only [d15, d15_1, tW, jn_e, bH0, isRo, putW, bQ, Nat.reduceAdd, Nat.reduceEqDiff, Nat.reduceLT, Nat.reduceLeDiff, hCall, List.map_cons, List.map_nil, pur_c, e14, frz_of, W.flat, W.fl1, Bool.true_or]
  simp only [bR, packW, jn_e, bH0, isRo, putW, bQ, Nat.reduceAdd, Nat.reduceEqDiff, Nat.reduceLT, Nat.reduceLeDiff]
theorem IsI.load {w : W} {l : List Int} (h : IsI w l) {j : Nat} (hj : j < l.length) (N : Nm) (K : W → CW) : (hIndexAddr 1 w (.i .i64 j) fun p => hLoad1 p N K) = K (.i .i64 l[j]) := by
  rw [h.idx hj, hLoad1_p]; rfl
section
variable {cl : Clh} {m : Nat} {kr : W → W → Nm → CW}
theorem l4a {k0 : W → W → W → W → Nm → CW} {c : List Bool → Cp} {ls : List (List Bool)} {cq : Cp} {t2 : Int} {B : BN} (hB : B.pu = true) (h9 : cl 9 [] = .val (.b true)) (hk : ∀ M, kr (.tup []) (.b true) M = .val (.b true)) (hm : ls.length < 4294967296) : ∀ (r j : Nat), j + r = ls.length → ∀ j', r ≤ j' →
    (∀ ab ∈ ls.take j, ab.length ≤ 6) →
    ((∀ ab ∈ ls, ab.length ≤ 6) → k0 (.l (ls.map (bL c)) cq) (.i .i64 t2) (.ptr 0 0) (.tup []) ⟨[(0, B)], 1⟩ = .val (.b true)) →
    d4_6b cl m kr k0 (d4_6 cl m kr k0 j') (.l (ls.map (bL c)) cq) (.i .i64 t2) (.ptr 0 0) (.i .i64 j) (.tup []) ⟨[(0, B)], 1⟩ = .val (.b true) := by
  intro r
  induction r with
  | zero =>
    intro j hj j' hj' hs h0
    simp only [d4_6b, jn_e, bH0, isRo, putW, bQ, Nat.reduceAdd, Nat.reduceEqDiff, Nat.reduceLT, Nat.reduceLeDiff, List.length_map, show ¬ (j : Int) < ls.length by omega]
    exact h0 (by rw [List.take_of_length_le (by omega)] at hs; exact hs)
  | succ r ih =>
    intro j hj j' hj' hs h0
    obtain ⟨j', rfl⟩ : ∃ q, j' = q + 1 := ⟨j' - 1, by omega⟩
    have hjl : j < ls.length := by omega
    have e : ∀ (t1 t2 t3 t7 t511 : W) (M : Nm), d4_6 cl m kr k0 (j' + 1) t1 t2 t3 t7 t511 M = jn (fun (σ : List Nat) => d4_6b cl m kr k0 (d4_6 cl m kr k0 j') (ren 4 σ t1) (ren 4 σ t2) (ren 4 σ t3) (ren 4 σ t7) (ren 4 σ t511) ⟨canH M.H σ 0 σ, σ.length⟩) (reach M.H [t1, t2, t3, t7, t511]) := fun _ _ _ _ _ _ => rfl
    have step : d4_6b cl m kr k0 (d4_6 cl m kr k0 (j' + 1)) (.l (ls.map (bL c)) cq) (.i .i64 t2) (.ptr 0 0) (.i .i64 j) (.tup []) ⟨[(0, B)], 1⟩
        = if 6 < ls[j].length then .val (.b true) else d4_6b cl m kr k0 (d4_6 cl m kr k0 j') (.l (ls.map (bL c)) cq) (.i .i64 t2) (.ptr 0 0) (.i .i64 ((j + 1 : Nat) : Int)) (.tup []) ⟨[(0, B)], 1⟩ := by
      obtain ⟨ty, sz, cs, sp, ro, pu⟩ := B
      simp only at hB
      subst hB
      have e2 : d4_6 cl m kr k0 (j' + 1) (.l (ls.map (bL c)) cq) (.i .i64 t2) (.ptr 0 0) (.i .i64 ((j : Int) + 1)) (.tup []) ⟨[(0, ⟨ty, sz, cs, sp, ro, true⟩)], 1⟩ = d4_6b cl m kr k0 (d4_6 cl m kr k0 j') (.l (ls.map (bL c)) cq) (.i .i64 t2) (.ptr 0 0) (.i .i64 ((j + 1 : Nat) : Int)) (.tup []) ⟨[(0, ⟨ty, sz, cs, sp, ro, true⟩)], 1⟩ := by
        rw [e]
        generalize d4_6 cl m kr k0 j' = q
        simp only [bC, reach, jn_e, bK, Nat.reduceEqDiff, Nat.reduceAdd, show (((j + 1 : Nat)) : Int) = (j : Int) + 1 from rfl]
      generalize d4_6 cl m kr k0 (j' + 1) = q at e2 ⊢
      by_cases h6 : 6 < ls[j].length
      · rw [if_pos h6]
        have h6' : (6 : Int) < (ls[j].length : Int) := by omega
        simp only [d4_6b, bL, jn_e, bH0, isRo, putW, bQ, Nat.reduceAdd, Nat.reduceEqDiff, Nat.reduceLT, Nat.reduceLeDiff, List.length_map, show (j : Int) < ls.length by omega, hIndexAddr_l, Int.natCast_nonneg, Int.toNat_natCast, List.getElem?_map, List.getElem?_eq_getElem hjl, Option.map_some, h6', hCall, List.map_nil, h9, hk]
      · rw [if_neg h6, ← e2]
        have h6' : ¬ (6 : Int) < (ls[j].length : Int) := by omega
        simp only [d4_6b, bL, jn_e, bH0, isRo, putW, bQ, Nat.reduceAdd, Nat.reduceEqDiff, Nat.reduceLT, Nat.reduceLeDiff, List.length_map, show (j : Int) < ls.length by omega, hIndexAddr_l, Int.natCast_nonneg, Int.toNat_natCast, List.getElem?_map, List.getElem?_eq_getElem hjl, Option.map_some, h6']
        rw [wrap64 (by omega) (by omega)]
    rw [step]
    split
    · rfl
    · rename_i h6
      refine ih (j + 1) (by omega) j' (by omega) ?_ h0
      intro ab hab
      rw [List.take_succ_eq_append_getElem hjl] at hab
      rcases List.mem_append.1 hab with h | h
      · exact hs ab h
      · rw [List.mem_singleton.1 h]; omega
theorem l4b {k0 : W → W → W → W → W → Nm → CW} {w v : W} {l : List Int} {t2 sE : Int} (hw : IsI w l) {vl : List Int} (hv : IsI v vl) (h9 : cl 9 [] = .val (.b true)) (hk : ∀ M, kr (.tup []) (.b true) M = .val (.b true)) (hm : l.length < 4294967296)
    (hbad : (∃ c ∈ l, t2 ≤ c) → sE = 4 ∧ v = .c .nils) (h0 : (∀ c ∈ l, c < t2) → k0 (.i .i64 t2) w v (.i .i64 sE) (.tup []) ⟨[], 0⟩ = .val (.b true)) : ∀ (r j : Nat), j + r = l.length → ∀ j', r ≤ j' → (∀ c ∈ l.take j, c < t2) →
    d4_16b cl m kr k0 (d4_16 cl m kr k0 j') (.i .i64 t2) w v (.i .i64 sE) (.i .i64 j) (.tup []) ⟨[], 0⟩ = .val (.b true) := by
  intro r
  induction r with
  | zero =>
    intro j hj j' hj' hs
    simp only [d4_16b, hw.len, jn_e, bH0, isRo, putW, bQ, Nat.reduceAdd, Nat.reduceEqDiff, Nat.reduceLT, Nat.reduceLeDiff, show ¬ (j : Int) < l.length by omega]
    exact h0 (by rw [List.take_of_length_le (by omega)] at hs; exact hs)
  | succ r ih =>
    intro j hj j' hj' hs
    obtain ⟨j', rfl⟩ : ∃ q, j' = q + 1 := ⟨j' - 1, by omega⟩
    have hjl : j < l.length := by omega
    have e2 : d4_16 cl m kr k0 (j' + 1) (.i .i64 t2) w v (.i .i64 sE) (.i .i64 ((j : Int) + 1)) (.tup []) ⟨[], 0⟩ = d4_16b cl m kr k0 (d4_16 cl m kr k0 j') (.i .i64 t2) w v (.i .i64 sE) (.i .i64 ((j + 1 : Nat) : Int)) (.tup []) ⟨[], 0⟩ := by
      have e : ∀ (t2 t10 t15 t16 t17 t511 : W) (M : Nm), d4_16 cl m kr k0 (j' + 1) t2 t10 t15 t16 t17 t511 M = jn (fun (σ : List Nat) => d4_16b cl m kr k0 (d4_16 cl m kr k0 j') (ren 4 σ t2) (ren 4 σ t10) (ren 4 σ t15) (ren 4 σ t16) (ren 4 σ t17) (ren 4 σ t511) ⟨canH M.H σ 0 σ, σ.length⟩) (reach M.H [t2, t10, t15, t16, t17, t511]) := fun _ _ _ _ _ _ _ => rfl
      rw [e]
      generalize d4_16 cl m kr k0 j' = q
      simp only [bC, reach, jn_e, bK, Nat.reduceEqDiff, Nat.reduceAdd, hw.ids, hw.ren, hv.ids, hv.ren, show (((j + 1 : Nat)) : Int) = (j : Int) + 1 from rfl]
    by_cases hc : t2 ≤ l[j]
    · obtain ⟨rfl, rfl⟩ := hbad ⟨_, List.getElem_mem hjl, hc⟩
      clear e2 ih
      generalize d4_16 cl m kr k0 (j' + 1) = q
      simp only [d4_16b, hw.len, jn_e, bH0, isRo, putW, bQ, Nat.reduceAdd, Nat.reduceEqDiff, Nat.reduceLT, Nat.reduceLeDiff, show (j : Int) < l.length by omega, hw.idx hjl, hc, hCall, List.map_nil, h9, frz_of, W.flat, W.fl1, Bool.true_or, hk]
    · refine Eq.trans ?_ (e2.trans (ih (j + 1) (by omega) j' (by omega) ?_))
      · generalize d4_16 cl m kr k0 (j' + 1) = q
        simp only [d4_16b, hw.len, jn_e, bH0, isRo, putW, bQ, Nat.reduceAdd, Nat.reduceEqDiff, Nat.reduceLT, Nat.reduceLeDiff, show (j : Int) < l.length by omega, hw.idx hjl, hc]
        rw [wrap64 (by omega) (by omega)]
      · intro c hcm
        rw [List.take_succ_eq_append_getElem hjl] at hcm
        rcases List.mem_append.1 hcm with h | h
        · exact hs c h
        · rw [List.mem_singleton.1 h]; omega
end
theorem l4c (n m : Nat) {kr : W → W → Nm → CW} {k0 : W → Nm → CW} {w : W} {l : List Int} {k : Int} {cp : Cp} (hw : IsI w l) (hm : l.length < m) (hm2 : l.length < 4294967296) (hk : 1 ≤ k) (hk2 : k ≤ 16) : ∀ (r j : Nat), j + r = k.toNat → ∀ j', r ≤ j' →
    d4_21b (hx (n + 1) m) m kr k0 (d4_21 (hx (n + 1) m) m kr k0 j') (.i .i64 k) w (.l ((counts l k).map iW) cp) (.i .i64 j) (.tup []) ⟨[], 0⟩ = k0 (.tup []) ⟨[], 0⟩ := by
  intro r
  induction r with
  | zero =>
    intro j hj j' hj'
    simp only [d4_21b, jn_e, bH0, isRo, putW, bQ, Nat.reduceAdd, Nat.reduceEqDiff, Nat.reduceLT, Nat.reduceLeDiff, show ¬ (j : Int) < k by omega]
  | succ r ih =>
    intro j hj j' hj'
    obtain ⟨j', rfl⟩ : ∃ q, j' = q + 1 := ⟨j' - 1, by omega⟩
    have e2 : d4_21 (hx (n + 1) m) m kr k0 (j' + 1) (.i .i64 k) w (.l ((counts l k).map iW) cp) (.i .i64 ((j : Int) + 1)) (.tup []) ⟨[], 0⟩ = d4_21b (hx (n + 1) m) m kr k0 (d4_21 (hx (n + 1) m) m kr k0 j') (.i .i64 k) w (.l ((counts l k).map iW) cp) (.i .i64 ((j + 1 : Nat) : Int)) (.tup []) ⟨[], 0⟩ := by
      have e : ∀ (t2 t10 t15 t18 t511 : W) (M : Nm), d4_21 (hx (n + 1) m) m kr k0 (j' + 1) t2 t10 t15 t18 t511 M = jn (fun (σ : List Nat) => d4_21b (hx (n + 1) m) m kr k0 (d4_21 (hx (n + 1) m) m kr k0 j') (ren 4 σ t2) (ren 4 σ t10) (ren 4 σ t15) (ren 4 σ t18) (ren 4 σ t511) ⟨canH M.H σ 0 σ, σ.length⟩) (reach M.H [t2, t10, t15, t18, t511]) := fun _ _ _ _ _ _ => rfl
      rw [e]
      generalize d4_21 (hx (n + 1) m) m kr k0 j' = q
      simp only [bC, reach, jn_e, bK, Nat.reduceEqDiff, Nat.reduceAdd, hw.ids, hw.ren, show (((j + 1 : Nat)) : Int) = (j : Int) + 1 from rfl]
    have e22 : hx (n + 1) m 22 [w, .i .i64 j] = _ := h22l n m (w := w) (l := l) (a := j) hw hm hm2
    have ej : ((counts l k).map iW)[j]? = some (.i .i64 (l.count (j : Int) : Nat)) := by
      rw [List.getElem?_map, counts, List.getElem?_map, List.getElem?_range (by omega)]; rfl
    refine Eq.trans ?_ (e2.trans (ih (j + 1) (by omega) j' (by omega)))
    generalize d4_21 (hx (n + 1) m) m kr k0 (j' + 1) = q
    simp only [d4_21b, jn_e, bH0, isRo, putW, bQ, Nat.reduceAdd, Nat.reduceEqDiff, Nat.reduceLT, Nat.reduceLeDiff, show (j : Int) < k by omega, hIndexAddr_l, Int.natCast_nonneg, Int.toNat_natCast, ej, hCall, List.map_cons, List.map_nil, hw.pur, pur_i, e22, frz_of, W.flat, W.fl1, Bool.true_or]
    rw [wrap64 (by omega) (by omega)]
end Go.Proofs.Ytehbfajmileefaa.Hx
namespace Go.Proofs.Ytehbfajmileefaa.Hx
open Go.RowKit Go.Proofs.Ytehbfajmileefaa.Vx Go.Proofs.Ytehbfajmileefaa.Fx Go.Proofs.Ytehbfajmileefaa.Px
theorem IsI.pu {w : W} {l : List Int} (h : IsI w l) : W.pu w = true := by
  rcases h with ⟨rfl, rfl⟩ | ⟨cp, rfl⟩ <;> rfl
theorem u22 : prg.underlying 22 = some (.slice 3) := by kernel_rfl
theorem hCap_l (l : List W) (c : Nat) (K : W → CW) : hCap prg 22 (.l l (.n c)) K = K (.i .i64 c) := by unfold hCap; simp only [u22]
theorem hCap_n (K : W → CW) : hCap prg 22 (.c .nils) K = K (.i .i64 0) := by unfold hCap; simp only [u22]
theorem hCap_lst (l : List Int) (K : W → CW) : hCap prg 22 (lst l (.n l.length)) K = K (.i .i64 l.length) := by
  unfold lst
  split
  · rename_i h; rw [hCap_n, h]; rfl
  · exact hCap_l _ _ _
noncomputable def kr4 : W → W → Nm → CW := fun z r0 M' => finH prg z [(.tmp 6, r0)] M'
theorem kr4_b (b : Bool) (M : Nm) : kr4 (.tup []) (.b b) M = .val (.b b) := by
  simp only [kr4, bR, packW, jn_e, bH0, isRo, putW, bQ, Nat.reduceAdd, Nat.reduceEqDiff, Nat.reduceLT, Nat.reduceLeDiff]
def srv (g : List Int) (k : Int) : W := if servedE g k ≠ 0 then .c .nils else .l ((counts g k).map iW) (.n (counts g k).length)
theorem srv_is (g : List Int) (k : Int) : IsI (srv g k) (if servedE g k ≠ 0 then [] else counts g k) := by
  unfold srv
  split
  · exact .inl ⟨rfl, rfl⟩
  · exact .inr ⟨_, rfl⟩
theorem h4f (n m : Nat) {g : List Int} {k : Int} (hg : g.length ≤ 30) (hm : 64 ≤ m) (hk : 1 ≤ k) (hk2 : k ≤ 16) (M : Nm) :
    d4_17 (hx (n + 1) m) m kr4 kr4 (.i .i64 k) (lst g .any) (.l ((counts g k).map iW) (.n (counts g k).length)) (.i .i64 0) (.tup []) M = .val (.b true) := by
  have hc : ((counts g k).length : Int) = k := by simp [counts]; omega
  obtain ⟨m, rfl⟩ : ∃ q, m = q + 1 := ⟨m - 1, by omega⟩
  have hl := l4c n (m + 1) (kr := kr4) (k0 := fun t511 M => hCall (hx (n + 1) (m + 1)) 9 [] M fun t143 M11 => kr4 t511 t143 M11) (cp := .n (counts g k).length) (lst_is g .any) (by omega) (by omega) hk hk2 k.toNat 0 (by omega) m (by omega)
  have e9 : hx (n + 1) (m + 1) 9 [] = _ := lives9 n (m + 1)
  have e0 : ∀ (k0 : W → Nm → CW) (t2 t10 t15 t18 t511 : W) (M : Nm), d4_21 (hx (n + 1) (m + 1)) (m + 1) kr4 k0 (m + 1) t2 t10 t15 t18 t511 M = jn (fun (σ : List Nat) => d4_21b (hx (n + 1) (m + 1)) (m + 1) kr4 k0 (d4_21 (hx (n + 1) (m + 1)) (m + 1) kr4 k0 m) (ren 4 σ t2) (ren 4 σ t10) (ren 4 σ t15) (ren 4 σ t18) (ren 4 σ t511) ⟨canH M.H σ 0 σ, σ.length⟩) (reach M.H [t2, t10, t15, t18, t511]) := fun _ _ _ _ _ _ _ => rfl
  simp only [d4_17, jn_e, bH0, isRo, putW, bQ, Nat.reduceAdd, Nat.reduceEqDiff, Nat.reduceLT, Nat.reduceLeDiff, List.length_map, hc, hCap_l, d4_18, d4_19, d4_20]
  refine (e0 _ _ _ _ _ _ _).trans ?_
  refine Eq.trans ?_ (hl.trans ?_)
  · generalize d4_21 (hx (n + 1) (m + 1)) (m + 1) kr4 _ m = q
    simp only [bC, reach, jn_e, bK, Nat.reduceEqDiff, Nat.reduceAdd, (lst_is g .any).ids, (lst_is g .any).ren]
    rfl
  · simp only [hCall, List.map_nil, e9, frz_of, W.flat, W.fl1, Bool.true_or, kr4_b]
theorem h4e (n m : Nat) {g : List Int} {k : Int} (hg : g.length ≤ 30) (hcli : ∀ c ∈ g, -1 ≤ c) (hm : 64 ≤ m) (M : Nm) :
    d4_12 (hx (n + 1) m) m kr4 kr4 (.i .i64 k) (lst g .any) (srv g k) (.i .i64 (servedE g k)) (.tup []) M = .val (.b true) := by
  have e9 : hx (n + 1) m 9 [] = _ := lives9 n m
  have h4 : ¬ (4096 : Int) < g.length := by omega
  by_cases hk : k < 1
  · have es : servedE g k = 4 := by unfold servedE; rw [if_neg h4, if_pos (.inl hk)]
    have ev : srv g k = .c .nils := by rw [srv, es]; rfl
    simp only [d4_12, es, ev, hk, jn_e, bH0, isRo, putW, bQ, Nat.reduceAdd, Nat.reduceEqDiff, Nat.reduceLT, Nat.reduceLeDiff, hCall, List.map_nil, e9, frz_of, W.flat, W.fl1, Bool.true_or, kr4_b]
  by_cases hk2 : 16 < k
  · have es : servedE g k = 4 := by unfold servedE; rw [if_neg h4, if_pos (.inr hk2)]
    have ev : srv g k = .c .nils := by rw [srv, es]; rfl
    simp only [d4_12, es, ev, hk, hk2, jn_e, bH0, isRo, putW, bQ, Nat.reduceAdd, Nat.reduceEqDiff, Nat.reduceLT, Nat.reduceLeDiff, hCall, List.map_nil, e9, frz_of, W.flat, W.fl1, Bool.true_or, kr4_b]
  have hbad : (∃ c ∈ g, k ≤ c) → servedE g k = 4 ∧ srv g k = .c .nils := by
    rintro ⟨c, hc, h⟩
    have es : servedE g k = 4 := by
      unfold servedE
      rw [if_neg h4, if_neg (by omega), if_pos (List.any_eq_true.2 ⟨c, hc, by simp [badT]; omega⟩)]
    exact ⟨es, by rw [srv, es]; rfl⟩
  have hgood : (∀ c ∈ g, c < k) → servedE g k = 0 := by
    intro h
    unfold servedE
    rw [if_neg h4, if_neg (by omega), if_neg]
    rw [List.any_eq_true]
    rintro ⟨c, hc, e⟩
    have h1 := h c hc
    have h2 := hcli c hc
    simp [badT] at e
    omega
  obtain ⟨m, rfl⟩ : ∃ q, m = q + 1 := ⟨m - 1, by omega⟩
  have hl := l4b (cl := hx (n + 1) (m + 1)) (m := m + 1) (kr := kr4) (k0 := fun t2 t10 t15 t16 t511 M => d4_17 (hx (n + 1) (m + 1)) (m + 1) kr4 kr4 t2 t10 t15 t16 t511 M) (lst_is g .any) (srv_is g k) (lives9 n (m + 1)) (kr4_b true) (by omega) hbad (by
    intro h
    have es := hgood h
    have ev : srv g k = .l ((counts g k).map iW) (.n (counts g k).length) := by rw [srv, es]; rfl
    rw [es, ev]
    exact h4f n (m + 1) hg hm (by omega) (by omega) _) g.length 0 (by omega) m (by omega) (by simp)
  have e0 : ∀ (k0 : W → W → W → W → W → Nm → CW) (t2 t10 t15 t16 t17 t511 : W) (M : Nm), d4_16 (hx (n + 1) (m + 1)) (m + 1) kr4 k0 (m + 1) t2 t10 t15 t16 t17 t511 M = jn (fun (σ : List Nat) => d4_16b (hx (n + 1) (m + 1)) (m + 1) kr4 k0 (d4_16 (hx (n + 1) (m + 1)) (m + 1) kr4 k0 m) (ren 4 σ t2) (ren 4 σ t10) (ren 4 σ t15) (ren 4 σ t16) (ren 4 σ t17) (ren 4 σ t511) ⟨canH M.H σ 0 σ, σ.length⟩) (reach M.H [t2, t10, t15, t16, t17, t511]) := fun _ _ _ _ _ _ _ _ => rfl
  simp only [d4_12, hk, hk2, jn_e, bH0, isRo, putW, bQ, Nat.reduceAdd, Nat.reduceEqDiff, Nat.reduceLT, Nat.reduceLeDiff, d4_13, d4_14, d4_15]
  refine (e0 _ _ _ _ _ _ _ _).trans ?_
  refine Eq.trans ?_ hl
  generalize d4_16 (hx (n + 1) (m + 1)) (m + 1) kr4 _ m = q
  simp only [bC, reach, jn_e, bK, Nat.reduceEqDiff, Nat.reduceAdd, (lst_is g .any).ids, (lst_is g .any).ren, (srv_is g k).ids, (srv_is g k).ren]
  rfl
end Go.Proofs.Ytehbfajmileefaa.Hx
namespace Go.Proofs.Ytehbfajmileefaa.Hx
open Go.RowKit Go.Proofs.Ytehbfajmileefaa.Vx Go.Proofs.Ytehbfajmileefaa.Fx Go.Proofs.Ytehbfajmileefaa.Px
theorem run_err2 {ws : List Int} {tn cr rd : Int} {ls : List (List Bool)} (h : (runF ws tn cr rd ls).2.2 ≠ 0) : (runF ws tn cr rd ls).2.1 = [] := by
  cases ls with
  | nil => exact absurd rfl h
  | cons ab ls =>
    simp only [runF] at h ⊢
    split at h
    · rename_i h1; rw [if_pos h1]
    · rename_i h1
      rw [if_neg h1]
      split at h
      · rename_i h2; rw [if_pos h2]
      · exact absurd rfl h
theorem w11 : IntKind.i64.wrap (1 * 1) = 1 := wrap64 (by omega) (by omega)
theorem n10 : ((1 : Int) = 0) = False := by simp
theorem h4b (n m : Nat) {us : List Int} {ls : List (List Bool)} {cp cq : Cp} {cf : List Bool → Cp} {a b c k : Int} (h : ∀ u ∈ us, 0 ≤ u) (ha : 0 ≤ a ∧ a ≤ 255) (hb : 0 ≤ b ∧ b ≤ 255) (hc : 0 ≤ c ∧ c ≤ 255) (hm6 : 64 ≤ m) (hls : ls.length ≤ 30) (hab : ∀ ab ∈ ls, ab.length ≤ 6) :
    d4_7 (hx (n + 8) m) m kr4 kr4 (.l (ls.map (bL cf)) cq) (.i .i64 k) (.ptr 0 0) (.tup []) ⟨[(0, ofB (.l (us.map uW) cp) a b c)], 1⟩ = .val (.b true) := by
  have hof := of_len us
  have hchk := of_chk (us := us) (a := a) (b := b) (c := c) h ha.1 hb.1 hc.1 hc.2
  have e18 : hx (n + 8) m 18 [.agg [.l (us.map uW) cp, .i .u8 a, .i .u8 b, .i .u8 c]] = _ := h18 (n + 7) m h ha hb hc (by omega)
  have e19 := h19 (n + 4) m (ws := ofW us) (ls := ls) (cp := ofP us) (cq := cq) (c := cf) (tn := ofT us a) (cr := ofC us a b) (rd := c) (by omega) (by omega) (by omega) (by omega) (fun ab hh => by have := hab ab hh; omega) hchk
  have e20 := h20 n m (ws := ofW us) (ls := ls) (cp := ofP us) (cq := cq) (c := cf) (tn := ofT us a) (cr := ofC us a b) (rd := c) (by omega) (by omega) (by omega) (by omega) (fun ab hh => by have := hab ab hh; omega) hchk
  have hlen : (runF (ofW us) (ofT us a) (ofC us a b) c ls).2.1.length ≤ 30 := by have := run_len (ofW us) ls (ofT us a) (ofC us a b) c; omega
  have hcli := run_cli (ofW us) ls (ofT us a) (ofC us a b) c
  have he1 := run_err (ws := ofW us) (tn := ofT us a) (cr := ofC us a b) (rd := c) (ls := ls)
  have he2 := run_err2 (ws := ofW us) (tn := ofT us a) (cr := ofC us a b) (rd := c) (ls := ls)
  generalize runF (ofW us) (ofT us a) (ofC us a b) c ls = rr at e19 e20 hlen hcli he1 he2
  obtain ⟨⟨A, B, C⟩, g, er⟩ := rr
  simp only at hlen hcli he1 he2
  simp only [resT, List.nil_append, tW] at e19 e20
  have e21 : ∀ cp, hx (n + 8) m 21 [lst g cp, .i .i64 k] = _ := fun cp => h21 (n + 6) m (k := k) (lst_is g cp) (by omega) (by omega)
  have e14 : hx (n + 8) m 14 [lst g (.n g.length), lst g .any] = _ := h14l (n + 7) m (by omega) (by omega) rfl
  have hp : ∀ (cp : Cp) k H, pur k H (lst g cp) = lst g cp := fun cp k H => (lst_is g cp).pur k H
  have hpu : ∀ cp, W.pu (lst g cp) = true := fun cp => (lst_is g cp).pu
  have hln : ∀ (cp : Cp) (K : W → CW), hLenS (lst g cp) K = K (.i .i64 g.length) := fun cp K => (lst_is g cp).len K
  have fin : ∀ M, d4_11 (hx (n + 8) m) m kr4 kr4 (.i .i64 k) (lst g .any) (lst g (.n g.length)) (.tup []) M = .val (.b true) := by
    intro M
    have hs := fun M => h4e (n + 7) m (g := g) (k := k) hlen hcli hm6 M
    simp only [d4_11, hCall, List.map_cons, List.map_nil, hp, pur_i, e21]
    by_cases hk : servedE g k = 0
    · simp only [srv, if_neg (show ¬ servedE g k ≠ 0 by simpa using hk)] at hs
      simp only [if_neg (show ¬ servedE g k ≠ 0 by simpa using hk), jn_e, bH0, isRo, putW, bQ, Nat.reduceAdd, Nat.reduceEqDiff, Nat.reduceLT, Nat.reduceLeDiff]
      rw [hk] at hs
      exact hs _
    · simp only [srv, if_pos (show servedE g k ≠ 0 from hk)] at hs
      simp only [if_pos (show servedE g k ≠ 0 from hk), jn_e, bH0, isRo, putW, bQ, Nat.reduceAdd, Nat.reduceEqDiff, Nat.reduceLT, Nat.reduceLeDiff]
      exact hs _
  by_cases her : er = 0
  · subst her
    rw [if_pos rfl, if_pos rfl] at e19 e20
    have e15 : ∀ cp cq, hx (n + 8) m 15 [.agg [.l ((ofW us).map iW) cp, .i .i64 A, .i .i64 B, .i .i64 C], .agg [.l ((ofW us).map iW) cq, .i .i64 A, .i .i64 B, .i .i64 C]] = .val (.i .i64 1) := fun cp cq => (h15 (n + 6) m (l := ofW us) (k := ofW us) (cp := cp) (cq := cq) (by omega) (by omega) (by omega)).trans (by rw [if_pos ⟨rfl, rfl, rfl, rfl⟩])
    simp only [d4_7, ofB, jn_e, bH0, isRo, putW, bQ, Nat.reduceAdd, Nat.reduceEqDiff, Nat.reduceLT, Nat.reduceLeDiff, hCall, List.map_cons, List.map_nil, pur_agg, pur_l, pur_i, e18, frz_of, W.flat, W.fl1, Bool.or_true, Bool.true_or, tW]
    simp only [d4_8, jn_e, bH0, isRo, putW, bQ, Nat.reduceAdd, Nat.reduceEqDiff, Nat.reduceLT, Nat.reduceLeDiff, hCall, List.map_cons, List.map_nil, pur_agg, pur_l, pur_i, e19, frz_of, W.flat, W.fl1, Bool.or_true, Bool.true_or]
    simp only [d4_9, jn_e, bH0, isRo, putW, bQ, Nat.reduceAdd, Nat.reduceEqDiff, Nat.reduceLT, Nat.reduceLeDiff, hCall, List.map_cons, List.map_nil, pur_agg, pur_l, pur_i, e20, frz_of, W.flat, W.fl1, Bool.or_true, Bool.true_or]
    simp only [d4_10, jn_e, bH0, isRo, putW, bQ, Nat.reduceAdd, Nat.reduceEqDiff, Nat.reduceLT, Nat.reduceLeDiff]
    simp only [hCall, List.map_cons, List.map_nil, pur_agg, pur_l, pur_i, e15, frz_of, W.flat, W.fl1, Bool.or_true, Bool.true_or, hp, e14]
    simp only [w11, n10, jn_e, bH0, isRo, putW, bQ, Nat.reduceAdd, Nat.reduceEqDiff, Nat.reduceLT, Nat.reduceLeDiff, hCap_lst, hln]
    exact fin _
  · have hz := he1 her
    have hg := he2 her
    simp only [Prod.mk.injEq] at hz
    obtain ⟨rfl, rfl, rfl⟩ := hz
    subst hg
    rw [if_neg her, if_neg her] at e19 e20
    obtain ⟨m, rfl⟩ : ∃ q, m = q + 1 := ⟨m - 1, by omega⟩
    have e15 : hx (n + 8) (m + 1) 15 [.agg [.c .nils, .i .i64 0, .i .i64 0, .i .i64 0], .agg [.c .nils, .i .i64 0, .i .i64 0, .i .i64 0]] = .val (.i .i64 1) := h15n (n + 6) m
    have e14 : hx (n + 8) (m + 1) 14 [.c .nils, .c .nils] = _ := h14n (n + 7) m
    simp only [d4_7, ofB, jn_e, bH0, isRo, putW, bQ, Nat.reduceAdd, Nat.reduceEqDiff, Nat.reduceLT, Nat.reduceLeDiff, hCall, List.map_cons, List.map_nil, pur_agg, pur_l, pur_i, e18, frz_of, W.flat, W.fl1, Bool.or_true, Bool.true_or, tW]
    simp only [d4_8, jn_e, bH0, isRo, putW, bQ, Nat.reduceAdd, Nat.reduceEqDiff, Nat.reduceLT, Nat.reduceLeDiff, hCall, List.map_cons, List.map_nil, pur_agg, pur_l, pur_i, e19, frz_of, W.flat, W.fl1, Bool.or_true, Bool.true_or]
    simp only [d4_9, jn_e, bH0, isRo, putW, bQ, Nat.reduceAdd, Nat.reduceEqDiff, Nat.reduceLT, Nat.reduceLeDiff, hCall, List.map_cons, List.map_nil, pur_agg, pur_l, pur_i, e20, frz_of, W.flat, W.fl1, Bool.or_true, Bool.true_or]
    simp only [d4_10, jn_e, bH0, isRo, putW, bQ, Nat.reduceAdd, Nat.reduceEqDiff, Nat.reduceLT, Nat.reduceLeDiff]
    simp only [hCall, List.map_cons, List.map_nil, pur_agg, pur_c, pur_i, e15, frz_of, W.flat, W.fl1, Bool.or_true, Bool.true_or, e14]
    simp only [w11, n10, jn_e, bH0, isRo, putW, bQ, Nat.reduceAdd, Nat.reduceEqDiff, Nat.reduceLT, Nat.reduceLeDiff, hCap_n, hLenS_n]
    exact fin _
theorem h4 (n m : Nat) {us : List Int} {ls : List (List Bool)} {cp cq : Cp} {cf : List Bool → Cp} {a b c k : Int} (h : ∀ u ∈ us, 0 ≤ u) (ha : 0 ≤ a ∧ a ≤ 255) (hb : 0 ≤ b ∧ b ≤ 255) (hc : 0 ≤ c ∧ c ≤ 255) (hm6 : 64 ≤ m) :
    hx (n + 9) m 4 [.agg [.l (us.map uW) cp, .i .u8 a, .i .u8 b, .i .u8 c], .l (ls.map (bL cf)) cq, .i .i64 k] = .val (.b true) := by
  rw [hx, q4 rfl]
  have e9 : hx (n + 8) m 9 [] = _ := lives9 (n + 7) m
  have hkr : (fun z r0 M' => finH prg z [(.tmp 6, r0)] M') = kr4 := rfl
  rw [hkr]
  by_cases h30 : 30 < ls.length
  · have h30 : (30 : Int) < ls.length := by omega
    simp only [d4, d4_1, d4_2, jn_e, bH0, isRo, putW, bQ, Nat.reduceAdd, Nat.reduceEqDiff, Nat.reduceLT, Nat.reduceLeDiff, List.length_map, h30, hCall, List.map_nil, e9, kr4_b]
  · have h30' : ¬ (30 : Int) < ls.length := by omega
    obtain ⟨m, rfl⟩ : ∃ q, m = q + 1 := ⟨m - 1, by omega⟩
    have hl := l4a (c := cf) (cl := hx (n + 8) (m + 1)) (m := m + 1) (kr := kr4) (k0 := fun t1 t2 t3 t511 M => d4_7 (hx (n + 8) (m + 1)) (m + 1) kr4 kr4 t1 t2 t3 t511 M) (ls := ls) (cq := cq) (t2 := k) (B := ofB (.l (us.map uW) cp) a b c) rfl e9 (kr4_b true) (by omega) ls.length 0 (by omega) m (by omega) (by simp) (fun hab => h4b (cf := cf) n (m + 1) h ha hb hc hm6 (by omega) hab)
    have e : ∀ (k0 : W → W → W → W → Nm → CW) (t1 t2 t3 t7 t511 : W) (M : Nm), d4_6 (hx (n + 8) (m + 1)) (m + 1) kr4 k0 (m + 1) t1 t2 t3 t7 t511 M = jn (fun (σ : List Nat) => d4_6b (hx (n + 8) (m + 1)) (m + 1) kr4 k0 (d4_6 (hx (n + 8) (m + 1)) (m + 1) kr4 k0 m) (ren 4 σ t1) (ren 4 σ t2) (ren 4 σ t3) (ren 4 σ t7) (ren 4 σ t511) ⟨canH M.H σ 0 σ, σ.length⟩) (reach M.H [t1, t2, t3, t7, t511]) := fun _ _ _ _ _ _ _ => rfl
    simp only [d4, d4_1, d4_2, jn_e, bH0, isRo, putW, bQ, Nat.reduceAdd, Nat.reduceEqDiff, Nat.reduceLT, Nat.reduceLeDiff, List.length_map, h30', d4_3, d4_4, d4_5]
    refine (e _ _ _ _ _ _ _).trans ?_
    refine Eq.trans ?_ hl
    generalize d4_6 (hx (n + 8) (m + 1)) (m + 1) kr4 _ m = q
    simp only [bC, reach, jn_e, bK, Nat.reduceEqDiff, Nat.reduceAdd, ofB]
    rfl
end Go.Proofs.Ytehbfajmileefaa.Hx
namespace Go.Proofs.Ytehbfajmileefaa.Hx
open Go.RowKit Go.Proofs.Ytehbfajmileefaa.Vx Go.Proofs.Ytehbfajmileefaa.Fx Go.Proofs.Ytehbfajmileefaa.Px
def ctx0 (w : World) (H : Hp) : Ctx := ⟨H, w.heap.size, fun _ => False, fun _ => False, fun i => i, 0, 0, fun _ h => h⟩
theorem met0 (w : World) (H : Hp) : Met w H (ctx0 w H) := ⟨rfl, rfl, fun _ h => h⟩
theorem takes_calls {w : World} {q q' : Option Addr} {us : List Int} {ls : List (List Bool)} {a b c k : Int} {cap sb so cap' sb' so' : Nat} (hu : ∀ u ∈ us, 0 ≤ u) (ha : 0 ≤ a ∧ a ≤ 255) (hb : 0 ≤ b ∧ b ≤ 255) (hc : 0 ≤ c ∧ c ≤ 255)
    (h1 : SlIn w q us.length cap) (hq : 0 < us.length → q = some ⟨sb, so, none⟩) (hx : ∀ i (h : i < us.length), w.cell? ⟨sb, so + i, none⟩ = some (.int .u8 us[i]))
    (h2 : SlIn w q' ls.length cap') (hq' : 0 < ls.length → q' = some ⟨sb', so', none⟩) (hx' : ∀ i (h : i < ls.length), ∃ x, w.cell? ⟨sb', so' + i, none⟩ = some x ∧ InL w Value.bool x ls[i]) :
    Calls Try.prog 4 #[.agg #[.slice q us.length cap, .int .u8 a, .int .u8 b, .int .u8 c], .slice q' ls.length cap', .int .i64 k] w fun e w' => e = .returned (.bool true) ∧ Below w.heap.size w w' := by
  obtain ⟨σ, H, hM, hs, hE, hE2, hS⟩ := entryE w
  obtain ⟨v, e1, -, r1, d1⟩ := met_row hM hE hS uW (fun u => .int .u8 (.int u)) (fun u => .int .u8 u) (fun _ => rfl) (fun _ _ => .i) (fun _ => rfl) .any (by simp) h1 hq hx
  obtain ⟨va, e2, -, r2, d2⟩ := met_rowG hM hS (bL cpE) (fun _ => rfl) .any (by simp) h2 hq' (fun i hi blk hb => by
    obtain ⟨x, k1, k2⟩ := hx' i hi
    exact inner hM hE hE2 hS bW (fun b => .bool (.bool b)) Value.bool (fun _ => rfl) (fun _ _ => .b) (fun _ => rfl) k2 k1 hb)
  have hh := h4 0 100 (us := us) (ls := ls) (cp := .any) (cq := .any) (cf := cpE) (a := a) (b := b) (c := c) (k := k) hu ha hb hc (by omega)
  obtain ⟨x, M', e, -, u, rfl, hR⟩ := callH_ok tabHOk (Nat.beq 9) 100 9 _ _ _ hh (ctx0 w H) ⟨H, w.heap.size, w.heap.size⟩ [V.toX (.agg [v, .int .u8 (.int a), .int .u8 (.int b), .int .u8 (.int c)]), V.toX va, V.toX (.int .i64 (.int k))] rfl rfl hs ⟨rfl, fun i wi xi hw hxi => by
    match i with
    | 0 =>
      simp at hw hxi
      subst hw; subst hxi
      refine ⟨_, rfl, LR.agg (.cons (r1 _ (met0 w H)) (.cons .i (.cons .i (.cons .i .nil))))⟩
    | 1 =>
      simp at hw hxi
      subst hw; subst hxi
      exact ⟨_, rfl, r2 _ (met0 w H)⟩
    | 2 =>
      simp at hw hxi
      subst hw; subst hxi
      exact ⟨_, rfl, .i⟩
    | n + 3 => simp at hw⟩
  have hu : u = .bool (.bool true) := by
    have := hR ⟨M'.H, M'.nx, fun _ => False, fun _ => False, fun i => i, 0, 0, fun _ h => h⟩ rfl rfl (fun i h => absurd h id)
    cases this with
    | b => rfl
  subst hu
  obtain ⟨-, hcall⟩ := callX_okP (σ := σ) follows funsOk tabPOk knLives 100 9 _ _ _ _ _ e hs
  refine (hcall (· < w.heap.size) (rhoW w) w [.agg #[.slice q us.length cap, .int .u8 a, .int .u8 b, .int .u8 c], .slice q' ls.length cap', .int .i64 k] (by
    have ea : [V.toX (.agg [v, .int .u8 (.int a), .int .u8 (.int b), .int .u8 (.int c)]), V.toX va, V.toX (.int .i64 (.int k))].map X.toV = [.agg [v, .int .u8 (.int a), .int .u8 (.int b), .int .u8 (.int c)], va, .int .i64 (.int k)] := by
      rw [e2]; rfl
    rw [ea]
    simp [denL, den, d1 σ, d2 σ, T.i]) hM).mono ?_
  rintro e w' ⟨u, ρ', rfl, k1, k2, k3, k4, k5⟩
  have k1 : den σ ρ' (.bool (.bool true)) = some u := k1
  simp [den, T.b] at k1
  exact ⟨by rw [← k1], Kp.to k4⟩
end Go.Proofs.Ytehbfajmileefaa.Hx
