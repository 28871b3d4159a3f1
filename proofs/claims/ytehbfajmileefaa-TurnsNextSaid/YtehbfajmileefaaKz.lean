import Derived.Test.YtehbfajmileefaaPxt
import Derived.Test.YtehbfajmileefaaZl
import Derived.Test.YtehbfajmileefaaTa
import Derived.Test.YtehbfajmileefaaTn
import Derived.Test.YtehbfajmileefaaTv
import Derived.Test.YtehbfajmileefaaLv
/-
  Turns: weights (both), Check (both).
-/
namespace Go.Proofs.Ytehbfajmileefaa.Px
open Go.RowKit Go.Proofs.Ytehbfajmileefaa.Vx Go.Proofs.Ytehbfajmileefaa.Fx
set_option linter.unusedVariables false
set_option linter.unusedSimpArgs false
set_option maxRecDepth 10000
noncomputable abbrev cx (n m : Nat) : Cl := callX prg tabP (Nat.beq 9) n m
abbrev iV (n : Int) : V := .int .i64 (.int n)
abbrev bV (b : Bool) : V := .bool (.bool b)
variable {M : Mm}
theorem c33 (n m : Nat) (a b c : Int) (hf : Fresh M) : Ret (cx (n + 1) m 33 [.i .i64 a, .i .i64 b, .i .i64 c] M) M fun x _ => x = .b (decide (b ≤ a) && decide (a ≤ c)) := by
  rw [cx, q33 rfl]
  by_cases h : b ≤ a
  · simp only [d33, d33_1, h, decide_true, toX_int, toX_bool, toX_str, toX_nils, toX_nilp, toX_ptr, toX_sl, toX_agg, toX_tup, toV_i, toV_b, toV_v, cells_i, cells_b, cells_agg, cells_sl, cells_nils, cells_str, cells_ptr, oC_some, vBin_i, b_add, b_sub, b_mul, b_eql, b_neq, b_lss, b_leq, b_gtr, b_geq, vNot_b, vIf_b, vPick_b, vGuard_b, vGuard_u, vFieldAddr_p, vLenS_n, vLenS_s, vExt_t, vAlloc_e, vBox_e, vBuild_0, chk_true, jn_e, vCallV_e, if_true]
    exact Ret.fin1 (Keep.refl hf) hf rfl fun H => by simp [toX_int, toX_bool, toX_str, toX_nils, toX_nilp, toX_ptr, toX_sl, toX_agg, toX_tup, toV_i, toV_b, toV_v, cells_i, cells_b, cells_agg, cells_sl, cells_nils, cells_str, cells_ptr, oC_some, vBin_i, b_add, b_sub, b_mul, b_eql, b_neq, b_lss, b_leq, b_gtr, b_geq, vNot_b, vIf_b, vPick_b, vGuard_b, vGuard_u, vFieldAddr_p, vLenS_n, vLenS_s, vExt_t, vAlloc_e, vBox_e, vBuild_0, chk_true, jn_e, vCallV_e]
  · simp only [d33, d33_1, h, decide_false, toX_int, toX_bool, toX_str, toX_nils, toX_nilp, toX_ptr, toX_sl, toX_agg, toX_tup, toV_i, toV_b, toV_v, cells_i, cells_b, cells_agg, cells_sl, cells_nils, cells_str, cells_ptr, oC_some, vBin_i, b_add, b_sub, b_mul, b_eql, b_neq, b_lss, b_leq, b_gtr, b_geq, vNot_b, vIf_b, vPick_b, vGuard_b, vGuard_u, vFieldAddr_p, vLenS_n, vLenS_s, vExt_t, vAlloc_e, vBox_e, vBuild_0, chk_true, jn_e, vCallV_e, Bool.false_eq_true, if_false]
    exact Ret.fin1 (Keep.refl hf) hf rfl fun H => by simp [toX_int, toX_bool, toX_str, toX_nils, toX_nilp, toX_ptr, toX_sl, toX_agg, toX_tup, toV_i, toV_b, toV_v, cells_i, cells_b, cells_agg, cells_sl, cells_nils, cells_str, cells_ptr, oC_some, vBin_i, b_add, b_sub, b_mul, b_eql, b_neq, b_lss, b_leq, b_gtr, b_geq, vNot_b, vIf_b, vPick_b, vGuard_b, vGuard_u, vFieldAddr_p, vLenS_n, vLenS_s, vExt_t, vAlloc_e, vBox_e, vBuild_0, chk_true, jn_e, vCallV_e]
theorem c37 (n m : Nat) (a : Int) (hf : Fresh M) : Ret (cx (n + 2) m 37 [.i .i64 a] M) M fun x _ => x = .b (wBad a) := by
  rw [cx, q37 rfl]
  obtain ⟨x, M1, e, k1, f1, rfl⟩ := (c33 (M := ⟨M.H, M.nx, M.nx⟩) n m a 1 8 hf).call
  simp only [d37, d37_1, e, toX_int, toX_bool, toX_str, toX_nils, toX_nilp, toX_ptr, toX_sl, toX_agg, toX_tup, toV_i, toV_b, toV_v, cells_i, cells_b, cells_agg, cells_sl, cells_nils, cells_str, cells_ptr, oC_some, vBin_i, b_add, b_sub, b_mul, b_eql, b_neq, b_lss, b_leq, b_gtr, b_geq, vNot_b, vIf_b, vPick_b, vGuard_b, vGuard_u, vFieldAddr_p, vLenS_n, vLenS_s, vExt_t, vAlloc_e, vBox_e, vBuild_0, chk_true, jn_e, vCallV_e]
  refine Ret.fin1 k1 f1 rfl fun H => ?_
  simp only [toX_int, toX_bool, toX_str, toX_nils, toX_nilp, toX_ptr, toX_sl, toX_agg, toX_tup, toV_i, toV_b, toV_v, cells_i, cells_b, cells_agg, cells_sl, cells_nils, cells_str, cells_ptr, oC_some, vBin_i, b_add, b_sub, b_mul, b_eql, b_neq, b_lss, b_leq, b_gtr, b_geq, vNot_b, vIf_b, vPick_b, vGuard_b, vGuard_u, vFieldAddr_p, vLenS_n, vLenS_s, vExt_t, vAlloc_e, vBox_e, vBuild_0, chk_true, jn_e, vCallV_e, wBad]
  congr 1
  simp only [Bool.not_and, ← decide_not, Int.not_le]
theorem l39 (n m : Nat) {z : X} {kr : X → X → Mm → CX} {k0 : X → Mm → CX} {l : List Int} (hm : l.length < 4294967296) {v : V} (hr : Row M.nx M.H v (l.map iV)) : ∀ (r j : Nat), j + r = l.length → ∀ (j' : Nat), r < j' → ∀ M1, Keep M M1 → Fresh M1 →
    ∃ (M2 : Mm) (i : Nat), Keep M M2 ∧ Fresh M2 ∧ d39_5 (cx (n + 2) m) m kr k0 j' (.v v) (.v (.fn (.func 37) [] [])) (.i .i64 l.length) (.i .i64 j) z M1 = if (l.drop j).any wBad = true then kr z (.i .i64 i) M2 else k0 z M2
  | r, j, hj, 0, h0, M1, k1, f1 => by omega
  | 0, j, hj, j' + 1, h0, M1, k1, f1 => by
    refine ⟨M1, 0, k1, f1, ?_⟩
    have e : l.drop j = [] := List.drop_eq_nil_of_le (by omega)
    simp only [d39_5, toX_int, toX_bool, toX_str, toX_nils, toX_nilp, toX_ptr, toX_sl, toX_agg, toX_tup, toV_i, toV_b, toV_v, cells_i, cells_b, cells_agg, cells_sl, cells_nils, cells_str, cells_ptr, oC_some, vBin_i, b_add, b_sub, b_mul, b_eql, b_neq, b_lss, b_leq, b_gtr, b_geq, vNot_b, vIf_b, vPick_b, vGuard_b, vGuard_u, vFieldAddr_p, vLenS_n, vLenS_s, vExt_t, vAlloc_e, vBox_e, vBuild_0, chk_true, jn_e, vCallV_e, show ¬ ((j : Int) < l.length) by omega, decide_false, Bool.false_eq_true, if_false, e, List.any_nil]
  | r + 1, j, hj, j' + 1, h0, M1, k1, f1 => by
    have hjl : j < l.length := by omega
    obtain ⟨id, o, g1, g2, -, g3⟩ := hr.get (i := j) (by simpa using hjl)
    obtain ⟨x, M2, e, k2, f2, rfl⟩ := (c37 (M := M1) n m l[j] f1).call
    have e2 : l.drop j = l[j] :: l.drop (j + 1) := List.drop_eq_getElem_cons hjl
    simp only [d39_5, toX_int, toX_bool, toX_str, toX_nils, toX_nilp, toX_ptr, toX_sl, toX_agg, toX_tup, toV_i, toV_b, toV_v, cells_i, cells_b, cells_agg, cells_sl, cells_nils, cells_str, cells_ptr, oC_some, vBin_i, b_add, b_sub, b_mul, b_eql, b_neq, b_lss, b_leq, b_gtr, b_geq, vNot_b, vIf_b, vPick_b, vGuard_b, vGuard_u, vFieldAddr_p, vLenS_n, vLenS_s, vExt_t, vAlloc_e, vBox_e, vBuild_0, chk_true, jn_e, vCallV_e, show (j : Int) < l.length by omega, decide_true, if_true, g1]
    rw [g3 M1 (k1.old id g2) (by simp [iV, one_int])]
    simp only [List.getElem_map, iV, toX_int, toX_bool, toX_str, toX_nils, toX_nilp, toX_ptr, toX_sl, toX_agg, toX_tup, toV_i, toV_b, toV_v, cells_i, cells_b, cells_agg, cells_sl, cells_nils, cells_str, cells_ptr, oC_some, vBin_i, b_add, b_sub, b_mul, b_eql, b_neq, b_lss, b_leq, b_gtr, b_geq, vNot_b, vIf_b, vPick_b, vGuard_b, vGuard_u, vFieldAddr_p, vLenS_n, vLenS_s, vExt_t, vAlloc_e, vBox_e, vBuild_0, chk_true, jn_e, vCallV_e, List.map_nil, List.nil_append, List.append_nil, e]
    rw [e2]
    cases hw : wBad l[j] with
    | true => exact ⟨M2, j, k1.trans k2, f2, by simp only [List.any_cons, hw, Bool.true_or, if_true]⟩
    | false =>
      obtain ⟨M3, i, k3, f3, e3⟩ := l39 n m (z := z) (kr := kr) (k0 := k0) hm hr r (j + 1) (by omega) j' (by omega) M2 (k1.trans k2) f2
      refine ⟨M3, i, k3, f3, ?_⟩
      rw [wrap64 (by omega) (by omega)]
      simp only [Bool.false_eq_true, if_false, List.any_cons, hw, Bool.false_or]
      rw [← e3]
      rfl
theorem c39 (n m : Nat) {l : List Int} (hl : l.length < m) (hm : l.length < 4294967296) {v : V} (hr : Row M.nx M.H v (l.map iV)) (hf : Fresh M) : Ret (cx (n + 3) m 39 [.v v, .v (.fn (.func 37) [] [])] M) M fun x _ => ∃ i : Int, x = .i .i64 i ∧ (0 ≤ i ↔ l.any wBad = true) := by
  rw [cx, q39 rfl]
  simp only [d39, d39_1, d39_2, d39_3, d39_4, hr.len, List.length_map]
  obtain ⟨M2, i, k2, f2, e⟩ := l39 (M := ⟨M.H, M.nx, M.nx⟩) n m (z := .v .undef) (kr := fun z r0 M' => finD prg tabP m (cx (n + 2) m) M.nx z [(.tmp 4, r0)] M') (k0 := fun t511 M' => finD prg tabP m (cx (n + 2) m) M.nx t511 [(.tmp 4, .i .i64 (-1))] M') hm hr l.length 0 (by omega) m hl _ (Keep.refl hf) hf
  refine Ret.of_eq e ?_
  rw [List.drop_zero]
  cases h : l.any wBad with
  | true => rw [if_pos rfl]; exact Ret.fin1 k2 f2 rfl fun H => ⟨i, rfl, by simp⟩
  | false => rw [if_neg (by simp)]; exact Ret.fin1 k2 f2 rfl fun H => ⟨-1, rfl, by simp⟩
theorem c36 (n m : Nat) {l : List Int} (hl : l.length < m) (hm : l.length < 4294967296) {v : V} (hr : Row M.nx M.H v (l.map iV)) (hf : Fresh M) : Ret (cx (n + 4) m 36 [.v v, .v (.fn (.func 37) [] [])] M) M fun x _ => x = .b (l.any wBad) := by
  rw [cx, q36 rfl]
  obtain ⟨x, M1, e, k1, f1, i, rfl, hi⟩ := (c39 (M := ⟨M.H, M.nx, M.nx⟩) n m hl hm hr hf).call
  simp only [d36, d36_1, e, toX_int, toX_bool, toX_str, toX_nils, toX_nilp, toX_ptr, toX_sl, toX_agg, toX_tup, toV_i, toV_b, toV_v, cells_i, cells_b, cells_agg, cells_sl, cells_nils, cells_str, cells_ptr, oC_some, vBin_i, b_add, b_sub, b_mul, b_eql, b_neq, b_lss, b_leq, b_gtr, b_geq, vNot_b, vIf_b, vPick_b, vGuard_b, vGuard_u, vFieldAddr_p, vLenS_n, vLenS_s, vExt_t, vAlloc_e, vBox_e, vBuild_0, chk_true, jn_e, vCallV_e]
  refine Ret.fin1 k1 f1 rfl fun H => ?_
  simp only [toX_int, toX_bool, toX_str, toX_nils, toX_nilp, toX_ptr, toX_sl, toX_agg, toX_tup, toV_i, toV_b, toV_v, cells_i, cells_b, cells_agg, cells_sl, cells_nils, cells_str, cells_ptr, oC_some, vBin_i, b_add, b_sub, b_mul, b_eql, b_neq, b_lss, b_leq, b_gtr, b_geq, vNot_b, vIf_b, vPick_b, vGuard_b, vGuard_u, vFieldAddr_p, vLenS_n, vLenS_s, vExt_t, vAlloc_e, vBox_e, vBuild_0, chk_true, jn_e, vCallV_e]
  congr 1
  rw [Bool.eq_iff_iff, decide_eq_true_iff]
  exact hi
theorem c30 (n m : Nat) {l : List Int} (hl : l.length < m) (hm : l.length < 4294967296) {v : V} (hr : Row M.nx M.H v (l.map iV)) (hf : Fresh M) : Ret (cx (n + 5) m 30 [.v v] M) M fun x _ => x = .i .i64 (wE l) := by
  rw [cx, q30 rfl]
  simp only [d30, d30_1, hr.len, List.length_map, toX_int, toX_bool, toX_str, toX_nils, toX_nilp, toX_ptr, toX_sl, toX_agg, toX_tup, toV_i, toV_b, toV_v, cells_i, cells_b, cells_agg, cells_sl, cells_nils, cells_str, cells_ptr, oC_some, vBin_i, b_add, b_sub, b_mul, b_eql, b_neq, b_lss, b_leq, b_gtr, b_geq, vNot_b, vIf_b, vPick_b, vGuard_b, vGuard_u, vFieldAddr_p, vLenS_n, vLenS_s, vExt_t, vAlloc_e, vBox_e, vBuild_0, chk_true, jn_e, vCallV_e]
  by_cases h : (16 : Int) < l.length
  · simp only [toX_int, toX_bool, toX_str, toX_nils, toX_nilp, toX_ptr, toX_sl, toX_agg, toX_tup, toV_i, toV_b, toV_v, cells_i, cells_b, cells_agg, cells_sl, cells_nils, cells_str, cells_ptr, oC_some, vBin_i, b_add, b_sub, b_mul, b_eql, b_neq, b_lss, b_leq, b_gtr, b_geq, vNot_b, vIf_b, vPick_b, vGuard_b, vGuard_u, vFieldAddr_p, vLenS_n, vLenS_s, vExt_t, vAlloc_e, vBox_e, vBuild_0, chk_true, jn_e, vCallV_e, decide_true, decide_false, if_true, if_false, Bool.false_eq_true, Bool.true_eq_false, Bool.not_true, Bool.not_false, Nat.zero_add, Nat.add_zero, Nat.reduceAdd, List.getElem?_cons_zero, List.getElem?_cons_succ, vLoad1_p, one_int, one_bool, one_str, one_sl, one_nils, one_ptr, decide_eq_true h]
    exact Ret.fin1 (Keep.refl hf) hf rfl fun H => by simp only [toX_int, toX_bool, toX_str, toX_nils, toX_nilp, toX_ptr, toX_sl, toX_agg, toX_tup, toV_i, toV_b, toV_v, cells_i, cells_b, cells_agg, cells_sl, cells_nils, cells_str, cells_ptr, oC_some, vBin_i, b_add, b_sub, b_mul, b_eql, b_neq, b_lss, b_leq, b_gtr, b_geq, vNot_b, vIf_b, vPick_b, vGuard_b, vGuard_u, vFieldAddr_p, vLenS_n, vLenS_s, vExt_t, vAlloc_e, vBox_e, vBuild_0, chk_true, jn_e, vCallV_e, wE]; rw [if_pos (by omega)]
  · by_cases h0 : (l.length : Int) = 0
    · simp only [toX_int, toX_bool, toX_str, toX_nils, toX_nilp, toX_ptr, toX_sl, toX_agg, toX_tup, toV_i, toV_b, toV_v, cells_i, cells_b, cells_agg, cells_sl, cells_nils, cells_str, cells_ptr, oC_some, vBin_i, b_add, b_sub, b_mul, b_eql, b_neq, b_lss, b_leq, b_gtr, b_geq, vNot_b, vIf_b, vPick_b, vGuard_b, vGuard_u, vFieldAddr_p, vLenS_n, vLenS_s, vExt_t, vAlloc_e, vBox_e, vBuild_0, chk_true, jn_e, vCallV_e, decide_true, decide_false, if_true, if_false, Bool.false_eq_true, Bool.true_eq_false, Bool.not_true, Bool.not_false, Nat.zero_add, Nat.add_zero, Nat.reduceAdd, List.getElem?_cons_zero, List.getElem?_cons_succ, vLoad1_p, one_int, one_bool, one_str, one_sl, one_nils, one_ptr, decide_eq_false h, decide_eq_true h0]
      exact Ret.fin1 (Keep.refl hf) hf rfl fun H => by simp only [toX_int, toX_bool, toX_str, toX_nils, toX_nilp, toX_ptr, toX_sl, toX_agg, toX_tup, toV_i, toV_b, toV_v, cells_i, cells_b, cells_agg, cells_sl, cells_nils, cells_str, cells_ptr, oC_some, vBin_i, b_add, b_sub, b_mul, b_eql, b_neq, b_lss, b_leq, b_gtr, b_geq, vNot_b, vIf_b, vPick_b, vGuard_b, vGuard_u, vFieldAddr_p, vLenS_n, vLenS_s, vExt_t, vAlloc_e, vBox_e, vBuild_0, chk_true, jn_e, vCallV_e, wE]; rw [if_neg (by omega), if_pos (.inr (by omega))]
    · obtain ⟨x, M1, e, k1, f1, rfl⟩ := (c36 (M := ⟨M.H, M.nx, M.nx⟩) n m hl hm hr hf).call
      simp only [toX_int, toX_bool, toX_str, toX_nils, toX_nilp, toX_ptr, toX_sl, toX_agg, toX_tup, toV_i, toV_b, toV_v, cells_i, cells_b, cells_agg, cells_sl, cells_nils, cells_str, cells_ptr, oC_some, vBin_i, b_add, b_sub, b_mul, b_eql, b_neq, b_lss, b_leq, b_gtr, b_geq, vNot_b, vIf_b, vPick_b, vGuard_b, vGuard_u, vFieldAddr_p, vLenS_n, vLenS_s, vExt_t, vAlloc_e, vBox_e, vBuild_0, chk_true, jn_e, vCallV_e, decide_true, decide_false, if_true, if_false, Bool.false_eq_true, Bool.true_eq_false, Bool.not_true, Bool.not_false, Nat.zero_add, Nat.add_zero, Nat.reduceAdd, List.getElem?_cons_zero, List.getElem?_cons_succ, vLoad1_p, one_int, one_bool, one_str, one_sl, one_nils, one_ptr, decide_eq_false h, decide_eq_false h0, e]
      cases hw : l.any wBad with
      | true =>
        simp only [if_true]
        exact Ret.fin1 k1 f1 rfl fun H => by simp only [toX_int, toX_bool, toX_str, toX_nils, toX_nilp, toX_ptr, toX_sl, toX_agg, toX_tup, toV_i, toV_b, toV_v, cells_i, cells_b, cells_agg, cells_sl, cells_nils, cells_str, cells_ptr, oC_some, vBin_i, b_add, b_sub, b_mul, b_eql, b_neq, b_lss, b_leq, b_gtr, b_geq, vNot_b, vIf_b, vPick_b, vGuard_b, vGuard_u, vFieldAddr_p, vLenS_n, vLenS_s, vExt_t, vAlloc_e, vBox_e, vBuild_0, chk_true, jn_e, vCallV_e, wE]; rw [if_neg (by omega), if_pos (.inl hw)]
      | false =>
        simp only [Bool.false_eq_true, if_false]
        exact Ret.fin1 k1 f1 rfl fun H => by simp only [toX_int, toX_bool, toX_str, toX_nils, toX_nilp, toX_ptr, toX_sl, toX_agg, toX_tup, toV_i, toV_b, toV_v, cells_i, cells_b, cells_agg, cells_sl, cells_nils, cells_str, cells_ptr, oC_some, vBin_i, b_add, b_sub, b_mul, b_eql, b_neq, b_lss, b_leq, b_gtr, b_geq, vNot_b, vIf_b, vPick_b, vGuard_b, vGuard_u, vFieldAddr_p, vLenS_n, vLenS_s, vExt_t, vAlloc_e, vBox_e, vBuild_0, chk_true, jn_e, vCallV_e, wE]; rw [if_neg (by omega), if_neg (by rw [hw]; intro hh; rcases hh with hh | hh; (exact absurd hh (by simp)); omega)]
/-- the reference's weights -/
theorem l11 (n m : Nat) {z : X} {kr : X → X → Mm → CX} {k0 : X → X → Mm → CX} {l : List Int} (hm : l.length < 4294967296) {v : V} (hr : Row M.nx M.H v (l.map iV)) : ∀ (r j : Nat), j + r = l.length → ∀ (j' : Nat), r < j' → ∀ M1, Keep M M1 → Fresh M1 →
    ∃ (M2 : Mm), Keep M M2 ∧ Fresh M2 ∧ d11_6 (cx n m) m kr k0 j' (.v v) (.i .i64 j) z M1 = if (l.drop j).any wBad = true then kr z (.i .i64 4) M2 else k0 (.v v) z M2
  | r, j, hj, 0, h0, M1, k1, f1 => by omega
  | 0, j, hj, j' + 1, h0, M1, k1, f1 => by
    refine ⟨M1, k1, f1, ?_⟩
    have e : l.drop j = [] := List.drop_eq_nil_of_le (by omega)
    simp only [d11_6, hr.len, List.length_map, toX_int, toX_bool, toX_str, toX_nils, toX_nilp, toX_ptr, toX_sl, toX_agg, toX_tup, toV_i, toV_b, toV_v, cells_i, cells_b, cells_agg, cells_sl, cells_nils, cells_str, cells_ptr, oC_some, vBin_i, b_add, b_sub, b_mul, b_eql, b_neq, b_lss, b_leq, b_gtr, b_geq, vNot_b, vIf_b, vPick_b, vGuard_b, vGuard_u, vFieldAddr_p, vLenS_n, vLenS_s, vExt_t, vAlloc_e, vBox_e, vBuild_0, chk_true, jn_e, vCallV_e, decide_true, decide_false, if_true, if_false, Bool.false_eq_true, Bool.true_eq_false, Bool.not_true, Bool.not_false, Nat.zero_add, Nat.add_zero, Nat.reduceAdd, List.getElem?_cons_zero, List.getElem?_cons_succ, vLoad1_p, one_int, one_bool, one_str, one_sl, one_nils, one_ptr, decide_eq_false (show ¬ ((j : Int) < l.length) by omega), e, List.any_nil]
  | r + 1, j, hj, j' + 1, h0, M1, k1, f1 => by
    have hjl : j < l.length := by omega
    obtain ⟨id, o, g1, g2, -, g3⟩ := hr.get (i := j) (by simpa using hjl)
    have e2 : l.drop j = l[j] :: l.drop (j + 1) := List.drop_eq_getElem_cons hjl
    have g4 : ∀ K : X → CX, vLoad1 (.v (.ptr id o)) M1 K = K (.i .i64 l[j]) := fun K => by rw [g3 M1 (k1.old id g2) (by simp [iV, one_int])]; simp [iV, toX_int]
    simp only [d11_6, hr.len, List.length_map, toX_int, toX_bool, toX_str, toX_nils, toX_nilp, toX_ptr, toX_sl, toX_agg, toX_tup, toV_i, toV_b, toV_v, cells_i, cells_b, cells_agg, cells_sl, cells_nils, cells_str, cells_ptr, oC_some, vBin_i, b_add, b_sub, b_mul, b_eql, b_neq, b_lss, b_leq, b_gtr, b_geq, vNot_b, vIf_b, vPick_b, vGuard_b, vGuard_u, vFieldAddr_p, vLenS_n, vLenS_s, vExt_t, vAlloc_e, vBox_e, vBuild_0, chk_true, jn_e, vCallV_e, decide_eq_true (show (j : Int) < l.length by omega), if_true, g1, g4]
    rw [e2, List.any_cons]
    by_cases h1 : l[j] < 1
    · refine ⟨M1, k1, f1, ?_⟩
      simp only [toX_int, toX_bool, toX_str, toX_nils, toX_nilp, toX_ptr, toX_sl, toX_agg, toX_tup, toV_i, toV_b, toV_v, cells_i, cells_b, cells_agg, cells_sl, cells_nils, cells_str, cells_ptr, oC_some, vBin_i, b_add, b_sub, b_mul, b_eql, b_neq, b_lss, b_leq, b_gtr, b_geq, vNot_b, vIf_b, vPick_b, vGuard_b, vGuard_u, vFieldAddr_p, vLenS_n, vLenS_s, vExt_t, vAlloc_e, vBox_e, vBuild_0, chk_true, jn_e, vCallV_e, decide_eq_true h1, wBad, if_true, Bool.true_or, Bool.true_eq_false, if_false]
    · simp only [toX_int, toX_bool, toX_str, toX_nils, toX_nilp, toX_ptr, toX_sl, toX_agg, toX_tup, toV_i, toV_b, toV_v, cells_i, cells_b, cells_agg, cells_sl, cells_nils, cells_str, cells_ptr, oC_some, vBin_i, b_add, b_sub, b_mul, b_eql, b_neq, b_lss, b_leq, b_gtr, b_geq, vNot_b, vIf_b, vPick_b, vGuard_b, vGuard_u, vFieldAddr_p, vLenS_n, vLenS_s, vExt_t, vAlloc_e, vBox_e, vBuild_0, chk_true, jn_e, vCallV_e, decide_eq_false h1, if_true, g1, g4]
      by_cases h8 : 8 < l[j]
      · refine ⟨M1, k1, f1, ?_⟩
        simp only [toX_int, toX_bool, toX_str, toX_nils, toX_nilp, toX_ptr, toX_sl, toX_agg, toX_tup, toV_i, toV_b, toV_v, cells_i, cells_b, cells_agg, cells_sl, cells_nils, cells_str, cells_ptr, oC_some, vBin_i, b_add, b_sub, b_mul, b_eql, b_neq, b_lss, b_leq, b_gtr, b_geq, vNot_b, vIf_b, vPick_b, vGuard_b, vGuard_u, vFieldAddr_p, vLenS_n, vLenS_s, vExt_t, vAlloc_e, vBox_e, vBuild_0, chk_true, jn_e, vCallV_e, decide_eq_true h8, wBad, if_true, Bool.or_true, Bool.true_or, decide_eq_false h1, Bool.false_eq_true, if_false]
      · obtain ⟨M3, k3, f3, e3⟩ := l11 n m (z := z) (kr := kr) (k0 := k0) hm hr r (j + 1) (by omega) j' (by omega) M1 k1 f1
        refine ⟨M3, k3, f3, ?_⟩
        rw [wrap64 (by omega) (by omega)]
        simp only [toX_int, toX_bool, toX_str, toX_nils, toX_nilp, toX_ptr, toX_sl, toX_agg, toX_tup, toV_i, toV_b, toV_v, cells_i, cells_b, cells_agg, cells_sl, cells_nils, cells_str, cells_ptr, oC_some, vBin_i, b_add, b_sub, b_mul, b_eql, b_neq, b_lss, b_leq, b_gtr, b_geq, vNot_b, vIf_b, vPick_b, vGuard_b, vGuard_u, vFieldAddr_p, vLenS_n, vLenS_s, vExt_t, vAlloc_e, vBox_e, vBuild_0, chk_true, jn_e, vCallV_e, decide_eq_false h8, wBad, Bool.false_or, decide_eq_false h1, Bool.false_eq_true, if_false]
        exact e3
theorem c11 (n m : Nat) {l : List Int} (hl : l.length < m) (hm : l.length < 4294967296) {v : V} (hr : Row M.nx M.H v (l.map iV)) (hf : Fresh M) : Ret (cx (n + 1) m 11 [.v v] M) M fun x _ => x = .i .i64 (wE l) := by
  rw [cx, q11 rfl]
  simp only [d11, d11_1, d11_2, d11_3, d11_4, d11_5, hr.len, List.length_map, toX_int, toX_bool, toX_str, toX_nils, toX_nilp, toX_ptr, toX_sl, toX_agg, toX_tup, toV_i, toV_b, toV_v, cells_i, cells_b, cells_agg, cells_sl, cells_nils, cells_str, cells_ptr, oC_some, vBin_i, b_add, b_sub, b_mul, b_eql, b_neq, b_lss, b_leq, b_gtr, b_geq, vNot_b, vIf_b, vPick_b, vGuard_b, vGuard_u, vFieldAddr_p, vLenS_n, vLenS_s, vExt_t, vAlloc_e, vBox_e, vBuild_0, chk_true, jn_e, vCallV_e]
  by_cases h : (16 : Int) < l.length
  · simp only [toX_int, toX_bool, toX_str, toX_nils, toX_nilp, toX_ptr, toX_sl, toX_agg, toX_tup, toV_i, toV_b, toV_v, cells_i, cells_b, cells_agg, cells_sl, cells_nils, cells_str, cells_ptr, oC_some, vBin_i, b_add, b_sub, b_mul, b_eql, b_neq, b_lss, b_leq, b_gtr, b_geq, vNot_b, vIf_b, vPick_b, vGuard_b, vGuard_u, vFieldAddr_p, vLenS_n, vLenS_s, vExt_t, vAlloc_e, vBox_e, vBuild_0, chk_true, jn_e, vCallV_e, decide_true, decide_false, if_true, if_false, Bool.false_eq_true, Bool.true_eq_false, Bool.not_true, Bool.not_false, Nat.zero_add, Nat.add_zero, Nat.reduceAdd, List.getElem?_cons_zero, List.getElem?_cons_succ, vLoad1_p, one_int, one_bool, one_str, one_sl, one_nils, one_ptr, decide_eq_true h]
    exact Ret.fin1 (Keep.refl hf) hf rfl fun H => by simp only [toX_int, toX_bool, toX_str, toX_nils, toX_nilp, toX_ptr, toX_sl, toX_agg, toX_tup, toV_i, toV_b, toV_v, cells_i, cells_b, cells_agg, cells_sl, cells_nils, cells_str, cells_ptr, oC_some, vBin_i, b_add, b_sub, b_mul, b_eql, b_neq, b_lss, b_leq, b_gtr, b_geq, vNot_b, vIf_b, vPick_b, vGuard_b, vGuard_u, vFieldAddr_p, vLenS_n, vLenS_s, vExt_t, vAlloc_e, vBox_e, vBuild_0, chk_true, jn_e, vCallV_e, wE]; rw [if_pos (by omega)]
  · simp only [decide_eq_false h, Bool.false_eq_true, if_false]
    obtain ⟨M2, k2, f2, e⟩ := l11 (M := ⟨M.H, M.nx, M.nx⟩) n m (z := .v .undef) (kr := fun z r0 M' => finD prg tabP m (cx n m) M.nx z [(.tmp 2, r0)] M') (k0 := fun t0 t511 M' => vLenS t0 fun t26 => vBin .eql t26 (.i .i64 (0)) fun t27 => vIf t27 (finD prg tabP m (cx n m) M.nx t511 [(.tmp 2, .i .i64 (4))] M') (finD prg tabP m (cx n m) M.nx t511 [(.tmp 2, .i .i64 (0))] M')) hm hr l.length 0 (by omega) m hl _ (Keep.refl hf) hf
    refine Ret.of_eq e ?_
    rw [List.drop_zero]
    cases hw : l.any wBad with
    | true => rw [if_pos rfl]; exact Ret.fin1 k2 f2 rfl fun H => by simp only [toX_int, toX_bool, toX_str, toX_nils, toX_nilp, toX_ptr, toX_sl, toX_agg, toX_tup, toV_i, toV_b, toV_v, cells_i, cells_b, cells_agg, cells_sl, cells_nils, cells_str, cells_ptr, oC_some, vBin_i, b_add, b_sub, b_mul, b_eql, b_neq, b_lss, b_leq, b_gtr, b_geq, vNot_b, vIf_b, vPick_b, vGuard_b, vGuard_u, vFieldAddr_p, vLenS_n, vLenS_s, vExt_t, vAlloc_e, vBox_e, vBuild_0, chk_true, jn_e, vCallV_e, wE]; rw [if_neg (by omega), if_pos (.inl hw)]
    | false =>
      rw [if_neg (by simp)]
      simp only [hr.len, List.length_map, toX_int, toX_bool, toX_str, toX_nils, toX_nilp, toX_ptr, toX_sl, toX_agg, toX_tup, toV_i, toV_b, toV_v, cells_i, cells_b, cells_agg, cells_sl, cells_nils, cells_str, cells_ptr, oC_some, vBin_i, b_add, b_sub, b_mul, b_eql, b_neq, b_lss, b_leq, b_gtr, b_geq, vNot_b, vIf_b, vPick_b, vGuard_b, vGuard_u, vFieldAddr_p, vLenS_n, vLenS_s, vExt_t, vAlloc_e, vBox_e, vBuild_0, chk_true, jn_e, vCallV_e]
      by_cases h0 : (l.length : Int) = 0
      · simp only [decide_eq_true h0, if_true]
        exact Ret.fin1 k2 f2 rfl fun H => by simp only [toX_int, toX_bool, toX_str, toX_nils, toX_nilp, toX_ptr, toX_sl, toX_agg, toX_tup, toV_i, toV_b, toV_v, cells_i, cells_b, cells_agg, cells_sl, cells_nils, cells_str, cells_ptr, oC_some, vBin_i, b_add, b_sub, b_mul, b_eql, b_neq, b_lss, b_leq, b_gtr, b_geq, vNot_b, vIf_b, vPick_b, vGuard_b, vGuard_u, vFieldAddr_p, vLenS_n, vLenS_s, vExt_t, vAlloc_e, vBox_e, vBuild_0, chk_true, jn_e, vCallV_e, wE]; rw [if_neg (by omega), if_pos (.inr (by omega))]
      · simp only [decide_eq_false h0, Bool.false_eq_true, if_false]
        exact Ret.fin1 k2 f2 rfl fun H => by simp only [toX_int, toX_bool, toX_str, toX_nils, toX_nilp, toX_ptr, toX_sl, toX_agg, toX_tup, toV_i, toV_b, toV_v, cells_i, cells_b, cells_agg, cells_sl, cells_nils, cells_str, cells_ptr, oC_some, vBin_i, b_add, b_sub, b_mul, b_eql, b_neq, b_lss, b_leq, b_gtr, b_geq, vNot_b, vIf_b, vPick_b, vGuard_b, vGuard_u, vFieldAddr_p, vLenS_n, vLenS_s, vExt_t, vAlloc_e, vBox_e, vBuild_0, chk_true, jn_e, vCallV_e, wE]; rw [if_neg (by omega), if_neg (by rw [hw]; intro hh; rcases hh with hh | hh; (exact absurd hh (by simp)); omega)]
end Go.Proofs.Ytehbfajmileefaa.Px

/-
  Turns: Check (both).
-/
namespace Go.Proofs.Ytehbfajmileefaa.Px
open Go.RowKit Go.Proofs.Ytehbfajmileefaa.Vx Go.Proofs.Ytehbfajmileefaa.Fx
set_option linter.unusedVariables false
set_option linter.unusedSimpArgs false
set_option maxRecDepth 10000
variable {M : Mm}
/-- turns, as a value -/
abbrev tV (v : V) (tn cr rd : Int) : V := .agg [v, iV tn, iV cr, iV rd]
abbrev tB (v : V) (tn cr rd : Int) : Blk := ⟨24, 4, [v, iV tn, iV cr, iV rd], false, false⟩
theorem c12 (n m : Nat) {ws : List Int} {tn cr rd : Int} (hl : ws.length < m) (hm : ws.length < 4294967296) {v : V} (hr : Row M.nx M.H v (ws.map iV)) (hf : Fresh M) : Ret (cx (n + 6) m 12 [.v (tV v tn cr rd)] M) M fun x _ => x = .i .i64 (chkE ws tn cr rd) := by
  rw [cx, q12 rfl]
  simp only [d12, d12_1, toX_int, toX_bool, toX_str, toX_nils, toX_nilp, toX_ptr, toX_sl, toX_agg, toX_tup, toV_i, toV_b, toV_v, cells_i, cells_b, cells_agg, cells_sl, cells_nils, cells_str, cells_ptr, oC_some, vBin_i, b_add, b_sub, b_mul, b_eql, b_neq, b_lss, b_leq, b_gtr, b_geq, vNot_b, vIf_b, vPick_b, vGuard_b, vGuard_u, vFieldAddr_p, vLenS_n, vLenS_s, vExt_t, vAlloc_e, vBox_e, vBuild_0, chk_true, jn_e, vCallV_e]
  obtain ⟨x, M2, e, k2, f2, rfl⟩ := (c30 (M := ⟨(M.nx, tB v tn cr rd) :: M.H, M.nx + 1, M.nx⟩) n m hl hm (v := v) (Row.new (b := tB v tn cr rd) hr) (Fresh.new (M := M) hf _ _)).call
  have kn := Keep.new (M := M) hf (b := tB v tn cr rd) rfl M.nx
  have hb0 := lookC_eq' (i := M.nx) (b := tB v tn cr rd) M.H rfl
  have hb2 := at_new k2 rfl
  simp only [toX_int, toX_bool, toX_str, toX_nils, toX_nilp, toX_ptr, toX_sl, toX_agg, toX_tup, toV_i, toV_b, toV_v, cells_i, cells_b, cells_agg, cells_sl, cells_nils, cells_str, cells_ptr, oC_some, vBin_i, b_add, b_sub, b_mul, b_eql, b_neq, b_lss, b_leq, b_gtr, b_geq, vNot_b, vIf_b, vPick_b, vGuard_b, vGuard_u, vFieldAddr_p, vLenS_n, vLenS_s, vExt_t, vAlloc_e, vBox_e, vBuild_0, chk_true, jn_e, vCallV_e, decide_true, decide_false, if_true, if_false, Bool.false_eq_true, Bool.true_eq_false, Bool.not_true, Bool.not_false, Nat.zero_add, Nat.add_zero, Nat.reduceAdd, List.getElem?_cons_zero, List.getElem?_cons_succ, vLoad1_p, one_int, one_bool, one_str, one_sl, one_nils, one_ptr, hb0, hr.one, hr.toX, e]
  by_cases hw : wE ws = 0
  rotate_left
  · simp only [decide_eq_false hw, toX_int, toX_bool, toX_str, toX_nils, toX_nilp, toX_ptr, toX_sl, toX_agg, toX_tup, toV_i, toV_b, toV_v, cells_i, cells_b, cells_agg, cells_sl, cells_nils, cells_str, cells_ptr, oC_some, vBin_i, b_add, b_sub, b_mul, b_eql, b_neq, b_lss, b_leq, b_gtr, b_geq, vNot_b, vIf_b, vPick_b, vGuard_b, vGuard_u, vFieldAddr_p, vLenS_n, vLenS_s, vExt_t, vAlloc_e, vBox_e, vBuild_0, chk_true, jn_e, vCallV_e, decide_true, decide_false, if_true, if_false, Bool.false_eq_true, Bool.true_eq_false, Bool.not_true, Bool.not_false, Nat.zero_add, Nat.add_zero, Nat.reduceAdd, List.getElem?_cons_zero, List.getElem?_cons_succ, vLoad1_p, one_int, one_bool, one_str, one_sl, one_nils, one_ptr]
    exact Ret.fin1 (kn.trans k2) f2 rfl fun H => by simp only [toX_int, toX_bool, toX_str, toX_nils, toX_nilp, toX_ptr, toX_sl, toX_agg, toX_tup, toV_i, toV_b, toV_v, cells_i, cells_b, cells_agg, cells_sl, cells_nils, cells_str, cells_ptr, oC_some, vBin_i, b_add, b_sub, b_mul, b_eql, b_neq, b_lss, b_leq, b_gtr, b_geq, vNot_b, vIf_b, vPick_b, vGuard_b, vGuard_u, vFieldAddr_p, vLenS_n, vLenS_s, vExt_t, vAlloc_e, vBox_e, vBuild_0, chk_true, jn_e, vCallV_e, chkE]; rw [if_pos hw]
  simp only [decide_eq_true hw, toX_int, toX_bool, toX_str, toX_nils, toX_nilp, toX_ptr, toX_sl, toX_agg, toX_tup, toV_i, toV_b, toV_v, cells_i, cells_b, cells_agg, cells_sl, cells_nils, cells_str, cells_ptr, oC_some, vBin_i, b_add, b_sub, b_mul, b_eql, b_neq, b_lss, b_leq, b_gtr, b_geq, vNot_b, vIf_b, vPick_b, vGuard_b, vGuard_u, vFieldAddr_p, vLenS_n, vLenS_s, vExt_t, vAlloc_e, vBox_e, vBuild_0, chk_true, jn_e, vCallV_e, decide_true, decide_false, if_true, if_false, Bool.false_eq_true, Bool.true_eq_false, Bool.not_true, Bool.not_false, Nat.zero_add, Nat.add_zero, Nat.reduceAdd, List.getElem?_cons_zero, List.getElem?_cons_succ, vLoad1_p, one_int, one_bool, one_str, one_sl, one_nils, one_ptr, hb2, hr.one, hr.toX, hr.len, List.length_map]
  obtain ⟨w1, w2, w3⟩ := wE_ok hw
  rw [wrap64 (n := ws.length - 1) (by omega) (by omega)]
  obtain ⟨x, M3, e3, k3, f3, rfl⟩ := (c33 (M := M2) (n + 4) m tn 0 (ws.length - 1) f2).call
  have hb3 := at_new (k2.trans k3) rfl
  have hr3 : Row M3.nx M3.H v (ws.map iV) := hr.keep (kn.trans (k2.trans k3))
  rw [e3]
  by_cases ht : 0 ≤ tn ∧ tn ≤ ws.length - 1
  rotate_left
  · have hb : (decide (0 ≤ tn) && decide (tn ≤ (ws.length : Int) - 1)) = false := by simp only [Bool.and_eq_false_iff, decide_eq_false_iff_not]; omega
    simp only [hb, toX_int, toX_bool, toX_str, toX_nils, toX_nilp, toX_ptr, toX_sl, toX_agg, toX_tup, toV_i, toV_b, toV_v, cells_i, cells_b, cells_agg, cells_sl, cells_nils, cells_str, cells_ptr, oC_some, vBin_i, b_add, b_sub, b_mul, b_eql, b_neq, b_lss, b_leq, b_gtr, b_geq, vNot_b, vIf_b, vPick_b, vGuard_b, vGuard_u, vFieldAddr_p, vLenS_n, vLenS_s, vExt_t, vAlloc_e, vBox_e, vBuild_0, chk_true, jn_e, vCallV_e, decide_true, decide_false, if_true, if_false, Bool.false_eq_true, Bool.true_eq_false, Bool.not_true, Bool.not_false, Nat.zero_add, Nat.add_zero, Nat.reduceAdd, List.getElem?_cons_zero, List.getElem?_cons_succ, vLoad1_p, one_int, one_bool, one_str, one_sl, one_nils, one_ptr]
    exact Ret.fin1 (kn.trans (k2.trans k3)) f3 rfl fun H => by simp only [toX_int, toX_bool, toX_str, toX_nils, toX_nilp, toX_ptr, toX_sl, toX_agg, toX_tup, toV_i, toV_b, toV_v, cells_i, cells_b, cells_agg, cells_sl, cells_nils, cells_str, cells_ptr, oC_some, vBin_i, b_add, b_sub, b_mul, b_eql, b_neq, b_lss, b_leq, b_gtr, b_geq, vNot_b, vIf_b, vPick_b, vGuard_b, vGuard_u, vFieldAddr_p, vLenS_n, vLenS_s, vExt_t, vAlloc_e, vBox_e, vBuild_0, chk_true, jn_e, vCallV_e, chkE]; rw [if_neg (by omega), if_pos (by omega)]
  have htn : tn.toNat < ws.length := by omega
  obtain ⟨id, o, g1, g2, -, g3⟩ := hr3.get (i := tn.toNat) (by simpa using htn)
  have g4 : ∀ K : X → CX, vLoad1 (.v (.ptr id o)) M3 K = K (.i .i64 ws[tn.toNat]) := fun K => by rw [g3 M3 rfl (by simp [one_int])]; simp [toX_int]
  have etn : ((tn.toNat : Nat) : Int) = tn := by omega
  rw [etn] at g1
  have hget : ws.getD tn.toNat 0 = ws[tn.toNat] := by rw [List.getD_eq_getElem?_getD, List.getElem?_eq_getElem htn]; rfl
  obtain ⟨x, M4, e4, k4, f4, rfl⟩ := (c33 (M := M3) (n + 4) m cr 0 ws[tn.toNat] f3).call
  have hb4 := at_new (k2.trans (k3.trans k4)) rfl
  have kk := kn.trans (k2.trans (k3.trans k4))
  have hb : (decide (0 ≤ tn) && decide (tn ≤ (ws.length : Int) - 1)) = true := by simp only [Bool.and_eq_true, decide_eq_true_eq]; exact ht
  have step : ∀ K : X → CX, vLoad1 (.v (.ptr M.nx 0)) M3 K = K (.v v) := fun K => by simp only [toX_int, toX_bool, toX_str, toX_nils, toX_nilp, toX_ptr, toX_sl, toX_agg, toX_tup, toV_i, toV_b, toV_v, cells_i, cells_b, cells_agg, cells_sl, cells_nils, cells_str, cells_ptr, oC_some, vBin_i, b_add, b_sub, b_mul, b_eql, b_neq, b_lss, b_leq, b_gtr, b_geq, vNot_b, vIf_b, vPick_b, vGuard_b, vGuard_u, vFieldAddr_p, vLenS_n, vLenS_s, vExt_t, vAlloc_e, vBox_e, vBuild_0, chk_true, jn_e, vCallV_e, decide_true, decide_false, if_true, if_false, Bool.false_eq_true, Bool.true_eq_false, Bool.not_true, Bool.not_false, Nat.zero_add, Nat.add_zero, Nat.reduceAdd, List.getElem?_cons_zero, List.getElem?_cons_succ, vLoad1_p, one_int, one_bool, one_str, one_sl, one_nils, one_ptr, hb3, hr.one, hr.toX]
  simp only [hb, toX_int, toX_bool, toX_str, toX_nils, toX_nilp, toX_ptr, toX_sl, toX_agg, toX_tup, toV_i, toV_b, toV_v, cells_i, cells_b, cells_agg, cells_sl, cells_nils, cells_str, cells_ptr, oC_some, vBin_i, b_add, b_sub, b_mul, b_eql, b_neq, b_lss, b_leq, b_gtr, b_geq, vNot_b, vIf_b, vPick_b, vGuard_b, vGuard_u, vFieldAddr_p, vLenS_n, vLenS_s, vExt_t, vAlloc_e, vBox_e, vBuild_0, chk_true, jn_e, vCallV_e, if_true, step, g1, g4, Bool.not_true, Bool.not_false, Bool.false_eq_true, if_false, Nat.zero_add, Nat.reduceAdd, e4, vLoad1_p, hb3, List.getElem?_cons_zero, List.getElem?_cons_succ, one_int, hr.one, hr.toX]
  have fin : ∀ (r : Int), r = chkE ws tn cr rd → Ret (finD prg tabP m (cx (n + 5) m) M.nx (.v .undef) [(.tmp 2, .i .i64 r)] M4) M fun x _ => x = .i .i64 (chkE ws tn cr rd) := fun r hr => Ret.fin1 kk f4 rfl fun H => by simp only [toX_int, toX_bool, toX_str, toX_nils, toX_nilp, toX_ptr, toX_sl, toX_agg, toX_tup, toV_i, toV_b, toV_v, cells_i, cells_b, cells_agg, cells_sl, cells_nils, cells_str, cells_ptr, oC_some, vBin_i, b_add, b_sub, b_mul, b_eql, b_neq, b_lss, b_leq, b_gtr, b_geq, vNot_b, vIf_b, vPick_b, vGuard_b, vGuard_u, vFieldAddr_p, vLenS_n, vLenS_s, vExt_t, vAlloc_e, vBox_e, vBuild_0, chk_true, jn_e, vCallV_e, hr]
  by_cases hc : 0 ≤ cr ∧ cr ≤ ws[tn.toNat]
  rotate_left
  · have hb' : (decide (0 ≤ cr) && decide (cr ≤ ws[tn.toNat])) = false := by simp only [Bool.and_eq_false_iff, decide_eq_false_iff_not]; omega
    simp only [hb', toX_int, toX_bool, toX_str, toX_nils, toX_nilp, toX_ptr, toX_sl, toX_agg, toX_tup, toV_i, toV_b, toV_v, cells_i, cells_b, cells_agg, cells_sl, cells_nils, cells_str, cells_ptr, oC_some, vBin_i, b_add, b_sub, b_mul, b_eql, b_neq, b_lss, b_leq, b_gtr, b_geq, vNot_b, vIf_b, vPick_b, vGuard_b, vGuard_u, vFieldAddr_p, vLenS_n, vLenS_s, vExt_t, vAlloc_e, vBox_e, vBuild_0, chk_true, jn_e, vCallV_e, decide_true, decide_false, if_true, if_false, Bool.false_eq_true, Bool.true_eq_false, Bool.not_true, Bool.not_false, Nat.zero_add, Nat.add_zero, Nat.reduceAdd, List.getElem?_cons_zero, List.getElem?_cons_succ, vLoad1_p, one_int, one_bool, one_str, one_sl, one_nils, one_ptr]
    exact fin 4 (by unfold chkE; rw [if_neg (by omega), if_pos (by rw [hget]; omega)])
  have hb' : (decide (0 ≤ cr) && decide (cr ≤ ws[tn.toNat])) = true := by simp only [Bool.and_eq_true, decide_eq_true_eq]; exact hc
  simp only [hb', toX_int, toX_bool, toX_str, toX_nils, toX_nilp, toX_ptr, toX_sl, toX_agg, toX_tup, toV_i, toV_b, toV_v, cells_i, cells_b, cells_agg, cells_sl, cells_nils, cells_str, cells_ptr, oC_some, vBin_i, b_add, b_sub, b_mul, b_eql, b_neq, b_lss, b_leq, b_gtr, b_geq, vNot_b, vIf_b, vPick_b, vGuard_b, vGuard_u, vFieldAddr_p, vLenS_n, vLenS_s, vExt_t, vAlloc_e, vBox_e, vBuild_0, chk_true, jn_e, vCallV_e, decide_true, decide_false, if_true, if_false, Bool.false_eq_true, Bool.true_eq_false, Bool.not_true, Bool.not_false, Nat.zero_add, Nat.add_zero, Nat.reduceAdd, List.getElem?_cons_zero, List.getElem?_cons_succ, vLoad1_p, one_int, one_bool, one_str, one_sl, one_nils, one_ptr, hb4]
  by_cases h5 : rd < 0
  · simp only [decide_eq_true h5, toX_int, toX_bool, toX_str, toX_nils, toX_nilp, toX_ptr, toX_sl, toX_agg, toX_tup, toV_i, toV_b, toV_v, cells_i, cells_b, cells_agg, cells_sl, cells_nils, cells_str, cells_ptr, oC_some, vBin_i, b_add, b_sub, b_mul, b_eql, b_neq, b_lss, b_leq, b_gtr, b_geq, vNot_b, vIf_b, vPick_b, vGuard_b, vGuard_u, vFieldAddr_p, vLenS_n, vLenS_s, vExt_t, vAlloc_e, vBox_e, vBuild_0, chk_true, jn_e, vCallV_e, decide_true, decide_false, if_true, if_false, Bool.false_eq_true, Bool.true_eq_false, Bool.not_true, Bool.not_false, Nat.zero_add, Nat.add_zero, Nat.reduceAdd, List.getElem?_cons_zero, List.getElem?_cons_succ, vLoad1_p, one_int, one_bool, one_str, one_sl, one_nils, one_ptr]
    exact fin 4 (by unfold chkE; rw [if_neg (by omega), if_pos (by omega)])
  · simp only [decide_eq_false h5, toX_int, toX_bool, toX_str, toX_nils, toX_nilp, toX_ptr, toX_sl, toX_agg, toX_tup, toV_i, toV_b, toV_v, cells_i, cells_b, cells_agg, cells_sl, cells_nils, cells_str, cells_ptr, oC_some, vBin_i, b_add, b_sub, b_mul, b_eql, b_neq, b_lss, b_leq, b_gtr, b_geq, vNot_b, vIf_b, vPick_b, vGuard_b, vGuard_u, vFieldAddr_p, vLenS_n, vLenS_s, vExt_t, vAlloc_e, vBox_e, vBuild_0, chk_true, jn_e, vCallV_e, decide_true, decide_false, if_true, if_false, Bool.false_eq_true, Bool.true_eq_false, Bool.not_true, Bool.not_false, Nat.zero_add, Nat.add_zero, Nat.reduceAdd, List.getElem?_cons_zero, List.getElem?_cons_succ, vLoad1_p, one_int, one_bool, one_str, one_sl, one_nils, one_ptr, hb4]
    by_cases h6 : 4611686018427387904 < rd
    · simp only [decide_eq_true h6, toX_int, toX_bool, toX_str, toX_nils, toX_nilp, toX_ptr, toX_sl, toX_agg, toX_tup, toV_i, toV_b, toV_v, cells_i, cells_b, cells_agg, cells_sl, cells_nils, cells_str, cells_ptr, oC_some, vBin_i, b_add, b_sub, b_mul, b_eql, b_neq, b_lss, b_leq, b_gtr, b_geq, vNot_b, vIf_b, vPick_b, vGuard_b, vGuard_u, vFieldAddr_p, vLenS_n, vLenS_s, vExt_t, vAlloc_e, vBox_e, vBuild_0, chk_true, jn_e, vCallV_e, decide_true, decide_false, if_true, if_false, Bool.false_eq_true, Bool.true_eq_false, Bool.not_true, Bool.not_false, Nat.zero_add, Nat.add_zero, Nat.reduceAdd, List.getElem?_cons_zero, List.getElem?_cons_succ, vLoad1_p, one_int, one_bool, one_str, one_sl, one_nils, one_ptr]
      exact fin 4 (by unfold chkE; rw [if_neg (by omega), if_pos (by omega)])
    · simp only [decide_eq_false h6, toX_int, toX_bool, toX_str, toX_nils, toX_nilp, toX_ptr, toX_sl, toX_agg, toX_tup, toV_i, toV_b, toV_v, cells_i, cells_b, cells_agg, cells_sl, cells_nils, cells_str, cells_ptr, oC_some, vBin_i, b_add, b_sub, b_mul, b_eql, b_neq, b_lss, b_leq, b_gtr, b_geq, vNot_b, vIf_b, vPick_b, vGuard_b, vGuard_u, vFieldAddr_p, vLenS_n, vLenS_s, vExt_t, vAlloc_e, vBox_e, vBuild_0, chk_true, jn_e, vCallV_e, decide_true, decide_false, if_true, if_false, Bool.false_eq_true, Bool.true_eq_false, Bool.not_true, Bool.not_false, Nat.zero_add, Nat.add_zero, Nat.reduceAdd, List.getElem?_cons_zero, List.getElem?_cons_succ, vLoad1_p, one_int, one_bool, one_str, one_sl, one_nils, one_ptr]
      exact fin 0 (by unfold chkE; rw [if_neg (by omega), if_neg (by rw [hget]; omega)])
/-- the reference's Check -/
theorem c13 (n m : Nat) {ws : List Int} {tn cr rd : Int} (hl : ws.length < m) (hm : ws.length < 4294967296) {v : V} (hr : Row M.nx M.H v (ws.map iV)) (hf : Fresh M) : Ret (cx (n + 2) m 13 [.v (tV v tn cr rd)] M) M fun x _ => x = .i .i64 (chkE ws tn cr rd) := by
  rw [cx, q13 rfl]
  simp only [d13, d13_1, toX_int, toX_bool, toX_str, toX_nils, toX_nilp, toX_ptr, toX_sl, toX_agg, toX_tup, toV_i, toV_b, toV_v, cells_i, cells_b, cells_agg, cells_sl, cells_nils, cells_str, cells_ptr, oC_some, vBin_i, b_add, b_sub, b_mul, b_eql, b_neq, b_lss, b_leq, b_gtr, b_geq, vNot_b, vIf_b, vPick_b, vGuard_b, vGuard_u, vFieldAddr_p, vLenS_n, vLenS_s, vExt_t, vAlloc_e, vBox_e, vBuild_0, chk_true, jn_e, vCallV_e]
  obtain ⟨x, M2, e, k2, f2, rfl⟩ := (c11 (M := ⟨(M.nx, tB v tn cr rd) :: M.H, M.nx + 1, M.nx⟩) n m hl hm (v := v) (Row.new (b := tB v tn cr rd) hr) (Fresh.new (M := M) hf _ _)).call
  have kn := Keep.new (M := M) hf (b := tB v tn cr rd) rfl M.nx
  have hb0 := lookC_eq' (i := M.nx) (b := tB v tn cr rd) M.H rfl
  have hb2 := at_new k2 rfl
  have hr2 : Row M2.nx M2.H v (ws.map iV) := hr.keep (kn.trans k2)
  simp only [toX_int, toX_bool, toX_str, toX_nils, toX_nilp, toX_ptr, toX_sl, toX_agg, toX_tup, toV_i, toV_b, toV_v, cells_i, cells_b, cells_agg, cells_sl, cells_nils, cells_str, cells_ptr, oC_some, vBin_i, b_add, b_sub, b_mul, b_eql, b_neq, b_lss, b_leq, b_gtr, b_geq, vNot_b, vIf_b, vPick_b, vGuard_b, vGuard_u, vFieldAddr_p, vLenS_n, vLenS_s, vExt_t, vAlloc_e, vBox_e, vBuild_0, chk_true, jn_e, vCallV_e, decide_true, decide_false, if_true, if_false, Bool.false_eq_true, Bool.true_eq_false, Bool.not_true, Bool.not_false, Nat.zero_add, Nat.add_zero, Nat.reduceAdd, List.getElem?_cons_zero, List.getElem?_cons_succ, vLoad1_p, one_int, one_bool, one_str, one_sl, one_nils, one_ptr, hb0, hr.one, hr.toX, e]
  by_cases hw : wE ws = 0
  rotate_left
  · have hp : 0 < wE ws := by
      have : wE ws = 3 ∨ wE ws = 4 ∨ wE ws = 0 := by unfold wE; (repeat' split) <;> simp
      omega
    obtain ⟨x, M3, e3, k3, f3, rfl⟩ := (c11 (M := M2) n m hl hm hr2 f2).call
    simp only [decide_eq_true hp, toX_int, toX_bool, toX_str, toX_nils, toX_nilp, toX_ptr, toX_sl, toX_agg, toX_tup, toV_i, toV_b, toV_v, cells_i, cells_b, cells_agg, cells_sl, cells_nils, cells_str, cells_ptr, oC_some, vBin_i, b_add, b_sub, b_mul, b_eql, b_neq, b_lss, b_leq, b_gtr, b_geq, vNot_b, vIf_b, vPick_b, vGuard_b, vGuard_u, vFieldAddr_p, vLenS_n, vLenS_s, vExt_t, vAlloc_e, vBox_e, vBuild_0, chk_true, jn_e, vCallV_e, decide_true, decide_false, if_true, if_false, Bool.false_eq_true, Bool.true_eq_false, Bool.not_true, Bool.not_false, Nat.zero_add, Nat.add_zero, Nat.reduceAdd, List.getElem?_cons_zero, List.getElem?_cons_succ, vLoad1_p, one_int, one_bool, one_str, one_sl, one_nils, one_ptr, hb2, hr.one, hr.toX, e3]
    exact Ret.fin1 (kn.trans (k2.trans k3)) f3 rfl fun H => by simp only [toX_int, toX_bool, toX_str, toX_nils, toX_nilp, toX_ptr, toX_sl, toX_agg, toX_tup, toV_i, toV_b, toV_v, cells_i, cells_b, cells_agg, cells_sl, cells_nils, cells_str, cells_ptr, oC_some, vBin_i, b_add, b_sub, b_mul, b_eql, b_neq, b_lss, b_leq, b_gtr, b_geq, vNot_b, vIf_b, vPick_b, vGuard_b, vGuard_u, vFieldAddr_p, vLenS_n, vLenS_s, vExt_t, vAlloc_e, vBox_e, vBuild_0, chk_true, jn_e, vCallV_e, chkE]; rw [if_pos hw]
  obtain ⟨w1, w2, w3⟩ := wE_ok hw
  have kk := kn.trans k2
  have fin : ∀ (r : Int), r = chkE ws tn cr rd → Ret (finD prg tabP m (cx (n + 1) m) M.nx (.v .undef) [(.tmp 2, .i .i64 r)] M2) M fun x _ => x = .i .i64 (chkE ws tn cr rd) := fun r hr => Ret.fin1 kk f2 rfl fun H => by simp only [toX_int, toX_bool, toX_str, toX_nils, toX_nilp, toX_ptr, toX_sl, toX_agg, toX_tup, toV_i, toV_b, toV_v, cells_i, cells_b, cells_agg, cells_sl, cells_nils, cells_str, cells_ptr, oC_some, vBin_i, b_add, b_sub, b_mul, b_eql, b_neq, b_lss, b_leq, b_gtr, b_geq, vNot_b, vIf_b, vPick_b, vGuard_b, vGuard_u, vFieldAddr_p, vLenS_n, vLenS_s, vExt_t, vAlloc_e, vBox_e, vBuild_0, chk_true, jn_e, vCallV_e, hr]
  have f4 : (¬ (0 ≤ tn ∧ tn ≤ ws.length - 1 ∧ 0 ≤ rd ∧ rd ≤ 4611686018427387904)) → chkE ws tn cr rd = 4 := fun h => by unfold chkE; rw [if_neg (by omega), if_pos (by omega)]
  simp only [decide_eq_false (show ¬ 0 < wE ws by omega), toX_int, toX_bool, toX_str, toX_nils, toX_nilp, toX_ptr, toX_sl, toX_agg, toX_tup, toV_i, toV_b, toV_v, cells_i, cells_b, cells_agg, cells_sl, cells_nils, cells_str, cells_ptr, oC_some, vBin_i, b_add, b_sub, b_mul, b_eql, b_neq, b_lss, b_leq, b_gtr, b_geq, vNot_b, vIf_b, vPick_b, vGuard_b, vGuard_u, vFieldAddr_p, vLenS_n, vLenS_s, vExt_t, vAlloc_e, vBox_e, vBuild_0, chk_true, jn_e, vCallV_e, decide_true, decide_false, if_true, if_false, Bool.false_eq_true, Bool.true_eq_false, Bool.not_true, Bool.not_false, Nat.zero_add, Nat.add_zero, Nat.reduceAdd, List.getElem?_cons_zero, List.getElem?_cons_succ, vLoad1_p, one_int, one_bool, one_str, one_sl, one_nils, one_ptr, hb2]
  by_cases h1 : tn < 0
  · simp only [decide_eq_true h1, toX_int, toX_bool, toX_str, toX_nils, toX_nilp, toX_ptr, toX_sl, toX_agg, toX_tup, toV_i, toV_b, toV_v, cells_i, cells_b, cells_agg, cells_sl, cells_nils, cells_str, cells_ptr, oC_some, vBin_i, b_add, b_sub, b_mul, b_eql, b_neq, b_lss, b_leq, b_gtr, b_geq, vNot_b, vIf_b, vPick_b, vGuard_b, vGuard_u, vFieldAddr_p, vLenS_n, vLenS_s, vExt_t, vAlloc_e, vBox_e, vBuild_0, chk_true, jn_e, vCallV_e, decide_true, decide_false, if_true, if_false, Bool.false_eq_true, Bool.true_eq_false, Bool.not_true, Bool.not_false, Nat.zero_add, Nat.add_zero, Nat.reduceAdd, List.getElem?_cons_zero, List.getElem?_cons_succ, vLoad1_p, one_int, one_bool, one_str, one_sl, one_nils, one_ptr]
    exact fin 4 (f4 (by omega)).symm
  simp only [decide_eq_false h1, toX_int, toX_bool, toX_str, toX_nils, toX_nilp, toX_ptr, toX_sl, toX_agg, toX_tup, toV_i, toV_b, toV_v, cells_i, cells_b, cells_agg, cells_sl, cells_nils, cells_str, cells_ptr, oC_some, vBin_i, b_add, b_sub, b_mul, b_eql, b_neq, b_lss, b_leq, b_gtr, b_geq, vNot_b, vIf_b, vPick_b, vGuard_b, vGuard_u, vFieldAddr_p, vLenS_n, vLenS_s, vExt_t, vAlloc_e, vBox_e, vBuild_0, chk_true, jn_e, vCallV_e, decide_true, decide_false, if_true, if_false, Bool.false_eq_true, Bool.true_eq_false, Bool.not_true, Bool.not_false, Nat.zero_add, Nat.add_zero, Nat.reduceAdd, List.getElem?_cons_zero, List.getElem?_cons_succ, vLoad1_p, one_int, one_bool, one_str, one_sl, one_nils, one_ptr, hb2, hr.one, hr.toX, hr.len, List.length_map]
  rw [wrap64 (n := ws.length - 1) (by omega) (by omega)]
  by_cases h2 : (ws.length : Int) - 1 < tn
  · simp only [decide_eq_true h2, toX_int, toX_bool, toX_str, toX_nils, toX_nilp, toX_ptr, toX_sl, toX_agg, toX_tup, toV_i, toV_b, toV_v, cells_i, cells_b, cells_agg, cells_sl, cells_nils, cells_str, cells_ptr, oC_some, vBin_i, b_add, b_sub, b_mul, b_eql, b_neq, b_lss, b_leq, b_gtr, b_geq, vNot_b, vIf_b, vPick_b, vGuard_b, vGuard_u, vFieldAddr_p, vLenS_n, vLenS_s, vExt_t, vAlloc_e, vBox_e, vBuild_0, chk_true, jn_e, vCallV_e, decide_true, decide_false, if_true, if_false, Bool.false_eq_true, Bool.true_eq_false, Bool.not_true, Bool.not_false, Nat.zero_add, Nat.add_zero, Nat.reduceAdd, List.getElem?_cons_zero, List.getElem?_cons_succ, vLoad1_p, one_int, one_bool, one_str, one_sl, one_nils, one_ptr]
    exact fin 4 (f4 (by omega)).symm
  simp only [decide_eq_false h2, toX_int, toX_bool, toX_str, toX_nils, toX_nilp, toX_ptr, toX_sl, toX_agg, toX_tup, toV_i, toV_b, toV_v, cells_i, cells_b, cells_agg, cells_sl, cells_nils, cells_str, cells_ptr, oC_some, vBin_i, b_add, b_sub, b_mul, b_eql, b_neq, b_lss, b_leq, b_gtr, b_geq, vNot_b, vIf_b, vPick_b, vGuard_b, vGuard_u, vFieldAddr_p, vLenS_n, vLenS_s, vExt_t, vAlloc_e, vBox_e, vBuild_0, chk_true, jn_e, vCallV_e, decide_true, decide_false, if_true, if_false, Bool.false_eq_true, Bool.true_eq_false, Bool.not_true, Bool.not_false, Nat.zero_add, Nat.add_zero, Nat.reduceAdd, List.getElem?_cons_zero, List.getElem?_cons_succ, vLoad1_p, one_int, one_bool, one_str, one_sl, one_nils, one_ptr, hb2]
  by_cases h5 : rd < 0
  · simp only [decide_eq_true h5, toX_int, toX_bool, toX_str, toX_nils, toX_nilp, toX_ptr, toX_sl, toX_agg, toX_tup, toV_i, toV_b, toV_v, cells_i, cells_b, cells_agg, cells_sl, cells_nils, cells_str, cells_ptr, oC_some, vBin_i, b_add, b_sub, b_mul, b_eql, b_neq, b_lss, b_leq, b_gtr, b_geq, vNot_b, vIf_b, vPick_b, vGuard_b, vGuard_u, vFieldAddr_p, vLenS_n, vLenS_s, vExt_t, vAlloc_e, vBox_e, vBuild_0, chk_true, jn_e, vCallV_e, decide_true, decide_false, if_true, if_false, Bool.false_eq_true, Bool.true_eq_false, Bool.not_true, Bool.not_false, Nat.zero_add, Nat.add_zero, Nat.reduceAdd, List.getElem?_cons_zero, List.getElem?_cons_succ, vLoad1_p, one_int, one_bool, one_str, one_sl, one_nils, one_ptr]
    exact fin 4 (f4 (by omega)).symm
  simp only [decide_eq_false h5, toX_int, toX_bool, toX_str, toX_nils, toX_nilp, toX_ptr, toX_sl, toX_agg, toX_tup, toV_i, toV_b, toV_v, cells_i, cells_b, cells_agg, cells_sl, cells_nils, cells_str, cells_ptr, oC_some, vBin_i, b_add, b_sub, b_mul, b_eql, b_neq, b_lss, b_leq, b_gtr, b_geq, vNot_b, vIf_b, vPick_b, vGuard_b, vGuard_u, vFieldAddr_p, vLenS_n, vLenS_s, vExt_t, vAlloc_e, vBox_e, vBuild_0, chk_true, jn_e, vCallV_e, decide_true, decide_false, if_true, if_false, Bool.false_eq_true, Bool.true_eq_false, Bool.not_true, Bool.not_false, Nat.zero_add, Nat.add_zero, Nat.reduceAdd, List.getElem?_cons_zero, List.getElem?_cons_succ, vLoad1_p, one_int, one_bool, one_str, one_sl, one_nils, one_ptr, hb2]
  by_cases h6 : 4611686018427387904 < rd
  · simp only [decide_eq_true h6, toX_int, toX_bool, toX_str, toX_nils, toX_nilp, toX_ptr, toX_sl, toX_agg, toX_tup, toV_i, toV_b, toV_v, cells_i, cells_b, cells_agg, cells_sl, cells_nils, cells_str, cells_ptr, oC_some, vBin_i, b_add, b_sub, b_mul, b_eql, b_neq, b_lss, b_leq, b_gtr, b_geq, vNot_b, vIf_b, vPick_b, vGuard_b, vGuard_u, vFieldAddr_p, vLenS_n, vLenS_s, vExt_t, vAlloc_e, vBox_e, vBuild_0, chk_true, jn_e, vCallV_e, decide_true, decide_false, if_true, if_false, Bool.false_eq_true, Bool.true_eq_false, Bool.not_true, Bool.not_false, Nat.zero_add, Nat.add_zero, Nat.reduceAdd, List.getElem?_cons_zero, List.getElem?_cons_succ, vLoad1_p, one_int, one_bool, one_str, one_sl, one_nils, one_ptr]
    exact fin 4 (f4 (by omega)).symm
  simp only [decide_eq_false h6, toX_int, toX_bool, toX_str, toX_nils, toX_nilp, toX_ptr, toX_sl, toX_agg, toX_tup, toV_i, toV_b, toV_v, cells_i, cells_b, cells_agg, cells_sl, cells_nils, cells_str, cells_ptr, oC_some, vBin_i, b_add, b_sub, b_mul, b_eql, b_neq, b_lss, b_leq, b_gtr, b_geq, vNot_b, vIf_b, vPick_b, vGuard_b, vGuard_u, vFieldAddr_p, vLenS_n, vLenS_s, vExt_t, vAlloc_e, vBox_e, vBuild_0, chk_true, jn_e, vCallV_e, decide_true, decide_false, if_true, if_false, Bool.false_eq_true, Bool.true_eq_false, Bool.not_true, Bool.not_false, Nat.zero_add, Nat.add_zero, Nat.reduceAdd, List.getElem?_cons_zero, List.getElem?_cons_succ, vLoad1_p, one_int, one_bool, one_str, one_sl, one_nils, one_ptr, hb2, hr.one, hr.toX]
  have htn : tn.toNat < ws.length := by omega
  obtain ⟨id, o, g1, g2, -, g3⟩ := hr2.get (i := tn.toNat) (by simpa using htn)
  have g4 : ∀ K : X → CX, vLoad1 (.v (.ptr id o)) M2 K = K (.i .i64 ws[tn.toNat]) := fun K => by rw [g3 M2 rfl (by simp [one_int])]; simp [toX_int]
  have etn : ((tn.toNat : Nat) : Int) = tn := by omega
  rw [etn] at g1
  have hget : ws.getD tn.toNat 0 = ws[tn.toNat] := by rw [List.getD_eq_getElem?_getD, List.getElem?_eq_getElem htn]; rfl
  by_cases h7 : cr < 0
  · simp only [decide_eq_true h7, toX_int, toX_bool, toX_str, toX_nils, toX_nilp, toX_ptr, toX_sl, toX_agg, toX_tup, toV_i, toV_b, toV_v, cells_i, cells_b, cells_agg, cells_sl, cells_nils, cells_str, cells_ptr, oC_some, vBin_i, b_add, b_sub, b_mul, b_eql, b_neq, b_lss, b_leq, b_gtr, b_geq, vNot_b, vIf_b, vPick_b, vGuard_b, vGuard_u, vFieldAddr_p, vLenS_n, vLenS_s, vExt_t, vAlloc_e, vBox_e, vBuild_0, chk_true, jn_e, vCallV_e, decide_true, decide_false, if_true, if_false, Bool.false_eq_true, Bool.true_eq_false, Bool.not_true, Bool.not_false, Nat.zero_add, Nat.add_zero, Nat.reduceAdd, List.getElem?_cons_zero, List.getElem?_cons_succ, vLoad1_p, one_int, one_bool, one_str, one_sl, one_nils, one_ptr]
    exact fin 4 (by unfold chkE; rw [if_neg (by omega), if_pos (by omega)])
  have step : ∀ K : X → CX, vLoad1 (.v (.ptr M.nx 0)) M2 K = K (.v v) := fun K => by simp only [toX_int, toX_bool, toX_str, toX_nils, toX_nilp, toX_ptr, toX_sl, toX_agg, toX_tup, toV_i, toV_b, toV_v, cells_i, cells_b, cells_agg, cells_sl, cells_nils, cells_str, cells_ptr, oC_some, vBin_i, b_add, b_sub, b_mul, b_eql, b_neq, b_lss, b_leq, b_gtr, b_geq, vNot_b, vIf_b, vPick_b, vGuard_b, vGuard_u, vFieldAddr_p, vLenS_n, vLenS_s, vExt_t, vAlloc_e, vBox_e, vBuild_0, chk_true, jn_e, vCallV_e, decide_true, decide_false, if_true, if_false, Bool.false_eq_true, Bool.true_eq_false, Bool.not_true, Bool.not_false, Nat.zero_add, Nat.add_zero, Nat.reduceAdd, List.getElem?_cons_zero, List.getElem?_cons_succ, vLoad1_p, one_int, one_bool, one_str, one_sl, one_nils, one_ptr, hb2, hr.one, hr.toX]
  have step1 : ∀ K : X → CX, vLoad1 (.v (.ptr M.nx 1)) M2 K = K (.i .i64 tn) := fun K => by simp only [toX_int, toX_bool, toX_str, toX_nils, toX_nilp, toX_ptr, toX_sl, toX_agg, toX_tup, toV_i, toV_b, toV_v, cells_i, cells_b, cells_agg, cells_sl, cells_nils, cells_str, cells_ptr, oC_some, vBin_i, b_add, b_sub, b_mul, b_eql, b_neq, b_lss, b_leq, b_gtr, b_geq, vNot_b, vIf_b, vPick_b, vGuard_b, vGuard_u, vFieldAddr_p, vLenS_n, vLenS_s, vExt_t, vAlloc_e, vBox_e, vBuild_0, chk_true, jn_e, vCallV_e, decide_true, decide_false, if_true, if_false, Bool.false_eq_true, Bool.true_eq_false, Bool.not_true, Bool.not_false, Nat.zero_add, Nat.add_zero, Nat.reduceAdd, List.getElem?_cons_zero, List.getElem?_cons_succ, vLoad1_p, one_int, one_bool, one_str, one_sl, one_nils, one_ptr, hb2]
  have step2 : ∀ K : X → CX, vLoad1 (.v (.ptr M.nx 2)) M2 K = K (.i .i64 cr) := fun K => by simp only [toX_int, toX_bool, toX_str, toX_nils, toX_nilp, toX_ptr, toX_sl, toX_agg, toX_tup, toV_i, toV_b, toV_v, cells_i, cells_b, cells_agg, cells_sl, cells_nils, cells_str, cells_ptr, oC_some, vBin_i, b_add, b_sub, b_mul, b_eql, b_neq, b_lss, b_leq, b_gtr, b_geq, vNot_b, vIf_b, vPick_b, vGuard_b, vGuard_u, vFieldAddr_p, vLenS_n, vLenS_s, vExt_t, vAlloc_e, vBox_e, vBuild_0, chk_true, jn_e, vCallV_e, decide_true, decide_false, if_true, if_false, Bool.false_eq_true, Bool.true_eq_false, Bool.not_true, Bool.not_false, Nat.zero_add, Nat.add_zero, Nat.reduceAdd, List.getElem?_cons_zero, List.getElem?_cons_succ, vLoad1_p, one_int, one_bool, one_str, one_sl, one_nils, one_ptr, hb2]
  simp only [decide_eq_false h7, toX_int, toX_bool, toX_str, toX_nils, toX_nilp, toX_ptr, toX_sl, toX_agg, toX_tup, toV_i, toV_b, toV_v, cells_i, cells_b, cells_agg, cells_sl, cells_nils, cells_str, cells_ptr, oC_some, vBin_i, b_add, b_sub, b_mul, b_eql, b_neq, b_lss, b_leq, b_gtr, b_geq, vNot_b, vIf_b, vPick_b, vGuard_b, vGuard_u, vFieldAddr_p, vLenS_n, vLenS_s, vExt_t, vAlloc_e, vBox_e, vBuild_0, chk_true, jn_e, vCallV_e, if_true, step, step1, step2, g1, g4, Bool.not_true, Bool.not_false, Bool.false_eq_true, if_false, Nat.zero_add, Nat.reduceAdd]
  by_cases h8 : ws[tn.toNat] < cr
  · simp only [decide_eq_true h8, toX_int, toX_bool, toX_str, toX_nils, toX_nilp, toX_ptr, toX_sl, toX_agg, toX_tup, toV_i, toV_b, toV_v, cells_i, cells_b, cells_agg, cells_sl, cells_nils, cells_str, cells_ptr, oC_some, vBin_i, b_add, b_sub, b_mul, b_eql, b_neq, b_lss, b_leq, b_gtr, b_geq, vNot_b, vIf_b, vPick_b, vGuard_b, vGuard_u, vFieldAddr_p, vLenS_n, vLenS_s, vExt_t, vAlloc_e, vBox_e, vBuild_0, chk_true, jn_e, vCallV_e, decide_true, decide_false, if_true, if_false, Bool.false_eq_true, Bool.true_eq_false, Bool.not_true, Bool.not_false, Nat.zero_add, Nat.add_zero, Nat.reduceAdd, List.getElem?_cons_zero, List.getElem?_cons_succ, vLoad1_p, one_int, one_bool, one_str, one_sl, one_nils, one_ptr]
    exact fin 4 (by unfold chkE; rw [if_neg (by omega), if_pos (by rw [hget]; omega)])
  · simp only [decide_eq_false h8, toX_int, toX_bool, toX_str, toX_nils, toX_nilp, toX_ptr, toX_sl, toX_agg, toX_tup, toV_i, toV_b, toV_v, cells_i, cells_b, cells_agg, cells_sl, cells_nils, cells_str, cells_ptr, oC_some, vBin_i, b_add, b_sub, b_mul, b_eql, b_neq, b_lss, b_leq, b_gtr, b_geq, vNot_b, vIf_b, vPick_b, vGuard_b, vGuard_u, vFieldAddr_p, vLenS_n, vLenS_s, vExt_t, vAlloc_e, vBox_e, vBuild_0, chk_true, jn_e, vCallV_e, decide_true, decide_false, if_true, if_false, Bool.false_eq_true, Bool.true_eq_false, Bool.not_true, Bool.not_false, Nat.zero_add, Nat.add_zero, Nat.reduceAdd, List.getElem?_cons_zero, List.getElem?_cons_succ, vLoad1_p, one_int, one_bool, one_str, one_sl, one_nils, one_ptr]
    exact fin 0 (by unfold chkE; rw [if_neg (by omega), if_neg (by rw [hget]; omega)])
end Go.Proofs.Ytehbfajmileefaa.Px

/-
  Turns: equality, copies, who is able.
-/
namespace Go.Proofs.Ytehbfajmileefaa.Px
open Go.RowKit Go.Proofs.Ytehbfajmileefaa.Vx Go.Proofs.Ytehbfajmileefaa.Fx
set_option linter.unusedVariables false
set_option linter.unusedSimpArgs false
set_option maxRecDepth 10000
variable {M : Mm}
theorem l14 (n m : Nat) {z : X} {kr : X → X → Mm → CX} {k0 : X → Mm → CX} {la lb : List Int} (hm : la.length < 4294967296) (he : la.length = lb.length) {va vb : V} (ha : Row M.nx M.H va (la.map iV)) (hb : Row M.nx M.H vb (lb.map iV)) : ∀ (r j : Nat), j + r = la.length → ∀ (j' : Nat), r < j' →
    d14_6 (cx n m) m kr k0 j' (.v va) (.v vb) (.i .i64 j) z M = if la.drop j = lb.drop j then k0 z M else kr z (.i .i64 0) M
  | r, j, hj, 0, h0 => by omega
  | 0, j, hj, j' + 1, h0 => by
    simp only [d14_6, ha.len, List.length_map, toX_int, toX_bool, toX_str, toX_nils, toX_nilp, toX_ptr, toX_sl, toX_agg, toX_tup, toV_i, toV_b, toV_v, cells_i, cells_b, cells_agg, cells_sl, cells_nils, cells_str, cells_ptr, oC_some, vBin_i, b_add, b_sub, b_mul, b_eql, b_neq, b_lss, b_leq, b_gtr, b_geq, vNot_b, vIf_b, vPick_b, vGuard_b, vGuard_u, vFieldAddr_p, vLenS_n, vLenS_s, vExt_t, vAlloc_e, vBox_e, vBuild_0, chk_true, jn_e, vCallV_e, decide_true, decide_false, if_true, if_false, Bool.false_eq_true, Bool.true_eq_false, Bool.not_true, Bool.not_false, Nat.zero_add, Nat.add_zero, Nat.reduceAdd, List.getElem?_cons_zero, List.getElem?_cons_succ, vLoad1_p, one_int, one_bool, one_str, one_sl, one_nils, one_ptr, decide_eq_false (show ¬ ((j : Int) < la.length) by omega)]
    rw [List.drop_eq_nil_of_le (by omega), List.drop_eq_nil_of_le (by omega), if_pos rfl]
  | r + 1, j, hj, j' + 1, h0 => by
    have hjl : j < la.length := by omega
    obtain ⟨id, o, g1, g2, -, g3⟩ := ha.get (i := j) (by simpa using hjl)
    obtain ⟨id', o', h1, h2, -, h3⟩ := hb.get (i := j) (by simpa [← he] using hjl)
    have g4 : ∀ K : X → CX, vLoad1 (.v (.ptr id o)) M K = K (.i .i64 la[j]) := fun K => by rw [g3 M rfl (by simp [one_int])]; simp [toX_int]
    have h4 : ∀ K : X → CX, vLoad1 (.v (.ptr id' o')) M K = K (.i .i64 (lb[j]'(by omega))) := fun K => by rw [h3 M rfl (by simp [one_int])]; simp [toX_int]
    rw [List.drop_eq_getElem_cons hjl, List.drop_eq_getElem_cons (show j < lb.length by omega)]
    simp only [d14_6, ha.len, List.length_map, toX_int, toX_bool, toX_str, toX_nils, toX_nilp, toX_ptr, toX_sl, toX_agg, toX_tup, toV_i, toV_b, toV_v, cells_i, cells_b, cells_agg, cells_sl, cells_nils, cells_str, cells_ptr, oC_some, vBin_i, b_add, b_sub, b_mul, b_eql, b_neq, b_lss, b_leq, b_gtr, b_geq, vNot_b, vIf_b, vPick_b, vGuard_b, vGuard_u, vFieldAddr_p, vLenS_n, vLenS_s, vExt_t, vAlloc_e, vBox_e, vBuild_0, chk_true, jn_e, vCallV_e, decide_eq_true (show (j : Int) < la.length by omega), if_true, g1, g4, h1, h4]
    by_cases e : la[j] = lb[j]'(by omega)
    · simp only [decide_eq_true e, Bool.not_true, Bool.false_eq_true, if_false]
      rw [wrap64 (by omega) (by omega)]
      have := l14 n m (z := z) (kr := kr) (k0 := k0) hm he ha hb r (j + 1) (by omega) j' (by omega)
      rw [e]
      simp only [List.cons.injEq, true_and]
      exact this
    · simp only [decide_eq_false e, Bool.not_false, if_true]
      rw [if_neg (fun h => e (List.cons.inj h).1)]
theorem c14 (n m : Nat) {la lb : List Int} (hl : la.length < m) (hm : la.length < 4294967296) {va vb : V} (ha : Row M.nx M.H va (la.map iV)) (hb : Row M.nx M.H vb (lb.map iV)) (hf : Fresh M) : Ret (cx (n + 1) m 14 [.v va, .v vb] M) M fun x _ => x = .i .i64 (if la = lb then 1 else 0) := by
  rw [cx, q14 rfl]
  simp only [d14, d14_1, d14_2, d14_3, d14_4, d14_5, ha.len, hb.len, List.length_map, toX_int, toX_bool, toX_str, toX_nils, toX_nilp, toX_ptr, toX_sl, toX_agg, toX_tup, toV_i, toV_b, toV_v, cells_i, cells_b, cells_agg, cells_sl, cells_nils, cells_str, cells_ptr, oC_some, vBin_i, b_add, b_sub, b_mul, b_eql, b_neq, b_lss, b_leq, b_gtr, b_geq, vNot_b, vIf_b, vPick_b, vGuard_b, vGuard_u, vFieldAddr_p, vLenS_n, vLenS_s, vExt_t, vAlloc_e, vBox_e, vBuild_0, chk_true, jn_e, vCallV_e]
  by_cases he : (la.length : Int) = lb.length
  rotate_left
  · simp only [decide_eq_false he, toX_int, toX_bool, toX_str, toX_nils, toX_nilp, toX_ptr, toX_sl, toX_agg, toX_tup, toV_i, toV_b, toV_v, cells_i, cells_b, cells_agg, cells_sl, cells_nils, cells_str, cells_ptr, oC_some, vBin_i, b_add, b_sub, b_mul, b_eql, b_neq, b_lss, b_leq, b_gtr, b_geq, vNot_b, vIf_b, vPick_b, vGuard_b, vGuard_u, vFieldAddr_p, vLenS_n, vLenS_s, vExt_t, vAlloc_e, vBox_e, vBuild_0, chk_true, jn_e, vCallV_e, decide_true, decide_false, if_true, if_false, Bool.false_eq_true, Bool.true_eq_false, Bool.not_true, Bool.not_false, Nat.zero_add, Nat.add_zero, Nat.reduceAdd, List.getElem?_cons_zero, List.getElem?_cons_succ, vLoad1_p, one_int, one_bool, one_str, one_sl, one_nils, one_ptr]
    exact Ret.fin1 (Keep.refl hf) hf rfl fun H => by simp only [toX_int, toX_bool, toX_str, toX_nils, toX_nilp, toX_ptr, toX_sl, toX_agg, toX_tup, toV_i, toV_b, toV_v, cells_i, cells_b, cells_agg, cells_sl, cells_nils, cells_str, cells_ptr, oC_some, vBin_i, b_add, b_sub, b_mul, b_eql, b_neq, b_lss, b_leq, b_gtr, b_geq, vNot_b, vIf_b, vPick_b, vGuard_b, vGuard_u, vFieldAddr_p, vLenS_n, vLenS_s, vExt_t, vAlloc_e, vBox_e, vBuild_0, chk_true, jn_e, vCallV_e]; rw [if_neg (fun h => he (by rw [h]))]
  simp only [decide_eq_true he, Bool.not_true, Bool.false_eq_true, if_false]
  refine Ret.of_eq (l14 (M := ⟨M.H, M.nx, M.nx⟩) n m (z := .v .undef) (kr := fun z r0 M' => finD prg tabP m (cx n m) M.nx z [(.tmp 4, r0)] M') (k0 := fun t511 M' => finD prg tabP m (cx n m) M.nx t511 [(.tmp 4, .i .i64 (1))] M') hm (by omega) ha hb la.length 0 (by omega) m hl) ?_
  rw [List.drop_zero, List.drop_zero]
  by_cases h : la = lb
  · rw [if_pos h]; exact Ret.fin1 (Keep.refl hf) hf rfl fun H => by simp only [toX_int, toX_bool, toX_str, toX_nils, toX_nilp, toX_ptr, toX_sl, toX_agg, toX_tup, toV_i, toV_b, toV_v, cells_i, cells_b, cells_agg, cells_sl, cells_nils, cells_str, cells_ptr, oC_some, vBin_i, b_add, b_sub, b_mul, b_eql, b_neq, b_lss, b_leq, b_gtr, b_geq, vNot_b, vIf_b, vPick_b, vGuard_b, vGuard_u, vFieldAddr_p, vLenS_n, vLenS_s, vExt_t, vAlloc_e, vBox_e, vBuild_0, chk_true, jn_e, vCallV_e, if_pos h]
  · rw [if_neg h]; exact Ret.fin1 (Keep.refl hf) hf rfl fun H => by simp only [toX_int, toX_bool, toX_str, toX_nils, toX_nilp, toX_ptr, toX_sl, toX_agg, toX_tup, toV_i, toV_b, toV_v, cells_i, cells_b, cells_agg, cells_sl, cells_nils, cells_str, cells_ptr, oC_some, vBin_i, b_add, b_sub, b_mul, b_eql, b_neq, b_lss, b_leq, b_gtr, b_geq, vNot_b, vIf_b, vPick_b, vGuard_b, vGuard_u, vFieldAddr_p, vLenS_n, vLenS_s, vExt_t, vAlloc_e, vBox_e, vBuild_0, chk_true, jn_e, vCallV_e, if_neg h]
/-- the reference's Same -/
theorem c15 (n m : Nat) {la lb : List Int} {ta ca ra tb cb rb : Int} (hl : la.length < m) (hm : la.length < 4294967296) {va vb : V} (ha : Row M.nx M.H va (la.map iV)) (hb : Row M.nx M.H vb (lb.map iV)) (hf : Fresh M) :
    Ret (cx (n + 2) m 15 [.v (tV va ta ca ra), .v (tV vb tb cb rb)] M) M fun x _ => x = .i .i64 (if la = lb ∧ ta = tb ∧ ca = cb ∧ ra = rb then 1 else 0) := by
  rw [cx, q15 rfl]
  have k1 := Keep.new (M := ⟨M.H, M.nx, M.nx⟩) hf (b := tB va ta ca ra) rfl M.nx
  have f1 := Fresh.new (M := ⟨M.H, M.nx, M.nx⟩) hf (tB va ta ca ra) M.nx
  have k2 := Keep.new (M := ⟨(M.nx, tB va ta ca ra) :: M.H, M.nx + 1, M.nx⟩) f1 (b := tB vb tb cb rb) rfl M.nx
  have f2 := Fresh.new (M := ⟨(M.nx, tB va ta ca ra) :: M.H, M.nx + 1, M.nx⟩) f1 (tB vb tb cb rb) M.nx
  have kk := k1.trans k2
  have b1 := at_new k2 (b := tB va ta ca ra) rfl
  have b2 := lookC_eq' (i := M.nx + 1) (b := tB vb tb cb rb) ((M.nx, tB va ta ca ra) :: M.H) rfl
  have ha2 := Row.keep (M := ⟨M.H, M.nx, M.nx⟩) ha kk
  have hb2 := Row.keep (M := ⟨M.H, M.nx, M.nx⟩) hb kk
  simp only [d15, d15_1, toX_int, toX_bool, toX_str, toX_nils, toX_nilp, toX_ptr, toX_sl, toX_agg, toX_tup, toV_i, toV_b, toV_v, cells_i, cells_b, cells_agg, cells_sl, cells_nils, cells_str, cells_ptr, oC_some, vBin_i, b_add, b_sub, b_mul, b_eql, b_neq, b_lss, b_leq, b_gtr, b_geq, vNot_b, vIf_b, vPick_b, vGuard_b, vGuard_u, vFieldAddr_p, vLenS_n, vLenS_s, vExt_t, vAlloc_e, vBox_e, vBuild_0, chk_true, jn_e, vCallV_e, decide_true, decide_false, if_true, if_false, Bool.false_eq_true, Bool.true_eq_false, Bool.not_true, Bool.not_false, Nat.zero_add, Nat.add_zero, Nat.reduceAdd, List.getElem?_cons_zero, List.getElem?_cons_succ, vLoad1_p, one_int, one_bool, one_str, one_sl, one_nils, one_ptr, b1, b2]
  have fin : ∀ {x : CX}, x = finD prg tabP m (cx (n + 1) m) M.nx (.v .undef) [(.tmp 4, .i .i64 0)] ⟨(M.nx + 1, tB vb tb cb rb) :: (M.nx, tB va ta ca ra) :: M.H, M.nx + 1 + 1, M.nx⟩ → ¬ (la = lb ∧ ta = tb ∧ ca = cb ∧ ra = rb) → Ret x M fun x _ => x = .i .i64 (if la = lb ∧ ta = tb ∧ ca = cb ∧ ra = rb then 1 else 0) :=
    fun e h => Ret.of_eq e (Ret.fin1 kk f2 rfl fun H => by simp only [toX_int, toX_bool, toX_str, toX_nils, toX_nilp, toX_ptr, toX_sl, toX_agg, toX_tup, toV_i, toV_b, toV_v, cells_i, cells_b, cells_agg, cells_sl, cells_nils, cells_str, cells_ptr, oC_some, vBin_i, b_add, b_sub, b_mul, b_eql, b_neq, b_lss, b_leq, b_gtr, b_geq, vNot_b, vIf_b, vPick_b, vGuard_b, vGuard_u, vFieldAddr_p, vLenS_n, vLenS_s, vExt_t, vAlloc_e, vBox_e, vBuild_0, chk_true, jn_e, vCallV_e]; rw [if_neg h])
  by_cases h1 : ta = tb
  rotate_left
  · simp only [decide_eq_false h1, toX_int, toX_bool, toX_str, toX_nils, toX_nilp, toX_ptr, toX_sl, toX_agg, toX_tup, toV_i, toV_b, toV_v, cells_i, cells_b, cells_agg, cells_sl, cells_nils, cells_str, cells_ptr, oC_some, vBin_i, b_add, b_sub, b_mul, b_eql, b_neq, b_lss, b_leq, b_gtr, b_geq, vNot_b, vIf_b, vPick_b, vGuard_b, vGuard_u, vFieldAddr_p, vLenS_n, vLenS_s, vExt_t, vAlloc_e, vBox_e, vBuild_0, chk_true, jn_e, vCallV_e, decide_true, decide_false, if_true, if_false, Bool.false_eq_true, Bool.true_eq_false, Bool.not_true, Bool.not_false, Nat.zero_add, Nat.add_zero, Nat.reduceAdd, List.getElem?_cons_zero, List.getElem?_cons_succ, vLoad1_p, one_int, one_bool, one_str, one_sl, one_nils, one_ptr]
    exact fin rfl (fun h => h1 h.2.1)
  simp only [decide_eq_true h1, toX_int, toX_bool, toX_str, toX_nils, toX_nilp, toX_ptr, toX_sl, toX_agg, toX_tup, toV_i, toV_b, toV_v, cells_i, cells_b, cells_agg, cells_sl, cells_nils, cells_str, cells_ptr, oC_some, vBin_i, b_add, b_sub, b_mul, b_eql, b_neq, b_lss, b_leq, b_gtr, b_geq, vNot_b, vIf_b, vPick_b, vGuard_b, vGuard_u, vFieldAddr_p, vLenS_n, vLenS_s, vExt_t, vAlloc_e, vBox_e, vBuild_0, chk_true, jn_e, vCallV_e, decide_true, decide_false, if_true, if_false, Bool.false_eq_true, Bool.true_eq_false, Bool.not_true, Bool.not_false, Nat.zero_add, Nat.add_zero, Nat.reduceAdd, List.getElem?_cons_zero, List.getElem?_cons_succ, vLoad1_p, one_int, one_bool, one_str, one_sl, one_nils, one_ptr, b1, b2]
  by_cases h2 : ca = cb
  rotate_left
  · simp only [decide_eq_false h2, toX_int, toX_bool, toX_str, toX_nils, toX_nilp, toX_ptr, toX_sl, toX_agg, toX_tup, toV_i, toV_b, toV_v, cells_i, cells_b, cells_agg, cells_sl, cells_nils, cells_str, cells_ptr, oC_some, vBin_i, b_add, b_sub, b_mul, b_eql, b_neq, b_lss, b_leq, b_gtr, b_geq, vNot_b, vIf_b, vPick_b, vGuard_b, vGuard_u, vFieldAddr_p, vLenS_n, vLenS_s, vExt_t, vAlloc_e, vBox_e, vBuild_0, chk_true, jn_e, vCallV_e, decide_true, decide_false, if_true, if_false, Bool.false_eq_true, Bool.true_eq_false, Bool.not_true, Bool.not_false, Nat.zero_add, Nat.add_zero, Nat.reduceAdd, List.getElem?_cons_zero, List.getElem?_cons_succ, vLoad1_p, one_int, one_bool, one_str, one_sl, one_nils, one_ptr]
    exact fin rfl (fun h => h2 h.2.2.1)
  simp only [decide_eq_true h2, toX_int, toX_bool, toX_str, toX_nils, toX_nilp, toX_ptr, toX_sl, toX_agg, toX_tup, toV_i, toV_b, toV_v, cells_i, cells_b, cells_agg, cells_sl, cells_nils, cells_str, cells_ptr, oC_some, vBin_i, b_add, b_sub, b_mul, b_eql, b_neq, b_lss, b_leq, b_gtr, b_geq, vNot_b, vIf_b, vPick_b, vGuard_b, vGuard_u, vFieldAddr_p, vLenS_n, vLenS_s, vExt_t, vAlloc_e, vBox_e, vBuild_0, chk_true, jn_e, vCallV_e, decide_true, decide_false, if_true, if_false, Bool.false_eq_true, Bool.true_eq_false, Bool.not_true, Bool.not_false, Nat.zero_add, Nat.add_zero, Nat.reduceAdd, List.getElem?_cons_zero, List.getElem?_cons_succ, vLoad1_p, one_int, one_bool, one_str, one_sl, one_nils, one_ptr, b1, b2]
  by_cases h3 : ra = rb
  rotate_left
  · simp only [decide_eq_false h3, toX_int, toX_bool, toX_str, toX_nils, toX_nilp, toX_ptr, toX_sl, toX_agg, toX_tup, toV_i, toV_b, toV_v, cells_i, cells_b, cells_agg, cells_sl, cells_nils, cells_str, cells_ptr, oC_some, vBin_i, b_add, b_sub, b_mul, b_eql, b_neq, b_lss, b_leq, b_gtr, b_geq, vNot_b, vIf_b, vPick_b, vGuard_b, vGuard_u, vFieldAddr_p, vLenS_n, vLenS_s, vExt_t, vAlloc_e, vBox_e, vBuild_0, chk_true, jn_e, vCallV_e, decide_true, decide_false, if_true, if_false, Bool.false_eq_true, Bool.true_eq_false, Bool.not_true, Bool.not_false, Nat.zero_add, Nat.add_zero, Nat.reduceAdd, List.getElem?_cons_zero, List.getElem?_cons_succ, vLoad1_p, one_int, one_bool, one_str, one_sl, one_nils, one_ptr]
    exact fin rfl (fun h => h3 h.2.2.2)
  simp only [decide_eq_true h3, toX_int, toX_bool, toX_str, toX_nils, toX_nilp, toX_ptr, toX_sl, toX_agg, toX_tup, toV_i, toV_b, toV_v, cells_i, cells_b, cells_agg, cells_sl, cells_nils, cells_str, cells_ptr, oC_some, vBin_i, b_add, b_sub, b_mul, b_eql, b_neq, b_lss, b_leq, b_gtr, b_geq, vNot_b, vIf_b, vPick_b, vGuard_b, vGuard_u, vFieldAddr_p, vLenS_n, vLenS_s, vExt_t, vAlloc_e, vBox_e, vBuild_0, chk_true, jn_e, vCallV_e, decide_true, decide_false, if_true, if_false, Bool.false_eq_true, Bool.true_eq_false, Bool.not_true, Bool.not_false, Nat.zero_add, Nat.add_zero, Nat.reduceAdd, List.getElem?_cons_zero, List.getElem?_cons_succ, vLoad1_p, one_int, one_bool, one_str, one_sl, one_nils, one_ptr, b1, b2, ha.one, ha.toX, hb.one, hb.toX]
  obtain ⟨x, M4, e, k4, f4, rfl⟩ := (c14 (M := ⟨(M.nx + 1, tB vb tb cb rb) :: (M.nx, tB va ta ca ra) :: M.H, M.nx + 1 + 1, M.nx⟩) n m hl hm ha2 hb2 f2).call
  rw [e]
  refine Ret.fin1 (kk.trans k4) f4 rfl fun H => ?_
  simp only [toX_int, toX_bool, toX_str, toX_nils, toX_nilp, toX_ptr, toX_sl, toX_agg, toX_tup, toV_i, toV_b, toV_v, cells_i, cells_b, cells_agg, cells_sl, cells_nils, cells_str, cells_ptr, oC_some, vBin_i, b_add, b_sub, b_mul, b_eql, b_neq, b_lss, b_leq, b_gtr, b_geq, vNot_b, vIf_b, vPick_b, vGuard_b, vGuard_u, vFieldAddr_p, vLenS_n, vLenS_s, vExt_t, vAlloc_e, vBox_e, vBuild_0, chk_true, jn_e, vCallV_e]
  by_cases h : la = lb
  · rw [if_pos h, if_pos ⟨h, h1, h2, h3⟩]
  · rw [if_neg h, if_neg (fun q => h q.1)]
theorem one22 : One prg 22 3 8 := ⟨by kernel_rfl, by kernel_rfl⟩
theorem slit0 (M : Mm) (KM : X → Mm → CX) : vSlit prg 22 0 [] M KM = KM (.v (.sl M.nx 0 0 (.is 0))) ⟨(M.nx, ⟨3, 1, [], false, false⟩) :: M.H, M.nx + 1, M.lw⟩ := by kernel_rfl
theorem eqnil (M : Mm) (KM : X → Mm → CX) (id off k : Nat) (c : Cap) : vBinG prg .eql 22 (.v (.sl id off k c)) (.v .nils) M KM = KM (.b false) M := by kernel_rfl
theorem allOne_i (l : List Int) : allOne (l.map iV) = true := by
  induction l with
  | nil => rfl
  | cons a l ih => exact ih
/-- a copy of a list that is not empty -/
theorem c32 (n m : Nat) {l : List Int} (hne : l ≠ []) (hm : l.length < 4294967296) {v : V} (hr : Row M.nx M.H v (l.map iV)) (hf : Fresh M) : Ret (cx (n + 1) m 32 [.v v] M) M fun x H => ∃ id, x = .v (.sl id 0 l.length (.rest 0)) ∧ M.nx ≤ id ∧ lookC H id = some ⟨3, 1, l.map iV, true, false⟩ := by
  rw [cx, q32 rfl]
  have hv := hr
  rcases hv with ⟨rfl, h⟩ | ⟨id, off, c, b, rfl, h1, h2, h3⟩
  · simp at h; exact absurd h hne
  have f1 := Fresh.new (M := ⟨M.H, M.nx, M.nx⟩) hf ⟨3, 1, [], false, false⟩ M.nx
  have k1 := Keep.new (M := ⟨M.H, M.nx, M.nx⟩) hf (b := ⟨3, 1, [], false, false⟩) rfl M.nx
  have hr1 := Row.keep (M := ⟨M.H, M.nx, M.nx⟩) hr k1
  have ha := fun KM => app_full (KM := KM) (M := ⟨(M.nx, ⟨3, 1, [], false, false⟩) :: M.H, M.nx + 1, M.nx⟩) (id := M.nx) (off := 0) one22 (lookC_eq' _ rfl) hr1 (by simpa using hne) (allOne_i l) (by simp [maxBytes]; omega) (by simp [maxBytes]; omega) (Nat.zero_le _)
  simp only [d32, d32_1, eqnil, slit0, ha, toX_int, toX_bool, toX_str, toX_nils, toX_nilp, toX_ptr, toX_sl, toX_agg, toX_tup, toV_i, toV_b, toV_v, cells_i, cells_b, cells_agg, cells_sl, cells_nils, cells_str, cells_ptr, oC_some, vBin_i, b_add, b_sub, b_mul, b_eql, b_neq, b_lss, b_leq, b_gtr, b_geq, vNot_b, vIf_b, vPick_b, vGuard_b, vGuard_u, vFieldAddr_p, vLenS_n, vLenS_s, vExt_t, vAlloc_e, vBox_e, vBuild_0, chk_true, jn_e, vCallV_e, decide_true, decide_false, if_true, if_false, Bool.false_eq_true, Bool.true_eq_false, Bool.not_true, Bool.not_false, Nat.zero_add, Nat.add_zero, Nat.reduceAdd, List.getElem?_cons_zero, List.getElem?_cons_succ, vLoad1_p, one_int, one_bool, one_str, one_sl, one_nils, one_ptr]
  have k2 := Keep.new (M := ⟨(M.nx, ⟨3, 1, [], false, false⟩) :: M.H, M.nx + 1, M.nx⟩) f1 (b := ⟨3, 1, l.map iV, true, false⟩) rfl M.nx
  have f2 := Fresh.new (M := ⟨(M.nx, ⟨3, 1, [], false, false⟩) :: M.H, M.nx + 1, M.nx⟩) f1 ⟨3, 1, l.map iV, true, false⟩ M.nx
  exact Ret.fin1h (k1.trans k2) f2 rfl ⟨M.nx + 1, by simp only [toX_int, toX_bool, toX_str, toX_nils, toX_nilp, toX_ptr, toX_sl, toX_agg, toX_tup, toV_i, toV_b, toV_v, cells_i, cells_b, cells_agg, cells_sl, cells_nils, cells_str, cells_ptr, oC_some, vBin_i, b_add, b_sub, b_mul, b_eql, b_neq, b_lss, b_leq, b_gtr, b_geq, vNot_b, vIf_b, vPick_b, vGuard_b, vGuard_u, vFieldAddr_p, vLenS_n, vLenS_s, vExt_t, vAlloc_e, vBox_e, vBuild_0, chk_true, jn_e, vCallV_e, List.length_map], by omega, lookC_eq' _ rfl⟩
theorem c31 (n m : Nat) {l : List Int} {id : Nat} (hb : lookC M.H id = some ⟨3, 1, l.map iV, true, false⟩) (hf : Fresh M) : Ret (cx (n + 1) m 31 [.v (.sl id 0 l.length (.rest 0))] M) M fun x H => x = .v (.sl id 0 l.length (.is l.length)) ∧ H = M.H := by
  rw [cx, q31 rfl]
  have hc := fun KM => clip_rest (KM := KM) (M := ⟨M.H, M.nx, M.nx⟩) (n := l.length) one22 hb (by simp) (fun _ => rfl)
  simp only [d31, d31_1, toX_int, toX_bool, toX_str, toX_nils, toX_nilp, toX_ptr, toX_sl, toX_agg, toX_tup, toV_i, toV_b, toV_v, cells_i, cells_b, cells_agg, cells_sl, cells_nils, cells_str, cells_ptr, oC_some, vBin_i, b_add, b_sub, b_mul, b_eql, b_neq, b_lss, b_leq, b_gtr, b_geq, vNot_b, vIf_b, vPick_b, vGuard_b, vGuard_u, vFieldAddr_p, vLenS_n, vLenS_s, vExt_t, vAlloc_e, vBox_e, vBuild_0, chk_true, jn_e, vCallV_e, hc]
  exact Ret.fin1h (Keep.refl hf) hf rfl ⟨by simp only [toX_int, toX_bool, toX_str, toX_nils, toX_nilp, toX_ptr, toX_sl, toX_agg, toX_tup, toV_i, toV_b, toV_v, cells_i, cells_b, cells_agg, cells_sl, cells_nils, cells_str, cells_ptr, oC_some, vBin_i, b_add, b_sub, b_mul, b_eql, b_neq, b_lss, b_leq, b_gtr, b_geq, vNot_b, vIf_b, vPick_b, vGuard_b, vGuard_u, vFieldAddr_p, vLenS_n, vLenS_s, vExt_t, vAlloc_e, vBox_e, vBuild_0, chk_true, jn_e, vCallV_e], rfl⟩
end Go.Proofs.Ytehbfajmileefaa.Px

/-
  Turns: who is able; New.
-/
namespace Go.Proofs.Ytehbfajmileefaa.Px
open Go.RowKit Go.Proofs.Ytehbfajmileefaa.Vx Go.Proofs.Ytehbfajmileefaa.Fx
set_option linter.unusedVariables false
set_option linter.unusedSimpArgs false
set_option maxRecDepth 10000
variable {M : Mm}
theorem eqb (M : Mm) (KM : X → Mm → CX) (a b : Bool) : vBinG prg .eql 4 (.b a) (.b b) M KM = KM (.b (decide (a = b))) M := by cases a <;> cases b <;> kernel_rfl
theorem l38 (n m : Nat) {z : X} {kr : X → X → Mm → CX} {k0 : X → Mm → CX} {l : List Bool} (hm : l.length < 4294967296) {v : V} (hr : Row M.nx M.H v (l.map bV)) : ∀ (r j : Nat), j + r = l.length → ∀ (j' : Nat), r < j' →
    ∃ i : Nat, d38_5 (cx n m) m kr k0 j' (.v v) (.b true) (.i .i64 l.length) (.i .i64 j) z M = if (l.drop j).any id = true then kr z (.i .i64 i) M else k0 z M
  | r, j, hj, 0, h0 => by omega
  | 0, j, hj, j' + 1, h0 => by
    refine ⟨0, ?_⟩
    simp only [d38_5, toX_int, toX_bool, toX_str, toX_nils, toX_nilp, toX_ptr, toX_sl, toX_agg, toX_tup, toV_i, toV_b, toV_v, cells_i, cells_b, cells_agg, cells_sl, cells_nils, cells_str, cells_ptr, oC_some, vBin_i, b_add, b_sub, b_mul, b_eql, b_neq, b_lss, b_leq, b_gtr, b_geq, vNot_b, vIf_b, vPick_b, vGuard_b, vGuard_u, vFieldAddr_p, vLenS_n, vLenS_s, vExt_t, vAlloc_e, vBox_e, vBuild_0, chk_true, jn_e, vCallV_e, decide_true, decide_false, if_true, if_false, Bool.false_eq_true, Bool.true_eq_false, Bool.not_true, Bool.not_false, Nat.zero_add, Nat.add_zero, Nat.reduceAdd, List.getElem?_cons_zero, List.getElem?_cons_succ, vLoad1_p, one_int, one_bool, one_str, one_sl, one_nils, one_ptr, decide_eq_false (show ¬ ((j : Int) < l.length) by omega)]
    rw [List.drop_eq_nil_of_le (by omega)]; rfl
  | r + 1, j, hj, j' + 1, h0 => by
    have hjl : j < l.length := by omega
    obtain ⟨ii, o, g1, g2, -, g3⟩ := hr.get (i := j) (by simpa using hjl)
    have g4 : ∀ K : X → CX, vLoad1 (.v (.ptr ii o)) M K = K (.b l[j]) := fun K => by rw [g3 M rfl (by simp [one_bool])]; simp [toX_bool]
    rw [List.drop_eq_getElem_cons hjl, List.any_cons]
    simp only [d38_5, toX_int, toX_bool, toX_str, toX_nils, toX_nilp, toX_ptr, toX_sl, toX_agg, toX_tup, toV_i, toV_b, toV_v, cells_i, cells_b, cells_agg, cells_sl, cells_nils, cells_str, cells_ptr, oC_some, vBin_i, b_add, b_sub, b_mul, b_eql, b_neq, b_lss, b_leq, b_gtr, b_geq, vNot_b, vIf_b, vPick_b, vGuard_b, vGuard_u, vFieldAddr_p, vLenS_n, vLenS_s, vExt_t, vAlloc_e, vBox_e, vBuild_0, chk_true, jn_e, vCallV_e, decide_eq_true (show (j : Int) < l.length by omega), if_true, g1, g4, eqb]
    cases hw : l[j] with
    | true => exact ⟨j, by simp⟩
    | false =>
      obtain ⟨i, e⟩ := l38 n m (z := z) (kr := kr) (k0 := k0) hm hr r (j + 1) (by omega) j' (by omega)
      refine ⟨i, ?_⟩
      rw [wrap64 (by omega) (by omega)]
      simp only [Bool.true_eq_false, decide_false, Bool.false_eq_true, if_false, id, Bool.false_or]
      exact e
theorem c38 (n m : Nat) {l : List Bool} (hl : l.length < m) (hm : l.length < 4294967296) {v : V} (hr : Row M.nx M.H v (l.map bV)) (hf : Fresh M) : Ret (cx (n + 1) m 38 [.v v, .b true] M) M fun x _ => ∃ i : Int, x = .i .i64 i ∧ (0 ≤ i ↔ l.any id = true) := by
  rw [cx, q38 rfl]
  simp only [d38, d38_1, d38_2, d38_3, d38_4, hr.len, List.length_map]
  obtain ⟨i, e⟩ := l38 (M := ⟨M.H, M.nx, M.nx⟩) n m (z := .v .undef) (kr := fun z r0 M' => finD prg tabP m (cx n m) M.nx z [(.tmp 4, r0)] M') (k0 := fun t511 M' => finD prg tabP m (cx n m) M.nx t511 [(.tmp 4, .i .i64 (-1))] M') hm hr l.length 0 (by omega) m hl
  refine Ret.of_eq e ?_
  rw [List.drop_zero]
  cases h : l.any id with
  | true => rw [if_pos rfl]; exact Ret.fin1 (Keep.refl hf) hf rfl fun H => ⟨i, rfl, by simp⟩
  | false => rw [if_neg (by simp)]; exact Ret.fin1 (Keep.refl hf) hf rfl fun H => ⟨-1, rfl, by simp⟩
theorem c34 (n m : Nat) {l : List Bool} (hl : l.length < m) (hm : l.length < 4294967296) {v : V} (hr : Row M.nx M.H v (l.map bV)) (hf : Fresh M) : Ret (cx (n + 2) m 34 [.v v, .b true] M) M fun x _ => x = .b (l.any id) := by
  rw [cx, q34 rfl]
  obtain ⟨x, M1, e, k1, f1, i, rfl, hi⟩ := (c38 (M := ⟨M.H, M.nx, M.nx⟩) n m hl hm hr hf).call
  simp only [d34, d34_1, e, toX_int, toX_bool, toX_str, toX_nils, toX_nilp, toX_ptr, toX_sl, toX_agg, toX_tup, toV_i, toV_b, toV_v, cells_i, cells_b, cells_agg, cells_sl, cells_nils, cells_str, cells_ptr, oC_some, vBin_i, b_add, b_sub, b_mul, b_eql, b_neq, b_lss, b_leq, b_gtr, b_geq, vNot_b, vIf_b, vPick_b, vGuard_b, vGuard_u, vFieldAddr_p, vLenS_n, vLenS_s, vExt_t, vAlloc_e, vBox_e, vBuild_0, chk_true, jn_e, vCallV_e]
  refine Ret.fin1 k1 f1 rfl fun H => ?_
  simp only [toX_int, toX_bool, toX_str, toX_nils, toX_nilp, toX_ptr, toX_sl, toX_agg, toX_tup, toV_i, toV_b, toV_v, cells_i, cells_b, cells_agg, cells_sl, cells_nils, cells_str, cells_ptr, oC_some, vBin_i, b_add, b_sub, b_mul, b_eql, b_neq, b_lss, b_leq, b_gtr, b_geq, vNot_b, vIf_b, vPick_b, vGuard_b, vGuard_u, vFieldAddr_p, vLenS_n, vLenS_s, vExt_t, vAlloc_e, vBox_e, vBuild_0, chk_true, jn_e, vCallV_e]
  congr 1
  rw [Bool.eq_iff_iff, decide_eq_true_iff]
  exact hi
/-- zero turns -/
abbrev zB : Blk := ⟨24, 4, [.nils, .int .i64 (.int (0)), .int .i64 (.int (0)), .int .i64 (.int (0))], false, false⟩
theorem part24 (a b c d : V) : partV prg 24 [a, b, c, d] 0 = some (.agg [a, b, c, d]) := by kernel_rfl
/-- New, of right weights -/
theorem c10 (n m : Nat) {ws : List Int} (hl : ws.length < m) (hw : wE ws = 0) {v : V} (hr : Row M.nx M.H v (ws.map iV)) (hf : Fresh M) :
    Ret (cx (n + 6) m 10 [.v v] M) M fun x H => ∃ id, x = .v (.tup [tV (.sl id 0 ws.length (.is ws.length)) 0 (ws.getD 0 0) 0, iV 0]) ∧ M.nx ≤ id ∧ lookC H id = some ⟨3, 1, ws.map iV, true, false⟩ := by
  obtain ⟨w1, w2, w3⟩ := wE_ok hw
  have hne : ws ≠ [] := by intro h; rw [h] at w1; simp at w1
  rw [cx, q10 rfl]
  have k1 := Keep.new (M := ⟨M.H, M.nx, M.nx⟩) hf (b := zB) rfl M.nx
  have f1 := Fresh.new (M := ⟨M.H, M.nx, M.nx⟩) hf zB M.nx
  have hr1 := Row.keep (M := ⟨M.H, M.nx, M.nx⟩) hr k1
  obtain ⟨x, M2, e, k2, f2, rfl⟩ := (c30 (M := ⟨(M.nx, zB) :: M.H, M.nx + 1, M.nx⟩) n m hl (by omega) hr1 f1).call
  have hr2 := hr1.keep k2
  obtain ⟨x, M4, e4, k4, f4, id, rfl, hid, hb⟩ := (c32 (M := M2) (n + 4) m hne (by omega) hr2 f2).call
  obtain ⟨x, M5, e5, k5, f5, rfl, hH⟩ := (c31 (M := M4) (n + 4) m hb f4).call
  have hr5 := (hr2.keep k4).keep k5
  have z5 := at_new (k2.trans (k4.trans k5)) rfl
  obtain ⟨id', o, g1, g2, g5, g3⟩ := hr2.get (i := 0) (by simp; omega)
  have hg5 : ∀ K : X → CX, vLoad1 (.v (.ptr id' o)) M5 K = K (.i .i64 ws[0]) := fun K => by
    rw [g3 M5 (by rw [k5.old id' (Nat.lt_of_lt_of_le g2 k4.nx), k4.old id' g2]) (by simp [one_int])]; simp [toX_int]
  have hg0 : ws.getD 0 0 = ws[0] := by rw [List.getD_eq_getElem?_getD, List.getElem?_eq_getElem (by omega)]; rfl
  have p1 : Pst true false (.v v) M2 M2 none := Pst_of hr.ok
  have p2 : Pst true true (.v (.sl id 0 ws.length (.rest 0))) M2 M4 (some (none, [])) := Pst_k (by simp [X.toV]) k4
  have p3 : Pst true true (.v (.sl id 0 ws.length (.is ws.length))) M4 M5 (some (none, [])) := Pst_k (by simp [X.toV]) k5
  have p4 : Pst true false (.v v) M5 M5 none := Pst_of hr.ok
  have p5 : Pst true false (.v (.ptr id' o)) M5 M5 none := Pst_of (by simp [X.toV])
  have p6 : Old M2.nx (.v (.ptr id' o)) := Old_p g2
  have p7 : Pst true false (.i .i64 ws[0]) M5 M5 none := Pst_of (by simp [X.toV])
  obtain ⟨lw, st⟩ := storeN_of (M := M5) (n := 4) (off := 0) (l := [.sl id 0 ws.length (.is ws.length), .int .i64 (.int (0)), iV ws[0], .int .i64 (.int (0))]) z5 rfl rfl rfl (by simp)
  have p8 : Pst true false (.v (.agg [.sl id 0 ws.length (.is ws.length), .int .i64 (.int (0)), iV ws[0], .int .i64 (.int (0))])) M5 M5 none := Pst_of (by simp [X.toV])
  have p9 : ∀ lw, Pst false true (.v .undef) M5 ⟨upd M5.H M.nx { zB with cells := put1 zB.cells 0 [.sl id 0 ws.length (.is ws.length), .int .i64 (.int (0)), iV ws[0], .int .i64 (.int (0))] }, M5.nx, lw⟩ none := fun lw => Pst_u (Nat.le_refl _)
  have p10 : ∀ M', Pst true false (.i .i64 0) M' M' none := fun M' => Pst_of (by simp [X.toV])
  have bld : ∀ K : X → CX, vBuild [.nils, .int .i64 (.int (0)), .int .i64 (.int (0)), .int .i64 (.int (0))] [(0, 1, .v (.sl id 0 ws.length (.is ws.length))), (2, 1, .i .i64 ws[0])] K = K (.v (.agg [.sl id 0 ws.length (.is ws.length), .int .i64 (.int (0)), iV ws[0], .int .i64 (.int (0))])) := fun K => by kernel_rfl
  simp only [d10, d10_1, toX_int, toX_bool, toX_str, toX_nils, toX_nilp, toX_ptr, toX_sl, toX_agg, toX_tup, toV_i, toV_b, toV_v, cells_i, cells_b, cells_agg, cells_sl, cells_nils, cells_str, cells_ptr, oC_some, vBin_i, b_add, b_sub, b_mul, b_eql, b_neq, b_lss, b_leq, b_gtr, b_geq, vNot_b, vIf_b, vPick_b, vGuard_b, vGuard_u, vFieldAddr_p, vLenS_n, vLenS_s, vExt_t, vAlloc_e, vBox_e, vBuild_0, chk_true, jn_e, vCallV_e, e, hw, decide_true, Bool.not_true, Bool.false_eq_true, if_false, chk_of p1, e4, chk_of p2, e5, chk_of p3, chk_of p4]
  have g1' : ∀ K : X → CX, vIndexAddr 1 (.v v) (.i .i64 0) K = K (.v (.ptr id' o)) := g1
  simp only [g1', chk_of p5, chk_of p6, hg5, chk_of p7, bld, chk_of p8, st, chk_of (p9 _), chk_of (p10 _)]
  simp only [finD_u, outD, resD, toV_v, toV_i, upd_at z5, Option.bind_some, Option.map_some, put1, List.take_zero, List.nil_append, List.length_cons, List.length_nil, List.drop_succ_cons, List.drop_nil, List.append_nil, Nat.zero_add, Nat.reduceAdd, part24]
  have kk := (((k1.trans k2).trans k4).trans k5).upd (id := M.nx) (cs := [.sl id 0 ws.length (.is ws.length), .int .i64 (.int (0)), iV ws[0], .int .i64 (.int (0))]) z5 (Nat.le_refl _) rfl lw
  refine Ret.val kk (Fresh.upd f5 _ _ _) rfl rfl ⟨fun h => absurd h (by simp [V.plainL, V.plain]), fun _ => ⟨id, ?_, ?_, ?_⟩⟩
  · rw [hg0]; rfl
  · have := k2.nx; simp at this; omega
  · rw [upd_ne z5 (by have := k2.nx; simp at this; omega), hH]; exact hb
end Go.Proofs.Ytehbfajmileefaa.Px

/-
  Turns: New of wrong weights; Next.
-/
namespace Go.Proofs.Ytehbfajmileefaa.Px
open Go.RowKit Go.Proofs.Ytehbfajmileefaa.Vx Go.Proofs.Ytehbfajmileefaa.Fx
set_option linter.unusedVariables false
set_option linter.unusedSimpArgs false
set_option maxRecDepth 10000
variable {M : Mm}
theorem c10b (n m : Nat) {ws : List Int} (hl : ws.length < m) (hm : ws.length < 4294967296) (hw : ¬ wE ws = 0) {v : V} (hr : Row M.nx M.H v (ws.map iV)) (hf : Fresh M) :
    Ret (cx (n + 6) m 10 [.v v] M) M fun x H => x = .v (.tup [tV .nils 0 0 0, iV (wE ws)]) := by
  rw [cx, q10 rfl]
  have k1 := Keep.new (M := ⟨M.H, M.nx, M.nx⟩) hf (b := zB) rfl M.nx
  have f1 := Fresh.new (M := ⟨M.H, M.nx, M.nx⟩) hf zB M.nx
  have hr1 := Row.keep (M := ⟨M.H, M.nx, M.nx⟩) hr k1
  obtain ⟨x, M2, e, k2, f2, rfl⟩ := (c30 (M := ⟨(M.nx, zB) :: M.H, M.nx + 1, M.nx⟩) n m hl hm hr1 f1).call
  have z2 := at_new k2 rfl
  obtain ⟨lw, st⟩ := storeN_of (M := M2) (n := 4) (off := 0) (l := zB.cells) z2 rfl rfl rfl (by simp)
  simp only [d10, d10_1, toX_int, toX_bool, toX_str, toX_nils, toX_nilp, toX_ptr, toX_sl, toX_agg, toX_tup, toV_i, toV_b, toV_v, cells_i, cells_b, cells_agg, cells_sl, cells_nils, cells_str, cells_ptr, oC_some, vBin_i, b_add, b_sub, b_mul, b_eql, b_neq, b_lss, b_leq, b_gtr, b_geq, vNot_b, vIf_b, vPick_b, vGuard_b, vGuard_u, vFieldAddr_p, vLenS_n, vLenS_s, vExt_t, vAlloc_e, vBox_e, vBuild_0, chk_true, jn_e, vCallV_e, e, decide_eq_false hw, Bool.not_false, if_true, st]
  simp only [finD_u, outD, resD, toV_v, toV_i, upd_at z2, Option.bind_some, Option.map_some, put1, List.take_zero, List.nil_append, List.length_cons, List.length_nil, List.drop_succ_cons, List.drop_nil, List.append_nil, Nat.zero_add, Nat.reduceAdd, part24]
  have kk := (k1.trans k2).upd (id := M.nx) (cs := zB.cells) z2 (Nat.le_refl _) rfl lw
  exact Ret.val kk (Fresh.upd f2 _ _ _) rfl rfl ⟨fun _ H => rfl, fun h => absurd h (by simp [V.plainL, V.plain])⟩
/-- a block of one's own was written -/
structure Upd (t : Nat) (M M' : Mm) : Prop where
  nx : M'.nx = M.nx
  keep : ∀ M0 : Mm, Keep M0 M → M0.nx ≤ t → Keep M0 M'
  fresh : Fresh M → Fresh M'
  other : ∀ id, id ≠ t → lookC M'.H id = lookC M.H id
theorem Upd.refl (t : Nat) (M : Mm) : Upd t M M := ⟨rfl, fun _ h _ => h, fun h => h, fun _ _ => rfl⟩
theorem Upd.trans {t : Nat} {A B C : Mm} (h : Upd t A B) (k : Upd t B C) : Upd t A C := ⟨k.nx.trans h.nx, fun M0 a b => k.keep M0 (h.keep M0 a b) b, fun f => k.fresh (h.fresh f), fun id hi => (k.other id hi).trans (h.other id hi)⟩
theorem Row.u {t : Nat} {A B : Mm} {v : V} {cs : List V} (h : Row A.nx A.H v cs) (hv : idV v ≠ some t) (k : Upd t A B) : Row B.nx B.H v cs := by
  rcases h with h | ⟨i, off, c, b', h1, h2, h3, h4⟩
  · exact .inl h
  · refine .inr ⟨i, off, c, b', h1, by rw [k.nx]; exact h2, ?_, h4⟩
    rw [k.other i (fun e => hv (by rw [h1, e]; rfl))]; exact h3
theorem sT1 {t : Nat} {v : V} {a b c : Int} (x : Int) (hb : lookC M.H t = some (tB v a b c)) : ∃ M', (∀ KM : X → Mm → CX, vStore1 (.v (.ptr t 1)) (.i .i64 x) M KM = KM (.v .undef) M') ∧ lookC M'.H t = some (tB v x b c) ∧ Upd t M M' := by
  obtain ⟨lw, st⟩ := store1_of (M := M) (off := 1) (x := .i .i64 x) hb rfl rfl (by simp)
  exact ⟨_, st, upd_at hb, rfl, fun M0 k h => k.upd hb h rfl _, fun f => Fresh.upd f _ _ _, fun id hi => upd_ne hb (Ne.symm hi)⟩
theorem sT2 {t : Nat} {v : V} {a b c : Int} (x : Int) (hb : lookC M.H t = some (tB v a b c)) : ∃ M', (∀ KM : X → Mm → CX, vStore1 (.v (.ptr t 2)) (.i .i64 x) M KM = KM (.v .undef) M') ∧ lookC M'.H t = some (tB v a x c) ∧ Upd t M M' := by
  obtain ⟨lw, st⟩ := store1_of (M := M) (off := 2) (x := .i .i64 x) hb rfl rfl (by simp)
  exact ⟨_, st, upd_at hb, rfl, fun M0 k h => k.upd hb h rfl _, fun f => Fresh.upd f _ _ _, fun id hi => upd_ne hb (Ne.symm hi)⟩
theorem sT3 {t : Nat} {v : V} {a b c : Int} (x : Int) (hb : lookC M.H t = some (tB v a b c)) : ∃ M', (∀ KM : X → Mm → CX, vStore1 (.v (.ptr t 3)) (.i .i64 x) M KM = KM (.v .undef) M') ∧ lookC M'.H t = some (tB v a b x) ∧ Upd t M M' := by
  obtain ⟨lw, st⟩ := store1_of (M := M) (off := 3) (x := .i .i64 x) hb rfl rfl (by simp)
  exact ⟨_, st, upd_at hb, rfl, fun M0 k h => k.upd hb h rfl _, fun f => Fresh.upd f _ _ _, fun id hi => upd_ne hb (Ne.symm hi)⟩
theorem sT0 {t : Nat} {v : V} {a b c : Int} {x : V} (hx : x.one = true) (hb : lookC M.H t = some (tB v a b c)) : ∃ M', (∀ KM : X → Mm → CX, vStore1 (.v (.ptr t 0)) (.v x) M KM = KM (.v .undef) M') ∧ lookC M'.H t = some (tB x a b c) ∧ Upd t M M' := by
  obtain ⟨lw, st⟩ := store1_of (M := M) (off := 0) (x := .v x) hb rfl hx (by simp)
  exact ⟨_, st, upd_at hb, rfl, fun M0 k h => k.upd hb h rfl _, fun f => Fresh.upd f _ _ _, fun id hi => upd_ne hb (Ne.symm hi)⟩
theorem sTN {t : Nat} {v x : V} {a b c d e f : Int} (hx : x.one = true) (hb : lookC M.H t = some (tB v a b c)) : ∃ M', (∀ KM : X → Mm → CX, vStoreN 4 (.v (.ptr t 0)) (.v (.agg [x, .int .i64 (.int d), .int .i64 (.int e), .int .i64 (.int f)])) M KM = KM (.v .undef) M') ∧ lookC M'.H t = some (tB x d e f) ∧ Upd t M M' ∧ KeepX (some t) M M' := by
  obtain ⟨lw, st⟩ := storeN_of (M := M) (n := 4) (off := 0) (l := [x, .int .i64 (.int d), .int .i64 (.int e), .int .i64 (.int f)]) hb rfl rfl (by simp [allOne, hx, one_int]) (by simp)
  exact ⟨_, st, upd_at hb, ⟨rfl, fun M0 k h => k.upd hb h rfl _, fun f => Fresh.upd f _ _ _, fun id hi => upd_ne hb (Ne.symm hi)⟩, KeepX.upd hb rfl _⟩
theorem stT_shift (ws : List Int) (s : Nat × Int × Int) : ∀ i, stT ws s (i + 1) = stT ws (stepT ws s) i
  | 0 => rfl
  | i + 1 => by show stepT ws (stT ws s (i + 1)) = stepT ws (stT ws (stepT ws s) i); rw [stT_shift ws s i]
theorem l17 (n m : Nat) {z : X} {kr : X → X → X → X → X → Mm → CX} {k0 : X → X → Mm → CX} {ws : List Int} {ab : List Bool} {t4 : Nat} {va vs : V} (hl : ab.length = ws.length) (hm : ws.length < 4294967296) (hva : idV va ≠ some t4) (hvs : idV vs ≠ some t4) :
    ∀ (r : Nat) (s : Nat × Int × Int), s.1 < ws.length → 0 ≤ s.2.2 → s.2.2 + r < 9223372036854775807 → okT ab (stT ws s r) = true → (∀ j, j < r → okT ab (stT ws s j) = false) → ∀ j', r < j' → ∀ M : Mm, lookC M.H t4 = some (tB vs s.1 s.2.1 s.2.2) → Row M.nx M.H va (ab.map bV) → Row M.nx M.H vs (ws.map iV) →
      ∃ M', Upd t4 M M' ∧ lookC M'.H t4 = some (tB vs (stT ws s r).1 (stT ws s r).2.1 (stT ws s r).2.2) ∧ d17_10 (cx n m) m kr k0 j' (.v va) (.v (.ptr t4 0)) z M = k0 (.v (.ptr t4 0)) z M' := by
  intro r
  induction r with
  | zero =>
    intro s h1 h2 h3 hok hno j' hj M hb ra rs
    obtain ⟨j', rfl⟩ : ∃ q, j' = q + 1 := ⟨j' - 1, by omega⟩
    refine ⟨M, Upd.refl _ _, hb, ?_⟩
    simp only [stT, okT, Bool.and_eq_true] at hok
    have hs : s.1 < ab.length := by omega
    have hc : 0 < s.2.1 := of_decide_eq_true hok.1
    obtain ⟨id', o, g1, g2, -, g3⟩ := ra.get (i := s.1) (by simpa using hs)
    have hab : ab[s.1] = true := by have := hok.2; rw [List.getD_eq_getElem?_getD, List.getElem?_eq_getElem hs] at this; simpa using this
    have g4 : ∀ K : X → CX, vLoad1 (.v (.ptr id' o)) M K = K (.b true) := fun K => by rw [g3 M rfl (by simp [one_bool])]; simp [toX_bool, hab]
    have s1 : ∀ K : X → CX, vLoad1 (.v (.ptr t4 1)) M K = K (.i .i64 s.1) := fun K => by simp only [toX_int, toX_bool, toX_str, toX_nils, toX_nilp, toX_ptr, toX_sl, toX_agg, toX_tup, toV_i, toV_b, toV_v, cells_i, cells_b, cells_agg, cells_sl, cells_nils, cells_str, cells_ptr, oC_some, vBin_i, b_add, b_sub, b_mul, b_eql, b_neq, b_lss, b_leq, b_gtr, b_geq, vNot_b, vIf_b, vPick_b, vGuard_b, vGuard_u, vFieldAddr_p, vLenS_n, vLenS_s, vExt_t, vAlloc_e, vBox_e, vBuild_0, chk_true, jn_e, vCallV_e, decide_true, decide_false, if_true, if_false, Bool.false_eq_true, Bool.true_eq_false, Bool.not_true, Bool.not_false, Nat.zero_add, Nat.add_zero, Nat.reduceAdd, List.getElem?_cons_zero, List.getElem?_cons_succ, vLoad1_p, one_int, one_bool, one_str, one_sl, one_nils, one_ptr, hb]
    have s2 : ∀ K : X → CX, vLoad1 (.v (.ptr t4 2)) M K = K (.i .i64 s.2.1) := fun K => by simp only [toX_int, toX_bool, toX_str, toX_nils, toX_nilp, toX_ptr, toX_sl, toX_agg, toX_tup, toV_i, toV_b, toV_v, cells_i, cells_b, cells_agg, cells_sl, cells_nils, cells_str, cells_ptr, oC_some, vBin_i, b_add, b_sub, b_mul, b_eql, b_neq, b_lss, b_leq, b_gtr, b_geq, vNot_b, vIf_b, vPick_b, vGuard_b, vGuard_u, vFieldAddr_p, vLenS_n, vLenS_s, vExt_t, vAlloc_e, vBox_e, vBuild_0, chk_true, jn_e, vCallV_e, decide_true, decide_false, if_true, if_false, Bool.false_eq_true, Bool.true_eq_false, Bool.not_true, Bool.not_false, Nat.zero_add, Nat.add_zero, Nat.reduceAdd, List.getElem?_cons_zero, List.getElem?_cons_succ, vLoad1_p, one_int, one_bool, one_str, one_sl, one_nils, one_ptr, hb]
    simp only [d17_10, toX_int, toX_bool, toX_str, toX_nils, toX_nilp, toX_ptr, toX_sl, toX_agg, toX_tup, toV_i, toV_b, toV_v, cells_i, cells_b, cells_agg, cells_sl, cells_nils, cells_str, cells_ptr, oC_some, vBin_i, b_add, b_sub, b_mul, b_eql, b_neq, b_lss, b_leq, b_gtr, b_geq, vNot_b, vIf_b, vPick_b, vGuard_b, vGuard_u, vFieldAddr_p, vLenS_n, vLenS_s, vExt_t, vAlloc_e, vBox_e, vBuild_0, chk_true, jn_e, vCallV_e, Nat.zero_add, s1, s2, decide_eq_true hc, if_true, g1, g4]
  | succ r ih =>
    intro s h1 h2 h3 hok hno j' hj M hb ra rs
    obtain ⟨j', rfl⟩ : ∃ q, j' = q + 1 := ⟨j' - 1, by omega⟩
    have hs : s.1 < ab.length := by omega
    obtain ⟨id', o, g1, g2, -, g3⟩ := ra.get (i := s.1) (by simpa using hs)
    have g4 : ∀ K : X → CX, vLoad1 (.v (.ptr id' o)) M K = K (.b ab[s.1]) := fun K => by rw [g3 M rfl (by simp [one_bool])]; simp [toX_bool]
    have s1 : ∀ K : X → CX, vLoad1 (.v (.ptr t4 1)) M K = K (.i .i64 s.1) := fun K => by simp only [toX_int, toX_bool, toX_str, toX_nils, toX_nilp, toX_ptr, toX_sl, toX_agg, toX_tup, toV_i, toV_b, toV_v, cells_i, cells_b, cells_agg, cells_sl, cells_nils, cells_str, cells_ptr, oC_some, vBin_i, b_add, b_sub, b_mul, b_eql, b_neq, b_lss, b_leq, b_gtr, b_geq, vNot_b, vIf_b, vPick_b, vGuard_b, vGuard_u, vFieldAddr_p, vLenS_n, vLenS_s, vExt_t, vAlloc_e, vBox_e, vBuild_0, chk_true, jn_e, vCallV_e, decide_true, decide_false, if_true, if_false, Bool.false_eq_true, Bool.true_eq_false, Bool.not_true, Bool.not_false, Nat.zero_add, Nat.add_zero, Nat.reduceAdd, List.getElem?_cons_zero, List.getElem?_cons_succ, vLoad1_p, one_int, one_bool, one_str, one_sl, one_nils, one_ptr, hb]
    have s2 : ∀ K : X → CX, vLoad1 (.v (.ptr t4 2)) M K = K (.i .i64 s.2.1) := fun K => by simp only [toX_int, toX_bool, toX_str, toX_nils, toX_nilp, toX_ptr, toX_sl, toX_agg, toX_tup, toV_i, toV_b, toV_v, cells_i, cells_b, cells_agg, cells_sl, cells_nils, cells_str, cells_ptr, oC_some, vBin_i, b_add, b_sub, b_mul, b_eql, b_neq, b_lss, b_leq, b_gtr, b_geq, vNot_b, vIf_b, vPick_b, vGuard_b, vGuard_u, vFieldAddr_p, vLenS_n, vLenS_s, vExt_t, vAlloc_e, vBox_e, vBuild_0, chk_true, jn_e, vCallV_e, decide_true, decide_false, if_true, if_false, Bool.false_eq_true, Bool.true_eq_false, Bool.not_true, Bool.not_false, Nat.zero_add, Nat.add_zero, Nat.reduceAdd, List.getElem?_cons_zero, List.getElem?_cons_succ, vLoad1_p, one_int, one_bool, one_str, one_sl, one_nils, one_ptr, hb]
    have hno0 : okT ab s = false := hno 0 (by omega)
    have hab : ab.getD s.1 false = ab[s.1] := by rw [List.getD_eq_getElem?_getD, List.getElem?_eq_getElem hs]; rfl
    -- the round
    obtain ⟨A1, a1, a2, a3⟩ := sT1 (s.1 + 1) hb
    have key : ∀ (G : Mm) (tn' rd' : Int) (p : Nat), Upd t4 M G → lookC G.H t4 = some (tB vs p s.2.1 rd') → p < ws.length → stepT ws s = (p, ws.getD p 0, rd') → 
        ∃ M', Upd t4 M M' ∧ lookC M'.H t4 = some (tB vs (stT ws s (r + 1)).1 (stT ws s (r + 1)).2.1 (stT ws s (r + 1)).2.2) ∧
          (vLoad1 (.v (.ptr t4 0)) G fun t58 => vLoad1 (.v (.ptr t4 1)) G fun t60 => vIndexAddr 1 t58 t60 fun t61 => vLoad1 t61 G fun t62 => vStore1 (.v (.ptr t4 2)) t62 G fun _ M15 => d17_10 (cx n m) m kr k0 j' (.v va) (.v (.ptr t4 0)) z M15) = k0 (.v (.ptr t4 0)) z M' := by
      intro G tn' rd' p u hG hp he
      have rsG := rs.u hvs u
      obtain ⟨i2, o2, q1, q2, -, q3⟩ := rsG.get (i := p) (by simpa using hp)
      have q4 : ∀ K : X → CX, vLoad1 (.v (.ptr i2 o2)) G K = K (.i .i64 ws[p]) := fun K => by rw [q3 G rfl (by simp [one_int])]; simp [toX_int]
      have G0 : ∀ K : X → CX, vLoad1 (.v (.ptr t4 0)) G K = K (.v vs) := fun K => by simp only [toX_int, toX_bool, toX_str, toX_nils, toX_nilp, toX_ptr, toX_sl, toX_agg, toX_tup, toV_i, toV_b, toV_v, cells_i, cells_b, cells_agg, cells_sl, cells_nils, cells_str, cells_ptr, oC_some, vBin_i, b_add, b_sub, b_mul, b_eql, b_neq, b_lss, b_leq, b_gtr, b_geq, vNot_b, vIf_b, vPick_b, vGuard_b, vGuard_u, vFieldAddr_p, vLenS_n, vLenS_s, vExt_t, vAlloc_e, vBox_e, vBuild_0, chk_true, jn_e, vCallV_e, decide_true, decide_false, if_true, if_false, Bool.false_eq_true, Bool.true_eq_false, Bool.not_true, Bool.not_false, Nat.zero_add, Nat.add_zero, Nat.reduceAdd, List.getElem?_cons_zero, List.getElem?_cons_succ, vLoad1_p, one_int, one_bool, one_str, one_sl, one_nils, one_ptr, hG, rs.one, rs.toX]
      have G1 : ∀ K : X → CX, vLoad1 (.v (.ptr t4 1)) G K = K (.i .i64 p) := fun K => by simp only [toX_int, toX_bool, toX_str, toX_nils, toX_nilp, toX_ptr, toX_sl, toX_agg, toX_tup, toV_i, toV_b, toV_v, cells_i, cells_b, cells_agg, cells_sl, cells_nils, cells_str, cells_ptr, oC_some, vBin_i, b_add, b_sub, b_mul, b_eql, b_neq, b_lss, b_leq, b_gtr, b_geq, vNot_b, vIf_b, vPick_b, vGuard_b, vGuard_u, vFieldAddr_p, vLenS_n, vLenS_s, vExt_t, vAlloc_e, vBox_e, vBuild_0, chk_true, jn_e, vCallV_e, decide_true, decide_false, if_true, if_false, Bool.false_eq_true, Bool.true_eq_false, Bool.not_true, Bool.not_false, Nat.zero_add, Nat.add_zero, Nat.reduceAdd, List.getElem?_cons_zero, List.getElem?_cons_succ, vLoad1_p, one_int, one_bool, one_str, one_sl, one_nils, one_ptr, hG]
      obtain ⟨B1, b1, b2, b3⟩ := sT2 ws[p] hG
      have hg : ws.getD p 0 = ws[p] := by rw [List.getD_eq_getElem?_getD, List.getElem?_eq_getElem hp]; rfl
      have uB := u.trans b3
      have hrd : rd' = s.2.2 ∨ rd' = s.2.2 + 1 := by
        unfold stepT at he; split at he
        · right; simpa using (congrArg (fun q => q.2.2) he).symm
        · left; simpa using (congrArg (fun q => q.2.2) he).symm
      have e1 : (stepT ws s).1 = p := by rw [he]
      have e2 : (stepT ws s).2.1 = ws[p] := by rw [he]; exact hg
      have e3 : (stepT ws s).2.2 = rd' := by rw [he]
      obtain ⟨M', w1, w2, w3⟩ := ih (stepT ws s) (by omega) (by omega) (by omega) (by rw [← stT_shift]; exact hok) (fun j hj => by rw [← stT_shift]; exact hno (j + 1) (by omega)) j' (by omega) B1 (by rw [e1, e2, e3]; exact b2) (ra.u hva uB) (rs.u hvs uB)
      refine ⟨M', uB.trans w1, by rw [stT_shift]; exact w2, ?_⟩
      simp only [G0, G1, q1, q4, b1]
      exact w3
    have fin : ∃ M', Upd t4 M M' ∧ lookC M'.H t4 = some (tB vs (stT ws s (r + 1)).1 (stT ws s (r + 1)).2.1 (stT ws s (r + 1)).2.2) ∧
        (vStore1 (.v (.ptr t4 1)) (.i .i64 (IntKind.i64.wrap (s.1 + 1))) M fun _ M12 => vLoad1 (.v (.ptr t4 1)) M12 fun t47 => vLoad1 (.v (.ptr t4 0)) M12 fun t49 => vLenS t49 fun t50 => vBin .eql t47 t50 fun t51 => vIf t51
          (vStore1 (.v (.ptr t4 1)) (.i .i64 0) M12 fun _ M13 => vLoad1 (.v (.ptr t4 3)) M13 fun t54 => vBin .add t54 (.i .i64 1) fun t55 => vStore1 (.v (.ptr t4 3)) t55 M13 fun _ M14 =>
            vLoad1 (.v (.ptr t4 0)) M14 fun t58 => vLoad1 (.v (.ptr t4 1)) M14 fun t60 => vIndexAddr 1 t58 t60 fun t61 => vLoad1 t61 M14 fun t62 => vStore1 (.v (.ptr t4 2)) t62 M14 fun _ M15 => d17_10 (cx n m) m kr k0 j' (.v va) (.v (.ptr t4 0)) z M15)
          (vLoad1 (.v (.ptr t4 0)) M12 fun t58 => vLoad1 (.v (.ptr t4 1)) M12 fun t60 => vIndexAddr 1 t58 t60 fun t61 => vLoad1 t61 M12 fun t62 => vStore1 (.v (.ptr t4 2)) t62 M12 fun _ M15 => d17_10 (cx n m) m kr k0 j' (.v va) (.v (.ptr t4 0)) z M15)) = k0 (.v (.ptr t4 0)) z M' := by
      rw [wrap64 (by omega) (by omega)]
      have G0 : ∀ K : X → CX, vLoad1 (.v (.ptr t4 0)) A1 K = K (.v vs) := fun K => by simp only [toX_int, toX_bool, toX_str, toX_nils, toX_nilp, toX_ptr, toX_sl, toX_agg, toX_tup, toV_i, toV_b, toV_v, cells_i, cells_b, cells_agg, cells_sl, cells_nils, cells_str, cells_ptr, oC_some, vBin_i, b_add, b_sub, b_mul, b_eql, b_neq, b_lss, b_leq, b_gtr, b_geq, vNot_b, vIf_b, vPick_b, vGuard_b, vGuard_u, vFieldAddr_p, vLenS_n, vLenS_s, vExt_t, vAlloc_e, vBox_e, vBuild_0, chk_true, jn_e, vCallV_e, decide_true, decide_false, if_true, if_false, Bool.false_eq_true, Bool.true_eq_false, Bool.not_true, Bool.not_false, Nat.zero_add, Nat.add_zero, Nat.reduceAdd, List.getElem?_cons_zero, List.getElem?_cons_succ, vLoad1_p, one_int, one_bool, one_str, one_sl, one_nils, one_ptr, a2, rs.one, rs.toX]
      have G1 : ∀ K : X → CX, vLoad1 (.v (.ptr t4 1)) A1 K = K (.i .i64 (s.1 + 1)) := fun K => by simp only [toX_int, toX_bool, toX_str, toX_nils, toX_nilp, toX_ptr, toX_sl, toX_agg, toX_tup, toV_i, toV_b, toV_v, cells_i, cells_b, cells_agg, cells_sl, cells_nils, cells_str, cells_ptr, oC_some, vBin_i, b_add, b_sub, b_mul, b_eql, b_neq, b_lss, b_leq, b_gtr, b_geq, vNot_b, vIf_b, vPick_b, vGuard_b, vGuard_u, vFieldAddr_p, vLenS_n, vLenS_s, vExt_t, vAlloc_e, vBox_e, vBuild_0, chk_true, jn_e, vCallV_e, decide_true, decide_false, if_true, if_false, Bool.false_eq_true, Bool.true_eq_false, Bool.not_true, Bool.not_false, Nat.zero_add, Nat.add_zero, Nat.reduceAdd, List.getElem?_cons_zero, List.getElem?_cons_succ, vLoad1_p, one_int, one_bool, one_str, one_sl, one_nils, one_ptr, a2]
      simp only [a1, G0, G1, (rs.u hvs a3).len, List.length_map, toX_int, toX_bool, toX_str, toX_nils, toX_nilp, toX_ptr, toX_sl, toX_agg, toX_tup, toV_i, toV_b, toV_v, cells_i, cells_b, cells_agg, cells_sl, cells_nils, cells_str, cells_ptr, oC_some, vBin_i, b_add, b_sub, b_mul, b_eql, b_neq, b_lss, b_leq, b_gtr, b_geq, vNot_b, vIf_b, vPick_b, vGuard_b, vGuard_u, vFieldAddr_p, vLenS_n, vLenS_s, vExt_t, vAlloc_e, vBox_e, vBuild_0, chk_true, jn_e, vCallV_e]
      by_cases he : s.1 + 1 = ws.length
      · obtain ⟨A2, b1, b2, b3⟩ := sT1 0 a2
        have G3 : ∀ K : X → CX, vLoad1 (.v (.ptr t4 3)) A2 K = K (.i .i64 s.2.2) := fun K => by simp only [toX_int, toX_bool, toX_str, toX_nils, toX_nilp, toX_ptr, toX_sl, toX_agg, toX_tup, toV_i, toV_b, toV_v, cells_i, cells_b, cells_agg, cells_sl, cells_nils, cells_str, cells_ptr, oC_some, vBin_i, b_add, b_sub, b_mul, b_eql, b_neq, b_lss, b_leq, b_gtr, b_geq, vNot_b, vIf_b, vPick_b, vGuard_b, vGuard_u, vFieldAddr_p, vLenS_n, vLenS_s, vExt_t, vAlloc_e, vBox_e, vBuild_0, chk_true, jn_e, vCallV_e, decide_true, decide_false, if_true, if_false, Bool.false_eq_true, Bool.true_eq_false, Bool.not_true, Bool.not_false, Nat.zero_add, Nat.add_zero, Nat.reduceAdd, List.getElem?_cons_zero, List.getElem?_cons_succ, vLoad1_p, one_int, one_bool, one_str, one_sl, one_nils, one_ptr, b2]
        obtain ⟨A3, c1, c2, c3⟩ := sT3 (s.2.2 + 1) b2
        simp only [decide_eq_true (show (s.1 : Int) + 1 = ws.length by omega), if_true, b1, G3, toX_int, toX_bool, toX_str, toX_nils, toX_nilp, toX_ptr, toX_sl, toX_agg, toX_tup, toV_i, toV_b, toV_v, cells_i, cells_b, cells_agg, cells_sl, cells_nils, cells_str, cells_ptr, oC_some, vBin_i, b_add, b_sub, b_mul, b_eql, b_neq, b_lss, b_leq, b_gtr, b_geq, vNot_b, vIf_b, vPick_b, vGuard_b, vGuard_u, vFieldAddr_p, vLenS_n, vLenS_s, vExt_t, vAlloc_e, vBox_e, vBuild_0, chk_true, jn_e, vCallV_e]
        rw [wrap64 (n := s.2.2 + 1) (by omega) (by omega)]
        simp only [c1]
        exact key A3 0 (s.2.2 + 1) 0 (a3.trans (b3.trans c3)) c2 (by omega) (by unfold stepT; rw [if_pos he])
      · simp only [decide_eq_false (show ¬ (s.1 : Int) + 1 = ws.length by omega), Bool.false_eq_true, if_false]
        have h := key A1 (s.1 + 1) s.2.2 (s.1 + 1) a3 (by rw [a2]; rfl) (by omega) (by unfold stepT; rw [if_neg he])
        simp only [G0] at h
        have G1' : ∀ K : X → CX, vLoad1 (.v (.ptr t4 1)) A1 K = K (.i .i64 ((s.1 + 1 : Nat) : Int)) := G1
        exact h.imp fun M' ⟨p, q, e⟩ => ⟨p, q, (G1' _).symm.trans e⟩
    obtain ⟨M', w1, w2, w3⟩ := fin
    refine ⟨M', w1, w2, ?_⟩
    rw [← w3]
    unfold okT at hno0
    rw [hab] at hno0
    by_cases hc : 0 < s.2.1
    · rw [decide_eq_true hc, Bool.true_and] at hno0
      simp only [d17_10, toX_int, toX_bool, toX_str, toX_nils, toX_nilp, toX_ptr, toX_sl, toX_agg, toX_tup, toV_i, toV_b, toV_v, cells_i, cells_b, cells_agg, cells_sl, cells_nils, cells_str, cells_ptr, oC_some, vBin_i, b_add, b_sub, b_mul, b_eql, b_neq, b_lss, b_leq, b_gtr, b_geq, vNot_b, vIf_b, vPick_b, vGuard_b, vGuard_u, vFieldAddr_p, vLenS_n, vLenS_s, vExt_t, vAlloc_e, vBox_e, vBuild_0, chk_true, jn_e, vCallV_e, Nat.zero_add, s1, s2, decide_eq_true hc, if_true, g1, g4, hno0, Bool.false_eq_true, if_false]
    · simp only [d17_10, toX_int, toX_bool, toX_str, toX_nils, toX_nilp, toX_ptr, toX_sl, toX_agg, toX_tup, toV_i, toV_b, toV_v, cells_i, cells_b, cells_agg, cells_sl, cells_nils, cells_str, cells_ptr, oC_some, vBin_i, b_add, b_sub, b_mul, b_eql, b_neq, b_lss, b_leq, b_gtr, b_geq, vNot_b, vIf_b, vPick_b, vGuard_b, vGuard_u, vFieldAddr_p, vLenS_n, vLenS_s, vExt_t, vAlloc_e, vBox_e, vBuild_0, chk_true, jn_e, vCallV_e, Nat.zero_add, s1, s2, decide_eq_false hc, Bool.false_eq_true, if_false]
end Go.Proofs.Ytehbfajmileefaa.Px

/-
  Turns: Next.
-/
namespace Go.Proofs.Ytehbfajmileefaa.Px
open Go.RowKit Go.Proofs.Ytehbfajmileefaa.Vx Go.Proofs.Ytehbfajmileefaa.Fx
set_option linter.unusedVariables false
set_option linter.unusedSimpArgs false
set_option maxRecDepth 10000
variable {M : Mm}
theorem fin17 {m : Nat} {ih : Cl} {nx0 t4 : Nat} {x : V} {a b c p e : Int} {q : Bool} {M' : Mm} (h : lookC M'.H t4 = some (tB x a b c)) :
    finD prg tabP m ih nx0 (.v .undef) [(.cell 4 24, .v (.ptr t4 0)), (.tmp 5, .i .i64 p), (.tmp 6, .b q), (.tmp 7, .i .i64 e)] M' = .val (.v (.tup [tV x a b c, iV p, bV q, iV e])) ⟨dropX (V.plainL [tV x a b c, iV p, bV q, iV e]) nx0 M'.lw M'.H, M'.nx, M'.lw⟩ := by
  simp only [finD_u, outD, resD, toV_v, toV_i, toV_b, h, Option.bind_some, Option.map_some, part24]
  rfl
theorem wE_ne {ws : List Int} (h : wE ws = 0) : ws ≠ [] := by intro e; have := (wE_ok h).1; rw [e] at this; simp at this
theorem c17 (n m : Nat) {ws : List Int} {ab : List Bool} {tn cr rd : Int} (hl : ws.length < m) (hla : ab.length < m) (hm : ws.length < 4294967296) (hma : ab.length < 4294967296) {v va : V} (hr : Row M.nx M.H v (ws.map iV)) (ha : Row M.nx M.H va (ab.map bV)) (hf : Fresh M) :
    Ret (cx (n + 7) m 17 [.v (tV v tn cr rd), .v va] M) M fun x H => ∃ vs, x = .v (.tup [tV vs (nextF ws tn cr rd ab).1.1 (nextF ws tn cr rd ab).1.2.1 (nextF ws tn cr rd ab).1.2.2, iV (max (nextF ws tn cr rd ab).2.1 0), bV (decide (0 ≤ (nextF ws tn cr rd ab).2.1)), iV (nextF ws tn cr rd ab).2.2]) ∧
      (((nextF ws tn cr rd ab).2.2 ≠ 0 ∧ vs = .nils) ∨ ((nextF ws tn cr rd ab).2.2 = 0 ∧ ∃ id, vs = .sl id 0 ws.length (.is ws.length) ∧ M.nx ≤ id ∧ lookC H id = some ⟨3, 1, ws.map iV, true, false⟩)) := by
  rw [cx, q17 rfl]
  have k1 := Keep.new (M := ⟨M.H, M.nx, M.nx⟩) hf (b := tB v tn cr rd) rfl M.nx
  have f1 := Fresh.new (M := ⟨M.H, M.nx, M.nx⟩) hf (tB v tn cr rd) M.nx
  have k2 := Keep.new (M := ⟨(M.nx, tB v tn cr rd) :: M.H, M.nx + 1, M.nx⟩) f1 (b := zB) rfl M.nx
  have f2 := Fresh.new (M := ⟨(M.nx, tB v tn cr rd) :: M.H, M.nx + 1, M.nx⟩) f1 zB M.nx
  have b1 := at_new k2 (b := tB v tn cr rd) rfl
  have b2 := lookC_eq' (i := M.nx + 1) (b := zB) ((M.nx, tB v tn cr rd) :: M.H) rfl
  have hr2 := Row.keep (M := ⟨M.H, M.nx, M.nx⟩) hr (k1.trans k2)
  have ha2 := Row.keep (M := ⟨M.H, M.nx, M.nx⟩) ha (k1.trans k2)
  have idne : ∀ {v' : V} {cs : List V} {t : Nat}, Row M.nx M.H v' cs → M.nx ≤ t → idV v' ≠ some t := by
    intro v' cs t h ht
    rcases h with ⟨rfl, -⟩ | ⟨i, o, c, b, rfl, h1, -⟩
    · simp [idV]
    · simp [idV]; omega
  obtain ⟨x, M3, e3, k3, f3, rfl⟩ := (c12 (M := ⟨(M.nx + 1, zB) :: (M.nx, tB v tn cr rd) :: M.H, M.nx + 1 + 1, M.nx⟩) n m (tn := tn) (cr := cr) (rd := rd) hl hm hr2 f2).call
  have b13 : lookC M3.H M.nx = some (tB v tn cr rd) := by rw [k3.lookC (show M.nx < M.nx + 1 + 1 by omega)]; exact b1
  have b23 : lookC M3.H (M.nx + 1) = some zB := at_new k3 rfl
  have hr3 := hr2.keep k3
  have ha3 := ha2.keep k3
  have kk3 := (k1.trans k2).trans k3
  have zst : ∀ {M' : Mm} {vx : V} {a b c : Int}, lookC M'.H (M.nx + 1) = some (tB vx a b c) → Keep ⟨M.H, M.nx, M.nx⟩ M' → Fresh M' → ∃ M'', (∀ KM : X → Mm → CX, vStoreN 4 (.v (.ptr (M.nx + 1) 0)) (.v (.agg [.nils, .int .i64 (.int (0)), .int .i64 (.int (0)), .int .i64 (.int (0))])) M' KM = KM (.v .undef) M'') ∧ lookC M''.H (M.nx + 1) = some (tB .nils 0 0 0) ∧ Keep ⟨M.H, M.nx, M.nx⟩ M'' ∧ Fresh M'' := by
    intro M' vx a b c h k f
    obtain ⟨M'', s1, s2, s3, -⟩ := sTN (x := .nils) (d := 0) (e := 0) (f := 0) rfl h
    exact ⟨M'', s1, s2, s3.keep _ k (Nat.le_succ _), s3.fresh f⟩
  have bad : ∀ {M' : Mm} {e : Int}, lookC M'.H (M.nx + 1) = some (tB .nils 0 0 0) → Keep ⟨M.H, M.nx, M.nx⟩ M' → Fresh M' → e ≠ 0 → nextF ws tn cr rd ab = ((0, 0, 0), -1, e) →
      Ret (finD prg tabP m (cx (n + 6) m) M.nx (.v .undef) [(.cell 4 24, .v (.ptr (M.nx + 1) 0)), (.tmp 5, .i .i64 0), (.tmp 6, .b false), (.tmp 7, .i .i64 e)] M') M fun x H => ∃ vs, x = .v (.tup [tV vs (nextF ws tn cr rd ab).1.1 (nextF ws tn cr rd ab).1.2.1 (nextF ws tn cr rd ab).1.2.2, iV (max (nextF ws tn cr rd ab).2.1 0), bV (decide (0 ≤ (nextF ws tn cr rd ab).2.1)), iV (nextF ws tn cr rd ab).2.2]) ∧
      (((nextF ws tn cr rd ab).2.2 ≠ 0 ∧ vs = .nils) ∨ ((nextF ws tn cr rd ab).2.2 = 0 ∧ ∃ id, vs = .sl id 0 ws.length (.is ws.length) ∧ M.nx ≤ id ∧ lookC H id = some ⟨3, 1, ws.map iV, true, false⟩)) := by
    intro M' e h k f he hn
    rw [fin17 h, hn]
    exact Ret.val k f rfl rfl ⟨fun _ H => ⟨.nils, rfl, .inl ⟨he, rfl⟩⟩, fun h => absurd h (by simp [V.plainL, V.plain])⟩
  simp only [d17, d17_1, d17_2, toX_int, toX_bool, toX_str, toX_nils, toX_nilp, toX_ptr, toX_sl, toX_agg, toX_tup, toV_i, toV_b, toV_v, cells_i, cells_b, cells_agg, cells_sl, cells_nils, cells_str, cells_ptr, oC_some, vBin_i, b_add, b_sub, b_mul, b_eql, b_neq, b_lss, b_leq, b_gtr, b_geq, vNot_b, vIf_b, vPick_b, vGuard_b, vGuard_u, vFieldAddr_p, vLenS_n, vLenS_s, vExt_t, vAlloc_e, vBox_e, vBuild_0, chk_true, jn_e, vCallV_e]
  have L1 : ∀ K : X → CX, vLoadN 4 (.v (.ptr M.nx 0)) ⟨(M.nx + 1, zB) :: (M.nx, tB v tn cr rd) :: M.H, M.nx + 1 + 1, M.nx⟩ K = K (.v (tV v tn cr rd)) := fun K => by
    rw [vLoadN_p, b1]; rfl
  simp only [L1, e3]
  by_cases hchk : chkE ws tn cr rd = 0
  rotate_left
  · obtain ⟨M4, s1, s2, s3, s4⟩ := zst b23 kk3 f3
    simp only [decide_eq_false hchk, toX_int, toX_bool, toX_str, toX_nils, toX_nilp, toX_ptr, toX_sl, toX_agg, toX_tup, toV_i, toV_b, toV_v, cells_i, cells_b, cells_agg, cells_sl, cells_nils, cells_str, cells_ptr, oC_some, vBin_i, b_add, b_sub, b_mul, b_eql, b_neq, b_lss, b_leq, b_gtr, b_geq, vNot_b, vIf_b, vPick_b, vGuard_b, vGuard_u, vFieldAddr_p, vLenS_n, vLenS_s, vExt_t, vAlloc_e, vBox_e, vBuild_0, chk_true, jn_e, vCallV_e, Bool.not_false, if_true, s1]
    exact bad s2 s3 s4 hchk (by unfold nextF; rw [if_pos hchk])
  obtain ⟨g1, g2, g3, g4, g5, g6, g7⟩ := chkE_ok hchk
  obtain ⟨w1, w2, w3⟩ := wE_ok g1
  have L2 : ∀ K : X → CX, vLoad1 (.v (.ptr M.nx 0)) M3 K = K (.v v) := fun K => by simp only [toX_int, toX_bool, toX_str, toX_nils, toX_nilp, toX_ptr, toX_sl, toX_agg, toX_tup, toV_i, toV_b, toV_v, cells_i, cells_b, cells_agg, cells_sl, cells_nils, cells_str, cells_ptr, oC_some, vBin_i, b_add, b_sub, b_mul, b_eql, b_neq, b_lss, b_leq, b_gtr, b_geq, vNot_b, vIf_b, vPick_b, vGuard_b, vGuard_u, vFieldAddr_p, vLenS_n, vLenS_s, vExt_t, vAlloc_e, vBox_e, vBuild_0, chk_true, jn_e, vCallV_e, decide_true, decide_false, if_true, if_false, Bool.false_eq_true, Bool.true_eq_false, Bool.not_true, Bool.not_false, Nat.zero_add, Nat.add_zero, Nat.reduceAdd, List.getElem?_cons_zero, List.getElem?_cons_succ, vLoad1_p, one_int, one_bool, one_str, one_sl, one_nils, one_ptr, b13, hr.one, hr.toX]
  simp only [decide_eq_true hchk, toX_int, toX_bool, toX_str, toX_nils, toX_nilp, toX_ptr, toX_sl, toX_agg, toX_tup, toV_i, toV_b, toV_v, cells_i, cells_b, cells_agg, cells_sl, cells_nils, cells_str, cells_ptr, oC_some, vBin_i, b_add, b_sub, b_mul, b_eql, b_neq, b_lss, b_leq, b_gtr, b_geq, vNot_b, vIf_b, vPick_b, vGuard_b, vGuard_u, vFieldAddr_p, vLenS_n, vLenS_s, vExt_t, vAlloc_e, vBox_e, vBuild_0, chk_true, jn_e, vCallV_e, Bool.not_true, Bool.false_eq_true, if_false, d17_3, ha.len, hr.len, List.length_map, Nat.zero_add, L2]
  by_cases hlen : ab.length = ws.length
  rotate_left
  · obtain ⟨M4, s1, s2, s3, s4⟩ := zst b23 kk3 f3
    simp only [decide_eq_false (show ¬ (ab.length : Int) = ws.length by omega), toX_int, toX_bool, toX_str, toX_nils, toX_nilp, toX_ptr, toX_sl, toX_agg, toX_tup, toV_i, toV_b, toV_v, cells_i, cells_b, cells_agg, cells_sl, cells_nils, cells_str, cells_ptr, oC_some, vBin_i, b_add, b_sub, b_mul, b_eql, b_neq, b_lss, b_leq, b_gtr, b_geq, vNot_b, vIf_b, vPick_b, vGuard_b, vGuard_u, vFieldAddr_p, vLenS_n, vLenS_s, vExt_t, vAlloc_e, vBox_e, vBuild_0, chk_true, jn_e, vCallV_e, Bool.not_false, if_true, s1]
    exact bad s2 s3 s4 (by omega) (by unfold nextF; rw [if_neg (by omega), if_pos hlen])
  have L3 : ∀ K : X → CX, vLoadN 4 (.v (.ptr M.nx 0)) M3 K = K (.v (tV v tn cr rd)) := fun K => by rw [vLoadN_p, b13]; rfl
  obtain ⟨M4, s1, s2, s3, -⟩ := sTN (x := v) (d := tn) (e := cr) (f := rd) hr.one b23
  have b14 : lookC M4.H M.nx = some (tB v tn cr rd) := by rw [s3.other M.nx (by omega)]; exact b13
  have hr4 := hr3.u (idne hr (Nat.le_succ _)) s3
  have ha4 := ha3.u (idne ha (Nat.le_succ _)) s3
  have kk4 := s3.keep _ kk3 (Nat.le_succ _)
  have f4 := s3.fresh f3
  have L4 : ∀ K : X → CX, vLoad1 (.v (.ptr M.nx 0)) M4 K = K (.v v) := fun K => by simp only [toX_int, toX_bool, toX_str, toX_nils, toX_nilp, toX_ptr, toX_sl, toX_agg, toX_tup, toV_i, toV_b, toV_v, cells_i, cells_b, cells_agg, cells_sl, cells_nils, cells_str, cells_ptr, oC_some, vBin_i, b_add, b_sub, b_mul, b_eql, b_neq, b_lss, b_leq, b_gtr, b_geq, vNot_b, vIf_b, vPick_b, vGuard_b, vGuard_u, vFieldAddr_p, vLenS_n, vLenS_s, vExt_t, vAlloc_e, vBox_e, vBuild_0, chk_true, jn_e, vCallV_e, decide_true, decide_false, if_true, if_false, Bool.false_eq_true, Bool.true_eq_false, Bool.not_true, Bool.not_false, Nat.zero_add, Nat.add_zero, Nat.reduceAdd, List.getElem?_cons_zero, List.getElem?_cons_succ, vLoad1_p, one_int, one_bool, one_str, one_sl, one_nils, one_ptr, b14, hr.one, hr.toX]
  obtain ⟨x, M5, e5, k5, f5, id, rfl, hid, hb5⟩ := (c32 (M := M4) (n + 5) m (wE_ne g1) hm hr4 f4).call
  obtain ⟨x, M6, e6, k6, f6, rfl, hH6⟩ := (c31 (M := M5) (n + 5) m hb5 f5).call
  have nx4 : M.nx + 2 ≤ M4.nx := by have h1 := k3.nx; have h2 := s3.nx; simp at h1; omega
  have b26 : lookC M6.H (M.nx + 1) = some (tB v tn cr rd) := by rw [k6.lookC (by have := k5.nx; omega), k5.lookC (by omega)]; exact s2
  obtain ⟨M7, t1, t2, t3⟩ := sT0 (x := .sl id 0 ws.length (.is ws.length)) rfl b26
  have id5 : id < M5.nx := by have := f5.lt _ (look_mem (lookC_look hb5).1); exact this
  have hb7 : lookC M7.H id = some ⟨3, 1, ws.map iV, true, false⟩ := by rw [t3.other id (by omega), hH6]; exact hb5
  have rs7 : Row M7.nx M7.H (.sl id 0 ws.length (.is ws.length)) (ws.map iV) := .inr ⟨id, 0, _, _, by rw [List.length_map], by rw [t3.nx]; have := k6.nx; omega, hb7, fun i hi => by simp⟩
  have ra7 := ((ha4.keep k5).keep k6).u (idne ha (Nat.le_succ _)) t3
  have kk7 := t3.keep _ ((kk4.trans k5).trans k6) (Nat.le_succ _)
  have f7 := t3.fresh f6
  obtain ⟨x, M8, e8, k8, f8, rfl⟩ := (c34 (M := M7) (n + 4) m hla hma ra7 f7).call
  have b28 : lookC M8.H (M.nx + 1) = some (tB (.sl id 0 ws.length (.is ws.length)) tn cr rd) := by rw [k8.lookC (by rw [t3.nx]; have := k6.nx; have := k5.nx; omega)]; exact t2
  have hb8 : lookC M8.H id = some ⟨3, 1, ws.map iV, true, false⟩ := by rw [k8.lookC (by rw [t3.nx]; have := k6.nx; omega)]; exact hb7
  have rs8 := rs7.keep k8
  have ra8 := ra7.keep k8
  have kk8 := kk7.trans k8
  have hidM : M.nx ≤ id := by omega
  have good : ∀ {M' : Mm} {a b c cli : Int} {p : Int} {q : Bool}, Upd (M.nx + 1) M8 M' → lookC M'.H (M.nx + 1) = some (tB (.sl id 0 ws.length (.is ws.length)) a b c) → nextF ws tn cr rd ab = ((a, b, c), cli, 0) → p = max cli 0 → q = decide (0 ≤ cli) →
      Ret (finD prg tabP m (cx (n + 6) m) M.nx (.v .undef) [(.cell 4 24, .v (.ptr (M.nx + 1) 0)), (.tmp 5, .i .i64 p), (.tmp 6, .b q), (.tmp 7, .i .i64 0)] M') M fun x H => ∃ vs, x = .v (.tup [tV vs (nextF ws tn cr rd ab).1.1 (nextF ws tn cr rd ab).1.2.1 (nextF ws tn cr rd ab).1.2.2, iV (max (nextF ws tn cr rd ab).2.1 0), bV (decide (0 ≤ (nextF ws tn cr rd ab).2.1)), iV (nextF ws tn cr rd ab).2.2]) ∧
      (((nextF ws tn cr rd ab).2.2 ≠ 0 ∧ vs = .nils) ∨ ((nextF ws tn cr rd ab).2.2 = 0 ∧ ∃ id, vs = .sl id 0 ws.length (.is ws.length) ∧ M.nx ≤ id ∧ lookC H id = some ⟨3, 1, ws.map iV, true, false⟩)) := by
    intro M' a b c cli p q u h hn hp hq
    rw [fin17 h, hn, hp, hq]
    exact Ret.val (u.keep _ kk8 (Nat.le_succ _)) (u.fresh f8) rfl rfl ⟨fun h => absurd h (by simp [V.plainL, V.plain]), fun _ => ⟨_, rfl, .inr ⟨rfl, id, rfl, hidM, by rw [u.other id (by omega)]; exact hb8⟩⟩⟩
  simp only [decide_eq_true (show (ab.length : Int) = ws.length by omega), Bool.not_true, Bool.false_eq_true, if_false, d17_4, L3, s1, d17_5, toX_int, toX_bool, toX_str, toX_nils, toX_nilp, toX_ptr, toX_sl, toX_agg, toX_tup, toV_i, toV_b, toV_v, cells_i, cells_b, cells_agg, cells_sl, cells_nils, cells_str, cells_ptr, oC_some, vBin_i, b_add, b_sub, b_mul, b_eql, b_neq, b_lss, b_leq, b_gtr, b_geq, vNot_b, vIf_b, vPick_b, vGuard_b, vGuard_u, vFieldAddr_p, vLenS_n, vLenS_s, vExt_t, vAlloc_e, vBox_e, vBuild_0, chk_true, jn_e, vCallV_e, Nat.zero_add, L4, e5, e6, t1, d17_6, e8]
  have etn : ((tn.toNat : Nat) : Int) = tn := by omega
  cases hany : ab.any _root_.id with
  | false =>
    have hnone : findT ws (tn.toNat, cr, rd) ab = none := by
      refine find_none fun j hj => ?_
      unfold okT
      have : ab.getD (stT ws (tn.toNat, cr, rd) j).1 false = false := by
        rw [List.getD_eq_getElem?_getD]
        cases hh : ab[(stT ws (tn.toNat, cr, rd) j).1]? with
        | none => rfl
        | some b =>
          have := List.any_eq_false.1 hany b (List.mem_of_getElem? hh)
          simpa using this
      rw [this, Bool.and_false]
    obtain ⟨M9, u1, u2, u3, -⟩ := sTN (x := .sl id 0 ws.length (.is ws.length)) (d := tn) (e := cr) (f := rd) rfl b28
    have L8 : ∀ K : X → CX, vLoadN 4 (.v (.ptr (M.nx + 1) 0)) M8 K = K (.v (tV (.sl id 0 ws.length (.is ws.length)) tn cr rd)) := fun K => by rw [vLoadN_p, b28]; rfl
    simp only [Bool.not_false, if_true, L8, u1]
    exact good u3 u2 (cli := -1) (by unfold nextF; rw [if_neg (by omega), if_neg (by omega), hnone]) rfl rfl
  | true =>
    obtain ⟨j0, hj0, hjt⟩ : ∃ j, ∃ h : j < ab.length, ab[j] = true := by
      obtain ⟨b, hb, hbt⟩ := List.any_eq_true.1 hany
      obtain ⟨j, hj, e⟩ := List.mem_iff_getElem.1 hb
      exact ⟨j, hj, by rw [e]; exact hbt⟩
    obtain ⟨i0, hi0, hok0⟩ := find_some (ws := ws) (s := (tn.toNat, cr, rd)) (ab := ab) (by simp; omega) (fun i h => (w3 i h).1) hlen (j := j0) (by omega) (by rw [List.getD_eq_getElem?_getD, List.getElem?_eq_getElem hj0, hjt]; rfl)
    obtain ⟨K, hK1, hK2, hK3⟩ : ∃ K, K ≤ i0 ∧ okT ab (stT ws (tn.toNat, cr, rd) K) = true ∧ ∀ j, j < K → okT ab (stT ws (tn.toNat, cr, rd) j) = false := by
      have : ∀ n, (∃ i, i ≤ n ∧ okT ab (stT ws (tn.toNat, cr, rd) i) = true) → ∃ K, K ≤ n ∧ okT ab (stT ws (tn.toNat, cr, rd) K) = true ∧ ∀ j, j < K → okT ab (stT ws (tn.toNat, cr, rd) j) = false := by
        intro n
        induction n with
        | zero => rintro ⟨i, h1, h2⟩; have : i = 0 := by omega
                  subst this; exact ⟨0, Nat.le_refl _, h2, fun j hj => by omega⟩
        | succ n ih =>
          rintro ⟨i, h1, h2⟩
          by_cases hh : ∃ i, i ≤ n ∧ okT ab (stT ws (tn.toNat, cr, rd) i) = true
          · obtain ⟨K, p1, p2, p3⟩ := ih hh
            exact ⟨K, by omega, p2, p3⟩
          · have : i = n + 1 := by
              apply Classical.byContradiction
              intro hne
              exact hh ⟨i, by omega, h2⟩
            subst this
            refine ⟨n + 1, Nat.le_refl _, h2, fun j hj => ?_⟩
            cases hq : okT ab (stT ws (tn.toNat, cr, rd) j) with
            | false => rfl
            | true => exact absurd ⟨j, by omega, hq⟩ hh
      exact this i0 ⟨i0, Nat.le_refl _, hok0⟩
    have hfind : findT ws (tn.toNat, cr, rd) ab = some K := find_least (by omega) hK2 hK3
    have hrds := stT_rounds ws (tn.toNat, cr, rd) K
    simp only at hrds
    have hturn := stT_turn (ws := ws) (s := (tn.toNat, cr, rd)) (by simp; omega) K
    have hturn2 : (stT ws (tn.toNat, cr, rd) K).1 < ws.length := by rw [hturn]; exact Nat.mod_lt _ (by omega)
    have hcred : 0 < (stT ws (tn.toNat, cr, rd) K).2.1 := by unfold okT at hK2; simp only [Bool.and_eq_true] at hK2; exact of_decide_eq_true hK2.1
    have hcred2 : (stT ws (tn.toNat, cr, rd) K).2.1 ≤ 4294967296 := by
      cases K with
      | zero => show cr ≤ _; have : ws.getD tn.toNat 0 = ws[tn.toNat]'(by omega) := by rw [List.getD_eq_getElem?_getD, List.getElem?_eq_getElem (by omega)]; rfl
                have := (w3 tn.toNat (by omega)).2; omega
      | succ K =>
        rw [stT_credit]
        rw [List.getD_eq_getElem?_getD, List.getElem?_eq_getElem hturn2]
        have := (w3 _ hturn2).2
        simp only [Option.getD_some]; omega
    simp only [Bool.not_true, Bool.false_eq_true, if_false, d17_7, d17_8, d17_9]
    obtain ⟨M9, v1, v2, v3⟩ := l17 (n + 6) m (z := .v .undef) (kr := fun z r0 r1 r2 r3 M' => finD prg tabP m (cx (n + 6) m) M.nx z [(.cell 4 24, r0), (.tmp 5, r1), (.tmp 6, r2), (.tmp 7, r3)] M')
      (k0 := fun t4 t511 Mq =>
    vFieldAddr 3 t4 fun t64 =>
    vLoad1 t64 Mq fun t65 =>
    vBin .gtr t65 (.i .i64 (4611686018427387904)) fun t66 =>
    vIf t66 (
      vBuild [.nils, .int .i64 (.int (0)), .int .i64 (.int (0)), .int .i64 (.int (0))] [] fun t67 =>
      vStoreN 4 t4 t67 Mq fun _ M16 =>
      finD prg tabP m (cx (n + 6) m) M.nx t511 [(.cell 4 24, t4), (.tmp 5, .i .i64 (0)), (.tmp 6, .b false), (.tmp 7, .i .i64 (4))] M16) (
    vFieldAddr 2 t4 fun t68 =>
    vLoad1 t68 Mq fun t69 =>
    vBin .sub t69 (.i .i64 (1)) fun t70 =>
    vFieldAddr 2 t4 fun t71 =>
    vStore1 t71 t70 Mq fun _ M17 =>
    vLoadN 4 t4 M17 fun t72 =>
    vFieldAddr 1 t4 fun t73 =>
    vLoad1 t73 M17 fun t74 =>
    vStoreN 4 t4 t72 M17 fun _ M18 =>
    finD prg tabP m (cx (n + 6) m) M.nx t511 [(.cell 4 24, t4), (.tmp 5, t74), (.tmp 6, .b true), (.tmp 7, .i .i64 (0))] M18))
      hlen hm (idne ha (Nat.le_succ _)) (by simp [idV]; omega) K (tn.toNat, cr, rd) (by simp; omega) g4 (by simp; omega) hK2 hK3 m (by omega) M8 (by rw [etn]; exact b28) ra8 rs8
    refine Ret.of_eq v3 ?_
    have L9 : ∀ K' : X → CX, vLoad1 (.v (.ptr (M.nx + 1) 3)) M9 K' = K' (.i .i64 (stT ws (tn.toNat, cr, rd) K).2.2) := fun K' => by simp only [toX_int, toX_bool, toX_str, toX_nils, toX_nilp, toX_ptr, toX_sl, toX_agg, toX_tup, toV_i, toV_b, toV_v, cells_i, cells_b, cells_agg, cells_sl, cells_nils, cells_str, cells_ptr, oC_some, vBin_i, b_add, b_sub, b_mul, b_eql, b_neq, b_lss, b_leq, b_gtr, b_geq, vNot_b, vIf_b, vPick_b, vGuard_b, vGuard_u, vFieldAddr_p, vLenS_n, vLenS_s, vExt_t, vAlloc_e, vBox_e, vBuild_0, chk_true, jn_e, vCallV_e, decide_true, decide_false, if_true, if_false, Bool.false_eq_true, Bool.true_eq_false, Bool.not_true, Bool.not_false, Nat.zero_add, Nat.add_zero, Nat.reduceAdd, List.getElem?_cons_zero, List.getElem?_cons_succ, vLoad1_p, one_int, one_bool, one_str, one_sl, one_nils, one_ptr, v2]
    have L92 : ∀ K' : X → CX, vLoad1 (.v (.ptr (M.nx + 1) 2)) M9 K' = K' (.i .i64 (stT ws (tn.toNat, cr, rd) K).2.1) := fun K' => by simp only [toX_int, toX_bool, toX_str, toX_nils, toX_nilp, toX_ptr, toX_sl, toX_agg, toX_tup, toV_i, toV_b, toV_v, cells_i, cells_b, cells_agg, cells_sl, cells_nils, cells_str, cells_ptr, oC_some, vBin_i, b_add, b_sub, b_mul, b_eql, b_neq, b_lss, b_leq, b_gtr, b_geq, vNot_b, vIf_b, vPick_b, vGuard_b, vGuard_u, vFieldAddr_p, vLenS_n, vLenS_s, vExt_t, vAlloc_e, vBox_e, vBuild_0, chk_true, jn_e, vCallV_e, decide_true, decide_false, if_true, if_false, Bool.false_eq_true, Bool.true_eq_false, Bool.not_true, Bool.not_false, Nat.zero_add, Nat.add_zero, Nat.reduceAdd, List.getElem?_cons_zero, List.getElem?_cons_succ, vLoad1_p, one_int, one_bool, one_str, one_sl, one_nils, one_ptr, v2]
    simp only [toX_int, toX_bool, toX_str, toX_nils, toX_nilp, toX_ptr, toX_sl, toX_agg, toX_tup, toV_i, toV_b, toV_v, cells_i, cells_b, cells_agg, cells_sl, cells_nils, cells_str, cells_ptr, oC_some, vBin_i, b_add, b_sub, b_mul, b_eql, b_neq, b_lss, b_leq, b_gtr, b_geq, vNot_b, vIf_b, vPick_b, vGuard_b, vGuard_u, vFieldAddr_p, vLenS_n, vLenS_s, vExt_t, vAlloc_e, vBox_e, vBuild_0, chk_true, jn_e, vCallV_e, Nat.zero_add, L9]
    by_cases hbig : 4611686018427387904 < (stT ws (tn.toNat, cr, rd) K).2.2
    · obtain ⟨MA, s1, s2, s3, s4⟩ := zst v2 (v1.keep _ kk8 (Nat.le_succ _)) (v1.fresh f8)
      simp only [decide_eq_true hbig, if_true, s1]
      exact bad s2 s3 s4 (by omega) (by unfold nextF; rw [if_neg (by omega), if_neg (by omega), hfind]; simp only; rw [if_pos hbig])
    · obtain ⟨MA, p1, p2, p3⟩ := sT2 ((stT ws (tn.toNat, cr, rd) K).2.1 - 1) v2
      have LA : ∀ K' : X → CX, vLoadN 4 (.v (.ptr (M.nx + 1) 0)) MA K' = K' (.v (tV (.sl id 0 ws.length (.is ws.length)) (stT ws (tn.toNat, cr, rd) K).1 ((stT ws (tn.toNat, cr, rd) K).2.1 - 1) (stT ws (tn.toNat, cr, rd) K).2.2)) := fun K' => by rw [vLoadN_p, p2]; rfl
      have LA1 : ∀ K' : X → CX, vLoad1 (.v (.ptr (M.nx + 1) 1)) MA K' = K' (.i .i64 (stT ws (tn.toNat, cr, rd) K).1) := fun K' => by simp only [toX_int, toX_bool, toX_str, toX_nils, toX_nilp, toX_ptr, toX_sl, toX_agg, toX_tup, toV_i, toV_b, toV_v, cells_i, cells_b, cells_agg, cells_sl, cells_nils, cells_str, cells_ptr, oC_some, vBin_i, b_add, b_sub, b_mul, b_eql, b_neq, b_lss, b_leq, b_gtr, b_geq, vNot_b, vIf_b, vPick_b, vGuard_b, vGuard_u, vFieldAddr_p, vLenS_n, vLenS_s, vExt_t, vAlloc_e, vBox_e, vBuild_0, chk_true, jn_e, vCallV_e, decide_true, decide_false, if_true, if_false, Bool.false_eq_true, Bool.true_eq_false, Bool.not_true, Bool.not_false, Nat.zero_add, Nat.add_zero, Nat.reduceAdd, List.getElem?_cons_zero, List.getElem?_cons_succ, vLoad1_p, one_int, one_bool, one_str, one_sl, one_nils, one_ptr, p2]
      obtain ⟨MB, q1, q2, q3, -⟩ := sTN (x := .sl id 0 ws.length (.is ws.length)) (d := (stT ws (tn.toNat, cr, rd) K).1) (e := (stT ws (tn.toNat, cr, rd) K).2.1 - 1) (f := (stT ws (tn.toNat, cr, rd) K).2.2) rfl p2
      simp only [decide_eq_false hbig, Bool.false_eq_true, if_false, L92, toX_int, toX_bool, toX_str, toX_nils, toX_nilp, toX_ptr, toX_sl, toX_agg, toX_tup, toV_i, toV_b, toV_v, cells_i, cells_b, cells_agg, cells_sl, cells_nils, cells_str, cells_ptr, oC_some, vBin_i, b_add, b_sub, b_mul, b_eql, b_neq, b_lss, b_leq, b_gtr, b_geq, vNot_b, vIf_b, vPick_b, vGuard_b, vGuard_u, vFieldAddr_p, vLenS_n, vLenS_s, vExt_t, vAlloc_e, vBox_e, vBuild_0, chk_true, jn_e, vCallV_e]
      rw [wrap64 (by omega) (by omega)]
      simp only [p1, LA, LA1, q1]
      refine good (v1.trans (p3.trans q3)) q2 (cli := ((stT ws (tn.toNat, cr, rd) K).1 : Int)) (by unfold nextF; rw [if_neg (by omega), if_neg (by omega), hfind]; simp only; rw [if_neg hbig]) ?_ ?_
      · omega
      · rw [decide_eq_true (by omega)]
end Go.Proofs.Ytehbfajmileefaa.Px

/-
  Turns: the reference's Next.
-/
namespace Go.Proofs.Ytehbfajmileefaa.Px
open Go.RowKit Go.Proofs.Ytehbfajmileefaa.Vx Go.Proofs.Ytehbfajmileefaa.Fx
set_option linter.unusedVariables false
set_option linter.unusedSimpArgs false
set_option maxRecDepth 10000
variable {M : Mm}
theorem rem64 (M : Mm) (KM : X → Mm → CX) (a b : Int) (h : b ≠ 0) : vBinG prg .rem 3 (.i .i64 a) (.i .i64 b) M KM = KM (.i .i64 (Int.tmod a b)) M := by
  simp only [vBinG, nB_i, Option.bind_some, binV, if_true, mkRem]
  simp [h, oR, toX_int]
noncomputable def ck16 (cl : Cl) (m : Nat) (kr : X → X → X → X → Mm → CX) (k0 : X → X → X → Mm → CX) (n : Nat) (t1 t2 t4 t7 t8 t9 t511 : X) (M2 : Mm) : CX :=
      vFieldAddr 1 t8 fun t55 =>
      vLoad1 t55 M2 fun t56 =>
      vIndexAddr 1 t1 t56 fun t57 =>
      vLoad1 t57 M2 fun t58 =>
      vGuard t58 true (fun k => vFieldAddr 2 t8 fun y => k y M2) M2 fun t60 M7 =>
      vGuard t58 true (fun k => vLoad1 t60 M7 fun y => k y M7) M7 fun t61 M9 =>
      vGuard t58 true (fun k => vBin .gtr t61 (.i .i64 (0)) fun y => k y M9) M9 fun t62 M11 =>
      vPick t58 t62 (.b false) fun t63 =>
      vIf t63 (
        vFieldAddr 3 t8 fun t64 =>
        vLoad1 t64 M11 fun t65 =>
        vBin .gtr t65 (.i .i64 (4611686018427387904)) fun t66 =>
        vIf t66 (
          vBuild [.nils, .int .i64 (.int (0)), .int .i64 (.int (0)), .int .i64 (.int (0))] [] fun t67 =>
          vStoreN 4 t4 t67 M11 fun _ M13 =>
          kr t511 t4 (.i .i64 (-1)) (.i .i64 (4)) M13) (
        vFieldAddr 2 t8 fun t68 =>
        vLoad1 t68 M11 fun t69 =>
        vBin .sub t69 (.i .i64 (1)) fun t70 =>
        vFieldAddr 2 t8 fun t71 =>
        vStore1 t71 t70 M11 fun _ M14 =>
        jn (fun (n3 : Nat) =>
        chk True <|
        vLoadN 4 t8 M14 fun t72 =>
        chk (Pst true false t72 M14 M14 none) <|
        chk True <|
        vFieldAddr 1 t8 fun t73 =>
        chk (Pst true false t73 M14 M14 none) <|
        chk (Old n3 t73) <|
        vLoad1 t73 M14 fun t74 =>
        chk (Pst true false t74 M14 M14 none) <|
        chk True <|
        vStoreN 4 t4 t72 M14 fun _ M15 =>
        chk (Pst false true (.v .undef) M14 M15 (some (some t4, [t73]))) <|
        chk True <|
        chk (Pst true false t74 M15 M15 none) <|
        chk True <|
        chk (Pst true false (.i .i64 (0)) M15 M15 none) <|
        kr t511 t4 t74 (.i .i64 (0)) M15) M14.nx)) (
    vBin .add t9 (.i .i64 (1)) fun t30 => d16_9 cl m kr k0 n t1 t2 t4 t7 t8 t30 t511 M11)
theorem e16 (cl : Cl) (m : Nat) (kr : X → X → X → X → Mm → CX) (k0 : X → X → X → Mm → CX) (n : Nat) (t1 t2 t4 t7 t8 t9 t511 : X) (M : Mm) : d16_9 cl m kr k0 (n + 1) t1 t2 t4 t7 t8 t9 t511 M =
  (vBin .leq t9 t7 fun t28 => vIf t28 (
      vBin .gtr t9 (.i .i64 (0)) fun t32 =>
      vIf t32 (
        vFieldAddr 1 t2 fun t33 =>
        vLoad1 t33 M fun t34 =>
        vBin .add t34 t9 fun t36 =>
        vBinG prg .rem 3 t36 t7 M fun t38 M3 =>
        vFieldAddr 1 t8 fun t39 =>
        vStore1 t39 t38 M3 fun _ M4 =>
        vFieldAddr 0 t2 fun t40 =>
        vLoad1 t40 M4 fun t41 =>
        vFieldAddr 1 t8 fun t42 =>
        vLoad1 t42 M4 fun t43 =>
        vIndexAddr 1 t41 t43 fun t44 =>
        vLoad1 t44 M4 fun t45 =>
        vFieldAddr 2 t8 fun t46 =>
        vStore1 t46 t45 M4 fun _ M5 =>
        vFieldAddr 1 t8 fun t47 =>
        vLoad1 t47 M5 fun t48 =>
        vBin .eql t48 (.i .i64 (0)) fun t49 =>
        vIf t49 (
          vFieldAddr 3 t8 fun t50 =>
          vLoad1 t50 M5 fun t51 =>
          vBin .add t51 (.i .i64 (1)) fun t52 =>
          vFieldAddr 3 t8 fun t53 =>
          vStore1 t53 t52 M5 fun _ M6 =>
      ck16 cl m kr k0 n t1 t2 t4 t7 t8 t9 t511 M6) (
      ck16 cl m kr k0 n t1 t2 t4 t7 t8 t9 t511 M5)) (
      ck16 cl m kr k0 n t1 t2 t4 t7 t8 t9 t511 M)) (k0 t2 t4 t511 M)) := rfl
/-- what the loop gives -/
def R16 (kr : X → X → X → X → Mm → CX) (k0 : X → X → X → Mm → CX) (z : X) (t2 t4 : Nat) (v : V) (ws : List Int) (tn cr rd : Int) (ab : List Bool) (M0 : Mm) (d : CX) : Prop := ∃ M', Keep M0 M' ∧ Fresh M' ∧ match findT ws (tn.toNat, cr, rd) ab with
  | none => lookC M'.H t2 = some (tB v tn cr rd) ∧ lookC M'.H t4 = some zB ∧ d = k0 (.v (.ptr t2 0)) (.v (.ptr t4 0)) z M'
  | some K => if 4611686018427387904 < (stT ws (tn.toNat, cr, rd) K).2.2 then lookC M'.H t4 = some (tB .nils 0 0 0) ∧ d = kr z (.v (.ptr t4 0)) (.i .i64 (-1)) (.i .i64 4) M'
    else lookC M'.H t4 = some (tB v (stT ws (tn.toNat, cr, rd) K).1 ((stT ws (tn.toNat, cr, rd) K).2.1 - 1) (stT ws (tn.toNat, cr, rd) K).2.2) ∧ d = kr z (.v (.ptr t4 0)) (.i .i64 (stT ws (tn.toNat, cr, rd) K).1) (.i .i64 0) M'
theorem R16.of_eq {kr k0 z t2 t4 v ws tn cr rd ab M0} {d d' : CX} (e : d = d') (h : R16 kr k0 z t2 t4 v ws tn cr rd ab M0 d') : R16 kr k0 z t2 t4 v ws tn cr rd ab M0 d := e ▸ h
theorem lck (n m : Nat) {z : X} {kr : X → X → X → X → Mm → CX} {k0 : X → X → X → Mm → CX} {M0 : Mm} {ws : List Int} {ab : List Bool} {t2 t4 t8 : Nat} {v va : V} {tn cr rd : Int} (hl : ab.length = ws.length) (hm : ws.length < 4294967296) (h84 : t8 ≠ t4) (hk4 : M0.nx ≤ t4) (hk8 : M0.nx ≤ t8)
    {i j' : Nat} (hi : i ≤ ws.length) (hno : ∀ j, j < i → okT ab (stT ws (tn.toNat, cr, rd) j) = false) {G : Mm} (k : Keep M0 G) (f : Fresh G) {S : Nat × Int × Int} (hS : stT ws (tn.toNat, cr, rd) i = S) (h1 : S.1 < ws.length) (h2 : S.2.1 ≤ 4294967296) (b8 : lookC G.H t8 = some (tB v S.1 S.2.1 S.2.2)) (b4 : lookC G.H t4 = some zB)
    (ra : Row G.nx G.H va (ab.map bV)) (rv : v.one = true) (next : okT ab S = false → R16 kr k0 z t2 t4 v ws tn cr rd ab M0 (d16_9 (cx n m) m kr k0 j' (.v va) (.v (.ptr t2 0)) (.v (.ptr t4 0)) (.i .i64 ws.length) (.v (.ptr t8 0)) (.i .i64 ((i + 1 : Nat) : Int)) z G)) :
    R16 kr k0 z t2 t4 v ws tn cr rd ab M0 (ck16 (cx n m) m kr k0 j' (.v va) (.v (.ptr t2 0)) (.v (.ptr t4 0)) (.i .i64 ws.length) (.v (.ptr t8 0)) (.i .i64 i) z G) := by
  have hs : S.1 < ab.length := by omega
  obtain ⟨id', o, g1, g2, -, g3⟩ := ra.get (i := S.1) (by simpa using hs)
  have g4 : ∀ K : X → CX, vLoad1 (.v (.ptr id' o)) G K = K (.b ab[S.1]) := fun K => by rw [g3 G rfl (by simp [one_bool])]; simp [toX_bool]
  have s1 : ∀ K : X → CX, vLoad1 (.v (.ptr t8 1)) G K = K (.i .i64 S.1) := fun K => by simp only [toX_int, toX_bool, toX_str, toX_nils, toX_nilp, toX_ptr, toX_sl, toX_agg, toX_tup, toV_i, toV_b, toV_v, cells_i, cells_b, cells_agg, cells_sl, cells_nils, cells_str, cells_ptr, oC_some, vBin_i, b_add, b_sub, b_mul, b_eql, b_neq, b_lss, b_leq, b_gtr, b_geq, vNot_b, vIf_b, vPick_b, vGuard_b, vGuard_u, vFieldAddr_p, vLenS_n, vLenS_s, vExt_t, vAlloc_e, vBox_e, vBuild_0, chk_true, jn_e, vCallV_e, decide_true, decide_false, if_true, if_false, Bool.false_eq_true, Bool.true_eq_false, Bool.not_true, Bool.not_false, Nat.zero_add, Nat.add_zero, Nat.reduceAdd, List.getElem?_cons_zero, List.getElem?_cons_succ, vLoad1_p, one_int, one_bool, one_str, one_sl, one_nils, one_ptr, b8]
  have s2 : ∀ K : X → CX, vLoad1 (.v (.ptr t8 2)) G K = K (.i .i64 S.2.1) := fun K => by simp only [toX_int, toX_bool, toX_str, toX_nils, toX_nilp, toX_ptr, toX_sl, toX_agg, toX_tup, toV_i, toV_b, toV_v, cells_i, cells_b, cells_agg, cells_sl, cells_nils, cells_str, cells_ptr, oC_some, vBin_i, b_add, b_sub, b_mul, b_eql, b_neq, b_lss, b_leq, b_gtr, b_geq, vNot_b, vIf_b, vPick_b, vGuard_b, vGuard_u, vFieldAddr_p, vLenS_n, vLenS_s, vExt_t, vAlloc_e, vBox_e, vBuild_0, chk_true, jn_e, vCallV_e, decide_true, decide_false, if_true, if_false, Bool.false_eq_true, Bool.true_eq_false, Bool.not_true, Bool.not_false, Nat.zero_add, Nat.add_zero, Nat.reduceAdd, List.getElem?_cons_zero, List.getElem?_cons_succ, vLoad1_p, one_int, one_bool, one_str, one_sl, one_nils, one_ptr, b8]
  have s3 : ∀ K : X → CX, vLoad1 (.v (.ptr t8 3)) G K = K (.i .i64 S.2.2) := fun K => by simp only [toX_int, toX_bool, toX_str, toX_nils, toX_nilp, toX_ptr, toX_sl, toX_agg, toX_tup, toV_i, toV_b, toV_v, cells_i, cells_b, cells_agg, cells_sl, cells_nils, cells_str, cells_ptr, oC_some, vBin_i, b_add, b_sub, b_mul, b_eql, b_neq, b_lss, b_leq, b_gtr, b_geq, vNot_b, vIf_b, vPick_b, vGuard_b, vGuard_u, vFieldAddr_p, vLenS_n, vLenS_s, vExt_t, vAlloc_e, vBox_e, vBuild_0, chk_true, jn_e, vCallV_e, decide_true, decide_false, if_true, if_false, Bool.false_eq_true, Bool.true_eq_false, Bool.not_true, Bool.not_false, Nat.zero_add, Nat.add_zero, Nat.reduceAdd, List.getElem?_cons_zero, List.getElem?_cons_succ, vLoad1_p, one_int, one_bool, one_str, one_sl, one_nils, one_ptr, b8]
  have hab : ab.getD S.1 false = ab[S.1] := by rw [List.getD_eq_getElem?_getD, List.getElem?_eq_getElem hs]; rfl
  have en : IntKind.i64.wrap ((i : Int) + 1) = ((i + 1 : Nat) : Int) := by rw [wrap64 (by omega) (by omega)]; rfl
  cases hb : ab[S.1] with
  | false =>
    refine R16.of_eq ?_ (next (by unfold okT; rw [hab, hb, Bool.and_false]))
    simp only [ck16, toX_int, toX_bool, toX_str, toX_nils, toX_nilp, toX_ptr, toX_sl, toX_agg, toX_tup, toV_i, toV_b, toV_v, cells_i, cells_b, cells_agg, cells_sl, cells_nils, cells_str, cells_ptr, oC_some, vBin_i, b_add, b_sub, b_mul, b_eql, b_neq, b_lss, b_leq, b_gtr, b_geq, vNot_b, vIf_b, vPick_b, vGuard_b, vGuard_u, vFieldAddr_p, vLenS_n, vLenS_s, vExt_t, vAlloc_e, vBox_e, vBuild_0, chk_true, jn_e, vCallV_e, Nat.zero_add, s1, s2, g1, g4, hb, Bool.false_eq_true, if_false, en]
  | true =>
    by_cases hc : 0 < S.2.1
    rotate_left
    · refine R16.of_eq ?_ (next (by unfold okT; rw [decide_eq_false hc, Bool.false_and]))
      simp only [ck16, toX_int, toX_bool, toX_str, toX_nils, toX_nilp, toX_ptr, toX_sl, toX_agg, toX_tup, toV_i, toV_b, toV_v, cells_i, cells_b, cells_agg, cells_sl, cells_nils, cells_str, cells_ptr, oC_some, vBin_i, b_add, b_sub, b_mul, b_eql, b_neq, b_lss, b_leq, b_gtr, b_geq, vNot_b, vIf_b, vPick_b, vGuard_b, vGuard_u, vFieldAddr_p, vLenS_n, vLenS_s, vExt_t, vAlloc_e, vBox_e, vBuild_0, chk_true, jn_e, vCallV_e, Nat.zero_add, s1, s2, g1, g4, hb, if_true, decide_eq_false hc, Bool.false_eq_true, if_false, en]
    have hfind : findT ws (tn.toNat, cr, rd) ab = some i := find_least hi (by rw [hS]; unfold okT; rw [hab, hb, decide_eq_true hc]; rfl) hno
    have hlt8 : t8 < G.nx := by have := f.lt _ (look_mem (lookC_look b8).1); exact this
    by_cases hbig : 4611686018427387904 < S.2.2
    · obtain ⟨M4, p1, p2, p3, -⟩ := sTN (x := .nils) (d := 0) (e := 0) (f := 0) rfl b4
      refine ⟨M4, p3.keep _ k hk4, p3.fresh f, ?_⟩
      rw [hfind]
      simp only [hS]
      rw [if_pos hbig]
      refine ⟨p2, ?_⟩
      simp only [ck16, toX_int, toX_bool, toX_str, toX_nils, toX_nilp, toX_ptr, toX_sl, toX_agg, toX_tup, toV_i, toV_b, toV_v, cells_i, cells_b, cells_agg, cells_sl, cells_nils, cells_str, cells_ptr, oC_some, vBin_i, b_add, b_sub, b_mul, b_eql, b_neq, b_lss, b_leq, b_gtr, b_geq, vNot_b, vIf_b, vPick_b, vGuard_b, vGuard_u, vFieldAddr_p, vLenS_n, vLenS_s, vExt_t, vAlloc_e, vBox_e, vBuild_0, chk_true, jn_e, vCallV_e, Nat.zero_add, s1, s2, s3, g1, g4, hb, if_true, decide_eq_true hc, decide_eq_true hbig, p1]
    · obtain ⟨A, p1, p2, p3⟩ := sT2 (S.2.1 - 1) b8
      have bA4 : lookC A.H t4 = some zB := by rw [p3.other t4 (Ne.symm h84)]; exact b4
      obtain ⟨B, q1, q2, q3, q4⟩ := sTN (x := v) (d := S.1) (e := S.2.1 - 1) (f := S.2.2) rv bA4
      have L1 : ∀ K : X → CX, vLoadN 4 (.v (.ptr t8 0)) A K = K (.v (tV v S.1 (S.2.1 - 1) S.2.2)) := fun K => by rw [vLoadN_p, p2]; rfl
      have L2 : ∀ K : X → CX, vLoad1 (.v (.ptr t8 1)) A K = K (.i .i64 S.1) := fun K => by simp only [toX_int, toX_bool, toX_str, toX_nils, toX_nilp, toX_ptr, toX_sl, toX_agg, toX_tup, toV_i, toV_b, toV_v, cells_i, cells_b, cells_agg, cells_sl, cells_nils, cells_str, cells_ptr, oC_some, vBin_i, b_add, b_sub, b_mul, b_eql, b_neq, b_lss, b_leq, b_gtr, b_geq, vNot_b, vIf_b, vPick_b, vGuard_b, vGuard_u, vFieldAddr_p, vLenS_n, vLenS_s, vExt_t, vAlloc_e, vBox_e, vBuild_0, chk_true, jn_e, vCallV_e, decide_true, decide_false, if_true, if_false, Bool.false_eq_true, Bool.true_eq_false, Bool.not_true, Bool.not_false, Nat.zero_add, Nat.add_zero, Nat.reduceAdd, List.getElem?_cons_zero, List.getElem?_cons_succ, vLoad1_p, one_int, one_bool, one_str, one_sl, one_nils, one_ptr, p2]
      refine ⟨B, q3.keep _ (p3.keep _ k hk8) hk4, q3.fresh (p3.fresh f), ?_⟩
      rw [hfind]
      simp only [hS]
      rw [if_neg hbig]
      refine ⟨q2, ?_⟩
      have c1 : Pst true false (.v (tV v S.1 (S.2.1 - 1) S.2.2)) A A none := Pst_of (by simp [X.toV])
      have c2 : Pst true false (.v (.ptr t8 1)) A A none := Pst_of (by simp [X.toV])
      have c3 : Old A.nx (.v (.ptr t8 1)) := Old_p (by rw [p3.nx]; exact hlt8)
      have c4 : ∀ M', Pst true false (.i .i64 S.1) M' M' none := fun M' => Pst_of (by simp [X.toV])
      have c5 : Pst false true (.v .undef) A B (some (some (.v (.ptr t4 0)), [.v (.ptr t8 1)])) := ⟨fun e => by simp at e, fun _ => by rw [q3.nx]; exact Nat.le_refl _, q4, fun a ha => by simp at ha; subst ha; right; show some t8 ≠ some t4; simp [h84]⟩
      have c6 : ∀ M', Pst true false (.i .i64 0) M' M' none := fun M' => Pst_of (by simp [X.toV])
      simp only [ck16, toX_int, toX_bool, toX_str, toX_nils, toX_nilp, toX_ptr, toX_sl, toX_agg, toX_tup, toV_i, toV_b, toV_v, cells_i, cells_b, cells_agg, cells_sl, cells_nils, cells_str, cells_ptr, oC_some, vBin_i, b_add, b_sub, b_mul, b_eql, b_neq, b_lss, b_leq, b_gtr, b_geq, vNot_b, vIf_b, vPick_b, vGuard_b, vGuard_u, vFieldAddr_p, vLenS_n, vLenS_s, vExt_t, vAlloc_e, vBox_e, vBuild_0, chk_true, jn_e, vCallV_e, Nat.zero_add, s1, s2, s3, g1, g4, hb, if_true, decide_eq_true hc, decide_eq_false hbig, Bool.false_eq_true, if_false]
      rw [wrap64 (by omega) (by omega)]
      simp only [p1, L1, L2, chk_of c1, chk_of c2, chk_of c3, chk_of (c4 _), q1, chk_of c5, chk_of (c6 _)]
theorem l16 (n m : Nat) {z : X} {kr : X → X → X → X → Mm → CX} {k0 : X → X → X → Mm → CX} {M0 : Mm} {ws : List Int} {ab : List Bool} {t2 t4 t8 : Nat} {v va : V} {tn cr rd : Int} (hl : ab.length = ws.length) (hm : ws.length < 4294967296) (hw : ∀ i (h : i < ws.length), 1 ≤ ws[i] ∧ ws[i] ≤ 8) (ht0 : 0 ≤ tn) (ht1 : tn < ws.length) (hc : cr ≤ 4294967296) (hr0 : 0 ≤ rd) (hr1 : rd + 4294967296 ≤ 9223372036854775807)
    (h84 : t8 ≠ t4) (h82 : t8 ≠ t2) (hk4 : M0.nx ≤ t4) (hk8 : M0.nx ≤ t8) (hv8 : idV v ≠ some t8) (ha8 : idV va ≠ some t8) :
    ∀ (r i : Nat), i + r = ws.length + 1 → (∀ j, j < i → okT ab (stT ws (tn.toNat, cr, rd) j) = false) → ∀ j', r < j' → ∀ M : Mm, Keep M0 M → Fresh M → lookC M.H t8 = some (tB v (stT ws (tn.toNat, cr, rd) (i - 1)).1 (stT ws (tn.toNat, cr, rd) (i - 1)).2.1 (stT ws (tn.toNat, cr, rd) (i - 1)).2.2) → lookC M.H t2 = some (tB v tn cr rd) → lookC M.H t4 = some zB →
      Row M.nx M.H va (ab.map bV) → Row M.nx M.H v (ws.map iV) → R16 kr k0 z t2 t4 v ws tn cr rd ab M0 (d16_9 (cx n m) m kr k0 j' (.v va) (.v (.ptr t2 0)) (.v (.ptr t4 0)) (.i .i64 ws.length) (.v (.ptr t8 0)) (.i .i64 i) z M) := by
  intro r
  induction r with
  | zero =>
    intro i hi hno j' hj M k f b8 b2 b4 ra rv
    obtain ⟨j', rfl⟩ : ∃ q, j' = q + 1 := ⟨j' - 1, by omega⟩
    refine ⟨M, k, f, ?_⟩
    rw [find_none fun j hj => hno j (by omega)]
    refine ⟨b2, b4, ?_⟩
    rw [e16]
    simp only [toX_int, toX_bool, toX_str, toX_nils, toX_nilp, toX_ptr, toX_sl, toX_agg, toX_tup, toV_i, toV_b, toV_v, cells_i, cells_b, cells_agg, cells_sl, cells_nils, cells_str, cells_ptr, oC_some, vBin_i, b_add, b_sub, b_mul, b_eql, b_neq, b_lss, b_leq, b_gtr, b_geq, vNot_b, vIf_b, vPick_b, vGuard_b, vGuard_u, vFieldAddr_p, vLenS_n, vLenS_s, vExt_t, vAlloc_e, vBox_e, vBuild_0, chk_true, jn_e, vCallV_e, decide_eq_false (show ¬ (i : Int) ≤ ws.length by omega), Bool.false_eq_true, if_false]
  | succ r ih =>
    intro i hi hno j' hj M k f b8 b2 b4 ra rv
    obtain ⟨j', rfl⟩ : ∃ q, j' = q + 1 := ⟨j' - 1, by omega⟩
    have ht : tn.toNat < ws.length := by omega
    have hturn := stT_turn (ws := ws) (s := (tn.toNat, cr, rd)) ht i
    have hturn2 : (stT ws (tn.toNat, cr, rd) i).1 < ws.length := by rw [hturn]; exact Nat.mod_lt _ (by omega)
    have hrds := stT_rounds ws (tn.toNat, cr, rd) i
    simp only at hrds
    have step : ∀ G : Mm, Keep M0 G → Fresh G → lookC G.H t8 = some (tB v (stT ws (tn.toNat, cr, rd) i).1 (stT ws (tn.toNat, cr, rd) i).2.1 (stT ws (tn.toNat, cr, rd) i).2.2) → lookC G.H t2 = some (tB v tn cr rd) → lookC G.H t4 = some zB → Row G.nx G.H va (ab.map bV) → Row G.nx G.H v (ws.map iV) →
        R16 kr k0 z t2 t4 v ws tn cr rd ab M0 (ck16 (cx n m) m kr k0 j' (.v va) (.v (.ptr t2 0)) (.v (.ptr t4 0)) (.i .i64 ws.length) (.v (.ptr t8 0)) (.i .i64 i) z G) := by
      intro G k f b8 b2 b4 ra rv
      have hcred : (stT ws (tn.toNat, cr, rd) i).2.1 ≤ 4294967296 := by
        cases i with
        | zero => exact hc
        | succ i =>
          rw [stT_credit, List.getD_eq_getElem?_getD, List.getElem?_eq_getElem hturn2]
          have := (hw _ hturn2).2
          simp only [Option.getD_some]; omega
      refine lck n m hl hm h84 hk4 hk8 (by omega) hno k f rfl hturn2 hcred b8 b4 ra rv.one fun hno' => ?_
      exact ih (i + 1) (by omega) (fun j hj => by
        by_cases e : j = i
        · subst e; exact hno'
        · exact hno j (by omega)) j' (by omega) G k f b8 b2 b4 ra rv
    rw [e16]
    simp only [toX_int, toX_bool, toX_str, toX_nils, toX_nilp, toX_ptr, toX_sl, toX_agg, toX_tup, toV_i, toV_b, toV_v, cells_i, cells_b, cells_agg, cells_sl, cells_nils, cells_str, cells_ptr, oC_some, vBin_i, b_add, b_sub, b_mul, b_eql, b_neq, b_lss, b_leq, b_gtr, b_geq, vNot_b, vIf_b, vPick_b, vGuard_b, vGuard_u, vFieldAddr_p, vLenS_n, vLenS_s, vExt_t, vAlloc_e, vBox_e, vBuild_0, chk_true, jn_e, vCallV_e, decide_eq_true (show (i : Int) ≤ ws.length by omega), if_true, Nat.zero_add]
    by_cases hi0 : i = 0
    · subst hi0
      simp only [decide_eq_false (show ¬ (0 : Int) < ((0 : Nat) : Int) by omega), Bool.false_eq_true, if_false]
      exact step M k f b8 b2 b4 ra rv
    obtain ⟨i', rfl⟩ : ∃ q, i = q + 1 := ⟨i - 1, by omega⟩
    have A2 : ∀ K : X → CX, vLoad1 (.v (.ptr t2 1)) M K = K (.i .i64 tn) := fun K => by simp only [toX_int, toX_bool, toX_str, toX_nils, toX_nilp, toX_ptr, toX_sl, toX_agg, toX_tup, toV_i, toV_b, toV_v, cells_i, cells_b, cells_agg, cells_sl, cells_nils, cells_str, cells_ptr, oC_some, vBin_i, b_add, b_sub, b_mul, b_eql, b_neq, b_lss, b_leq, b_gtr, b_geq, vNot_b, vIf_b, vPick_b, vGuard_b, vGuard_u, vFieldAddr_p, vLenS_n, vLenS_s, vExt_t, vAlloc_e, vBox_e, vBuild_0, chk_true, jn_e, vCallV_e, decide_true, decide_false, if_true, if_false, Bool.false_eq_true, Bool.true_eq_false, Bool.not_true, Bool.not_false, Nat.zero_add, Nat.add_zero, Nat.reduceAdd, List.getElem?_cons_zero, List.getElem?_cons_succ, vLoad1_p, one_int, one_bool, one_str, one_sl, one_nils, one_ptr, b2]
    have erem : Int.tmod (tn + ((i' + 1 : Nat) : Int)) ws.length = (((stT ws (tn.toNat, cr, rd) (i' + 1)).1 : Nat) : Int) := by
      rw [hturn, show tn + ((i' + 1 : Nat) : Int) = ((tn.toNat + (i' + 1) : Nat) : Int) by omega]; rfl
    obtain ⟨A, p1, p2, p3⟩ := sT1 ((stT ws (tn.toNat, cr, rd) (i' + 1)).1 : Int) b8
    have bA2 : lookC A.H t2 = some (tB v tn cr rd) := by rw [p3.other t2 (Ne.symm h82)]; exact b2
    have rvA := rv.u hv8 p3
    have L0 : ∀ K : X → CX, vLoad1 (.v (.ptr t2 0)) A K = K (.v v) := fun K => by simp only [toX_int, toX_bool, toX_str, toX_nils, toX_nilp, toX_ptr, toX_sl, toX_agg, toX_tup, toV_i, toV_b, toV_v, cells_i, cells_b, cells_agg, cells_sl, cells_nils, cells_str, cells_ptr, oC_some, vBin_i, b_add, b_sub, b_mul, b_eql, b_neq, b_lss, b_leq, b_gtr, b_geq, vNot_b, vIf_b, vPick_b, vGuard_b, vGuard_u, vFieldAddr_p, vLenS_n, vLenS_s, vExt_t, vAlloc_e, vBox_e, vBuild_0, chk_true, jn_e, vCallV_e, decide_true, decide_false, if_true, if_false, Bool.false_eq_true, Bool.true_eq_false, Bool.not_true, Bool.not_false, Nat.zero_add, Nat.add_zero, Nat.reduceAdd, List.getElem?_cons_zero, List.getElem?_cons_succ, vLoad1_p, one_int, one_bool, one_str, one_sl, one_nils, one_ptr, bA2, rv.one, rv.toX]
    have L1 : ∀ K : X → CX, vLoad1 (.v (.ptr t8 1)) A K = K (.i .i64 (stT ws (tn.toNat, cr, rd) (i' + 1)).1) := fun K => by simp only [toX_int, toX_bool, toX_str, toX_nils, toX_nilp, toX_ptr, toX_sl, toX_agg, toX_tup, toV_i, toV_b, toV_v, cells_i, cells_b, cells_agg, cells_sl, cells_nils, cells_str, cells_ptr, oC_some, vBin_i, b_add, b_sub, b_mul, b_eql, b_neq, b_lss, b_leq, b_gtr, b_geq, vNot_b, vIf_b, vPick_b, vGuard_b, vGuard_u, vFieldAddr_p, vLenS_n, vLenS_s, vExt_t, vAlloc_e, vBox_e, vBuild_0, chk_true, jn_e, vCallV_e, decide_true, decide_false, if_true, if_false, Bool.false_eq_true, Bool.true_eq_false, Bool.not_true, Bool.not_false, Nat.zero_add, Nat.add_zero, Nat.reduceAdd, List.getElem?_cons_zero, List.getElem?_cons_succ, vLoad1_p, one_int, one_bool, one_str, one_sl, one_nils, one_ptr, p2]
    obtain ⟨i2, o2, q1, q2, -, q3⟩ := rvA.get (i := (stT ws (tn.toNat, cr, rd) (i' + 1)).1) (by simpa using hturn2)
    have q4 : ∀ K : X → CX, vLoad1 (.v (.ptr i2 o2)) A K = K (.i .i64 (ws[(stT ws (tn.toNat, cr, rd) (i' + 1)).1]'hturn2)) := fun K => by rw [q3 A rfl (by simp [one_int])]; simp [toX_int]
    have hcr : (stT ws (tn.toNat, cr, rd) (i' + 1)).2.1 = ws[(stT ws (tn.toNat, cr, rd) (i' + 1)).1]'hturn2 := by
      rw [stT_credit, List.getD_eq_getElem?_getD, List.getElem?_eq_getElem hturn2]; rfl
    obtain ⟨B, u1, u2, u3⟩ := sT2 (ws[(stT ws (tn.toNat, cr, rd) (i' + 1)).1]'hturn2) p2
    have L2 : ∀ K : X → CX, vLoad1 (.v (.ptr t8 1)) B K = K (.i .i64 (stT ws (tn.toNat, cr, rd) (i' + 1)).1) := fun K => by simp only [toX_int, toX_bool, toX_str, toX_nils, toX_nilp, toX_ptr, toX_sl, toX_agg, toX_tup, toV_i, toV_b, toV_v, cells_i, cells_b, cells_agg, cells_sl, cells_nils, cells_str, cells_ptr, oC_some, vBin_i, b_add, b_sub, b_mul, b_eql, b_neq, b_lss, b_leq, b_gtr, b_geq, vNot_b, vIf_b, vPick_b, vGuard_b, vGuard_u, vFieldAddr_p, vLenS_n, vLenS_s, vExt_t, vAlloc_e, vBox_e, vBuild_0, chk_true, jn_e, vCallV_e, decide_true, decide_false, if_true, if_false, Bool.false_eq_true, Bool.true_eq_false, Bool.not_true, Bool.not_false, Nat.zero_add, Nat.add_zero, Nat.reduceAdd, List.getElem?_cons_zero, List.getElem?_cons_succ, vLoad1_p, one_int, one_bool, one_str, one_sl, one_nils, one_ptr, u2]
    simp only [decide_eq_true (show (0 : Int) < ((i' + 1 : Nat) : Int) by omega), if_true, A2, toX_int, toX_bool, toX_str, toX_nils, toX_nilp, toX_ptr, toX_sl, toX_agg, toX_tup, toV_i, toV_b, toV_v, cells_i, cells_b, cells_agg, cells_sl, cells_nils, cells_str, cells_ptr, oC_some, vBin_i, b_add, b_sub, b_mul, b_eql, b_neq, b_lss, b_leq, b_gtr, b_geq, vNot_b, vIf_b, vPick_b, vGuard_b, vGuard_u, vFieldAddr_p, vLenS_n, vLenS_s, vExt_t, vAlloc_e, vBox_e, vBuild_0, chk_true, jn_e, vCallV_e]
    rw [wrap64 (by omega) (by omega)]
    simp only [rem64 _ _ _ _ (show (ws.length : Int) ≠ 0 by omega), erem, p1, L0, L1, q1, q4, u1, L2, toX_int, toX_bool, toX_str, toX_nils, toX_nilp, toX_ptr, toX_sl, toX_agg, toX_tup, toV_i, toV_b, toV_v, cells_i, cells_b, cells_agg, cells_sl, cells_nils, cells_str, cells_ptr, oC_some, vBin_i, b_add, b_sub, b_mul, b_eql, b_neq, b_lss, b_leq, b_gtr, b_geq, vNot_b, vIf_b, vPick_b, vGuard_b, vGuard_u, vFieldAddr_p, vLenS_n, vLenS_s, vExt_t, vAlloc_e, vBox_e, vBuild_0, chk_true, jn_e, vCallV_e]
    have hround := stT_round ws (tn.toNat, cr, rd) i'
    have hrds' := stT_rounds ws (tn.toNat, cr, rd) i'
    simp only at hrds'
    have uAB := p3.trans u3
    by_cases hz : (stT ws (tn.toNat, cr, rd) (i' + 1)).1 = 0
    · rw [if_pos hz] at hround
      have L3 : ∀ K : X → CX, vLoad1 (.v (.ptr t8 3)) B K = K (.i .i64 (stT ws (tn.toNat, cr, rd) i').2.2) := fun K => by simp only [toX_int, toX_bool, toX_str, toX_nils, toX_nilp, toX_ptr, toX_sl, toX_agg, toX_tup, toV_i, toV_b, toV_v, cells_i, cells_b, cells_agg, cells_sl, cells_nils, cells_str, cells_ptr, oC_some, vBin_i, b_add, b_sub, b_mul, b_eql, b_neq, b_lss, b_leq, b_gtr, b_geq, vNot_b, vIf_b, vPick_b, vGuard_b, vGuard_u, vFieldAddr_p, vLenS_n, vLenS_s, vExt_t, vAlloc_e, vBox_e, vBuild_0, chk_true, jn_e, vCallV_e, decide_true, decide_false, if_true, if_false, Bool.false_eq_true, Bool.true_eq_false, Bool.not_true, Bool.not_false, Nat.zero_add, Nat.add_zero, Nat.reduceAdd, List.getElem?_cons_zero, List.getElem?_cons_succ, vLoad1_p, one_int, one_bool, one_str, one_sl, one_nils, one_ptr, u2]; rfl
      obtain ⟨D, w1, w2, w3⟩ := sT3 ((stT ws (tn.toNat, cr, rd) (i' + 1)).2.2) u2
      have uu := uAB.trans w3
      simp only [decide_eq_true (show (((stT ws (tn.toNat, cr, rd) (i' + 1)).1 : Nat) : Int) = 0 by omega), if_true, L3, toX_int, toX_bool, toX_str, toX_nils, toX_nilp, toX_ptr, toX_sl, toX_agg, toX_tup, toV_i, toV_b, toV_v, cells_i, cells_b, cells_agg, cells_sl, cells_nils, cells_str, cells_ptr, oC_some, vBin_i, b_add, b_sub, b_mul, b_eql, b_neq, b_lss, b_leq, b_gtr, b_geq, vNot_b, vIf_b, vPick_b, vGuard_b, vGuard_u, vFieldAddr_p, vLenS_n, vLenS_s, vExt_t, vAlloc_e, vBox_e, vBuild_0, chk_true, jn_e, vCallV_e]
      rw [wrap64 (by omega) (by omega), ← hround]
      simp only [w1]
      exact step D (uu.keep _ k hk8) (uu.fresh f) (by rw [w2, hcr]) (by rw [uu.other t2 (Ne.symm h82)]; exact b2) (by rw [uu.other t4 (Ne.symm h84)]; exact b4) (ra.u ha8 uu) (rv.u hv8 uu)
    · rw [if_neg hz] at hround
      simp only [decide_eq_false (show ¬ (((stT ws (tn.toNat, cr, rd) (i' + 1)).1 : Nat) : Int) = 0 by omega), Bool.false_eq_true, if_false]
      exact step B (uAB.keep _ k hk8) (uAB.fresh f) (by rw [u2, hcr, hround, Int.add_zero]; rfl) (by rw [uAB.other t2 (Ne.symm h82)]; exact b2) (by rw [uAB.other t4 (Ne.symm h84)]; exact b4) (ra.u ha8 uAB) (rv.u hv8 uAB)
end Go.Proofs.Ytehbfajmileefaa.Px

/-
  Turns: the reference's Next, whole.
-/
namespace Go.Proofs.Ytehbfajmileefaa.Px
open Go.RowKit Go.Proofs.Ytehbfajmileefaa.Vx Go.Proofs.Ytehbfajmileefaa.Fx
set_option linter.unusedVariables false
set_option linter.unusedSimpArgs false
set_option maxRecDepth 10000
variable {M : Mm}
theorem fin16 {m : Nat} {ih : Cl} {nx0 t4 : Nat} {x : V} {a b c p e : Int} {M' : Mm} (h : lookC M'.H t4 = some (tB x a b c)) :
    finD prg tabP m ih nx0 (.v .undef) [(.cell 4 24, .v (.ptr t4 0)), (.tmp 5, .i .i64 p), (.tmp 6, .i .i64 e)] M' = .val (.v (.tup [tV x a b c, iV p, iV e])) ⟨dropX (V.plainL [tV x a b c, iV p, iV e]) nx0 M'.lw M'.H, M'.nx, M'.lw⟩ := by
  simp only [finD_u, outD, resD, toV_v, toV_i, toV_b, h, Option.bind_some, Option.map_some, part24]
  rfl
def N16 (v : V) (ws : List Int) (tn cr rd : Int) (ab : List Bool) (x : X) : Prop := x = .v (.tup [tV (if (nextF ws tn cr rd ab).2.2 = 0 then v else .nils) (nextF ws tn cr rd ab).1.1 (nextF ws tn cr rd ab).1.2.1 (nextF ws tn cr rd ab).1.2.2, iV (nextF ws tn cr rd ab).2.1, iV (nextF ws tn cr rd ab).2.2])
theorem c16 (n m : Nat) {ws : List Int} {ab : List Bool} {tn cr rd : Int} (hl : ws.length + 1 < m) (hm : ws.length < 4294967296) {v va : V} (hr : Row M.nx M.H v (ws.map iV)) (ha : Row M.nx M.H va (ab.map bV)) (hf : Fresh M) :
    Ret (cx (n + 3) m 16 [.v (tV v tn cr rd), .v va] M) M fun x H => N16 v ws tn cr rd ab x := by
  rw [cx, q16 rfl]
  have k1 := Keep.new (M := ⟨M.H, M.nx, M.nx⟩) hf (b := tB v tn cr rd) rfl M.nx
  have f1 := Fresh.new (M := ⟨M.H, M.nx, M.nx⟩) hf (tB v tn cr rd) M.nx
  have k2 := Keep.new (M := ⟨(M.nx, tB v tn cr rd) :: M.H, M.nx + 1, M.nx⟩) f1 (b := zB) rfl M.nx
  have f2 := Fresh.new (M := ⟨(M.nx, tB v tn cr rd) :: M.H, M.nx + 1, M.nx⟩) f1 zB M.nx
  have b1 := at_new k2 (b := tB v tn cr rd) rfl
  have hr2 := Row.keep (M := ⟨M.H, M.nx, M.nx⟩) hr (k1.trans k2)
  have ha2 := Row.keep (M := ⟨M.H, M.nx, M.nx⟩) ha (k1.trans k2)
  have idne : ∀ {v' : V} {cs : List V} {t : Nat}, Row M.nx M.H v' cs → M.nx ≤ t → idV v' ≠ some t := by
    intro v' cs t h ht
    rcases h with ⟨rfl, -⟩ | ⟨i, o, c, b, rfl, h1, -⟩
    · simp [idV]
    · simp [idV]; omega
  obtain ⟨x, M3, e3, k3, f3, rfl⟩ := (c13 (M := ⟨(M.nx + 1, zB) :: (M.nx, tB v tn cr rd) :: M.H, M.nx + 1 + 1, M.nx⟩) n m (tn := tn) (cr := cr) (rd := rd) (by omega) hm hr2 f2).call
  have b13 : lookC M3.H M.nx = some (tB v tn cr rd) := by rw [k3.lookC (show M.nx < M.nx + 1 + 1 by omega)]; exact b1
  have b23 : lookC M3.H (M.nx + 1) = some zB := at_new k3 rfl
  have hr3 := hr2.keep k3
  have ha3 := ha2.keep k3
  have kk3 := (k1.trans k2).trans k3
  have out : ∀ {M' : Mm} {vx : V} {a b c p e : Int}, Keep ⟨M.H, M.nx, M.nx⟩ M' → Fresh M' → lookC M'.H (M.nx + 1) = some (tB vx a b c) → nextF ws tn cr rd ab = ((a, b, c), p, e) → vx = (if e = 0 then v else .nils) →
      Ret (finD prg tabP m (cx (n + 2) m) M.nx (.v .undef) [(.cell 4 24, .v (.ptr (M.nx + 1) 0)), (.tmp 5, .i .i64 p), (.tmp 6, .i .i64 e)] M') M fun x H => N16 v ws tn cr rd ab x := by
    intro M' vx a b c p e k f h hn hv
    rw [fin16 h]
    have : N16 v ws tn cr rd ab (.v (.tup [tV vx a b c, iV p, iV e])) := by unfold N16; rw [hn, hv]
    exact Ret.val k f rfl rfl ⟨fun _ _ => this, fun _ => this⟩
  simp only [d16, d16_1, d16_2, toX_int, toX_bool, toX_str, toX_nils, toX_nilp, toX_ptr, toX_sl, toX_agg, toX_tup, toV_i, toV_b, toV_v, cells_i, cells_b, cells_agg, cells_sl, cells_nils, cells_str, cells_ptr, oC_some, vBin_i, b_add, b_sub, b_mul, b_eql, b_neq, b_lss, b_leq, b_gtr, b_geq, vNot_b, vIf_b, vPick_b, vGuard_b, vGuard_u, vFieldAddr_p, vLenS_n, vLenS_s, vExt_t, vAlloc_e, vBox_e, vBuild_0, chk_true, jn_e, vCallV_e]
  have L1 : ∀ K : X → CX, vLoadN 4 (.v (.ptr M.nx 0)) ⟨(M.nx + 1, zB) :: (M.nx, tB v tn cr rd) :: M.H, M.nx + 1 + 1, M.nx⟩ K = K (.v (tV v tn cr rd)) := fun K => by
    rw [vLoadN_p, b1]; rfl
  have L3 : ∀ K : X → CX, vLoadN 4 (.v (.ptr M.nx 0)) M3 K = K (.v (tV v tn cr rd)) := fun K => by rw [vLoadN_p, b13]; rfl
  simp only [L1, e3, toX_int, toX_bool, toX_str, toX_nils, toX_nilp, toX_ptr, toX_sl, toX_agg, toX_tup, toV_i, toV_b, toV_v, cells_i, cells_b, cells_agg, cells_sl, cells_nils, cells_str, cells_ptr, oC_some, vBin_i, b_add, b_sub, b_mul, b_eql, b_neq, b_lss, b_leq, b_gtr, b_geq, vNot_b, vIf_b, vPick_b, vGuard_b, vGuard_u, vFieldAddr_p, vLenS_n, vLenS_s, vExt_t, vAlloc_e, vBox_e, vBuild_0, chk_true, jn_e, vCallV_e]
  by_cases hchk : chkE ws tn cr rd = 0
  rotate_left
  · have hp : 0 < chkE ws tn cr rd := by
      have h1 : wE ws = 3 ∨ wE ws = 4 ∨ wE ws = 0 := by unfold wE; (repeat' split) <;> simp
      unfold chkE at hchk ⊢
      split
      · omega
      · rename_i hh; rw [if_neg hh] at hchk; split <;> rename_i h2
        · omega
        · rw [if_neg h2] at hchk; omega
    obtain ⟨x, M4, e4, k4, f4, rfl⟩ := (c13 (M := M3) n m (tn := tn) (cr := cr) (rd := rd) (by omega) hm hr3 f3).call
    have b24 : lookC M4.H (M.nx + 1) = some zB := by rw [k4.lookC (by have := k3.nx; simp at this; omega)]; exact b23
    obtain ⟨M5, s1, s2, s3, -⟩ := sTN (x := .nils) (d := 0) (e := 0) (f := 0) rfl b24
    simp only [decide_eq_true hp, if_true, L3, e4, s1]
    exact out (s3.keep _ (kk3.trans k4) (Nat.le_succ _)) (s3.fresh f4) s2 (by unfold nextF; rw [if_pos hchk]) (by rw [if_neg hchk])
  obtain ⟨g1, g2, g3, g4, g5, g6, g7⟩ := chkE_ok hchk
  obtain ⟨w1, w2, w3⟩ := wE_ok g1
  have L2 : ∀ K : X → CX, vLoad1 (.v (.ptr M.nx 0)) M3 K = K (.v v) := fun K => by simp only [toX_int, toX_bool, toX_str, toX_nils, toX_nilp, toX_ptr, toX_sl, toX_agg, toX_tup, toV_i, toV_b, toV_v, cells_i, cells_b, cells_agg, cells_sl, cells_nils, cells_str, cells_ptr, oC_some, vBin_i, b_add, b_sub, b_mul, b_eql, b_neq, b_lss, b_leq, b_gtr, b_geq, vNot_b, vIf_b, vPick_b, vGuard_b, vGuard_u, vFieldAddr_p, vLenS_n, vLenS_s, vExt_t, vAlloc_e, vBox_e, vBuild_0, chk_true, jn_e, vCallV_e, decide_true, decide_false, if_true, if_false, Bool.false_eq_true, Bool.true_eq_false, Bool.not_true, Bool.not_false, Nat.zero_add, Nat.add_zero, Nat.reduceAdd, List.getElem?_cons_zero, List.getElem?_cons_succ, vLoad1_p, one_int, one_bool, one_str, one_sl, one_nils, one_ptr, b13, hr.one, hr.toX]
  simp only [decide_eq_false (show ¬ 0 < chkE ws tn cr rd by omega), Bool.false_eq_true, if_false, d16_3, ha.len, hr.len, List.length_map, Nat.zero_add, L2, toX_int, toX_bool, toX_str, toX_nils, toX_nilp, toX_ptr, toX_sl, toX_agg, toX_tup, toV_i, toV_b, toV_v, cells_i, cells_b, cells_agg, cells_sl, cells_nils, cells_str, cells_ptr, oC_some, vBin_i, b_add, b_sub, b_mul, b_eql, b_neq, b_lss, b_leq, b_gtr, b_geq, vNot_b, vIf_b, vPick_b, vGuard_b, vGuard_u, vFieldAddr_p, vLenS_n, vLenS_s, vExt_t, vAlloc_e, vBox_e, vBuild_0, chk_true, jn_e, vCallV_e]
  by_cases hlen : ab.length = ws.length
  rotate_left
  · obtain ⟨M5, s1, s2, s3, -⟩ := sTN (x := .nils) (d := 0) (e := 0) (f := 0) rfl b23
    simp only [decide_eq_false (show ¬ (ab.length : Int) = ws.length by omega), Bool.not_false, if_true, s1]
    exact out (s3.keep _ kk3 (Nat.le_succ _)) (s3.fresh f3) s2 (by unfold nextF; rw [if_neg (by omega), if_pos hlen]) (by rw [if_neg (by omega)])
  simp only [decide_eq_true (show (ab.length : Int) = ws.length by omega), Bool.not_true, Bool.false_eq_true, if_false, d16_4, d16_5, ha.len, List.length_map, L3, toX_int, toX_bool, toX_str, toX_nils, toX_nilp, toX_ptr, toX_sl, toX_agg, toX_tup, toV_i, toV_b, toV_v, cells_i, cells_b, cells_agg, cells_sl, cells_nils, cells_str, cells_ptr, oC_some, vBin_i, b_add, b_sub, b_mul, b_eql, b_neq, b_lss, b_leq, b_gtr, b_geq, vNot_b, vIf_b, vPick_b, vGuard_b, vGuard_u, vFieldAddr_p, vLenS_n, vLenS_s, vExt_t, vAlloc_e, vBox_e, vBuild_0, chk_true, jn_e, vCallV_e]
  -- the block of what is given
  have k4 := Keep.new f3 (b := zB) rfl M3.lw
  have f4 := Fresh.new f3 zB M3.lw
  have b84 := lookC_eq' (i := M3.nx) (b := zB) M3.H rfl
  have nx3 : M.nx + 2 ≤ M3.nx := by have := k3.nx; simp at this; omega
  obtain ⟨M5, s1, s2, s3, -⟩ := sTN (M := ⟨(M3.nx, zB) :: M3.H, M3.nx + 1, M3.lw⟩) (x := v) (d := tn) (e := cr) (f := rd) hr.one b84
  have b15 : lookC M5.H M.nx = some (tB v tn cr rd) := by rw [s3.other M.nx (by omega), lookC_ne _ (by omega)]; exact b13
  have b25 : lookC M5.H (M.nx + 1) = some zB := by rw [s3.other (M.nx + 1) (by omega), lookC_ne _ (by omega)]; exact b23
  have hr5 := (hr3.keep k4).u (idne hr (by omega)) s3
  have ha5 := (ha3.keep k4).u (idne ha (by omega)) s3
  simp only [s1, d16_6, d16_7, d16_8]
  have hcw : cr ≤ 8 := by
    have : ws.getD tn.toNat 0 = ws[tn.toNat]'(by omega) := by rw [List.getD_eq_getElem?_getD, List.getElem?_eq_getElem (by omega)]; rfl
    have := (w3 tn.toNat (by omega)).2; omega
  have etn : ((tn.toNat : Nat) : Int) = tn := by omega
  obtain ⟨M6, k6, f6, hres⟩ := l16 (n + 2) m (z := .v .undef) (M0 := ⟨M.H, M.nx, M.nx⟩) (ab := ab) (kr := fun z r0 r1 r2 M' => finD prg tabP m (cx (n + 2) m) M.nx z [(.cell 4 24, r0), (.tmp 5, r1), (.tmp 6, r2)] M')
    (k0 := fun t2 t4 t511 Mq => vLoadN 4 t2 Mq fun t75 => vStoreN 4 t4 t75 Mq fun _ M16 => finD prg tabP m (cx (n + 2) m) M.nx t511 [(.cell 4 24, t4), (.tmp 5, .i .i64 (-1)), (.tmp 6, .i .i64 (0))] M16)
    hlen hm w3 g2 g3 (by omega) g4 (by omega) (t2 := M.nx) (t4 := M.nx + 1) (t8 := M3.nx) (by omega) (by omega) (Nat.le_succ _) (show M.nx ≤ M3.nx by omega) (idne hr (by omega)) (idne ha (by omega)) (ws.length + 1) 0 (by omega) (fun j hj => by omega) m (by omega) M5
    (s3.keep _ (kk3.trans k4) (show M.nx ≤ M3.nx by omega)) (s3.fresh f4) (by show _ = some (tB v ((tn.toNat : Nat) : Int) cr rd); rw [etn]; exact s2) b15 b25 ha5 hr5
  have elen : (ab.length : Int) = ws.length := by omega
  rw [elen]
  cases hfind : findT ws (tn.toNat, cr, rd) ab with
  | none =>
    rw [hfind] at hres
    obtain ⟨h1, h2, h3⟩ := hres
    refine Ret.of_eq h3 ?_
    obtain ⟨M7, t1, t2, t3, -⟩ := sTN (x := v) (d := tn) (e := cr) (f := rd) hr.one h2
    have L6 : ∀ K : X → CX, vLoadN 4 (.v (.ptr M.nx 0)) M6 K = K (.v (tV v tn cr rd)) := fun K => by rw [vLoadN_p, h1]; rfl
    simp only [L6, t1]
    exact out (t3.keep _ k6 (Nat.le_succ _)) (t3.fresh f6) t2 (by unfold nextF; rw [if_neg (by omega), if_neg (by omega), hfind]) (by rw [if_pos rfl])
  | some K =>
    rw [hfind] at hres
    by_cases hbig : 4611686018427387904 < (stT ws (tn.toNat, cr, rd) K).2.2
    · simp only [if_pos hbig] at hres
      refine Ret.of_eq hres.2 ?_
      exact out k6 f6 hres.1 (by unfold nextF; rw [if_neg (by omega), if_neg (by omega), hfind]; simp only; rw [if_pos hbig]) (by rw [if_neg (by omega)])
    · simp only [if_neg hbig] at hres
      refine Ret.of_eq hres.2 ?_
      exact out k6 f6 hres.1 (by unfold nextF; rw [if_neg (by omega), if_neg (by omega), hfind]; simp only; rw [if_neg hbig]) (by rw [if_pos rfl])
end Go.Proofs.Ytehbfajmileefaa.Px

/-
  Turns: the law of Next, on values.
-/
namespace Go.Proofs.Ytehbfajmileefaa.Px
open Go.RowKit Go.Proofs.Ytehbfajmileefaa.Vx Go.Proofs.Ytehbfajmileefaa.Fx
set_option linter.unusedVariables false
set_option linter.unusedSimpArgs false
set_option maxRecDepth 10000
variable {M : Mm}
theorem c9 (n m : Nat) (hf : Fresh M) : Ret (cx (n + 1) m 9 [] M) M fun x _ => x = .b true := ⟨.b true, M, rfl, Keep.refl hf, hf, rfl⟩
theorem Fresh.bump (h : Fresh M) (lw : Nat) : Fresh ⟨M.H, M.nx + 1, lw⟩ := Srt.le h (Nat.le_succ _)
theorem Keep.bump (h : Fresh M) (lw : Nat) : Keep M ⟨M.H, M.nx + 1, lw⟩ := ⟨Nat.le_succ _, fun _ _ => rfl, fun i b hi hb => by rw [Fresh.none h hi] at hb; simp at hb⟩
/-- the copy of the weights -/
theorem copyW {ws : List Int} (hm : ws.length < 4294967296) {v : V} (hr : Row M.nx M.H v (ws.map iV)) (hf : Fresh M) (h0 : ∀ (M : Mm) (KM : X → Mm → CX), Row M.nx M.H v [] → vApp prg 22 22 (.v .nils) (.v v) M KM = KM (.v .nils) ⟨M.H, M.nx + 1, M.lw⟩) :
    ∃ v5 M', (∀ KM : X → Mm → CX, vApp prg 22 22 (.v .nils) (.v v) M KM = KM (.v v5) M') ∧ Row M'.nx M'.H v5 (ws.map iV) ∧ Keep M M' ∧ Fresh M' ∧ (∀ t, t < M.nx → idV v5 ≠ some t) := by
  by_cases hw : ws = []
  · subst hw
    exact ⟨.nils, _, fun KM => h0 M KM hr, .inl ⟨rfl, rfl⟩, Keep.bump hf _, Fresh.bump hf _, fun t _ => by simp [idV]⟩
  · refine ⟨.sl M.nx 0 ws.length (.rest 0), _, fun KM => ?_, .inr ⟨M.nx, 0, .rest 0, _, by rw [List.length_map], Nat.lt_succ_self _, lookC_eq' _ (b := ⟨3, 1, ws.map iV, true, false⟩) rfl, fun i hi => by simp⟩, Keep.new hf rfl M.lw, Fresh.new hf _ _, fun t ht => by simp [idV]; omega⟩
    have := app_nil (KM := KM) (M := M) one22 hr (by simpa using hw) (allOne_i ws) (by simp [maxBytes]; omega) (by simp [maxBytes]; omega)
    rw [List.length_map] at this
    exact this
/-- zeros put into a row of one's own -/
theorem l3 (n m : Nat) {z : X} {kr : X → X → Mm → CX} {k0 : X → X → X → Mm → CX} {id t13 t2 t6 : Nat} {L : Nat} {a b c : Int} (hL : L < 4294967296) (hne : id ≠ t13) : ∀ (r j : Nat), j + r = L → ∀ j', r < j' → ∀ M : Mm, lookC M.H t13 = some (tB (.sl id 0 L (.is L)) a b c) → (∃ cs : List V, cs.length = L ∧ lookC M.H id = some ⟨3, 1, cs, true, false⟩) →
    ∃ M', Upd id M M' ∧ d3_18 (cx n m) m kr k0 j' (.v (.ptr t2 0)) (.v (.ptr t6 0)) (.v (.ptr t13 0)) (.i .i64 j) z M = k0 (.v (.ptr t2 0)) (.v (.ptr t6 0)) z M' := by
  intro r
  induction r with
  | zero =>
    intro j hj j' hj' M h1 h2
    obtain ⟨j', rfl⟩ : ∃ q, j' = q + 1 := ⟨j' - 1, by omega⟩
    refine ⟨M, Upd.refl _ _, ?_⟩
    simp only [d3_18, toX_int, toX_bool, toX_str, toX_nils, toX_nilp, toX_ptr, toX_sl, toX_agg, toX_tup, toV_i, toV_b, toV_v, cells_i, cells_b, cells_agg, cells_sl, cells_nils, cells_str, cells_ptr, oC_some, vBin_i, b_add, b_sub, b_mul, b_eql, b_neq, b_lss, b_leq, b_gtr, b_geq, vNot_b, vIf_b, vPick_b, vGuard_b, vGuard_u, vFieldAddr_p, vLenS_n, vLenS_s, vExt_t, vAlloc_e, vBox_e, vBuild_0, chk_true, jn_e, vCallV_e, decide_true, decide_false, if_true, if_false, Bool.false_eq_true, Bool.true_eq_false, Bool.not_true, Bool.not_false, Nat.zero_add, Nat.add_zero, Nat.reduceAdd, List.getElem?_cons_zero, List.getElem?_cons_succ, vLoad1_p, one_int, one_bool, one_str, one_sl, one_nils, one_ptr, h1, decide_eq_false (show ¬ (j : Int) < L by omega)]
  | succ r ih =>
    intro j hj j' hj' M h1 ⟨cs, hcs, h2⟩
    obtain ⟨j', rfl⟩ : ∃ q, j' = q + 1 := ⟨j' - 1, by omega⟩
    have hjL : j < L := by omega
    obtain ⟨lw, st⟩ := store1_of (M := M) (off := j) (x := .i .i64 0) h2 rfl rfl (by show j < cs.length; omega)
    have u : Upd id M ⟨upd M.H id { (⟨3, 1, cs, true, false⟩ : Blk) with cells := put1 cs j [(X.i .i64 0).toV] }, M.nx, lw⟩ := ⟨rfl, fun M0 k h => k.upd h2 h rfl _, fun f => Fresh.upd f _ _ _, fun i hi => upd_ne h2 (Ne.symm hi)⟩
    obtain ⟨M', w1, w2⟩ := ih (j + 1) (by omega) j' (by omega) _ (by rw [u.other t13 (Ne.symm hne)]; exact h1) ⟨put1 cs j [(X.i .i64 0).toV], by simp [put1]; omega, upd_at h2⟩
    refine ⟨M', u.trans w1, ?_⟩
    rw [← w2]
    have L0 : ∀ K : X → CX, vLoad1 (.v (.ptr t13 0)) M K = K (.v (.sl id 0 L (.is L))) := fun K => by simp only [toX_int, toX_bool, toX_str, toX_nils, toX_nilp, toX_ptr, toX_sl, toX_agg, toX_tup, toV_i, toV_b, toV_v, cells_i, cells_b, cells_agg, cells_sl, cells_nils, cells_str, cells_ptr, oC_some, vBin_i, b_add, b_sub, b_mul, b_eql, b_neq, b_lss, b_leq, b_gtr, b_geq, vNot_b, vIf_b, vPick_b, vGuard_b, vGuard_u, vFieldAddr_p, vLenS_n, vLenS_s, vExt_t, vAlloc_e, vBox_e, vBuild_0, chk_true, jn_e, vCallV_e, decide_true, decide_false, if_true, if_false, Bool.false_eq_true, Bool.true_eq_false, Bool.not_true, Bool.not_false, Nat.zero_add, Nat.add_zero, Nat.reduceAdd, List.getElem?_cons_zero, List.getElem?_cons_succ, vLoad1_p, one_int, one_bool, one_str, one_sl, one_nils, one_ptr, h1]
    have L1 : ∀ K : X → CX, vIndexAddr 1 (.v (.sl id 0 L (.is L))) (.i .i64 j) K = K (.v (.ptr id j)) := fun K => by rw [vIndexAddr_s, if_pos ⟨by omega, by omega⟩]; simp
    simp only [d3_18, toX_int, toX_bool, toX_str, toX_nils, toX_nilp, toX_ptr, toX_sl, toX_agg, toX_tup, toV_i, toV_b, toV_v, cells_i, cells_b, cells_agg, cells_sl, cells_nils, cells_str, cells_ptr, oC_some, vBin_i, b_add, b_sub, b_mul, b_eql, b_neq, b_lss, b_leq, b_gtr, b_geq, vNot_b, vIf_b, vPick_b, vGuard_b, vGuard_u, vFieldAddr_p, vLenS_n, vLenS_s, vExt_t, vAlloc_e, vBox_e, vBuild_0, chk_true, jn_e, vCallV_e, Nat.zero_add, L0, decide_eq_true (show (j : Int) < L by omega), if_true, L1, st]
    rw [wrap64 (by omega) (by omega)]
    rfl
end Go.Proofs.Ytehbfajmileefaa.Px

/-
  Turns: the law of Next, on values: the way through.
-/
namespace Go.Proofs.Ytehbfajmileefaa.Px
open Go.RowKit Go.Proofs.Ytehbfajmileefaa.Vx Go.Proofs.Ytehbfajmileefaa.Fx
set_option linter.unusedVariables false
set_option linter.unusedSimpArgs false
set_option maxRecDepth 10000
variable {M M0 M1 Mz A : Mm} {Q : X → Hp → Prop}
structure S3 (M0 M : Mm) (t2 t6 : Nat) (v v5 va : V) (ws : List Int) (tn cr rd : Int) (ab : List Bool) : Prop where
  keep : Keep M0 M
  fresh : Fresh M
  l2 : lookC M.H t2 = some (tB v tn cr rd)
  b2 : t2 < M.nx
  l6 : lookC M.H t6 = some (tB v5 tn cr rd)
  b6 : t6 < M.nx
  hr : Row M.nx M.H v (ws.map iV)
  h5 : Row M.nx M.H v5 (ws.map iV)
  ha : Row M.nx M.H va (ab.map bV)
variable {t2 t6 : Nat} {v v5 va : V} {ws : List Int} {tn cr rd : Int} {ab : List Bool}
theorem S3.k (s : S3 M0 M t2 t6 v v5 va ws tn cr rd ab) (k : Keep M M1) (f : Fresh M1) : S3 M0 M1 t2 t6 v v5 va ws tn cr rd ab :=
  ⟨s.keep.trans k, f, by rw [k.lookC s.b2]; exact s.l2, Nat.lt_of_lt_of_le s.b2 k.nx, by rw [k.lookC s.b6]; exact s.l6, Nat.lt_of_lt_of_le s.b6 k.nx, s.hr.keep k, s.h5.keep k, s.ha.keep k⟩
theorem S3.L2 (s : S3 M0 M t2 t6 v v5 va ws tn cr rd ab) (K : X → CX) : vLoadN 4 (.v (.ptr t2 0)) M K = K (.v (tV v tn cr rd)) := by rw [vLoadN_p, s.l2]; rfl
theorem S3.L6 (s : S3 M0 M t2 t6 v v5 va ws tn cr rd ab) (K : X → CX) : vLoadN 4 (.v (.ptr t6 0)) M K = K (.v (tV v5 tn cr rd)) := by rw [vLoadN_p, s.l6]; rfl
theorem s15 (n m : Nat) {kr : X → X → Mm → CX} {kn : X → X → Mm → CX} {t13 : Nat} {vs : V} {a b c : Int} (hl : ws.length < m) (hm : ws.length < 4294967296) (s : S3 M0 A t2 t6 v v5 va ws tn cr rd ab) (k : Keep A M) (f : Fresh M) (h13 : lookC M.H t13 = some (tB vs a b c)) (hA : A.nx ≤ t13)
    (hvs : vs = .nils ∨ ∃ id, vs = .sl id 0 ws.length (.is ws.length) ∧ A.nx ≤ id ∧ id ≠ t13 ∧ ∃ cs : List V, cs.length = ws.length ∧ lookC M.H id = some ⟨3, 1, cs, true, false⟩)
    (hkr : ∀ M', Keep M0 M' → Fresh M' → Ret (kr (.v .undef) (.b true) M') Mz Q) : Ret (d3_15 (cx (n + 2) m) m kr kn (.v (.ptr t2 0)) (.v (.ptr t6 0)) (.v (.ptr t13 0)) (.v .undef) M) Mz Q := by
  unfold d3_15 d3_16 d3_17
  generalize hk0 : (fun (t2 t6 t511 : X) (M : Mm) => _) = k0
  have e : ∃ M', Keep A M' ∧ Fresh M' ∧ d3_18 (cx (n + 2) m) m kr k0 m (.v (.ptr t2 0)) (.v (.ptr t6 0)) (.v (.ptr t13 0)) (.i .i64 0) (.v .undef) M = k0 (.v (.ptr t2 0)) (.v (.ptr t6 0)) (.v .undef) M' := by
    rcases hvs with rfl | ⟨id, rfl, g1, g2, cs, g3, g4⟩
    · obtain ⟨q, rfl⟩ : ∃ q, m = q + 1 := ⟨m - 1, by omega⟩
      refine ⟨M, k, f, ?_⟩
      simp only [d3_18, toX_int, toX_bool, toX_str, toX_nils, toX_nilp, toX_ptr, toX_sl, toX_agg, toX_tup, toV_i, toV_b, toV_v, cells_i, cells_b, cells_agg, cells_sl, cells_nils, cells_str, cells_ptr, oC_some, vBin_i, b_add, b_sub, b_mul, b_eql, b_neq, b_lss, b_leq, b_gtr, b_geq, vNot_b, vIf_b, vPick_b, vGuard_b, vGuard_u, vFieldAddr_p, vLenS_n, vLenS_s, vExt_t, vAlloc_e, vBox_e, vBuild_0, chk_true, jn_e, vCallV_e, decide_true, decide_false, if_true, if_false, Bool.false_eq_true, Bool.true_eq_false, Bool.not_true, Bool.not_false, Nat.zero_add, Nat.add_zero, Nat.reduceAdd, List.getElem?_cons_zero, List.getElem?_cons_succ, vLoad1_p, one_int, one_bool, one_str, one_sl, one_nils, one_ptr, h13, decide_eq_false (show ¬ (0 : Int) < 0 by omega)]
    · obtain ⟨M', u, e⟩ := l3 (n + 2) m (z := .v .undef) (kr := kr) (k0 := k0) (t2 := t2) (t6 := t6) hm g2 ws.length 0 (by omega) m hl M h13 ⟨cs, g3, g4⟩
      exact ⟨M', u.keep _ k g1, u.fresh f, e⟩
  obtain ⟨M', k', f', e⟩ := e
  refine Ret.of_eq e ?_
  subst hk0
  have s' := s.k k' f'
  obtain ⟨x, M2, e2, k2, f2, rfl⟩ := (c15 (M := M') n m (la := ws) (lb := ws) (ta := tn) (ca := cr) (ra := rd) (tb := tn) (cb := cr) (rb := rd) hl hm s'.hr s'.h5 f').call
  obtain ⟨x, M3, e3, k3, f3, rfl⟩ := (c9 (M := M2) (n + 1) m f2).call
  simp only [s'.L2, s'.L6, e2, e3, toX_int, toX_bool, toX_str, toX_nils, toX_nilp, toX_ptr, toX_sl, toX_agg, toX_tup, toV_i, toV_b, toV_v, cells_i, cells_b, cells_agg, cells_sl, cells_nils, cells_str, cells_ptr, oC_some, vBin_i, b_add, b_sub, b_mul, b_eql, b_neq, b_lss, b_leq, b_gtr, b_geq, vNot_b, vIf_b, vPick_b, vGuard_b, vGuard_u, vFieldAddr_p, vLenS_n, vLenS_s, vExt_t, vAlloc_e, vBox_e, vBuild_0, chk_true, jn_e, vCallV_e, and_self, if_true, decide_true]
  exact hkr M3 ((s'.keep.trans k2).trans k3) f3
/-- a flag at its place -/
theorem flag {M : Mm} (h : Row M.nx M.H va (ab.map bV)) {p : Int} (h0 : 0 ≤ p) (h1 : p < ab.length) : ∃ q, (∀ K : X → CX, vIndexAddr 1 (.v va) (.i .i64 p) K = K (.v q)) ∧ ∀ K : X → CX, vLoad1 (.v q) M K = K (.b (ab.getD p.toNat false)) := by
  obtain ⟨id, o, g1, g2, -, g3⟩ := h.get (i := p.toNat) (by simp; omega)
  refine ⟨.ptr id o, ?_, fun K => ?_⟩
  · rw [show ((p.toNat : Nat) : Int) = p by omega] at g1; exact g1
  · rw [g3 M rfl (by simp [one_bool]), List.getElem_map, toX_bool, List.getD_eq_getElem?_getD, List.getElem?_eq_getElem (by omega)]; rfl
theorem s14 (n m : Nat) {kr : X → X → Mm → CX} {kn : X → X → Mm → CX} {t13 : Nat} {vs : V} (hl : ws.length < m) (hm : ws.length < 4294967296) (hrd : (nextF ws tn cr rd ab).2.2 = 0 → 0 ≤ rd ∧ rd ≤ 4611686018427387904) (s : S3 M0 A t2 t6 v v5 va ws tn cr rd ab) (k : Keep A M) (f : Fresh M) (h13 : lookC M.H t13 = some (tB vs (nextF ws tn cr rd ab).1.1 (nextF ws tn cr rd ab).1.2.1 (nextF ws tn cr rd ab).1.2.2)) (hA : A.nx ≤ t13)
    (hvs : vs = .nils ∨ ∃ id, vs = .sl id 0 ws.length (.is ws.length) ∧ A.nx ≤ id ∧ id ≠ t13 ∧ ∃ cs : List V, cs.length = ws.length ∧ lookC M.H id = some ⟨3, 1, cs, true, false⟩)
    (hkr : ∀ M', Keep M0 M' → Fresh M' → Ret (kr (.v .undef) (.b true) M') Mz Q) : Ret (d3_14 (cx (n + 2) m) m kr kn (.v va) (.v (.ptr t2 0)) (.v (.ptr t6 0)) (.v (.ptr t13 0)) (.i .i64 (max (nextF ws tn cr rd ab).2.1 0)) (.b (decide (0 ≤ (nextF ws tn cr rd ab).2.1))) (.v .undef) M) Mz Q := by
  have go := s15 n m (kn := kn) hl hm s k f h13 hA hvs hkr
  have s' := s.k k f
  by_cases hp : 0 ≤ (nextF ws tn cr rd ab).2.1
  · obtain ⟨h1, h2, h3, h4⟩ := next_facts hp
    obtain ⟨r1, r2⟩ := hrd h4
    obtain ⟨q, q1, q2⟩ := flag s'.ha hp h1
    rw [h2] at q2
    have hmax : max (nextF ws tn cr rd ab).2.1 0 = (nextF ws tn cr rd ab).2.1 := by omega
    have L13 : ∀ K : X → CX, vLoad1 (.v (.ptr t13 3)) M K = K (.i .i64 (nextF ws tn cr rd ab).1.2.2) := fun K => by simp only [toX_int, toX_bool, toX_str, toX_nils, toX_nilp, toX_ptr, toX_sl, toX_agg, toX_tup, toV_i, toV_b, toV_v, cells_i, cells_b, cells_agg, cells_sl, cells_nils, cells_str, cells_ptr, oC_some, vBin_i, b_add, b_sub, b_mul, b_eql, b_neq, b_lss, b_leq, b_gtr, b_geq, vNot_b, vIf_b, vPick_b, vGuard_b, vGuard_u, vFieldAddr_p, vLenS_n, vLenS_s, vExt_t, vAlloc_e, vBox_e, vBuild_0, chk_true, jn_e, vCallV_e, decide_true, decide_false, if_true, if_false, Bool.false_eq_true, Bool.true_eq_false, Bool.not_true, Bool.not_false, Nat.zero_add, Nat.add_zero, Nat.reduceAdd, List.getElem?_cons_zero, List.getElem?_cons_succ, vLoad1_p, one_int, one_bool, one_str, one_sl, one_nils, one_ptr, h13]
    have L2 : ∀ K : X → CX, vLoad1 (.v (.ptr t2 3)) M K = K (.i .i64 rd) := fun K => by simp only [toX_int, toX_bool, toX_str, toX_nils, toX_nilp, toX_ptr, toX_sl, toX_agg, toX_tup, toV_i, toV_b, toV_v, cells_i, cells_b, cells_agg, cells_sl, cells_nils, cells_str, cells_ptr, oC_some, vBin_i, b_add, b_sub, b_mul, b_eql, b_neq, b_lss, b_leq, b_gtr, b_geq, vNot_b, vIf_b, vPick_b, vGuard_b, vGuard_u, vFieldAddr_p, vLenS_n, vLenS_s, vExt_t, vAlloc_e, vBox_e, vBuild_0, chk_true, jn_e, vCallV_e, decide_true, decide_false, if_true, if_false, Bool.false_eq_true, Bool.true_eq_false, Bool.not_true, Bool.not_false, Nat.zero_add, Nat.add_zero, Nat.reduceAdd, List.getElem?_cons_zero, List.getElem?_cons_succ, vLoad1_p, one_int, one_bool, one_str, one_sl, one_nils, one_ptr, s'.l2]
    simp only [d3_14, hmax, decide_eq_true hp, toX_int, toX_bool, toX_str, toX_nils, toX_nilp, toX_ptr, toX_sl, toX_agg, toX_tup, toV_i, toV_b, toV_v, cells_i, cells_b, cells_agg, cells_sl, cells_nils, cells_str, cells_ptr, oC_some, vBin_i, b_add, b_sub, b_mul, b_eql, b_neq, b_lss, b_leq, b_gtr, b_geq, vNot_b, vIf_b, vPick_b, vGuard_b, vGuard_u, vFieldAddr_p, vLenS_n, vLenS_s, vExt_t, vAlloc_e, vBox_e, vBuild_0, chk_true, jn_e, vCallV_e, if_true, q1, q2, Bool.not_true, Bool.false_eq_true, if_false, Nat.zero_add, L13, L2]
    rw [wrap64 (n := rd + 1) (by omega) (by omega)]
    simp only [decide_eq_false (show ¬ rd + 1 < (nextF ws tn cr rd ab).1.2.2 by omega), Bool.false_eq_true, if_false]
    exact go
  · simp only [d3_14, decide_eq_false hp, toX_int, toX_bool, toX_str, toX_nils, toX_nilp, toX_ptr, toX_sl, toX_agg, toX_tup, toV_i, toV_b, toV_v, cells_i, cells_b, cells_agg, cells_sl, cells_nils, cells_str, cells_ptr, oC_some, vBin_i, b_add, b_sub, b_mul, b_eql, b_neq, b_lss, b_leq, b_gtr, b_geq, vNot_b, vIf_b, vPick_b, vGuard_b, vGuard_u, vFieldAddr_p, vLenS_n, vLenS_s, vExt_t, vAlloc_e, vBox_e, vBuild_0, chk_true, jn_e, vCallV_e, Bool.false_eq_true, if_false]
    exact go
end Go.Proofs.Ytehbfajmileefaa.Px

/-
  Turns: the law of Next, on values: the comparison.
-/
namespace Go.Proofs.Ytehbfajmileefaa.Px
open Go.RowKit Go.Proofs.Ytehbfajmileefaa.Vx Go.Proofs.Ytehbfajmileefaa.Fx
set_option linter.unusedVariables false
set_option linter.unusedSimpArgs false
set_option maxRecDepth 10000
variable {M M0 M1 Mz A : Mm} {Q : X → Hp → Prop}
variable {t2 t6 : Nat} {v v5 va : V} {ws : List Int} {tn cr rd : Int} {ab : List Bool}
theorem mx64 (M : Mm) (KM : X → Mm → CX) (a b : Int) : vMM false (.i .i64 a) (.i .i64 b) M KM = KM (.i .i64 (max a b)) M := by
  have e : ltB a b = decide (a < b) := by first | rfl | simp [ltB] | (unfold ltB; cases a <;> cases b <;> simp)
  have e2 : vMM false (.i .i64 a) (.i .i64 b) M KM = match ltB a b with | true => KM (.i .i64 b) M | false => KM (.i .i64 a) M := by cases h : ltB a b <;> simp [vMM, nB, minmaxV, oR, X.toV, V.toX, mkLt, mkIte, intX, T.int?, h]
  rw [e2, e]
  by_cases h : a < b
  · rw [show max a b = b by omega, decide_eq_true h]
  · rw [show max a b = a by omega, decide_eq_false h]
theorem cap22 (M : Mm) (KM : X → Mm → CX) (id off k c : Nat) : vCap prg 22 (.v (.sl id off k (.is c))) M KM = KM (.i .i64 c) M := by kernel_rfl
theorem cap22n (M : Mm) (KM : X → Mm → CX) : vCap prg 22 (.v .nils) M KM = KM (.i .i64 0) M := by kernel_rfl
theorem neb (M : Mm) (KM : X → Mm → CX) (a : Bool) : vBinG prg .neq 4 (.b a) (.b a) M KM = KM (.b false) M := by cases a <;> kernel_rfl
theorem s13 (n m : Nat) {kr : X → X → Mm → CX} {kn : X → X → Mm → CX} {t13 t10 : Nat} {vs : V} (hl : ws.length < m) (hm : ws.length < 4294967296) (hrd : (nextF ws tn cr rd ab).2.2 = 0 → 0 ≤ rd ∧ rd ≤ 4611686018427387904) (s : S3 M0 A t2 t6 v v5 va ws tn cr rd ab) (k : Keep A M) (f : Fresh M) (h13 : lookC M.H t13 = some (tB vs (nextF ws tn cr rd ab).1.1 (nextF ws tn cr rd ab).1.2.1 (nextF ws tn cr rd ab).1.2.2)) (hA : A.nx ≤ t13) (hB : t13 < M.nx)
    (h10 : lookC M.H t10 = some (tB (if (nextF ws tn cr rd ab).2.2 = 0 then v else .nils) (nextF ws tn cr rd ab).1.1 (nextF ws tn cr rd ab).1.2.1 (nextF ws tn cr rd ab).1.2.2))
    (hvs : ((nextF ws tn cr rd ab).2.2 ≠ 0 ∧ vs = .nils) ∨ ((nextF ws tn cr rd ab).2.2 = 0 ∧ ∃ id, vs = .sl id 0 ws.length (.is ws.length) ∧ A.nx ≤ id ∧ id < M.nx ∧ id ≠ t13 ∧ lookC M.H id = some ⟨3, 1, ws.map iV, true, false⟩))
    (hkr : ∀ M', Keep M0 M' → Fresh M' → Ret (kr (.v .undef) (.b true) M') Mz Q) : Ret (d3_13 (cx (n + 2) m) m kr kn (.v va) (.v (.ptr t2 0)) (.v (.ptr t6 0)) (.v (.ptr t10 0)) (.i .i64 (nextF ws tn cr rd ab).2.1) (.i .i64 (nextF ws tn cr rd ab).2.2) (.v (.ptr t13 0)) (.i .i64 (max (nextF ws tn cr rd ab).2.1 0)) (.b (decide (0 ≤ (nextF ws tn cr rd ab).2.1))) (.i .i64 (nextF ws tn cr rd ab).2.2) (.v .undef) M) Mz Q := by
  have L13 : ∀ K : X → CX, vLoadN 4 (.v (.ptr t13 0)) M K = K (.v (tV vs (nextF ws tn cr rd ab).1.1 (nextF ws tn cr rd ab).1.2.1 (nextF ws tn cr rd ab).1.2.2)) := fun K => by rw [vLoadN_p, h13]; rfl
  have L10 : ∀ K : X → CX, vLoadN 4 (.v (.ptr t10 0)) M K = K (.v (tV (if (nextF ws tn cr rd ab).2.2 = 0 then v else .nils) (nextF ws tn cr rd ab).1.1 (nextF ws tn cr rd ab).1.2.1 (nextF ws tn cr rd ab).1.2.2)) := fun K => by rw [vLoadN_p, h10]; rfl
  have s' := s.k k f
  have rows : ∃ l : List Int, l.length < m ∧ l.length < 4294967296 ∧ Row M.nx M.H vs (l.map iV) ∧ Row M.nx M.H (if (nextF ws tn cr rd ab).2.2 = 0 then v else .nils) (l.map iV) := by
    rcases hvs with ⟨h, rfl⟩ | ⟨h, id, rfl, g1, g2, g3, g4⟩
    · exact ⟨[], by simp; omega, by simp, .inl ⟨rfl, rfl⟩, by rw [if_neg h]; exact .inl ⟨rfl, rfl⟩⟩
    · exact ⟨ws, hl, hm, .inr ⟨id, 0, .is ws.length, _, by rw [List.length_map], g2, g4, fun i hi => by simp⟩, by rw [if_pos h]; exact s'.hr⟩
  obtain ⟨l, l1, l2, r1, r2⟩ := rows
  obtain ⟨x, M2, e2, k2, f2, rfl⟩ := (c15 (M := M) n m (la := l) (lb := l) (ta := (nextF ws tn cr rd ab).1.1) (ca := (nextF ws tn cr rd ab).1.2.1) (ra := (nextF ws tn cr rd ab).1.2.2) (tb := (nextF ws tn cr rd ab).1.1) (cb := (nextF ws tn cr rd ab).1.2.1) (rb := (nextF ws tn cr rd ab).1.2.2) l1 l2 r1 r2 f).call
  have h13' : lookC M2.H t13 = _ := (k2.lookC hB).trans h13
  have go := s14 n m (kr := kr) (kn := kn) (t13 := t13) (vs := vs) hl hm hrd s (k.trans k2) f2 h13' hA (by
    rcases hvs with ⟨h, rfl⟩ | ⟨h, id, rfl, g1, g2, g3, g4⟩
    · exact .inl rfl
    · exact .inr ⟨id, rfl, g1, g3, ws.map iV, by simp, by rw [k2.lookC g2]; exact g4⟩) hkr
  have cv : (∀ K : X → CX, vLoad1 (.v (.ptr t13 0)) M2 K = K (.v vs)) ∧ ∃ c : Nat, (∀ KM : X → Mm → CX, vCap prg 22 (.v vs) M2 KM = KM (.i .i64 c) M2) ∧ ∀ K : X → CX, vLenS (.v vs) K = K (.i .i64 c) := by
    rcases hvs with ⟨h, rfl⟩ | ⟨h, id, rfl, g1, g2, g3, g4⟩
    · exact ⟨fun K => by simp only [toX_int, toX_bool, toX_str, toX_nils, toX_nilp, toX_ptr, toX_sl, toX_agg, toX_tup, toV_i, toV_b, toV_v, cells_i, cells_b, cells_agg, cells_sl, cells_nils, cells_str, cells_ptr, oC_some, vBin_i, b_add, b_sub, b_mul, b_eql, b_neq, b_lss, b_leq, b_gtr, b_geq, vNot_b, vIf_b, vPick_b, vGuard_b, vGuard_u, vFieldAddr_p, vLenS_n, vLenS_s, vExt_t, vAlloc_e, vBox_e, vBuild_0, chk_true, jn_e, vCallV_e, decide_true, decide_false, if_true, if_false, Bool.false_eq_true, Bool.true_eq_false, Bool.not_true, Bool.not_false, Nat.zero_add, Nat.add_zero, Nat.reduceAdd, List.getElem?_cons_zero, List.getElem?_cons_succ, vLoad1_p, one_int, one_bool, one_str, one_sl, one_nils, one_ptr, h13'], 0, fun K => by rw [cap22n]; rfl, fun K => by simp only [toX_int, toX_bool, toX_str, toX_nils, toX_nilp, toX_ptr, toX_sl, toX_agg, toX_tup, toV_i, toV_b, toV_v, cells_i, cells_b, cells_agg, cells_sl, cells_nils, cells_str, cells_ptr, oC_some, vBin_i, b_add, b_sub, b_mul, b_eql, b_neq, b_lss, b_leq, b_gtr, b_geq, vNot_b, vIf_b, vPick_b, vGuard_b, vGuard_u, vFieldAddr_p, vLenS_n, vLenS_s, vExt_t, vAlloc_e, vBox_e, vBuild_0, chk_true, jn_e, vCallV_e]; rfl⟩
    · exact ⟨fun K => by simp only [toX_int, toX_bool, toX_str, toX_nils, toX_nilp, toX_ptr, toX_sl, toX_agg, toX_tup, toV_i, toV_b, toV_v, cells_i, cells_b, cells_agg, cells_sl, cells_nils, cells_str, cells_ptr, oC_some, vBin_i, b_add, b_sub, b_mul, b_eql, b_neq, b_lss, b_leq, b_gtr, b_geq, vNot_b, vIf_b, vPick_b, vGuard_b, vGuard_u, vFieldAddr_p, vLenS_n, vLenS_s, vExt_t, vAlloc_e, vBox_e, vBuild_0, chk_true, jn_e, vCallV_e, decide_true, decide_false, if_true, if_false, Bool.false_eq_true, Bool.true_eq_false, Bool.not_true, Bool.not_false, Nat.zero_add, Nat.add_zero, Nat.reduceAdd, List.getElem?_cons_zero, List.getElem?_cons_succ, vLoad1_p, one_int, one_bool, one_str, one_sl, one_nils, one_ptr, h13'], ws.length, fun K => by rw [cap22], fun K => by simp only [toX_int, toX_bool, toX_str, toX_nils, toX_nilp, toX_ptr, toX_sl, toX_agg, toX_tup, toV_i, toV_b, toV_v, cells_i, cells_b, cells_agg, cells_sl, cells_nils, cells_str, cells_ptr, oC_some, vBin_i, b_add, b_sub, b_mul, b_eql, b_neq, b_lss, b_leq, b_gtr, b_geq, vNot_b, vIf_b, vPick_b, vGuard_b, vGuard_u, vFieldAddr_p, vLenS_n, vLenS_s, vExt_t, vAlloc_e, vBox_e, vBuild_0, chk_true, jn_e, vCallV_e]⟩
  obtain ⟨cv1, c, cv2, cv3⟩ := cv
  simp only [d3_13, toX_int, toX_bool, toX_str, toX_nils, toX_nilp, toX_ptr, toX_sl, toX_agg, toX_tup, toV_i, toV_b, toV_v, cells_i, cells_b, cells_agg, cells_sl, cells_nils, cells_str, cells_ptr, oC_some, vBin_i, b_add, b_sub, b_mul, b_eql, b_neq, b_lss, b_leq, b_gtr, b_geq, vNot_b, vIf_b, vPick_b, vGuard_b, vGuard_u, vFieldAddr_p, vLenS_n, vLenS_s, vExt_t, vAlloc_e, vBox_e, vBuild_0, chk_true, jn_e, vCallV_e, ne_eq, not_true_eq_false, decide_false, decide_true, Bool.not_true, if_true, Bool.false_eq_true, if_false, L13, L10, e2, and_self, Int.reduceEq, ge_iff_le, neb, mx64, cv1, cv2, cv3]
  exact go
theorem s12 (n m : Nat) {kr : X → X → Mm → CX} {kn : X → X → Mm → CX} {t10 : Nat} (hl : ws.length < m) (hla : ab.length < m) (hm : ws.length < 4294967296) (hma : ab.length < 4294967296) (s : S3 M0 A t2 t6 v v5 va ws tn cr rd ab) (hB : t10 < A.nx)
    (h10 : lookC A.H t10 = some (tB (if (nextF ws tn cr rd ab).2.2 = 0 then v else .nils) (nextF ws tn cr rd ab).1.1 (nextF ws tn cr rd ab).1.2.1 (nextF ws tn cr rd ab).1.2.2))
    (hkr : ∀ M', Keep M0 M' → Fresh M' → Ret (kr (.v .undef) (.b true) M') Mz Q) : Ret (d3_12 (cx (n + 7) m) m kr kn (.v va) (.v (.ptr t2 0)) (.v (.ptr t6 0)) (.v (.ptr t10 0)) (.i .i64 (nextF ws tn cr rd ab).2.1) (.i .i64 (nextF ws tn cr rd ab).2.2) (.v .undef) A) Mz Q := by
  have hrd : (nextF ws tn cr rd ab).2.2 = 0 → 0 ≤ rd ∧ rd ≤ 4611686018427387904 := fun h => by
    by_cases hc : chkE ws tn cr rd = 0
    · obtain ⟨_, _, _, h1, h2, h3⟩ := chkE_ok hc; omega
    · rw [next_bad hc] at h; exact absurd h hc
  obtain ⟨x, M2, e2, k2, f2, vs, rfl, hvs⟩ := (c17 (M := A) n m (tn := tn) (cr := cr) (rd := rd) hl hla hm hma s.hr s.ha s.fresh).call
  have k3 := Keep.new f2 (b := zB) rfl M2.lw
  have f3 := Fresh.new f2 zB M2.lw
  have b3 := lookC_eq' (i := M2.nx) (b := zB) M2.H rfl
  have hone : vs.one = true := by rcases hvs with ⟨-, rfl⟩ | ⟨-, id, rfl, -⟩ <;> rfl
  obtain ⟨M4, s1, s2, s3, -⟩ := sTN (M := ⟨(M2.nx, zB) :: M2.H, M2.nx + 1, M2.lw⟩) (x := vs) (d := (nextF ws tn cr rd ab).1.1) (e := (nextF ws tn cr rd ab).1.2.1) (f := (nextF ws tn cr rd ab).1.2.2) hone b3
  have kk : Keep A M4 := s3.keep A (k2.trans k3) k2.nx
  simp only [d3_12, s.L2, e2, toX_int, toX_bool, toX_str, toX_nils, toX_nilp, toX_ptr, toX_sl, toX_agg, toX_tup, toV_i, toV_b, toV_v, cells_i, cells_b, cells_agg, cells_sl, cells_nils, cells_str, cells_ptr, oC_some, vBin_i, b_add, b_sub, b_mul, b_eql, b_neq, b_lss, b_leq, b_gtr, b_geq, vNot_b, vIf_b, vPick_b, vGuard_b, vGuard_u, vFieldAddr_p, vLenS_n, vLenS_s, vExt_t, vAlloc_e, vBox_e, vBuild_0, chk_true, jn_e, vCallV_e, List.getElem?_cons_zero, List.getElem?_cons_succ, s1]
  refine s13 (n + 5) m (M := M4) (vs := vs) hl hm hrd s kk (s3.fresh f3) s2 k2.nx (by rw [s3.nx]; exact Nat.lt_succ_self _) (by rw [kk.lookC hB]; exact h10) ?_ hkr
  rcases hvs with ⟨h, rfl⟩ | ⟨h, id, rfl, g1, g2⟩
  · exact .inl ⟨h, rfl⟩
  · have hid : id < M2.nx := f2.lt _ (look_mem (lookC_look g2).1)
    refine .inr ⟨h, id, rfl, g1, by rw [s3.nx]; exact Nat.lt_succ_of_lt hid, by omega, ?_⟩
    rw [s3.other id (by omega), lookC_ne _ (by omega)]; exact g2
theorem s11 (n m : Nat) {kr : X → X → Mm → CX} {kn : X → X → Mm → CX} (hl : ws.length + 1 < m) (hla : ab.length < m) (hm : ws.length < 4294967296) (hma : ab.length < 4294967296) (s : S3 M0 A t2 t6 v v5 va ws tn cr rd ab)
    (hkr : ∀ M', Keep M0 M' → Fresh M' → Ret (kr (.v .undef) (.b true) M') Mz Q) : Ret (d3_11 (cx (n + 7) m) m kr kn (.v va) (.v (.ptr t2 0)) (.v (.ptr t6 0)) (.v .undef) A) Mz Q := by
  obtain ⟨x, M2, e2, k2, f2, hx⟩ := (c16 (M := A) (n + 4) m (tn := tn) (cr := cr) (rd := rd) hl hm s.hr s.ha s.fresh).call
  unfold N16 at hx
  subst hx
  have k3 := Keep.new f2 (b := zB) rfl M2.lw
  have f3 := Fresh.new f2 zB M2.lw
  have b3 := lookC_eq' (i := M2.nx) (b := zB) M2.H rfl
  have hone : (if (nextF ws tn cr rd ab).2.2 = 0 then v else .nils).one = true := by split; exact s.hr.one; rfl
  obtain ⟨M4, s1, s2, s3, -⟩ := sTN (M := ⟨(M2.nx, zB) :: M2.H, M2.nx + 1, M2.lw⟩) (x := if (nextF ws tn cr rd ab).2.2 = 0 then v else .nils) (d := (nextF ws tn cr rd ab).1.1) (e := (nextF ws tn cr rd ab).1.2.1) (f := (nextF ws tn cr rd ab).1.2.2) hone b3
  have kk : Keep A M4 := s3.keep A (k2.trans k3) k2.nx
  simp only [d3_11, s.L2, e2, toX_int, toX_bool, toX_str, toX_nils, toX_nilp, toX_ptr, toX_sl, toX_agg, toX_tup, toV_i, toV_b, toV_v, cells_i, cells_b, cells_agg, cells_sl, cells_nils, cells_str, cells_ptr, oC_some, vBin_i, b_add, b_sub, b_mul, b_eql, b_neq, b_lss, b_leq, b_gtr, b_geq, vNot_b, vIf_b, vPick_b, vGuard_b, vGuard_u, vFieldAddr_p, vLenS_n, vLenS_s, vExt_t, vAlloc_e, vBox_e, vBuild_0, chk_true, jn_e, vCallV_e, List.getElem?_cons_zero, List.getElem?_cons_succ, s1]
  exact s12 n m (by omega) hla hm hma (s.k kk (s3.fresh f3)) (by rw [s3.nx]; exact Nat.lt_succ_self _) s2 hkr
end Go.Proofs.Ytehbfajmileefaa.Px

/-
  Turns: the law of Next, on values: the way in.
-/
namespace Go.Proofs.Ytehbfajmileefaa.Px
open Go.RowKit Go.Proofs.Ytehbfajmileefaa.Vx Go.Proofs.Ytehbfajmileefaa.Fx
set_option linter.unusedVariables false
set_option linter.unusedSimpArgs false
set_option maxRecDepth 10000
variable {M M0 M1 Mz A : Mm} {Q : X → Hp → Prop}
variable {t2 t6 : Nat} {v v5 va : V} {ws : List Int} {tn cr rd : Int} {ab : List Bool}
theorem s10 (n m : Nat) {kr : X → X → Mm → CX} {kn : X → X → Mm → CX} {t7 : Nat} (hl : ws.length + 1 < m) (hla : ab.length < m) (hm : ws.length < 4294967296) (hma : ab.length < 4294967296) (s : S3 M0 A t2 t6 v v5 va ws tn cr rd ab) (hB : t7 < A.nx)
    (h7 : (wE ws = 0 ∧ ∃ id, id < A.nx ∧ lookC A.H t7 = some (tB (.sl id 0 ws.length (.is ws.length)) 0 (ws.getD 0 0) 0) ∧ lookC A.H id = some ⟨3, 1, ws.map iV, true, false⟩) ∨ (wE ws ≠ 0 ∧ lookC A.H t7 = some (tB .nils 0 0 0)))
    (hkr : ∀ M', Keep M0 M' → Fresh M' → Ret (kr (.v .undef) (.b true) M') Mz Q) : Ret (d3_10 (cx (n + 7) m) m kr kn (.v va) (.v (.ptr t2 0)) (.v v5) (.v (.ptr t6 0)) (.v (.ptr t7 0)) (.i .i64 (wE ws)) (.v .undef) A) Mz Q := by
  rcases h7 with ⟨hw, id, hid, h7, hb⟩ | ⟨hw, h7⟩
  · obtain ⟨w1, w2, w3⟩ := wE_ok hw
    have r7 : Row A.nx A.H (.sl id 0 ws.length (.is ws.length)) (ws.map iV) := .inr ⟨id, 0, .is ws.length, _, by rw [List.length_map], hid, hb, fun i hi => by simp⟩
    obtain ⟨x, M2, e2, k2, f2, rfl⟩ := (c14 (M := A) (n + 6) m (la := ws) (lb := ws) (by omega) hm r7 s.h5 s.fresh).call
    have s' := s.k k2 f2
    have h7' := (k2.lookC hB).trans h7
    obtain ⟨i0, o0, g1, g2, -, g3⟩ := s'.h5.get (i := 0) (by simp; omega)
    have g1' : ∀ K : X → CX, vIndexAddr 1 (.v v5) (.i .i64 0) K = K (.v (.ptr i0 o0)) := g1
    have g4 : ∀ K : X → CX, vLoad1 (.v (.ptr i0 o0)) M2 K = K (.i .i64 (ws.getD 0 0)) := fun K => by
      rw [g3 M2 rfl (by simp [one_int]), List.getElem_map, toX_int, List.getD_eq_getElem?_getD, List.getElem?_eq_getElem (by omega)]; rfl
    have L0 : ∀ K : X → CX, vLoad1 (.v (.ptr t7 0)) A K = K (.v (.sl id 0 ws.length (.is ws.length))) := fun K => by simp only [toX_int, toX_bool, toX_str, toX_nils, toX_nilp, toX_ptr, toX_sl, toX_agg, toX_tup, toV_i, toV_b, toV_v, cells_i, cells_b, cells_agg, cells_sl, cells_nils, cells_str, cells_ptr, oC_some, vBin_i, b_add, b_sub, b_mul, b_eql, b_neq, b_lss, b_leq, b_gtr, b_geq, vNot_b, vIf_b, vPick_b, vGuard_b, vGuard_u, vFieldAddr_p, vLenS_n, vLenS_s, vExt_t, vAlloc_e, vBox_e, vBuild_0, chk_true, jn_e, vCallV_e, decide_true, decide_false, if_true, if_false, Bool.false_eq_true, Bool.true_eq_false, Bool.not_true, Bool.not_false, Nat.zero_add, Nat.add_zero, Nat.reduceAdd, List.getElem?_cons_zero, List.getElem?_cons_succ, vLoad1_p, one_int, one_bool, one_str, one_sl, one_nils, one_ptr, h7]
    have L1 : ∀ K : X → CX, vLoad1 (.v (.ptr t7 1)) M2 K = K (.i .i64 0) := fun K => by simp only [toX_int, toX_bool, toX_str, toX_nils, toX_nilp, toX_ptr, toX_sl, toX_agg, toX_tup, toV_i, toV_b, toV_v, cells_i, cells_b, cells_agg, cells_sl, cells_nils, cells_str, cells_ptr, oC_some, vBin_i, b_add, b_sub, b_mul, b_eql, b_neq, b_lss, b_leq, b_gtr, b_geq, vNot_b, vIf_b, vPick_b, vGuard_b, vGuard_u, vFieldAddr_p, vLenS_n, vLenS_s, vExt_t, vAlloc_e, vBox_e, vBuild_0, chk_true, jn_e, vCallV_e, decide_true, decide_false, if_true, if_false, Bool.false_eq_true, Bool.true_eq_false, Bool.not_true, Bool.not_false, Nat.zero_add, Nat.add_zero, Nat.reduceAdd, List.getElem?_cons_zero, List.getElem?_cons_succ, vLoad1_p, one_int, one_bool, one_str, one_sl, one_nils, one_ptr, h7']
    have L2 : ∀ K : X → CX, vLoad1 (.v (.ptr t7 2)) M2 K = K (.i .i64 (ws.getD 0 0)) := fun K => by simp only [toX_int, toX_bool, toX_str, toX_nils, toX_nilp, toX_ptr, toX_sl, toX_agg, toX_tup, toV_i, toV_b, toV_v, cells_i, cells_b, cells_agg, cells_sl, cells_nils, cells_str, cells_ptr, oC_some, vBin_i, b_add, b_sub, b_mul, b_eql, b_neq, b_lss, b_leq, b_gtr, b_geq, vNot_b, vIf_b, vPick_b, vGuard_b, vGuard_u, vFieldAddr_p, vLenS_n, vLenS_s, vExt_t, vAlloc_e, vBox_e, vBuild_0, chk_true, jn_e, vCallV_e, decide_true, decide_false, if_true, if_false, Bool.false_eq_true, Bool.true_eq_false, Bool.not_true, Bool.not_false, Nat.zero_add, Nat.add_zero, Nat.reduceAdd, List.getElem?_cons_zero, List.getElem?_cons_succ, vLoad1_p, one_int, one_bool, one_str, one_sl, one_nils, one_ptr, h7']
    have L3 : ∀ K : X → CX, vLoad1 (.v (.ptr t7 3)) M2 K = K (.i .i64 0) := fun K => by simp only [toX_int, toX_bool, toX_str, toX_nils, toX_nilp, toX_ptr, toX_sl, toX_agg, toX_tup, toV_i, toV_b, toV_v, cells_i, cells_b, cells_agg, cells_sl, cells_nils, cells_str, cells_ptr, oC_some, vBin_i, b_add, b_sub, b_mul, b_eql, b_neq, b_lss, b_leq, b_gtr, b_geq, vNot_b, vIf_b, vPick_b, vGuard_b, vGuard_u, vFieldAddr_p, vLenS_n, vLenS_s, vExt_t, vAlloc_e, vBox_e, vBuild_0, chk_true, jn_e, vCallV_e, decide_true, decide_false, if_true, if_false, Bool.false_eq_true, Bool.true_eq_false, Bool.not_true, Bool.not_false, Nat.zero_add, Nat.add_zero, Nat.reduceAdd, List.getElem?_cons_zero, List.getElem?_cons_succ, vLoad1_p, one_int, one_bool, one_str, one_sl, one_nils, one_ptr, h7']
    rw [hw]
    simp only [d3_10, toX_int, toX_bool, toX_str, toX_nils, toX_nilp, toX_ptr, toX_sl, toX_agg, toX_tup, toV_i, toV_b, toV_v, cells_i, cells_b, cells_agg, cells_sl, cells_nils, cells_str, cells_ptr, oC_some, vBin_i, b_add, b_sub, b_mul, b_eql, b_neq, b_lss, b_leq, b_gtr, b_geq, vNot_b, vIf_b, vPick_b, vGuard_b, vGuard_u, vFieldAddr_p, vLenS_n, vLenS_s, vExt_t, vAlloc_e, vBox_e, vBuild_0, chk_true, jn_e, vCallV_e, decide_true, decide_false, if_true, Bool.true_eq_false, Bool.false_eq_true, if_false, Bool.not_true, Nat.zero_add, L0, e2, L1, L2, L3, g1', g4, Int.reduceEq]
    exact s11 n m hl hla hm hma s' hkr
  · have L0 : ∀ K : X → CX, vLoadN 4 (.v (.ptr t7 0)) A K = K (.v (tV .nils 0 0 0)) := fun K => by rw [vLoadN_p, h7]; rfl
    have rn : Row A.nx A.H .nils (([] : List Int).map iV) := .inl ⟨rfl, rfl⟩
    obtain ⟨x, M2, e2, k2, f2, rfl⟩ := (c15 (M := A) (n + 5) m (la := []) (lb := []) (ta := 0) (ca := 0) (ra := 0) (tb := 0) (cb := 0) (rb := 0) (by simp; omega) (by simp) rn rn s.fresh).call
    simp only [d3_10, toX_int, toX_bool, toX_str, toX_nils, toX_nilp, toX_ptr, toX_sl, toX_agg, toX_tup, toV_i, toV_b, toV_v, cells_i, cells_b, cells_agg, cells_sl, cells_nils, cells_str, cells_ptr, oC_some, vBin_i, b_add, b_sub, b_mul, b_eql, b_neq, b_lss, b_leq, b_gtr, b_geq, vNot_b, vIf_b, vPick_b, vGuard_b, vGuard_u, vFieldAddr_p, vLenS_n, vLenS_s, vExt_t, vAlloc_e, vBox_e, vBuild_0, chk_true, jn_e, vCallV_e, decide_eq_false hw, decide_true, decide_false, if_true, Bool.true_eq_false, Bool.false_eq_true, if_false, Bool.not_true, Bool.not_false, Nat.zero_add, L0, e2, and_self, Int.reduceEq]
    exact s11 n m hl hla hm hma (s.k k2 f2) hkr
theorem s9 (n m : Nat) {kr : X → X → Mm → CX} {kn : X → X → Mm → CX} {t7 : Nat} (hl : ws.length + 1 < m) (hla : ab.length < m) (hm : ws.length < 4294967296) (hma : ab.length < 4294967296) (s : S3 M0 A t2 t6 v v5 va ws tn cr rd ab) (hB : t7 < A.nx)
    (h7 : (wE ws = 0 ∧ ∃ id, id < A.nx ∧ lookC A.H t7 = some (tB (.sl id 0 ws.length (.is ws.length)) 0 (ws.getD 0 0) 0) ∧ lookC A.H id = some ⟨3, 1, ws.map iV, true, false⟩) ∨ (wE ws ≠ 0 ∧ lookC A.H t7 = some (tB .nils 0 0 0)))
    (hkr : ∀ M', Keep M0 M' → Fresh M' → Ret (kr (.v .undef) (.b true) M') Mz Q) : Ret (d3_9 (cx (n + 7) m) m kr kn (.v va) (.v (.ptr t2 0)) (.v v5) (.v (.ptr t6 0)) (.v (.ptr t7 0)) (.i .i64 (wE ws)) (.i .i64 (wE ws)) (.v .undef) A) Mz Q := by
  obtain ⟨x, M2, e2, k2, f2, rfl⟩ := (c12 (M := A) (n + 1) m (tn := tn) (cr := cr) (rd := rd) (by omega) hm s.hr s.fresh).call
  have s2 := s.k k2 f2
  obtain ⟨x, M3, e3, k3, f3, rfl⟩ := (c13 (M := M2) (n + 5) m (tn := tn) (cr := cr) (rd := rd) (by omega) hm s2.hr f2).call
  have p1 : ∀ (M : Mm) (a : Int), Pst true false (.i .i64 a) M M none := fun M a => Pst_of (by simp [X.toV])
  have p2 : ∀ (M : Mm) (a : Bool), Pst true false (.b a) M M none := fun M a => Pst_of (by simp [X.toV])
  have p3 : ∀ M : Mm, Pst true false (.v (tV v tn cr rd)) M M none := fun M => Pst_of (by simp [X.toV])
  have p4 : Pst true true (.i .i64 (chkE ws tn cr rd)) A M2 (some (none, [])) := Pst_k (by simp [X.toV]) k2
  have p5 : Pst true true (.i .i64 (chkE ws tn cr rd)) M2 M3 none := Pst_m (by simp [X.toV]) k3.nx
  have o2 : Old A.nx (.v (.ptr t2 0)) := Old_p s.b2
  simp only [d3_9, toX_int, toX_bool, toX_str, toX_nils, toX_nilp, toX_ptr, toX_sl, toX_agg, toX_tup, toV_i, toV_b, toV_v, cells_i, cells_b, cells_agg, cells_sl, cells_nils, cells_str, cells_ptr, oC_some, vBin_i, b_add, b_sub, b_mul, b_eql, b_neq, b_lss, b_leq, b_gtr, b_geq, vNot_b, vIf_b, vPick_b, vGuard_b, vGuard_u, vFieldAddr_p, vLenS_n, vLenS_s, vExt_t, vAlloc_e, vBox_e, vBuild_0, chk_true, jn_e, vCallV_e, chk_of (p1 _ _), chk_of (p2 _ _), chk_of (p3 _), chk_of p4, chk_of p5, chk_of o2, s.L2, s2.L2, e2, e3, decide_true, Bool.not_true, Bool.false_eq_true, if_false, if_true]
  refine s10 n m hl hla hm hma ((s.k k2 f2).k k3 f3) (Nat.lt_of_lt_of_le hB (k2.trans k3).nx) ?_ hkr
  rcases h7 with ⟨hw, id, hid, h7, hb⟩ | ⟨hw, h7⟩
  · exact .inl ⟨hw, id, Nat.lt_of_lt_of_le hid (k2.trans k3).nx, ((k2.trans k3).lookC hB).trans h7, ((k2.trans k3).lookC hid).trans hb⟩
  · exact .inr ⟨hw, ((k2.trans k3).lookC hB).trans h7⟩
theorem s8 (n m : Nat) {kr : X → X → Mm → CX} {kn : X → X → Mm → CX} {t7 : Nat} (hl : ws.length + 1 < m) (hla : ab.length < m) (hm : ws.length < 4294967296) (hma : ab.length < 4294967296) (s : S3 M0 A t2 t6 v v5 va ws tn cr rd ab) (hB : t7 < A.nx)
    (h7 : (wE ws = 0 ∧ ∃ id, id < A.nx ∧ lookC A.H t7 = some (tB (.sl id 0 ws.length (.is ws.length)) 0 (ws.getD 0 0) 0) ∧ lookC A.H id = some ⟨3, 1, ws.map iV, true, false⟩) ∨ (wE ws ≠ 0 ∧ lookC A.H t7 = some (tB .nils 0 0 0)))
    (hkr : ∀ M', Keep M0 M' → Fresh M' → Ret (kr (.v .undef) (.b true) M') Mz Q) : Ret (d3_8 (cx (n + 7) m) m kr kn (.v va) (.v (.ptr t2 0)) (.v v5) (.v (.ptr t6 0)) (.v (.ptr t7 0)) (.i .i64 (wE ws)) (.v .undef) A) Mz Q := by
  obtain ⟨x, M2, e2, k2, f2, rfl⟩ := (c11 (M := A) (n + 6) m (by omega) hm s.h5 s.fresh).call
  simp only [d3_8, e2]
  refine s9 n m hl hla hm hma (s.k k2 f2) (Nat.lt_of_lt_of_le hB k2.nx) ?_ hkr
  rcases h7 with ⟨hw, id, hid, h7, hb⟩ | ⟨hw, h7⟩
  · exact .inl ⟨hw, id, Nat.lt_of_lt_of_le hid k2.nx, (k2.lookC hB).trans h7, (k2.lookC hid).trans hb⟩
  · exact .inr ⟨hw, (k2.lookC hB).trans h7⟩
theorem s7 (n m : Nat) {kr : X → X → Mm → CX} {kn : X → X → Mm → CX} (hl : ws.length + 1 < m) (hla : ab.length < m) (hm : ws.length < 4294967296) (hma : ab.length < 4294967296) (s : S3 M0 A t2 t6 v v5 va ws tn cr rd ab)
    (hkr : ∀ M', Keep M0 M' → Fresh M' → Ret (kr (.v .undef) (.b true) M') Mz Q) : Ret (d3_7 (cx (n + 7) m) m kr kn (.v va) (.v (.ptr t2 0)) (.v v5) (.v (.ptr t6 0)) (.v .undef) A) Mz Q := by
  have L0 : ∀ K : X → CX, vLoad1 (.v (.ptr t2 0)) A K = K (.v v) := fun K => by simp only [toX_int, toX_bool, toX_str, toX_nils, toX_nilp, toX_ptr, toX_sl, toX_agg, toX_tup, toV_i, toV_b, toV_v, cells_i, cells_b, cells_agg, cells_sl, cells_nils, cells_str, cells_ptr, oC_some, vBin_i, b_add, b_sub, b_mul, b_eql, b_neq, b_lss, b_leq, b_gtr, b_geq, vNot_b, vIf_b, vPick_b, vGuard_b, vGuard_u, vFieldAddr_p, vLenS_n, vLenS_s, vExt_t, vAlloc_e, vBox_e, vBuild_0, chk_true, jn_e, vCallV_e, decide_true, decide_false, if_true, if_false, Bool.false_eq_true, Bool.true_eq_false, Bool.not_true, Bool.not_false, Nat.zero_add, Nat.add_zero, Nat.reduceAdd, List.getElem?_cons_zero, List.getElem?_cons_succ, vLoad1_p, one_int, one_bool, one_str, one_sl, one_nils, one_ptr, s.l2, s.hr.one, s.hr.toX]
  by_cases hw : wE ws = 0
  · obtain ⟨x, M2, e2, k2, f2, id, rfl, hid, hb⟩ := (c10 (M := A) (n + 1) m (by omega) hw s.hr s.fresh).call
    have k3 := Keep.new f2 (b := zB) rfl M2.lw
    have f3 := Fresh.new f2 zB M2.lw
    have b3 := lookC_eq' (i := M2.nx) (b := zB) M2.H rfl
    obtain ⟨M4, s1, s2, s3, -⟩ := sTN (M := ⟨(M2.nx, zB) :: M2.H, M2.nx + 1, M2.lw⟩) (x := .sl id 0 ws.length (.is ws.length)) (d := 0) (e := ws.getD 0 0) (f := 0) rfl b3
    have kk : Keep A M4 := s3.keep A (k2.trans k3) k2.nx
    have hid2 : id < M2.nx := f2.lt _ (look_mem (lookC_look hb).1)
    simp only [d3_7, toX_int, toX_bool, toX_str, toX_nils, toX_nilp, toX_ptr, toX_sl, toX_agg, toX_tup, toV_i, toV_b, toV_v, cells_i, cells_b, cells_agg, cells_sl, cells_nils, cells_str, cells_ptr, oC_some, vBin_i, b_add, b_sub, b_mul, b_eql, b_neq, b_lss, b_leq, b_gtr, b_geq, vNot_b, vIf_b, vPick_b, vGuard_b, vGuard_u, vFieldAddr_p, vLenS_n, vLenS_s, vExt_t, vAlloc_e, vBox_e, vBuild_0, chk_true, jn_e, vCallV_e, Nat.zero_add, L0, e2, List.getElem?_cons_zero, List.getElem?_cons_succ, s1]
    rw [show (0 : Int) = wE ws from hw.symm]
    refine s8 n m hl hla hm hma (s.k kk (s3.fresh f3)) (by rw [s3.nx]; exact Nat.lt_succ_self _) (.inl ⟨hw, id, by rw [s3.nx]; exact Nat.lt_succ_of_lt hid2, s2, ?_⟩) hkr
    rw [s3.other id (by omega), lookC_ne _ (by omega)]; exact hb
  · obtain ⟨x, M2, e2, k2, f2, rfl⟩ := (c10b (M := A) (n + 1) m (by omega) hm hw s.hr s.fresh).call
    have k3 := Keep.new f2 (b := zB) rfl M2.lw
    have f3 := Fresh.new f2 zB M2.lw
    have b3 := lookC_eq' (i := M2.nx) (b := zB) M2.H rfl
    obtain ⟨M4, s1, s2, s3, -⟩ := sTN (M := ⟨(M2.nx, zB) :: M2.H, M2.nx + 1, M2.lw⟩) (x := .nils) (d := 0) (e := 0) (f := 0) rfl b3
    have kk : Keep A M4 := s3.keep A (k2.trans k3) k2.nx
    simp only [d3_7, toX_int, toX_bool, toX_str, toX_nils, toX_nilp, toX_ptr, toX_sl, toX_agg, toX_tup, toV_i, toV_b, toV_v, cells_i, cells_b, cells_agg, cells_sl, cells_nils, cells_str, cells_ptr, oC_some, vBin_i, b_add, b_sub, b_mul, b_eql, b_neq, b_lss, b_leq, b_gtr, b_geq, vNot_b, vIf_b, vPick_b, vGuard_b, vGuard_u, vFieldAddr_p, vLenS_n, vLenS_s, vExt_t, vAlloc_e, vBox_e, vBuild_0, chk_true, jn_e, vCallV_e, Nat.zero_add, L0, e2, List.getElem?_cons_zero, List.getElem?_cons_succ, s1]
    exact s8 n m hl hla hm hma (s.k kk (s3.fresh f3)) (by rw [s3.nx]; exact Nat.lt_succ_self _) (.inr ⟨hw, s2⟩) hkr
end Go.Proofs.Ytehbfajmileefaa.Px

/-
  Turns: the law of Next, on values: whole.
-/
namespace Go.Proofs.Ytehbfajmileefaa.Px
open Go.RowKit Go.Proofs.Ytehbfajmileefaa.Vx Go.Proofs.Ytehbfajmileefaa.Fx
set_option linter.unusedVariables false
set_option linter.unusedSimpArgs false
set_option maxRecDepth 10000
variable {M M0 M1 Mz A : Mm} {Q : X → Hp → Prop}
variable {t2 t6 : Nat} {v v5 va : V} {ws : List Int} {tn cr rd : Int} {ab : List Bool}
theorem idnt {M : Mm} {v : V} {cs : List V} (h : Row M.nx M.H v cs) {t : Nat} (ht : M.nx ≤ t) : idV v ≠ some t := by
  rcases h with ⟨rfl, -⟩ | ⟨id, off, c, b, rfl, hi, -⟩ <;> simp [idV]
  omega
theorem s3' (n m : Nat) {kr : X → X → Mm → CX} {kn : X → X → Mm → CX} {t2 : Nat} (hl : ws.length + 1 < m) (hla : ab.length < m) (hm : ws.length < 4294967296) (hma : ab.length < 4294967296) (hk : Keep M0 A) (hf : Fresh A) (hb : lookC A.H t2 = some (tB v tn cr rd)) (h2 : t2 < A.nx) (hr : Row A.nx A.H v (ws.map iV)) (ha : Row A.nx A.H va (ab.map bV))
    (h0 : ∀ (M : Mm) (KM : X → Mm → CX), Row M.nx M.H v [] → vApp prg 22 22 (.v .nils) (.v v) M KM = KM (.v .nils) ⟨M.H, M.nx + 1, M.lw⟩)
    (hkr : ∀ M', Keep M0 M' → Fresh M' → Ret (kr (.v .undef) (.b true) M') Mz Q) : Ret (d3_3 (cx (n + 7) m) m kr kn (.v va) (.v (.ptr t2 0)) (.v .undef) A) Mz Q := by
  obtain ⟨v5, B, e1, r5, kB, fB, ne5⟩ := copyW hm hr hf h0
  have L0 : ∀ K : X → CX, vLoad1 (.v (.ptr t2 0)) A K = K (.v v) := fun K => by simp only [toX_int, toX_bool, toX_str, toX_nils, toX_nilp, toX_ptr, toX_sl, toX_agg, toX_tup, toV_i, toV_b, toV_v, cells_i, cells_b, cells_agg, cells_sl, cells_nils, cells_str, cells_ptr, oC_some, vBin_i, b_add, b_sub, b_mul, b_eql, b_neq, b_lss, b_leq, b_gtr, b_geq, vNot_b, vIf_b, vPick_b, vGuard_b, vGuard_u, vFieldAddr_p, vLenS_n, vLenS_s, vExt_t, vAlloc_e, vBox_e, vBuild_0, chk_true, jn_e, vCallV_e, decide_true, decide_false, if_true, if_false, Bool.false_eq_true, Bool.true_eq_false, Bool.not_true, Bool.not_false, Nat.zero_add, Nat.add_zero, Nat.reduceAdd, List.getElem?_cons_zero, List.getElem?_cons_succ, vLoad1_p, one_int, one_bool, one_str, one_sl, one_nils, one_ptr, hb, hr.one, hr.toX]
  have bB : lookC B.H t2 = some (tB v tn cr rd) := (kB.lookC h2).trans hb
  have LN : ∀ K : X → CX, vLoadN 4 (.v (.ptr t2 0)) B K = K (.v (tV v tn cr rd)) := fun K => by rw [vLoadN_p, bB]; rfl
  have k3 := Keep.new fB (b := zB) rfl B.lw
  have f3 := Fresh.new fB zB B.lw
  have b3 := lookC_eq' (i := B.nx) (b := zB) B.H rfl
  have rB := hr.keep kB
  have aB := ha.keep kB
  obtain ⟨M4, u1, u2, u3, -⟩ := sTN (M := ⟨(B.nx, zB) :: B.H, B.nx + 1, B.lw⟩) (x := v) (d := tn) (e := cr) (f := rd) hr.one b3
  obtain ⟨M5, w1, w2, w3⟩ := sT0 (M := M4) (x := v5) r5.one u2
  have uu := u3.trans w3
  have kk : Keep B M5 := uu.keep B k3 (Nat.le_refl _)
  have h2B : t2 < B.nx := Nat.lt_of_lt_of_le h2 kB.nx
  simp only [d3_3, d3_4, d3_5, d3_6, toX_int, toX_bool, toX_str, toX_nils, toX_nilp, toX_ptr, toX_sl, toX_agg, toX_tup, toV_i, toV_b, toV_v, cells_i, cells_b, cells_agg, cells_sl, cells_nils, cells_str, cells_ptr, oC_some, vBin_i, b_add, b_sub, b_mul, b_eql, b_neq, b_lss, b_leq, b_gtr, b_geq, vNot_b, vIf_b, vPick_b, vGuard_b, vGuard_u, vFieldAddr_p, vLenS_n, vLenS_s, vExt_t, vAlloc_e, vBox_e, vBuild_0, chk_true, jn_e, vCallV_e, Nat.zero_add, L0, e1, LN, u1, w1]
  exact s7 n m hl hla hm hma ⟨(hk.trans kB).trans kk, uu.fresh f3, (kk.lookC h2B).trans bB, Nat.lt_of_lt_of_le h2B kk.nx, w2, by rw [uu.nx]; exact Nat.lt_succ_self _, rB.keep kk, r5.keep kk, aB.keep kk⟩ hkr
theorem h0_ok {v : V} (M : Mm) (KM : X → Mm → CX) (h : Row M.nx M.H v []) : vApp prg 22 22 (.v .nils) (.v v) M KM = KM (.v .nils) ⟨M.H, M.nx + 1, M.lw⟩ := by
  rcases h with ⟨rfl, -⟩ | ⟨id, off, c, b, rfl, -⟩ <;> kernel_rfl
theorem c3 (n m : Nat) (h21 : 21 < m) (hr : Row M.nx M.H v (ws.map iV)) (ha : Row M.nx M.H va (ab.map bV)) (hf : Fresh M) :
    Ret (cx (n + 8) m 3 [.v (tV v tn cr rd), .v va] M) M fun x _ => x = .b true := by
  rw [cx, q3 rfl]
  have k1 := Keep.new (M := ⟨M.H, M.nx, M.nx⟩) hf (b := tB v tn cr rd) rfl M.nx
  have f1 := Fresh.new (M := ⟨M.H, M.nx, M.nx⟩) hf (tB v tn cr rd) M.nx
  have b1 := lookC_eq' (i := M.nx) (b := tB v tn cr rd) M.H rfl
  have r1 : Row (M.nx + 1) ((M.nx, tB v tn cr rd) :: M.H) v (ws.map iV) := Row.new hr
  have a1 : Row (M.nx + 1) ((M.nx, tB v tn cr rd) :: M.H) va (ab.map bV) := Row.new ha
  have out : ∀ M', Keep ⟨M.H, M.nx, M.nx⟩ M' → Fresh M' → Ret (finD prg tabP m (cx (n + 7) m) M.nx (.v .undef) [(.tmp 4, .b true)] M') M fun x _ => x = .b true := fun M' k f => Ret.fin1 k f rfl fun H => by simp only [toX_int, toX_bool, toX_str, toX_nils, toX_nilp, toX_ptr, toX_sl, toX_agg, toX_tup, toV_i, toV_b, toV_v, cells_i, cells_b, cells_agg, cells_sl, cells_nils, cells_str, cells_ptr, oC_some, vBin_i, b_add, b_sub, b_mul, b_eql, b_neq, b_lss, b_leq, b_gtr, b_geq, vNot_b, vIf_b, vPick_b, vGuard_b, vGuard_u, vFieldAddr_p, vLenS_n, vLenS_s, vExt_t, vAlloc_e, vBox_e, vBuild_0, chk_true, jn_e, vCallV_e]
  obtain ⟨x, M9, e9, k9, f9, rfl⟩ := (c9 (M := ⟨(M.nx, tB v tn cr rd) :: M.H, M.nx + 1, M.nx⟩) (n + 6) m f1).call
  have L0 : ∀ K : X → CX, vLoad1 (.v (.ptr M.nx 0)) ⟨(M.nx, tB v tn cr rd) :: M.H, M.nx + 1, M.nx⟩ K = K (.v v) := fun K => by simp only [toX_int, toX_bool, toX_str, toX_nils, toX_nilp, toX_ptr, toX_sl, toX_agg, toX_tup, toV_i, toV_b, toV_v, cells_i, cells_b, cells_agg, cells_sl, cells_nils, cells_str, cells_ptr, oC_some, vBin_i, b_add, b_sub, b_mul, b_eql, b_neq, b_lss, b_leq, b_gtr, b_geq, vNot_b, vIf_b, vPick_b, vGuard_b, vGuard_u, vFieldAddr_p, vLenS_n, vLenS_s, vExt_t, vAlloc_e, vBox_e, vBuild_0, chk_true, jn_e, vCallV_e, decide_true, decide_false, if_true, if_false, Bool.false_eq_true, Bool.true_eq_false, Bool.not_true, Bool.not_false, Nat.zero_add, Nat.add_zero, Nat.reduceAdd, List.getElem?_cons_zero, List.getElem?_cons_succ, vLoad1_p, one_int, one_bool, one_str, one_sl, one_nils, one_ptr, b1, hr.one, hr.toX]
  simp only [d3, d3_1, d3_2, toX_int, toX_bool, toX_str, toX_nils, toX_nilp, toX_ptr, toX_sl, toX_agg, toX_tup, toV_i, toV_b, toV_v, cells_i, cells_b, cells_agg, cells_sl, cells_nils, cells_str, cells_ptr, oC_some, vBin_i, b_add, b_sub, b_mul, b_eql, b_neq, b_lss, b_leq, b_gtr, b_geq, vNot_b, vIf_b, vPick_b, vGuard_b, vGuard_u, vFieldAddr_p, vLenS_n, vLenS_s, vExt_t, vAlloc_e, vBox_e, vBuild_0, chk_true, jn_e, vCallV_e, Nat.zero_add, L0, hr.len, List.length_map]
  by_cases h1 : (20 : Int) < ws.length
  · simp only [decide_eq_true h1, toX_int, toX_bool, toX_str, toX_nils, toX_nilp, toX_ptr, toX_sl, toX_agg, toX_tup, toV_i, toV_b, toV_v, cells_i, cells_b, cells_agg, cells_sl, cells_nils, cells_str, cells_ptr, oC_some, vBin_i, b_add, b_sub, b_mul, b_eql, b_neq, b_lss, b_leq, b_gtr, b_geq, vNot_b, vIf_b, vPick_b, vGuard_b, vGuard_u, vFieldAddr_p, vLenS_n, vLenS_s, vExt_t, vAlloc_e, vBox_e, vBuild_0, chk_true, jn_e, vCallV_e, if_true, if_false, Bool.true_eq_false, Bool.false_eq_true, e9]
    exact out M9 (k1.trans k9) f9
  by_cases h2 : (20 : Int) < ab.length
  · simp only [decide_eq_false h1, decide_eq_true h2, toX_int, toX_bool, toX_str, toX_nils, toX_nilp, toX_ptr, toX_sl, toX_agg, toX_tup, toV_i, toV_b, toV_v, cells_i, cells_b, cells_agg, cells_sl, cells_nils, cells_str, cells_ptr, oC_some, vBin_i, b_add, b_sub, b_mul, b_eql, b_neq, b_lss, b_leq, b_gtr, b_geq, vNot_b, vIf_b, vPick_b, vGuard_b, vGuard_u, vFieldAddr_p, vLenS_n, vLenS_s, vExt_t, vAlloc_e, vBox_e, vBuild_0, chk_true, jn_e, vCallV_e, if_true, if_false, Bool.true_eq_false, Bool.false_eq_true, ha.len, List.length_map, e9]
    exact out M9 (k1.trans k9) f9
  simp only [decide_eq_false h1, decide_eq_false h2, toX_int, toX_bool, toX_str, toX_nils, toX_nilp, toX_ptr, toX_sl, toX_agg, toX_tup, toV_i, toV_b, toV_v, cells_i, cells_b, cells_agg, cells_sl, cells_nils, cells_str, cells_ptr, oC_some, vBin_i, b_add, b_sub, b_mul, b_eql, b_neq, b_lss, b_leq, b_gtr, b_geq, vNot_b, vIf_b, vPick_b, vGuard_b, vGuard_u, vFieldAddr_p, vLenS_n, vLenS_s, vExt_t, vAlloc_e, vBox_e, vBuild_0, chk_true, jn_e, vCallV_e, if_true, if_false, Bool.true_eq_false, Bool.false_eq_true, ha.len, List.length_map]
  exact s3' n m (by omega) (by omega) (by omega) (by omega) k1 f1 b1 (Nat.lt_succ_self _) r1 a1 h0_ok out
end Go.Proofs.Ytehbfajmileefaa.Px

/-
  Turns: the law of Next, called with what is met.
-/
namespace Go.Proofs.Ytehbfajmileefaa.Px
open Go.RowKit Go.Proofs.Ytehbfajmileefaa.Vx Go.Proofs.Ytehbfajmileefaa.Fx
set_option linter.unusedVariables false
set_option linter.unusedSimpArgs false
set_option maxRecDepth 10000
theorem row_ints {w : World} {H : Hp} (hE : ∀ (b o : Nat) (x : Value) (v : V), w.cell? ⟨b, o, none⟩ = some x → scV w.heap.size x = some v → ∃ blk, lookC H b = some blk ∧ blk.cells[o]? = some v) (hS : ∀ b, (w.shape? b).isSome = true → b < w.heap.size ∧ (lookC H b).isSome = true)
    {q : Option Addr} {L : List Int} {cap sb so : Nat} (hok : SlAt w q L.length cap) (h : IntsAt w q sb so L) : ∃ v, Row w.heap.size H v (L.map iV) ∧ ∀ σ, den σ (rhoW w) v = some (.slice q L.length cap) := by
  have := Row.met hE hS (q := q) (cs := L.map iV) (cap := cap) (sb := sb) (so := so) (by simpa using hok) (by simpa using h.here) (fun i hi => ⟨_, h.cell i (by simpa using hi), by simp [scV]⟩)
  simpa using this
theorem row_bools {w : World} {H : Hp} (hE : ∀ (b o : Nat) (x : Value) (v : V), w.cell? ⟨b, o, none⟩ = some x → scV w.heap.size x = some v → ∃ blk, lookC H b = some blk ∧ blk.cells[o]? = some v) (hS : ∀ b, (w.shape? b).isSome = true → b < w.heap.size ∧ (lookC H b).isSome = true)
    {q : Option Addr} {L : List Bool} {cap sb so : Nat} (hok : SlAt w q L.length cap) (h : BoolsAt w q sb so L) : ∃ v, Row w.heap.size H v (L.map bV) ∧ ∀ σ, den σ (rhoW w) v = some (.slice q L.length cap) := by
  have := Row.met hE hS (q := q) (cs := L.map bV) (cap := cap) (sb := sb) (so := so) (by simpa using hok) (by simpa using h.here) (fun i hi => ⟨_, h.cell i (by simpa using hi), by simp [scV]⟩)
  simpa using this
theorem next_calls {w : World} {q q' : Option Addr} {ws : List Int} {ab : List Bool} {tn cr rd : Int} {cap sb so cap' sb' so' : Nat} (h1 : SlAt w q ws.length cap) (h2 : SlAt w q' ab.length cap') (hw : IntsAt w q sb so ws) (ha : BoolsAt w q' sb' so' ab) :
    Calls Try.prog 3 #[.agg #[.slice q ws.length cap, .int .i64 tn, .int .i64 cr, .int .i64 rd], .slice q' ab.length cap'] w fun e w' => e = .returned (.bool true) ∧ Below w.heap.size w w' := by
  obtain ⟨σ, H, hM, hs, hE, hS⟩ := entry w
  obtain ⟨v, r1, d1⟩ := row_ints hE hS h1 hw
  obtain ⟨va, r2, d2⟩ := row_bools hE hS h2 ha
  obtain ⟨x, M', e, -, -, rfl⟩ := c3 (M := ⟨H, w.heap.size, w.heap.size⟩) (tn := tn) (cr := cr) (rd := rd) 0 100 (by omega) r1 r2 hs
  obtain ⟨-, hcall⟩ := callX_okP (σ := σ) follows funsOk tabPOk knLives 100 8 _ _ _ _ _ e hs
  refine (hcall (· < w.heap.size) (rhoW w) w [.agg #[.slice q ws.length cap, .int .i64 tn, .int .i64 cr, .int .i64 rd], .slice q' ab.length cap'] (by simp [X.toV, denL, den, d1 σ, d2 σ, T.i]) hM).mono ?_
  rintro e w' ⟨u, ρ', rfl, k1, k2, k3, k4, k5⟩
  simp [X.toV, den, T.b] at k1
  exact ⟨by rw [← k1], Kp.to k4⟩
end Go.Proofs.Ytehbfajmileefaa.Px

