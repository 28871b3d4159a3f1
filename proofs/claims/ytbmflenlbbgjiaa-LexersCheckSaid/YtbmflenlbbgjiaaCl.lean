/-
  LexersCheck: the law.
-/
import Derived.Test.YtbmflenlbbgjiaaCk
import Derived.Test.YtbmflenlbbgjiaaLv
namespace Go.Proofs.Ytbmflenlbbgjiaa
open Go.RowKit
set_option linter.unusedVariables false
set_option linter.unusedSimpArgs false
/-- what the law wants of a token -/
theorem want_out {x : Tok} (h : x.1 < 1 ∨ 3 < x.1) : chkT x = 10 := by unfold chkT chkL; rw [if_pos h]
theorem want_in {x : Tok} {q : Int} (h : x.1 = q) (h1 : 1 ≤ q) (h3 : q ≤ 3) : chkT x = if kindL x.2.1.toList = q then 0 else if q = 1 then 6 else 5 := by
  unfold chkT; rw [h]; exact chk_ok h1 h3
/-- the same so far -/
def isTo (xs ys : List Tok) (k : Nat) : Bool := decide (xs.length = ys.length) && decide ((xs.take k).map keyT = (ys.take k).map keyT)
theorem is_start (xs ys : List Tok) : isTo xs ys 0 = decide (xs.length = ys.length) := by simp [isTo]
theorem is_start' (xs ys : List Tok) : ((xs.length : Int) == (ys.length : Int)) = isTo xs ys 0 := by
  rw [is_start]
  by_cases h : xs.length = ys.length
  · simp [h]
  · simp only [h, decide_false]; simp; omega
theorem is_len {xs ys : List Tok} {k : Nat} (h : isTo xs ys k = true) : xs.length = ys.length := by
  unfold isTo at h
  simp only [Bool.and_eq_true, decide_eq_true_eq] at h
  exact h.1
theorem is_next {xs ys : List Tok} {k : Nat} (h : isTo xs ys k = true) (h1 : k < xs.length) (h2 : k < ys.length) (e1 : (xs[k]).1 = (ys[k]).1) (e2 : (xs[k]).2.1.toList = (ys[k]).2.1.toList) : isTo xs ys (k + 1) = true := by
  unfold isTo at h ⊢
  simp only [Bool.and_eq_true, decide_eq_true_eq] at h ⊢
  exact ⟨h.1, same_succ h.2 h1 h2 e1 e2⟩
theorem is_not {xs ys : List Tok} {k : Nat} (h1 : k < xs.length) (h2 : k < ys.length) (e : ¬ ((xs[k]).1 = (ys[k]).1 ∧ (xs[k]).2.1.toList = (ys[k]).2.1.toList)) : isTo xs ys (k + 1) = false := by
  unfold isTo
  simp only [Bool.and_eq_false_iff, decide_eq_false_iff_not]
  refine .inr fun he => e ?_
  have := congrArg (fun l => l[k]?) he
  simp [keyT, List.getElem?_eq_getElem h1, List.getElem?_eq_getElem h2] at this
  exact this
theorem is_end {xs ys : List Tok} {k : Nat} (h : isTo xs ys k = false ∨ k = xs.length) (hk : k ≤ xs.length) : isTo xs ys k = sameB xs ys := by
  by_cases hl : xs.length = ys.length
  · rcases h with h | rfl
    · rw [h]
      cases hs : sameB xs ys
      · rfl
      · unfold sameB at hs
        simp only [decide_eq_true_eq] at hs
        unfold isTo at h
        rw [List.map_take, List.map_take, hs] at h
        simp [hl] at h
    · unfold isTo sameB
      rw [List.take_length]
      simp [hl]
  · rw [same_len hl]; unfold isTo; simp [hl]
set_option maxRecDepth 100000 in
set_option maxHeartbeats 8000000 in
theorem lawCheck_any (xs ys : List Tok) (pa pb : Option Addr) (sa oa ca sb ob cb : Nat) (hx : xs.length ≤ 9223372036854775807) (hy : ys.length ≤ 9223372036854775807)
    (hz : ∀ i (h : i < xs.length), (xs[i]).2.1.size ≤ 9223372036854775807) (w : World) (ha : ToksAt w pa sa oa xs) (hb : ToksAt w pb sb ob ys) :
    Calls Try.prog 5 #[.slice pa xs.length ca, .slice pb ys.length cb] w fun e w' => e = .returned (.bool true) ∧ Below w.heap.size w w' := by
  by_cases hA : (30 : Int) < xs.length
  · go_enter Try.func5, Try.ntmps5
    go_wp2_with fail
    refine (lives_any _).mono ?_
    rintro e w' ⟨rfl, hb⟩
    go_wp2
    go_ret
    exact ⟨rfl, hb⟩
  by_cases hB : (30 : Int) < ys.length
  · go_enter Try.func5, Try.ntmps5
    go_wp2_with fail
    refine (lives_any _).mono ?_
    rintro e w' ⟨rfl, hb⟩
    go_wp2
    go_ret
    exact ⟨rfl, hb⟩
  go_enter Try.func5, Try.ntmps5
  go_wp2
  go_loopw [5, 6] (fun f i wr => ∃ k : Nat, k ≤ xs.length ∧ f = .int .i64 (firstE (xs.take k)) ∧ i = .int .i64 k ∧ Below w.heap.size w wr ∧ Hid (∀ i (h : i < xs.length), i < k → (xs[i]).2.1.size ≤ 40)) (fun _ i _ => xs.length - (intOf i).toNat)
  case atStart => exact ⟨0, by omega, rfl, rfl, Below.refl _ _, Lib.hid (fun i _ h => absurd h (by omega))⟩
  case round =>
    obtain ⟨k, hk, rfl, rfl, hbr, hsm⟩ := hrel
    by_cases hlt : k < xs.length
    · obtain rfl := ha.here (by omega)
      have c1 := (hbr.cell (p := ⟨sa, oa + k * 3, none⟩) (ha.lt (by omega))).trans (ha.kind k hlt)
      have c2 := (hbr.cell (p := ⟨sa, oa + k * 3 + 1, none⟩) (ha.lt (by omega))).trans (ha.text k hlt)
      have c3 := (hbr.cell (p := ⟨sa, oa + k * 3 + 2, none⟩) (ha.lt (by omega))).trans (ha.at_ k hlt)
      have z0 : (0 : Int) ≤ (k : Int) := by omega
      have z1 : (k : Int) < (xs.length : Int) := by omega
      have hzk := hz k hlt
      have HB := Lib.hid hbr
      clear hbr
      by_cases h40 : (40 : Int) < (xs[k]).2.1.size
      · clear c1 c3
        go_wp2_with fail
        refine (lives_any _).mono ?_
        rintro e w' ⟨rfl, hbl⟩
        go_wp2
        go_ret
        exact ⟨rfl, bstep HB.out hbl⟩
      have HSM := Lib.hid (show ∀ i (h : i < xs.length), i < k + 1 → (xs[i]).2.1.size ≤ 40 by
        intro i h hi
        by_cases hik : i < k
        · exact hsm.out i h hik
        · obtain rfl : i = k := by omega
          omega)
      clear hsm
      have hz40 : (xs[k]).2.1.size ≤ 300 := by omega
      generalize hKd : (xs[k]).1 = kd at c1
      have HKD := Lib.hid hKd
      have HFS := Lib.hid (firstE_succ hlt)
      clear hKd
      by_cases k1 : kd < 1
      · have HWT := Lib.hid (show chkL kd (xs[k]).2.1.toList = 10 by unfold chkL; rw [if_pos (.inl k1)])
        have HFN := Lib.hid (show firstE (xs.take (k + 1)) = if firstE (xs.take k) = 0 then 10 else firstE (xs.take k) by rw [HFS.out, show chkT xs[k] = 10 by unfold chkT; rw [HKD.out]; exact HWT.out])
        by_cases f0 : firstE (xs.take k) = 0
        · have f0' : (firstE (xs.take k) == 0) = true := by simp [f0]
          have HFX := Lib.hid (HFN.out.trans (if_pos f0))
          clear f0 HFN HFS
          go_wp2_with fail
          refine (kind_any _ hz40 _).mono ?_
          rintro e w2 ⟨rfl, hb2⟩
          have HB2 := Lib.hid (bstep HB.out hb2)
          have hsa := ha.lt (by omega)
          have d1 := (HB2.out.cell (p := ⟨sa, oa + k * 3, none⟩) hsa).trans ((HB.out.cell (p := ⟨sa, oa + k * 3, none⟩) hsa).symm.trans c1)
          have d2 := (HB2.out.cell (p := ⟨sa, oa + k * 3 + 1, none⟩) hsa).trans ((HB.out.cell (p := ⟨sa, oa + k * 3 + 1, none⟩) hsa).symm.trans c2)
          have d3 := (HB2.out.cell (p := ⟨sa, oa + k * 3 + 2, none⟩) hsa).trans ((HB.out.cell (p := ⟨sa, oa + k * 3 + 2, none⟩) hsa).symm.trans c3)
          clear hb2 c1 c2 c3 hsa
          go_wp2_with fail
          refine (check_any _ _ _ hz40 _).mono ?_
          rintro e w3 ⟨rfl, hb3⟩
          rw [HWT.out]
          have HB3 := Lib.hid (bstep HB2.out hb3)
          clear hb3 d1 d2 d3
          go_wp2
          go_roundw
          case rel => exact ⟨k + 1, by omega, by rw [HFX.out], by go_num, HB3.out, HSM⟩
          case measure => simp [intOf]; omega
        · have f0' : (firstE (xs.take k) == 0) = false := by simp [f0]
          have HFX := Lib.hid (HFN.out.trans (if_neg f0))
          clear f0 HFN HFS
          go_wp2_with fail
          refine (kind_any _ hz40 _).mono ?_
          rintro e w2 ⟨rfl, hb2⟩
          have HB2 := Lib.hid (bstep HB.out hb2)
          have hsa := ha.lt (by omega)
          have d1 := (HB2.out.cell (p := ⟨sa, oa + k * 3, none⟩) hsa).trans ((HB.out.cell (p := ⟨sa, oa + k * 3, none⟩) hsa).symm.trans c1)
          have d2 := (HB2.out.cell (p := ⟨sa, oa + k * 3 + 1, none⟩) hsa).trans ((HB.out.cell (p := ⟨sa, oa + k * 3 + 1, none⟩) hsa).symm.trans c2)
          have d3 := (HB2.out.cell (p := ⟨sa, oa + k * 3 + 2, none⟩) hsa).trans ((HB.out.cell (p := ⟨sa, oa + k * 3 + 2, none⟩) hsa).symm.trans c3)
          clear hb2 c1 c2 c3 hsa
          go_wp2_with fail
          refine (check_any _ _ _ hz40 _).mono ?_
          rintro e w3 ⟨rfl, hb3⟩
          rw [HWT.out]
          have HB3 := Lib.hid (bstep HB2.out hb3)
          clear hb3 d1 d2 d3
          go_wp2
          go_roundw
          case rel => exact ⟨k + 1, by omega, by rw [HFX.out], by go_num, HB3.out, HSM⟩
          case measure => simp [intOf]; omega
      by_cases k3 : 3 < kd
      · have HWT := Lib.hid (show chkL kd (xs[k]).2.1.toList = 10 by unfold chkL; rw [if_pos (.inr k3)])
        have HFN := Lib.hid (show firstE (xs.take (k + 1)) = if firstE (xs.take k) = 0 then 10 else firstE (xs.take k) by rw [HFS.out, show chkT xs[k] = 10 by unfold chkT; rw [HKD.out]; exact HWT.out])
        by_cases f0 : firstE (xs.take k) = 0
        · have f0' : (firstE (xs.take k) == 0) = true := by simp [f0]
          have HFX := Lib.hid (HFN.out.trans (if_pos f0))
          clear f0 HFN HFS
          go_wp2_with fail
          refine (kind_any _ hz40 _).mono ?_
          rintro e w2 ⟨rfl, hb2⟩
          have HB2 := Lib.hid (bstep HB.out hb2)
          have hsa := ha.lt (by omega)
          have d1 := (HB2.out.cell (p := ⟨sa, oa + k * 3, none⟩) hsa).trans ((HB.out.cell (p := ⟨sa, oa + k * 3, none⟩) hsa).symm.trans c1)
          have d2 := (HB2.out.cell (p := ⟨sa, oa + k * 3 + 1, none⟩) hsa).trans ((HB.out.cell (p := ⟨sa, oa + k * 3 + 1, none⟩) hsa).symm.trans c2)
          have d3 := (HB2.out.cell (p := ⟨sa, oa + k * 3 + 2, none⟩) hsa).trans ((HB.out.cell (p := ⟨sa, oa + k * 3 + 2, none⟩) hsa).symm.trans c3)
          clear hb2 c1 c2 c3 hsa
          go_wp2_with fail
          refine (check_any _ _ _ hz40 _).mono ?_
          rintro e w3 ⟨rfl, hb3⟩
          rw [HWT.out]
          have HB3 := Lib.hid (bstep HB2.out hb3)
          clear hb3 d1 d2 d3
          go_wp2
          go_roundw
          case rel => exact ⟨k + 1, by omega, by rw [HFX.out], by go_num, HB3.out, HSM⟩
          case measure => simp [intOf]; omega
        · have f0' : (firstE (xs.take k) == 0) = false := by simp [f0]
          have HFX := Lib.hid (HFN.out.trans (if_neg f0))
          clear f0 HFN HFS
          go_wp2_with fail
          refine (kind_any _ hz40 _).mono ?_
          rintro e w2 ⟨rfl, hb2⟩
          have HB2 := Lib.hid (bstep HB.out hb2)
          have hsa := ha.lt (by omega)
          have d1 := (HB2.out.cell (p := ⟨sa, oa + k * 3, none⟩) hsa).trans ((HB.out.cell (p := ⟨sa, oa + k * 3, none⟩) hsa).symm.trans c1)
          have d2 := (HB2.out.cell (p := ⟨sa, oa + k * 3 + 1, none⟩) hsa).trans ((HB.out.cell (p := ⟨sa, oa + k * 3 + 1, none⟩) hsa).symm.trans c2)
          have d3 := (HB2.out.cell (p := ⟨sa, oa + k * 3 + 2, none⟩) hsa).trans ((HB.out.cell (p := ⟨sa, oa + k * 3 + 2, none⟩) hsa).symm.trans c3)
          clear hb2 c1 c2 c3 hsa
          go_wp2_with fail
          refine (check_any _ _ _ hz40 _).mono ?_
          rintro e w3 ⟨rfl, hb3⟩
          rw [HWT.out]
          have HB3 := Lib.hid (bstep HB2.out hb3)
          clear hb3 d1 d2 d3
          go_wp2
          go_roundw
          case rel => exact ⟨k + 1, by omega, by rw [HFX.out], by go_num, HB3.out, HSM⟩
          case measure => simp [intOf]; omega
      by_cases q1 : kd = 1
      · subst q1
        clear k1 k3
        by_cases hK : kindL (xs[k]).2.1.toList = 1
        · have HK := Lib.hid hK
          clear hK
          have HWT := Lib.hid (show chkL 1 (xs[k]).2.1.toList = 0 by rw [chk_ok (by omega) (by omega), if_pos HK.out])
          have HFN := Lib.hid (show firstE (xs.take (k + 1)) = if firstE (xs.take k) = 0 then 0 else firstE (xs.take k) by rw [HFS.out, show chkT xs[k] = 0 by unfold chkT; rw [HKD.out]; exact HWT.out])
          by_cases f0 : firstE (xs.take k) = 0
          · have f0' : (firstE (xs.take k) == 0) = true := by simp [f0]
            have HFX := Lib.hid (HFN.out.trans (if_pos f0))
            clear f0 HFN HFS
            go_wp2_with fail
            refine (kind_any _ hz40 _).mono ?_
            rintro e w2 ⟨rfl, hb2⟩
            have HB2 := Lib.hid (bstep HB.out hb2)
            have hsa := ha.lt (by omega)
            have d1 := (HB2.out.cell (p := ⟨sa, oa + k * 3, none⟩) hsa).trans ((HB.out.cell (p := ⟨sa, oa + k * 3, none⟩) hsa).symm.trans c1)
            have d2 := (HB2.out.cell (p := ⟨sa, oa + k * 3 + 1, none⟩) hsa).trans ((HB.out.cell (p := ⟨sa, oa + k * 3 + 1, none⟩) hsa).symm.trans c2)
            have d3 := (HB2.out.cell (p := ⟨sa, oa + k * 3 + 2, none⟩) hsa).trans ((HB.out.cell (p := ⟨sa, oa + k * 3 + 2, none⟩) hsa).symm.trans c3)
            clear hb2 c1 c2 c3 hsa
            rw [HK.out]
            go_wp2_with fail
            refine (check_any _ _ _ hz40 _).mono ?_
            rintro e w3 ⟨rfl, hb3⟩
            rw [HWT.out]
            have HB3 := Lib.hid (bstep HB2.out hb3)
            clear hb3 d1 d2 d3
            go_wp2
            go_roundw
            case rel => exact ⟨k + 1, by omega, by rw [HFX.out], by go_num, HB3.out, HSM⟩
            case measure => simp [intOf]; omega
          · have f0' : (firstE (xs.take k) == 0) = false := by simp [f0]
            have HFX := Lib.hid (HFN.out.trans (if_neg f0))
            clear f0 HFN HFS
            go_wp2_with fail
            refine (kind_any _ hz40 _).mono ?_
            rintro e w2 ⟨rfl, hb2⟩
            have HB2 := Lib.hid (bstep HB.out hb2)
            have hsa := ha.lt (by omega)
            have d1 := (HB2.out.cell (p := ⟨sa, oa + k * 3, none⟩) hsa).trans ((HB.out.cell (p := ⟨sa, oa + k * 3, none⟩) hsa).symm.trans c1)
            have d2 := (HB2.out.cell (p := ⟨sa, oa + k * 3 + 1, none⟩) hsa).trans ((HB.out.cell (p := ⟨sa, oa + k * 3 + 1, none⟩) hsa).symm.trans c2)
            have d3 := (HB2.out.cell (p := ⟨sa, oa + k * 3 + 2, none⟩) hsa).trans ((HB.out.cell (p := ⟨sa, oa + k * 3 + 2, none⟩) hsa).symm.trans c3)
            clear hb2 c1 c2 c3 hsa
            rw [HK.out]
            go_wp2_with fail
            refine (check_any _ _ _ hz40 _).mono ?_
            rintro e w3 ⟨rfl, hb3⟩
            rw [HWT.out]
            have HB3 := Lib.hid (bstep HB2.out hb3)
            clear hb3 d1 d2 d3
            go_wp2
            go_roundw
            case rel => exact ⟨k + 1, by omega, by rw [HFX.out], by go_num, HB3.out, HSM⟩
            case measure => simp [intOf]; omega
        · have hK1 : (kindL (xs[k]).2.1.toList != 1) = true := by simp [hK]
          have hK2 : ((1 : Int) != kindL (xs[k]).2.1.toList) = true := by simp; omega
          have HK := Lib.hid hK
          clear hK
          have HWT := Lib.hid (show chkL 1 (xs[k]).2.1.toList = 6 by rw [chk_ok (by omega) (by omega), if_neg HK.out]; rfl)
          have HFN := Lib.hid (show firstE (xs.take (k + 1)) = if firstE (xs.take k) = 0 then 6 else firstE (xs.take k) by rw [HFS.out, show chkT xs[k] = 6 by unfold chkT; rw [HKD.out]; exact HWT.out])
          by_cases f0 : firstE (xs.take k) = 0
          · have f0' : (firstE (xs.take k) == 0) = true := by simp [f0]
            have HFX := Lib.hid (HFN.out.trans (if_pos f0))
            clear f0 HFN HFS
            go_wp2_with fail
            refine (kind_any _ hz40 _).mono ?_
            rintro e w2 ⟨rfl, hb2⟩
            have HB2 := Lib.hid (bstep HB.out hb2)
            have hsa := ha.lt (by omega)
            have d1 := (HB2.out.cell (p := ⟨sa, oa + k * 3, none⟩) hsa).trans ((HB.out.cell (p := ⟨sa, oa + k * 3, none⟩) hsa).symm.trans c1)
            have d2 := (HB2.out.cell (p := ⟨sa, oa + k * 3 + 1, none⟩) hsa).trans ((HB.out.cell (p := ⟨sa, oa + k * 3 + 1, none⟩) hsa).symm.trans c2)
            have d3 := (HB2.out.cell (p := ⟨sa, oa + k * 3 + 2, none⟩) hsa).trans ((HB.out.cell (p := ⟨sa, oa + k * 3 + 2, none⟩) hsa).symm.trans c3)
            clear hb2 c1 c2 c3 hsa
            go_wp2_with fail
            refine (check_any _ _ _ hz40 _).mono ?_
            rintro e w3 ⟨rfl, hb3⟩
            rw [HWT.out]
            have HB3 := Lib.hid (bstep HB2.out hb3)
            clear hb3 d1 d2 d3
            go_wp2
            go_roundw
            case rel => exact ⟨k + 1, by omega, by rw [HFX.out], by go_num, HB3.out, HSM⟩
            case measure => simp [intOf]; omega
          · have f0' : (firstE (xs.take k) == 0) = false := by simp [f0]
            have HFX := Lib.hid (HFN.out.trans (if_neg f0))
            clear f0 HFN HFS
            go_wp2_with fail
            refine (kind_any _ hz40 _).mono ?_
            rintro e w2 ⟨rfl, hb2⟩
            have HB2 := Lib.hid (bstep HB.out hb2)
            have hsa := ha.lt (by omega)
            have d1 := (HB2.out.cell (p := ⟨sa, oa + k * 3, none⟩) hsa).trans ((HB.out.cell (p := ⟨sa, oa + k * 3, none⟩) hsa).symm.trans c1)
            have d2 := (HB2.out.cell (p := ⟨sa, oa + k * 3 + 1, none⟩) hsa).trans ((HB.out.cell (p := ⟨sa, oa + k * 3 + 1, none⟩) hsa).symm.trans c2)
            have d3 := (HB2.out.cell (p := ⟨sa, oa + k * 3 + 2, none⟩) hsa).trans ((HB.out.cell (p := ⟨sa, oa + k * 3 + 2, none⟩) hsa).symm.trans c3)
            clear hb2 c1 c2 c3 hsa
            go_wp2_with fail
            refine (check_any _ _ _ hz40 _).mono ?_
            rintro e w3 ⟨rfl, hb3⟩
            rw [HWT.out]
            have HB3 := Lib.hid (bstep HB2.out hb3)
            clear hb3 d1 d2 d3
            go_wp2
            go_roundw
            case rel => exact ⟨k + 1, by omega, by rw [HFX.out], by go_num, HB3.out, HSM⟩
            case measure => simp [intOf]; omega
      by_cases q2 : kd = 2
      · subst q2
        clear k1 k3
        clear q1
        by_cases hK : kindL (xs[k]).2.1.toList = 2
        · have HK := Lib.hid hK
          clear hK
          have HWT := Lib.hid (show chkL 2 (xs[k]).2.1.toList = 0 by rw [chk_ok (by omega) (by omega), if_pos HK.out])
          have HFN := Lib.hid (show firstE (xs.take (k + 1)) = if firstE (xs.take k) = 0 then 0 else firstE (xs.take k) by rw [HFS.out, show chkT xs[k] = 0 by unfold chkT; rw [HKD.out]; exact HWT.out])
          by_cases f0 : firstE (xs.take k) = 0
          · have f0' : (firstE (xs.take k) == 0) = true := by simp [f0]
            have HFX := Lib.hid (HFN.out.trans (if_pos f0))
            clear f0 HFN HFS
            go_wp2_with fail
            refine (kind_any _ hz40 _).mono ?_
            rintro e w2 ⟨rfl, hb2⟩
            have HB2 := Lib.hid (bstep HB.out hb2)
            have hsa := ha.lt (by omega)
            have d1 := (HB2.out.cell (p := ⟨sa, oa + k * 3, none⟩) hsa).trans ((HB.out.cell (p := ⟨sa, oa + k * 3, none⟩) hsa).symm.trans c1)
            have d2 := (HB2.out.cell (p := ⟨sa, oa + k * 3 + 1, none⟩) hsa).trans ((HB.out.cell (p := ⟨sa, oa + k * 3 + 1, none⟩) hsa).symm.trans c2)
            have d3 := (HB2.out.cell (p := ⟨sa, oa + k * 3 + 2, none⟩) hsa).trans ((HB.out.cell (p := ⟨sa, oa + k * 3 + 2, none⟩) hsa).symm.trans c3)
            clear hb2 c1 c2 c3 hsa
            rw [HK.out]
            go_wp2_with fail
            refine (check_any _ _ _ hz40 _).mono ?_
            rintro e w3 ⟨rfl, hb3⟩
            rw [HWT.out]
            have HB3 := Lib.hid (bstep HB2.out hb3)
            clear hb3 d1 d2 d3
            go_wp2
            go_roundw
            case rel => exact ⟨k + 1, by omega, by rw [HFX.out], by go_num, HB3.out, HSM⟩
            case measure => simp [intOf]; omega
          · have f0' : (firstE (xs.take k) == 0) = false := by simp [f0]
            have HFX := Lib.hid (HFN.out.trans (if_neg f0))
            clear f0 HFN HFS
            go_wp2_with fail
            refine (kind_any _ hz40 _).mono ?_
            rintro e w2 ⟨rfl, hb2⟩
            have HB2 := Lib.hid (bstep HB.out hb2)
            have hsa := ha.lt (by omega)
            have d1 := (HB2.out.cell (p := ⟨sa, oa + k * 3, none⟩) hsa).trans ((HB.out.cell (p := ⟨sa, oa + k * 3, none⟩) hsa).symm.trans c1)
            have d2 := (HB2.out.cell (p := ⟨sa, oa + k * 3 + 1, none⟩) hsa).trans ((HB.out.cell (p := ⟨sa, oa + k * 3 + 1, none⟩) hsa).symm.trans c2)
            have d3 := (HB2.out.cell (p := ⟨sa, oa + k * 3 + 2, none⟩) hsa).trans ((HB.out.cell (p := ⟨sa, oa + k * 3 + 2, none⟩) hsa).symm.trans c3)
            clear hb2 c1 c2 c3 hsa
            rw [HK.out]
            go_wp2_with fail
            refine (check_any _ _ _ hz40 _).mono ?_
            rintro e w3 ⟨rfl, hb3⟩
            rw [HWT.out]
            have HB3 := Lib.hid (bstep HB2.out hb3)
            clear hb3 d1 d2 d3
            go_wp2
            go_roundw
            case rel => exact ⟨k + 1, by omega, by rw [HFX.out], by go_num, HB3.out, HSM⟩
            case measure => simp [intOf]; omega
        · have hK1 : (kindL (xs[k]).2.1.toList != 2) = true := by simp [hK]
          have hK2 : ((2 : Int) != kindL (xs[k]).2.1.toList) = true := by simp; omega
          have HK := Lib.hid hK
          clear hK
          have HWT := Lib.hid (show chkL 2 (xs[k]).2.1.toList = 5 by rw [chk_ok (by omega) (by omega), if_neg HK.out]; rfl)
          have HFN := Lib.hid (show firstE (xs.take (k + 1)) = if firstE (xs.take k) = 0 then 5 else firstE (xs.take k) by rw [HFS.out, show chkT xs[k] = 5 by unfold chkT; rw [HKD.out]; exact HWT.out])
          by_cases f0 : firstE (xs.take k) = 0
          · have f0' : (firstE (xs.take k) == 0) = true := by simp [f0]
            have HFX := Lib.hid (HFN.out.trans (if_pos f0))
            clear f0 HFN HFS
            go_wp2_with fail
            refine (kind_any _ hz40 _).mono ?_
            rintro e w2 ⟨rfl, hb2⟩
            have HB2 := Lib.hid (bstep HB.out hb2)
            have hsa := ha.lt (by omega)
            have d1 := (HB2.out.cell (p := ⟨sa, oa + k * 3, none⟩) hsa).trans ((HB.out.cell (p := ⟨sa, oa + k * 3, none⟩) hsa).symm.trans c1)
            have d2 := (HB2.out.cell (p := ⟨sa, oa + k * 3 + 1, none⟩) hsa).trans ((HB.out.cell (p := ⟨sa, oa + k * 3 + 1, none⟩) hsa).symm.trans c2)
            have d3 := (HB2.out.cell (p := ⟨sa, oa + k * 3 + 2, none⟩) hsa).trans ((HB.out.cell (p := ⟨sa, oa + k * 3 + 2, none⟩) hsa).symm.trans c3)
            clear hb2 c1 c2 c3 hsa
            go_wp2_with fail
            refine (check_any _ _ _ hz40 _).mono ?_
            rintro e w3 ⟨rfl, hb3⟩
            rw [HWT.out]
            have HB3 := Lib.hid (bstep HB2.out hb3)
            clear hb3 d1 d2 d3
            go_wp2
            go_roundw
            case rel => exact ⟨k + 1, by omega, by rw [HFX.out], by go_num, HB3.out, HSM⟩
            case measure => simp [intOf]; omega
          · have f0' : (firstE (xs.take k) == 0) = false := by simp [f0]
            have HFX := Lib.hid (HFN.out.trans (if_neg f0))
            clear f0 HFN HFS
            go_wp2_with fail
            refine (kind_any _ hz40 _).mono ?_
            rintro e w2 ⟨rfl, hb2⟩
            have HB2 := Lib.hid (bstep HB.out hb2)
            have hsa := ha.lt (by omega)
            have d1 := (HB2.out.cell (p := ⟨sa, oa + k * 3, none⟩) hsa).trans ((HB.out.cell (p := ⟨sa, oa + k * 3, none⟩) hsa).symm.trans c1)
            have d2 := (HB2.out.cell (p := ⟨sa, oa + k * 3 + 1, none⟩) hsa).trans ((HB.out.cell (p := ⟨sa, oa + k * 3 + 1, none⟩) hsa).symm.trans c2)
            have d3 := (HB2.out.cell (p := ⟨sa, oa + k * 3 + 2, none⟩) hsa).trans ((HB.out.cell (p := ⟨sa, oa + k * 3 + 2, none⟩) hsa).symm.trans c3)
            clear hb2 c1 c2 c3 hsa
            go_wp2_with fail
            refine (check_any _ _ _ hz40 _).mono ?_
            rintro e w3 ⟨rfl, hb3⟩
            rw [HWT.out]
            have HB3 := Lib.hid (bstep HB2.out hb3)
            clear hb3 d1 d2 d3
            go_wp2
            go_roundw
            case rel => exact ⟨k + 1, by omega, by rw [HFX.out], by go_num, HB3.out, HSM⟩
            case measure => simp [intOf]; omega
      by_cases q3 : kd = 3
      · subst q3
        clear k1 k3
        clear q1
        clear q2
        by_cases hK : kindL (xs[k]).2.1.toList = 3
        · have HK := Lib.hid hK
          clear hK
          have HWT := Lib.hid (show chkL 3 (xs[k]).2.1.toList = 0 by rw [chk_ok (by omega) (by omega), if_pos HK.out])
          have HFN := Lib.hid (show firstE (xs.take (k + 1)) = if firstE (xs.take k) = 0 then 0 else firstE (xs.take k) by rw [HFS.out, show chkT xs[k] = 0 by unfold chkT; rw [HKD.out]; exact HWT.out])
          by_cases f0 : firstE (xs.take k) = 0
          · have f0' : (firstE (xs.take k) == 0) = true := by simp [f0]
            have HFX := Lib.hid (HFN.out.trans (if_pos f0))
            clear f0 HFN HFS
            go_wp2_with fail
            refine (kind_any _ hz40 _).mono ?_
            rintro e w2 ⟨rfl, hb2⟩
            have HB2 := Lib.hid (bstep HB.out hb2)
            have hsa := ha.lt (by omega)
            have d1 := (HB2.out.cell (p := ⟨sa, oa + k * 3, none⟩) hsa).trans ((HB.out.cell (p := ⟨sa, oa + k * 3, none⟩) hsa).symm.trans c1)
            have d2 := (HB2.out.cell (p := ⟨sa, oa + k * 3 + 1, none⟩) hsa).trans ((HB.out.cell (p := ⟨sa, oa + k * 3 + 1, none⟩) hsa).symm.trans c2)
            have d3 := (HB2.out.cell (p := ⟨sa, oa + k * 3 + 2, none⟩) hsa).trans ((HB.out.cell (p := ⟨sa, oa + k * 3 + 2, none⟩) hsa).symm.trans c3)
            clear hb2 c1 c2 c3 hsa
            rw [HK.out]
            go_wp2_with fail
            refine (check_any _ _ _ hz40 _).mono ?_
            rintro e w3 ⟨rfl, hb3⟩
            rw [HWT.out]
            have HB3 := Lib.hid (bstep HB2.out hb3)
            clear hb3 d1 d2 d3
            go_wp2
            go_roundw
            case rel => exact ⟨k + 1, by omega, by rw [HFX.out], by go_num, HB3.out, HSM⟩
            case measure => simp [intOf]; omega
          · have f0' : (firstE (xs.take k) == 0) = false := by simp [f0]
            have HFX := Lib.hid (HFN.out.trans (if_neg f0))
            clear f0 HFN HFS
            go_wp2_with fail
            refine (kind_any _ hz40 _).mono ?_
            rintro e w2 ⟨rfl, hb2⟩
            have HB2 := Lib.hid (bstep HB.out hb2)
            have hsa := ha.lt (by omega)
            have d1 := (HB2.out.cell (p := ⟨sa, oa + k * 3, none⟩) hsa).trans ((HB.out.cell (p := ⟨sa, oa + k * 3, none⟩) hsa).symm.trans c1)
            have d2 := (HB2.out.cell (p := ⟨sa, oa + k * 3 + 1, none⟩) hsa).trans ((HB.out.cell (p := ⟨sa, oa + k * 3 + 1, none⟩) hsa).symm.trans c2)
            have d3 := (HB2.out.cell (p := ⟨sa, oa + k * 3 + 2, none⟩) hsa).trans ((HB.out.cell (p := ⟨sa, oa + k * 3 + 2, none⟩) hsa).symm.trans c3)
            clear hb2 c1 c2 c3 hsa
            rw [HK.out]
            go_wp2_with fail
            refine (check_any _ _ _ hz40 _).mono ?_
            rintro e w3 ⟨rfl, hb3⟩
            rw [HWT.out]
            have HB3 := Lib.hid (bstep HB2.out hb3)
            clear hb3 d1 d2 d3
            go_wp2
            go_roundw
            case rel => exact ⟨k + 1, by omega, by rw [HFX.out], by go_num, HB3.out, HSM⟩
            case measure => simp [intOf]; omega
        · have hK1 : (kindL (xs[k]).2.1.toList != 3) = true := by simp [hK]
          have hK2 : ((3 : Int) != kindL (xs[k]).2.1.toList) = true := by simp; omega
          have HK := Lib.hid hK
          clear hK
          have HWT := Lib.hid (show chkL 3 (xs[k]).2.1.toList = 5 by rw [chk_ok (by omega) (by omega), if_neg HK.out]; rfl)
          have HFN := Lib.hid (show firstE (xs.take (k + 1)) = if firstE (xs.take k) = 0 then 5 else firstE (xs.take k) by rw [HFS.out, show chkT xs[k] = 5 by unfold chkT; rw [HKD.out]; exact HWT.out])
          by_cases f0 : firstE (xs.take k) = 0
          · have f0' : (firstE (xs.take k) == 0) = true := by simp [f0]
            have HFX := Lib.hid (HFN.out.trans (if_pos f0))
            clear f0 HFN HFS
            go_wp2_with fail
            refine (kind_any _ hz40 _).mono ?_
            rintro e w2 ⟨rfl, hb2⟩
            have HB2 := Lib.hid (bstep HB.out hb2)
            have hsa := ha.lt (by omega)
            have d1 := (HB2.out.cell (p := ⟨sa, oa + k * 3, none⟩) hsa).trans ((HB.out.cell (p := ⟨sa, oa + k * 3, none⟩) hsa).symm.trans c1)
            have d2 := (HB2.out.cell (p := ⟨sa, oa + k * 3 + 1, none⟩) hsa).trans ((HB.out.cell (p := ⟨sa, oa + k * 3 + 1, none⟩) hsa).symm.trans c2)
            have d3 := (HB2.out.cell (p := ⟨sa, oa + k * 3 + 2, none⟩) hsa).trans ((HB.out.cell (p := ⟨sa, oa + k * 3 + 2, none⟩) hsa).symm.trans c3)
            clear hb2 c1 c2 c3 hsa
            go_wp2_with fail
            refine (check_any _ _ _ hz40 _).mono ?_
            rintro e w3 ⟨rfl, hb3⟩
            rw [HWT.out]
            have HB3 := Lib.hid (bstep HB2.out hb3)
            clear hb3 d1 d2 d3
            go_wp2
            go_roundw
            case rel => exact ⟨k + 1, by omega, by rw [HFX.out], by go_num, HB3.out, HSM⟩
            case measure => simp [intOf]; omega
          · have f0' : (firstE (xs.take k) == 0) = false := by simp [f0]
            have HFX := Lib.hid (HFN.out.trans (if_neg f0))
            clear f0 HFN HFS
            go_wp2_with fail
            refine (kind_any _ hz40 _).mono ?_
            rintro e w2 ⟨rfl, hb2⟩
            have HB2 := Lib.hid (bstep HB.out hb2)
            have hsa := ha.lt (by omega)
            have d1 := (HB2.out.cell (p := ⟨sa, oa + k * 3, none⟩) hsa).trans ((HB.out.cell (p := ⟨sa, oa + k * 3, none⟩) hsa).symm.trans c1)
            have d2 := (HB2.out.cell (p := ⟨sa, oa + k * 3 + 1, none⟩) hsa).trans ((HB.out.cell (p := ⟨sa, oa + k * 3 + 1, none⟩) hsa).symm.trans c2)
            have d3 := (HB2.out.cell (p := ⟨sa, oa + k * 3 + 2, none⟩) hsa).trans ((HB.out.cell (p := ⟨sa, oa + k * 3 + 2, none⟩) hsa).symm.trans c3)
            clear hb2 c1 c2 c3 hsa
            go_wp2_with fail
            refine (check_any _ _ _ hz40 _).mono ?_
            rintro e w3 ⟨rfl, hb3⟩
            rw [HWT.out]
            have HB3 := Lib.hid (bstep HB2.out hb3)
            clear hb3 d1 d2 d3
            go_wp2
            go_roundw
            case rel => exact ⟨k + 1, by omega, by rw [HFX.out], by go_num, HB3.out, HSM⟩
            case measure => simp [intOf]; omega
      omega
    · obtain rfl : k = xs.length := by omega
      have HSM := Lib.hid (show ∀ i (h : i < xs.length), (xs[i]).2.1.size ≤ 40 from fun i h => hsm.out i h h)
      rw [List.take_length]
      clear hsm
      have hx30 : xs.length ≤ 30 := by omega
      go_wp2
      go_loopw [9, 10] (fun b i wr => ∃ k : Nat, k ≤ xs.length ∧ b = .bool (isTo xs ys k) ∧ i = .int .i64 k ∧ Below w.heap.size w wr) (fun _ i _ => xs.length - (intOf i).toNat)
      case atStart => exact ⟨0, by omega, by rw [is_start'], rfl, hbr⟩
      case round =>
        clear hbr
        obtain ⟨k, hk, rfl, rfl, hbr⟩ := hrel
        have HB := Lib.hid hbr
        by_cases hi : isTo xs ys k = true
        · by_cases hlt : k < xs.length
          · have hlt2 : k < ys.length := by have := is_len hi; omega
            obtain rfl := ha.here (by omega)
            obtain rfl := hb.here (by omega)
            have c1 := (hbr.cell (p := ⟨sa, oa + k * 3, none⟩) (ha.lt (by omega))).trans (ha.kind k hlt)
            have c2 := (hbr.cell (p := ⟨sa, oa + k * 3 + 1, none⟩) (ha.lt (by omega))).trans (ha.text k hlt)
            have d1 := (hbr.cell (p := ⟨sb, ob + k * 3, none⟩) (hb.lt (by omega))).trans (hb.kind k hlt2)
            have d2 := (hbr.cell (p := ⟨sb, ob + k * 3 + 1, none⟩) (hb.lt (by omega))).trans (hb.text k hlt2)
            have z0 : (0 : Int) ≤ (k : Int) := by omega
            have z1 : (k : Int) < (xs.length : Int) := by omega
            have z2 : (k : Int) < (ys.length : Int) := by omega
            clear hbr
            by_cases e1 : (xs[k]).1 = (ys[k]).1
            · have e1' : ((xs[k]).1 == (ys[k]).1) = true := by simp [e1]
              by_cases e2 : (xs[k]).2.1.toList = (ys[k]).2.1.toList
              · have HN := Lib.hid (is_next hi hlt hlt2 e1 e2)
                have e2' : ((xs[k]).2.1.toList == (ys[k]).2.1.toList) = true := by simp [e2]
                clear e1 e2
                go_wp2
                go_quiet (fail)
                go_wp2
                go_roundw
                case rel => exact ⟨k + 1, by omega, by rw [HN.out], by go_num, bdrewN HB.out _⟩
                case measure => simp [intOf]; omega
              · have HN := Lib.hid (is_not hlt hlt2 (fun h => e2 h.2))
                have e2' : ((xs[k]).2.1.toList == (ys[k]).2.1.toList) = false := by simp [e2]
                clear e1 e2
                go_wp2
                go_quiet (fail)
                go_wp2
                go_roundw
                case rel => exact ⟨k + 1, by omega, by rw [HN.out], by go_num, bdrewN HB.out _⟩
                case measure => simp [intOf]; omega
            · have HN := Lib.hid (is_not hlt hlt2 (fun h => e1 h.1))
              have e1' : ((xs[k]).1 == (ys[k]).1) = false := by simp [e1]
              clear e1
              go_wp2
              go_quiet (fail)
              go_wp2
              go_roundw
              case rel => exact ⟨k + 1, by omega, by rw [HN.out], by go_num, bdrewN HB.out _⟩
              case measure => simp [intOf]; omega
          · have HE := Lib.hid (is_end (xs := xs) (ys := ys) (k := k) (.inr (by omega)) hk)
            have z1 : ¬ (k : Int) < (xs.length : Int) := by omega
            clear hi hbr
            go_wp2_with fail
            refine (text_any xs _ sa oa ca hx30 HSM.out _ (toks_below ha HB.out)).mono ?_
            rintro e w4 ⟨⟨s, rfl, hes⟩, hb4⟩
            have HB4 := Lib.hid (bstep HB.out hb4)
            clear hb4
            by_cases f0 : firstE xs = 0
            · have f0' : (firstE xs == 0) = true := by simp [f0]
              clear f0 hes
              go_wp2_with fail
              refine (same_any xs ys _ _ sa oa ca sb ob cb hx hy _ (toks_below ha HB4.out) (toks_below hb HB4.out)).mono ?_
              rintro e w5 ⟨rfl, hb5⟩
              rw [← HE.out]
              have HB5 := Lib.hid (bstep HB4.out hb5)
              clear hb5
              go_wp2_with fail
              refine (same_any xs xs _ _ sa oa ca sa oa ca hx hx _ (toks_below ha HB5.out) (toks_below ha HB5.out)).mono ?_
              rintro e w6 ⟨rfl, hb6⟩
              rw [same_self]
              have HB6 := Lib.hid (bstep HB5.out hb6)
              clear hb6
              go_wp2_with fail
              refine (lives_any _).mono ?_
              rintro e w7 ⟨rfl, hb7⟩
              go_wp2
              go_ret
              exact ⟨rfl, bstep HB6.out hb7⟩
            · have f0' : (firstE xs == 0) = false := by simp [f0]
              obtain rfl := hes.resolve_left f0
              clear f0 hes
              go_wp2_with fail
              refine (same_any xs ys _ _ sa oa ca sb ob cb hx hy _ (toks_below ha HB4.out) (toks_below hb HB4.out)).mono ?_
              rintro e w5 ⟨rfl, hb5⟩
              rw [← HE.out]
              have HB5 := Lib.hid (bstep HB4.out hb5)
              clear hb5
              go_wp2_with fail
              refine (same_any xs xs _ _ sa oa ca sa oa ca hx hx _ (toks_below ha HB5.out) (toks_below ha HB5.out)).mono ?_
              rintro e w6 ⟨rfl, hb6⟩
              rw [same_self]
              have HB6 := Lib.hid (bstep HB5.out hb6)
              clear hb6
              go_wp2_with fail
              refine (lives_any _).mono ?_
              rintro e w7 ⟨rfl, hb7⟩
              go_wp2
              go_ret
              exact ⟨rfl, bstep HB6.out hb7⟩
        · have HE := Lib.hid (is_end (xs := xs) (ys := ys) (k := k) (.inl (by simpa using hi)) hk)
          have hi' : isTo xs ys k = false := by simpa using hi
          clear hi hbr
          by_cases z1 : (k : Int) < (xs.length : Int)
          · skip
            go_wp2_with fail
            refine (text_any xs _ sa oa ca hx30 HSM.out _ (toks_below ha HB.out)).mono ?_
            rintro e w4 ⟨⟨s, rfl, hes⟩, hb4⟩
            have HB4 := Lib.hid (bstep HB.out hb4)
            clear hb4
            by_cases f0 : firstE xs = 0
            · have f0' : (firstE xs == 0) = true := by simp [f0]
              clear f0 hes
              go_wp2_with fail
              refine (same_any xs ys _ _ sa oa ca sb ob cb hx hy _ (toks_below ha HB4.out) (toks_below hb HB4.out)).mono ?_
              rintro e w5 ⟨rfl, hb5⟩
              rw [← HE.out]
              have HB5 := Lib.hid (bstep HB4.out hb5)
              clear hb5
              go_wp2_with fail
              refine (same_any xs xs _ _ sa oa ca sa oa ca hx hx _ (toks_below ha HB5.out) (toks_below ha HB5.out)).mono ?_
              rintro e w6 ⟨rfl, hb6⟩
              rw [same_self]
              have HB6 := Lib.hid (bstep HB5.out hb6)
              clear hb6
              go_wp2_with fail
              refine (lives_any _).mono ?_
              rintro e w7 ⟨rfl, hb7⟩
              go_wp2
              go_ret
              exact ⟨rfl, bstep HB6.out hb7⟩
            · have f0' : (firstE xs == 0) = false := by simp [f0]
              obtain rfl := hes.resolve_left f0
              clear f0 hes
              go_wp2_with fail
              refine (same_any xs ys _ _ sa oa ca sb ob cb hx hy _ (toks_below ha HB4.out) (toks_below hb HB4.out)).mono ?_
              rintro e w5 ⟨rfl, hb5⟩
              rw [← HE.out]
              have HB5 := Lib.hid (bstep HB4.out hb5)
              clear hb5
              go_wp2_with fail
              refine (same_any xs xs _ _ sa oa ca sa oa ca hx hx _ (toks_below ha HB5.out) (toks_below ha HB5.out)).mono ?_
              rintro e w6 ⟨rfl, hb6⟩
              rw [same_self]
              have HB6 := Lib.hid (bstep HB5.out hb6)
              clear hb6
              go_wp2_with fail
              refine (lives_any _).mono ?_
              rintro e w7 ⟨rfl, hb7⟩
              go_wp2
              go_ret
              exact ⟨rfl, bstep HB6.out hb7⟩
          · skip
            go_wp2_with fail
            refine (text_any xs _ sa oa ca hx30 HSM.out _ (toks_below ha HB.out)).mono ?_
            rintro e w4 ⟨⟨s, rfl, hes⟩, hb4⟩
            have HB4 := Lib.hid (bstep HB.out hb4)
            clear hb4
            by_cases f0 : firstE xs = 0
            · have f0' : (firstE xs == 0) = true := by simp [f0]
              clear f0 hes
              go_wp2_with fail
              refine (same_any xs ys _ _ sa oa ca sb ob cb hx hy _ (toks_below ha HB4.out) (toks_below hb HB4.out)).mono ?_
              rintro e w5 ⟨rfl, hb5⟩
              rw [← HE.out]
              have HB5 := Lib.hid (bstep HB4.out hb5)
              clear hb5
              go_wp2_with fail
              refine (same_any xs xs _ _ sa oa ca sa oa ca hx hx _ (toks_below ha HB5.out) (toks_below ha HB5.out)).mono ?_
              rintro e w6 ⟨rfl, hb6⟩
              rw [same_self]
              have HB6 := Lib.hid (bstep HB5.out hb6)
              clear hb6
              go_wp2_with fail
              refine (lives_any _).mono ?_
              rintro e w7 ⟨rfl, hb7⟩
              go_wp2
              go_ret
              exact ⟨rfl, bstep HB6.out hb7⟩
            · have f0' : (firstE xs == 0) = false := by simp [f0]
              obtain rfl := hes.resolve_left f0
              clear f0 hes
              go_wp2_with fail
              refine (same_any xs ys _ _ sa oa ca sb ob cb hx hy _ (toks_below ha HB4.out) (toks_below hb HB4.out)).mono ?_
              rintro e w5 ⟨rfl, hb5⟩
              rw [← HE.out]
              have HB5 := Lib.hid (bstep HB4.out hb5)
              clear hb5
              go_wp2_with fail
              refine (same_any xs xs _ _ sa oa ca sa oa ca hx hx _ (toks_below ha HB5.out) (toks_below ha HB5.out)).mono ?_
              rintro e w6 ⟨rfl, hb6⟩
              rw [same_self]
              have HB6 := Lib.hid (bstep HB5.out hb6)
              clear hb6
              go_wp2_with fail
              refine (lives_any _).mono ?_
              rintro e w7 ⟨rfl, hb7⟩
              go_wp2
              go_ret
              exact ⟨rfl, bstep HB6.out hb7⟩
end Go.Proofs.Ytbmflenlbbgjiaa
