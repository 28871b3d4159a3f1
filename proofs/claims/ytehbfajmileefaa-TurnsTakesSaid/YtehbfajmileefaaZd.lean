import Derived.Test.YtehbfajmileefaaZc
namespace Go.Proofs.Ytehbfajmileefaa.Px
open Go.RowKit Go.Proofs.Ytehbfajmileefaa.Vx Go.Proofs.Ytehbfajmileefaa.Fx
set_option linter.unusedVariables false
set_option linter.unusedSimpArgs false
set_option maxRecDepth 10000
theorem guard_ok (cl : Cl) {kn : F8 → Mm → CX} {ke : Nat → F8 → Mm → CX} {kr : F8 → Mm → CX} {g : G} {w : Bool} {o : VO} {s : S} {k : K} {F : F8} {M : Mm} (ih : bd (o.den s cl k F M) kn ke kr = o.val cl F M fun y M => bd (k (s y F) M) kn ke kr) :
    bd ((VO.guard g w o).den s cl k F M) kn ke kr = (VO.guard g w o).val cl F M fun y M => bd (k (s y F) M) kn ke kr := by
  simp only [VO.den, VO.val, oIf, vGuard]
  cases g F with
  | i kd n => rfl
  | b b =>
    show bd (ifB b _ _) kn ke kr = _
    rw [bd_ifB]
    cases b <;> cases w <;> first | rfl | exact ih
  | v v =>
    show bd (ifB (isU (.v v)) _ _) kn ke kr = _
    rw [bd_ifB]; rfl
theorem vo_ok (cl : Cl) {kn : F8 → Mm → CX} {ke : Nat → F8 → Mm → CX} {kr : F8 → Mm → CX} : ∀ (o : VO) (s : S), o.ok = true → ∀ (k : K) (F : F8) (M : Mm), bd (o.den s cl k F M) kn ke kr = o.val cl F M fun y M => bd (k (s y F) M) kn ke kr
  | .move g, s, _, k, F, M => by simp only [VO.den, VO.val, oMove, fX_eq]
  | .bin op g1 g2, s, _, k, F, M => by
    simp only [VO.den, VO.val, oBin, bd_caseI, bd_ifB, bd_no, ikF_eq, bd_binI, decide_eq_true_eq]
    cases g1 F <;> try rfl
    cases g2 F <;> rfl
  | .not g, s, _, k, F, M => by
    simp only [VO.den, VO.val, oNot, bd_caseB, fB_eq, notB_eq]
    cases g F <;> rfl
  | .pick c g1 g2, s, _, k, F, M => by
    simp only [VO.den, VO.val, oPick, bd_caseB, bd_ifB, fX_eq]
    cases c F <;> try rfl
    rename_i t
    cases t <;> rfl
  | .conv kd g, s, _, k, F, M => by
    simp only [VO.den, VO.val, oConv, bd_caseI, fI_eq, wrapF_eq]
    cases g F <;> rfl
  | .load1 g, s, _, k, F, M => by
    simp only [VO.den, VO.val, oLoad1, bd_caseV, bd_ptrR, bd_optR, bd_blk, bd_ifB, bd_no, fX_eq, nthR_eq, oneF_eq]
    cases g F with
    | v v => cases v <;> rfl
    | _ => rfl
  | .loadN n g, s, _, k, F, M => by
    simp only [VO.den, VO.val, oLoadN, bd_caseV, bd_ptrR, bd_optR, bd_blk, bd_no, takeR_eq, dropR_eq]
    cases g F with
    | v v =>
      cases v <;> try rfl
      rename_i id off
      simp only [vLoadN]
      congr 1
      funext b
      by_cases h : n ≤ (b.cells.drop off).length
      · rw [if_pos h, if_pos h]; rfl
      · rw [if_neg h, if_neg h]; rfl
    | _ => rfl
  | .fieldAddr d g, s, _, k, F, M => by
    simp only [VO.den, VO.val, oFieldAddr, bd_caseV, bd_ptrR, fN_eq]
    cases g F with
    | v v => cases v <;> rfl
    | _ => rfl
  | .indexAddr z g i, s, _, k, F, M => by
    simp only [VO.den, VO.val, oIndexAddr, bd_caseV, bd_caseI, bd_slR, bd_int, bd_ifB, bd_no, fN_eq]
    cases g F with
    | v v =>
      cases i F with
      | i kd n =>
        cases v <;> try rfl
        exact ltN_int n _ fun j => _
      | _ => cases v <;> rfl
    | _ => rfl
  | .indexArr m z g i, s, _, k, F, M => by
    simp only [VO.den, VO.val, oIndexArr, bd_caseV, bd_caseI, bd_ptrR, bd_int, bd_ifB, bd_no, fN_eq]
    cases g F with
    | v v =>
      cases i F with
      | i kd n =>
        cases v <;> try rfl
        exact ltN_int n _ fun j => _
      | _ => cases v <;> rfl
    | _ => rfl
  | .lenS g, s, _, k, F, M => by
    simp only [VO.den, VO.val, oLenS, bd_caseV, bd_slE]
    cases g F with
    | v v =>
      cases v with
      | val i => simp only [vLenS]; cases Nat.beq (i % 2) 1 <;> rfl
      | _ => rfl
    | _ => rfl
  | .lenT g, s, _, k, F, M => by
    simp only [VO.den, VO.val, oLenT, bd_caseV, bd_strR, strT_eq, fN_eq]
    cases g F with
    | v v =>
      cases v <;> try rfl
      rename_i t
      cases t <;> rfl
    | _ => rfl
  | .indexT g i, s, _, k, F, M => by
    simp only [VO.den, VO.val, oIndexT, bd_caseV, bd_caseI, bd_strR, strT_eq, bd_int, bd_optR, nthB_eq, fN_eq]
    cases g F with
    | v v =>
      cases i F with
      | i kd n =>
        cases v <;> try rfl
        rename_i t
        cases t <;> try rfl
        cases n with
        | ofNat n => simp only [vIndexT]; rw [if_pos (show (0 : Int) ≤ Int.ofNat n from Int.natCast_nonneg n)]; rfl
        | negSucc n => simp only [vIndexT]; rw [if_neg (by omega)]; rfl
      | _ =>
        cases v <;> try rfl
        rename_i t
        cases t <;> rfl
    | _ => rfl
  | .eqT neg g h, s, _, k, F, M => by
    simp only [VO.den, VO.val, oEqT, bd_caseV, bd_strR, strT_eq, fB_eq, eqBs_eq, notB_eq]
    cases g F with
    | v v =>
      cases h F with
      | v u =>
        cases v <;> try rfl
        rename_i t
        cases u <;> try (cases t <;> rfl)
        rename_i t'
        cases t <;> try rfl
        cases t' <;> try rfl
        cases neg <;> rfl
      | _ =>
        cases v <;> try rfl
        rename_i t
        cases t <;> rfl
    | _ => rfl
  | .ext i g, s, _, k, F, M => by
    simp only [VO.den, VO.val, oExt, bd_caseV, bd_tupR, bd_optR, nthR_eq, fX_eq]
    cases g F with
    | v v => cases v <;> rfl
    | _ => rfl
  | .store1 g x, s, _, k, F, M => by
    simp only [VO.den, VO.val, oStore1, bd_caseV, bd_ptrR, bd_optR, bd_ifB, bd_no, fX_eq, mmR_eq, oneF_eq, lwX_eq]
    cases g F with
    | v v => cases v <;> rfl
    | _ => rfl
  | .storeN n g x, s, _, k, F, M => by
    simp only [VO.den, VO.val, oStoreN, bd_caseV, bd_ptrR, bd_aggR, bd_optR, bd_ifB, bd_no, mmR_eq, lwX_eq, Nat.beq_eq]
    cases g F with
    | v v =>
      cases v <;> try rfl
      cases x F with
      | v u => cases u <;> rfl
      | _ => rfl
    | _ => rfl
  | .alloc t z c, s, _, k, F, M => by simp only [VO.den, VO.val, oAlloc, newR_eq, vAlloc]; rfl
  | .box t z g, s, _, k, F, M => by simp only [VO.den, VO.val, oBox, newR_eq, vBox, vAlloc, fX_eq]; rfl
  | .build z ps, s, _, k, F, M => by simp only [VO.den, VO.val, oBuild, bd_optR, fill_eq, vBuild]
  | .call f gs, s, _, k, F, M => by
    simp only [VO.den, VO.val, oCall, vCall]
    cases cl f (gs.map fun g => g F) M with
    | no => rfl
    | val x M' => simp only [cxR, mmR_eq]
  | .callV g gs, s, _, k, F, M => by
    simp only [VO.den, VO.val, oCallV, bd_caseV, vCallV]
    cases g F with
    | v v =>
      simp only
      cases v <;> try rfl
      rename_i fn a b
      cases fn <;> try rfl
      rename_i f
      simp only [fnR, vCall]
      cases cl f (a.map V.toX ++ ((gs.map fun g => g F) ++ b.map V.toX)) M with
      | no => rfl
      | val x M' => simp only [cxR, mmR_eq]
    | _ => rfl
  | .fn f as bs, s, _, k, F, M => by simp only [VO.den, VO.val, oFn, vFn, List.map_map]; rfl
  | .guard g w o, s, h, k, F, M => guard_ok cl (vo_ok cl o s h k F M)
  | .app P t u x y N, s, h, k, F, M => by
    simp only [VO.ok, Bool.and_eq_true] at h
    exact gen_m (w := false) rfl (by simp only [evm, opv_ok h.1.1 h.1.2, opv_ok h.1.1 h.2])
  | .copy P t u x y N, s, h, k, F, M => by
    simp only [VO.ok, Bool.and_eq_true] at h
    exact gen_m (w := true) rfl (by simp only [evm, opv_ok h.1.1 h.1.2, opv_ok h.1.1 h.2])
  | .slice P t x lo hi mx N, s, h, k, F, M => by
    simp only [VO.ok, Bool.and_eq_true] at h
    exact gen_p (w := false) (by simp only [evp, opv_ok h.1.1.1.1 h.1.1.1.2, optv_ok h.1.1.1.1 h.1.1.2, optv_ok h.1.1.1.1 h.1.2, optv_ok h.1.1.1.1 h.2]; rfl) rfl
  | .binG P op t q x y N, s, h, k, F, M => by
    simp only [VO.ok, Bool.and_eq_true] at h
    exact gen_p (w := false) (by simp only [evp, opv_ok h.1.1 h.1.2, opv_ok h.1.1 h.2]) rfl
  | .cap P t x N, s, h, k, F, M => by
    simp only [VO.ok, Bool.and_eq_true] at h
    exact gen_p (w := false) (by simp only [evp, opv_ok h.1 h.2]) rfl
  | .mm P true x y ts N, s, h, k, F, M => by
    simp only [VO.ok, Bool.and_eq_true] at h
    exact gen_p (w := false) (by simp only [evp, opv_ok h.1.1 h.1.2, opv_ok h.1.1 h.2]) rfl
  | .mm P false x y ts N, s, h, k, F, M => by
    simp only [VO.ok, Bool.and_eq_true] at h
    exact gen_p (w := false) (by simp only [evp, opv_ok h.1.1 h.1.2, opv_ok h.1.1 h.2]) rfl
  | .make P t x y N, s, h, k, F, M => by
    simp only [VO.ok, Bool.and_eq_true] at h
    exact gen_m (w := false) rfl (by simp only [evm, opv_ok h.1.1 h.1.2, opv_ok h.1.1 h.2]; rfl)
  | .slit P t len ps N, s, h, k, F, M => by
    simp only [VO.ok, Bool.and_eq_true] at h
    exact gen_m (w := false) rfl (by simp only [evm, partsV, mapO_nB h.1 h.2]; rfl)
  | .indexA P t x i N, s, h, k, F, M => by
    simp only [VO.ok, Bool.and_eq_true] at h
    exact gen_p (w := false) (by simp only [evp, opv_ok h.1.1 h.1.2, opv_ok h.1.1 h.2]; rfl) rfl
theorem ops_sem (cl : Cl) (n : Nat) {kn : F8 → Mm → CX} {ke : Nat → F8 → Mm → CX} {kr : F8 → Mm → CX} : ∀ (l : List (VO × S)), (l.all fun o => o.1.ok) = true → ∀ (F : F8) (M : Mm), bd (cOps (l.map fun o => o.1.den o.2) cl n F M) kn ke kr = opsK cl l kn F M
  | [], _, F, M => rfl
  | o :: l, h, F, M => by
    simp only [List.all_cons, Bool.and_eq_true] at h
    have e : cOps ((o :: l).map fun o => o.1.den o.2) cl n F M = o.1.den o.2 cl (cOps (l.map fun o => o.1.den o.2) cl n) F M := rfl
    rw [e, vo_ok cl o.1 o.2 h.1]
    simp only [opsK]
    congr 1
    funext y M'
    exact ops_sem cl n l h.2 _ _
theorem bd_seq (cl : Cl) (n : Nat) {kn : F8 → Mm → CX} {ke : Nat → F8 → Mm → CX} {kr : F8 → Mm → CX} (a b : CF) (F : F8) (M : Mm) : bd (cSeq a b cl n F M) kn ke kr = bd (a cl n F M) (fun F M => bd (b cl n F M) kn ke kr) ke kr := by
  rw [cSeq_eq]
  cases a cl n F M <;> rfl
noncomputable def resD (P : Program) (H : Hp) : List (ResultVar × X) → Option (List V)
  | [] => some []
  | (.tmp _, x) :: l => (resD P H l).map fun vs => x.toV :: vs
  | (.cell _ t, x) :: l => match x.toV with
    | .ptr id off => (Vx.lookC H id).bind fun b => (partV P t b.cells off).bind fun v => (resD P H l).map fun vs => v :: vs
    | _ => none
noncomputable def outD (P : Program) (rs : List (ResultVar × X)) (nx0 : Nat) (M : Mm) : CX := match resD P M.H rs with
  | some vs => .val (V.toX (packV vs)) ⟨dropX (V.plainL vs) nx0 M.lw M.H, M.nx, M.lw⟩
  | none => .no
noncomputable def finD (P : Program) (t : TT) (m : Nat) (ih : Cl) (nx0 : Nat) (z : X) (rs : List (ResultVar × X)) (M : Mm) : CX := match z with
  | .v (.tup []) => outD P rs nx0 M
  | .v (.agg (.fn (.func f) a b :: l)) => CX.rec (motive := fun _ => CX) (fun _ M' => outD P rs nx0 ⟨M'.H, M'.nx, minN M'.lw M.lw⟩) .no (bodyX t m ih f (a.map V.toX ++ (l.map V.toX ++ b.map V.toX)) M (finN P))
  | _ => .no
def slotR : ResultVar → Nat
  | .tmp t => t
  | .cell a _ => a
noncomputable def rsX (rs : List ResultVar) (F : F8) : List (ResultVar × X) := rs.map fun r => (r, gT (slotR r) F)
theorem resD_eq (P : Program) (F : F8) (H : Hp) : ∀ rs, resX P F H rs = resD P H (rsX rs F)
  | [] => rfl
  | .tmp t :: l => by simp only [resX, rsX, List.map_cons, resD, slotR]; rw [resD_eq P F H l]; rfl
  | .cell a t :: l => by simp only [resX, rsX, List.map_cons, resD, slotR]; rw [resD_eq P F H l]; rfl
theorem outD_eq (P : Program) (rs : List ResultVar) (nx0 : Nat) (F : F8) (M : Mm) : outX P rs nx0 F M = outD P (rsX rs F) nx0 M := by
  simp only [outX, outD, resD_eq]
  cases resD P M.H (rsX rs F) <;> rfl
theorem finD_eq (P : Program) (t : TT) (m : Nat) (ih : Cl) (rs : List ResultVar) (nx0 : Nat) : finX P t m ih rs nx0 = fun F M => finD P t m ih nx0 (gT 511 F) (rsX rs F) M := by
  funext F M
  simp only [finX, finD, outD_eq]
  rfl
end Go.Proofs.Ytehbfajmileefaa.Px
