import Derived.Test.YtehbfajmileefaaZb
namespace Go.Proofs.Ytehbfajmileefaa.Px
open Go.RowKit Go.Proofs.Ytehbfajmileefaa.Vx Go.Proofs.Ytehbfajmileefaa.Fx
set_option linter.unusedVariables false
set_option linter.unusedSimpArgs false
set_option maxRecDepth 10000
section
variable {cl : Cl} {s : S} {k : K} {F : F8} {M : Mm} {kn : F8 → Mm → CX} {ke : Nat → F8 → Mm → CX} {kr : F8 → Mm → CX}
theorem bd_no : bd .no kn ke kr = .no := rfl
theorem bd_caseI (x : X) (f : IntKind → Int → RX) : bd (caseI x f) kn ke kr = match x with | .i kd n => bd (f kd n) kn ke kr | _ => .no := by cases x <;> rfl
theorem bd_caseB (x : X) (f : Bool → RX) : bd (caseB x f) kn ke kr = match x with | .b t => bd (f t) kn ke kr | _ => .no := by cases x <;> rfl
theorem bd_caseV (x : X) (f : V → RX) : bd (caseV x f) kn ke kr = match x with | .v v => bd (f v) kn ke kr | _ => .no := by cases x <;> rfl
theorem bd_ifB (b : Bool) (x y : RX) : bd (ifB b x y) kn ke kr = if b = true then bd x kn ke kr else bd y kn ke kr := by cases b <;> rfl
theorem bd_optR {α : Type} (o : Option α) (f : α → RX) : bd (optR o f) kn ke kr = oC o fun a => bd (f a) kn ke kr := by cases o <;> rfl
theorem bd_ptrR (v : V) (f : Nat → Nat → RX) : bd (ptrR v f) kn ke kr = match v with | .ptr i o => bd (f i o) kn ke kr | _ => .no := by cases v <;> rfl
theorem bd_aggR (v : V) (f : List V → RX) : bd (aggR v f) kn ke kr = match v with | .agg l => bd (f l) kn ke kr | _ => .no := by cases v <;> rfl
theorem bd_tupR (v : V) (f : List V → RX) : bd (tupR v f) kn ke kr = match v with | .tup l => bd (f l) kn ke kr | _ => .no := by cases v <;> rfl
theorem bd_strR (v : V) (f : T → RX) : bd (strR v f) kn ke kr = match v with | .str t => bd (f t) kn ke kr | _ => .no := by cases v <;> rfl
theorem bd_slR (v : V) (z : RX) (f : Nat → Nat → Nat → RX) : bd (slR v z f) kn ke kr = match v with | .nils => bd z kn ke kr | .sl i o n _ => bd (f i o n) kn ke kr | _ => .no := by cases v <;> rfl
theorem bd_slE (v : V) (z : RX) (f : Nat → Nat → Nat → RX) : bd (slE v z f) kn ke kr = match v with | .nils => bd z kn ke kr | .sl i o n _ => bd (f i o n) kn ke kr | .val i => (bif Nat.beq (i % 2) 1 then bd z kn ke kr else .no) | _ => .no := by
  cases v with
  | val i =>
    show bd (Bool.rec (motive := fun _ => RX) .no z (Nat.beq (i % 2) 1)) kn ke kr = _
    cases h : Nat.beq (i % 2) 1 <;> simp only [h, cond_true, cond_false] <;> rfl
  | _ => rfl
theorem lookC_eq (H : Hp) (i : Nat) : lookC H i = match Vx.look H i with | some b => (match b.mp with | true => none | false => some b) | none => none := rfl
theorem bd_blk (H : Hp) (i : Nat) (f : List V → Bool → RX) : (oC (lookF H i) fun b => bd (blkR b f) kn ke kr) = oC (lookC H i) fun b => bd (f b.cells b.ro) kn ke kr := by
  rw [lookF_eq, lookC_eq]
  cases Vx.look H i with
  | none => rfl
  | some b =>
    obtain ⟨ty, sz, cells, sp, ro⟩ := b
    cases sz <;> cases sp <;> rfl
theorem strT_eq (t : T) (f : ByteArray → RX) : bd (optR (T.str? t) f) kn ke kr = match t with | .str b => bd (f b) kn ke kr | _ => .no := by cases t <;> rfl
theorem bd_binI (op : BinOp) (kd : IntKind) (m n : Int) (f : X → RX) : bd (binI op kd m n f) kn ke kr = oC (binB op kd m n) fun x => bd (f x) kn ke kr := by
  cases op <;> simp only [binI, binB, fI_eq, fB_eq, wrapF_eq, oC, bd_no] <;> first
    | rfl
    | simp only [eqI_eq, ltI_eq, leI_eq, ltB, leB, eqB, notB_eq]
theorem bd_orR (o : Option OR) (w : Bool) (lw : Nat) : bd (optR o fun r => orR r fun x H nx => k (s x F) ⟨H, nx, Bool.rec (motive := fun _ => Nat) lw 0 w⟩) kn ke kr = match o with
    | some ⟨v, H, nx, []⟩ => bd (k (s (V.toX v) F) ⟨H, nx, if w = true then 0 else lw⟩) kn ke kr
    | _ => .no := by
  cases o with
  | none => rfl
  | some r =>
    obtain ⟨v, H, nx, vc⟩ := r
    cases vc with
    | nil => simp only [optR, orR, fX_eq]; cases w <;> rfl
    | cons a l => rfl
theorem bd_gen (P : Program) (op : Op) (N : Nat) (w : Bool) : bd (oGen P op N w s cl k F M) kn ke kr = match evo P [] (toFr F N) M.H M.nx op with
    | some ⟨v, H, nx, []⟩ => bd (k (s (V.toX v) F) ⟨H, nx, if w = true then 0 else M.lw⟩) kn ke kr
    | _ => .no := by
  simp only [oGen, mmR_eq]
  exact bd_orR _ _ _
theorem opv_ok {N : Nat} (hN : Nat.ble N 511 = true) {x : Operand} (h : okO N x = true) : opv (toFr F N) x = nB (gX x F) := by
  have hN := Nat.le_of_ble_eq_true hN
  cases x with
  | tmp t =>
    simp only [okO, Nat.blt_eq] at h
    simp only [opv, toFr_get h hN, nB, gX]
    show (match some (gT t F).toV with | some .bad => none | r => r) = _
    cases (gT t F).toV <;> rfl
  | const v =>
    simp only [okO, Option.isSome_iff_exists] at h
    obtain ⟨u, hu⟩ := h
    simp only [opv, hu, gX, kX, Option.getD_some, nB, toX_toV]
    cases u with
    | bad =>
      have := ofValue_den (σ := ⟨fun _ => 0, fun _ => false, fun _ => ByteArray.empty, fun _ => .bool false, fun _ _ => 0, fun _ _ => false, fun _ _ => false⟩) (ρ := fun _ => none) hu
      simp [den] at this
    | _ => rfl
  | global g => simp [okO] at h
  | func f => rfl
theorem gen_p {P : Program} {op : Op} {N : Nat} {w : Bool} {o : Option (V × List T)} (h : evp P [] (toFr F N) M.H op = o) (hm : evm P (toFr F N) M.H M.nx op = none) :
    bd (oGen P op N w s cl k F M) kn ke kr = oR o M w fun y M => bd (k (s y F) M) kn ke kr := by
  rw [bd_gen, evo_eq, h]
  cases o with
  | none => rw [hm]; rfl
  | some r =>
    obtain ⟨v, vc⟩ := r
    cases vc <;> rfl
theorem gen_m {P : Program} {op : Op} {N : Nat} {w : Bool} {o : Option MR} (h : evp P [] (toFr F N) M.H op = none) (hm : evm P (toFr F N) M.H M.nx op = o) :
    bd (oGen P op N w s cl k F M) kn ke kr = oM o M w fun y M => bd (k (s y F) M) kn ke kr := by
  rw [bd_gen, evo_eq, h]
  cases o with
  | none => rw [hm]; rfl
  | some r =>
    obtain ⟨v, H, nx⟩ := r
    simp only [hm]; rfl
theorem optv_ok {N : Nat} (hN : Nat.ble N 511 = true) {x : Option Operand} (h : okOp? N x = true) : optV (toFr F N) x = nBo (x.map fun y => gX y F) := by
  cases x with
  | none => rfl
  | some x => simp only [optV, nBo, Option.map_some, opv_ok hN (show okO N x = true from h)]
theorem mapO_nB {N : Nat} (hN : Nat.ble N 511 = true) : ∀ {ps : List (Nat × Operand)}, (ps.all fun q => okO N q.2) = true → mapO (fun (q : Nat × Operand) => (opv (toFr F N) q.2).map fun v => (q.1, v)) ps = vParts (ps.map fun q => (q.1, gX q.2 F))
  | [], _ => rfl
  | q :: ps, h => by
    simp only [List.all_cons, Bool.and_eq_true] at h
    simp only [mapO, List.map_cons, vParts, opv_ok hN h.1, mapO_nB hN h.2]
    cases nB (gX q.2 F) <;> rfl
theorem setL_none {l : List V} {i : Nat} {vs : List V} : setL l i vs = setL l i vs := rfl
theorem fill_eq : ∀ (ps : List (Nat × Nat × G)) (c : List V), fillP F ps c = vFill (ps.map fun q => (q.1, q.2.1, q.2.2 F)) c
  | [], c => rfl
  | (off, z, g) :: ps, c => by
    have e : fillP F ((off, z, g) :: ps) c = Bool.rec (motive := fun _ => Option (List V)) none (Option.rec (motive := fun _ => Option (List V)) none (fun c => fillP F ps c) (setL c off (g F).cells)) (lenB (g F).cells z) := rfl
    rw [e, lenB_eq]
    simp only [List.map_cons, vFill]
    by_cases h : (g F).cells.length = z
    · rw [if_pos h, decide_eq_true h]
      show (Option.rec (motive := fun _ => Option (List V)) none (fun c => fillP F ps c) (setL c off (g F).cells) : Option (List V)) = _
      cases setL c off (g F).cells with
      | none => rfl
      | some c' => exact fill_eq ps c'
    · rw [if_neg h, decide_eq_false h]
theorem lwX_eq (u : X) (id lw : Nat) (f : Nat → RX) : lwX u id lw f = f (lwN u id lw) := by
  cases u with
  | v v =>
    simp only [lwX, lwN]
    cases V.plain v <;> rfl
  | _ => rfl
theorem ltN_int (n : Int) (m : Nat) (f : Nat → CX) : (Int.rec (motive := fun _ => CX) (fun n => if Nat.blt n m = true then f n else .no) (fun _ => .no) n : CX) = if 0 ≤ n ∧ n < m then f n.toNat else .no := by
  cases n with
  | ofNat n =>
    simp only [Nat.blt_eq]
    by_cases h : n < m
    · rw [if_pos h, if_pos ⟨Int.natCast_nonneg n, by exact Int.ofNat_lt.2 h⟩]; rfl
    · rw [if_neg h, if_neg (fun q => h (Int.ofNat_lt.1 q.2))]
  | negSucc n =>
    rw [if_neg (fun q => absurd q.1 (by omega))]
theorem bd_int (n : Int) (f : Nat → RX) : bd (Int.rec (motive := fun _ => RX) f (fun _ => .no) n) kn ke kr = Int.rec (motive := fun _ => CX) (fun n => bd (f n) kn ke kr) (fun _ => .no) n := by cases n <;> rfl
end
end Go.Proofs.Ytehbfajmileefaa.Px
