import Derived.Test.YtehbfajmileefaaZg
namespace Go.Proofs.Ytehbfajmileefaa.Px
open Go.RowKit Go.Proofs.Ytehbfajmileefaa.Vx Go.Proofs.Ytehbfajmileefaa.Fx
set_option linter.unusedVariables false
set_option linter.unusedSimpArgs false
set_option maxRecDepth 10000
noncomputable def idX (x : X) : Option Nat := idV x.toV
def Old (n0 : Nat) (x : X) : Prop := ∀ id, idX x = some id → id < n0
def KeepX (dz : Option Nat) (M M1 : Mm) : Prop := (∀ j, j < M.nx → some j ≠ dz → Vx.look M1.H j = Vx.look M.H j) ∧ (∀ id b, Vx.look M1.H id = some b → b.ro = true → Vx.look M.H id = some b)
def Pst (nb mc : Bool) (y : X) (M M1 : Mm) (ck : Option (Option X × List X)) : Prop :=
  (nb = true → y.toV ≠ .bad) ∧ (mc = true → M.nx ≤ M1.nx) ∧ match ck with
    | none => True
    | some (row, ads) => KeepX (row.bind idX) M M1 ∧ ∀ a ∈ ads, idX a = none ∨ idX a ≠ row.bind idX
structure DOp where
  f : OF
  k : Nat
  d : Option Tmp
  ad : Option G
  mc : Bool
  ck : Option (Option G × List Nat)
def adsOf (rd : List (Nat × X)) (un : List Nat) : List X := (rd.filter fun e => un.contains e.1).map (·.2)
def ckX (rd : List (Nat × X)) (F : F8) : Option (Option G × List Nat) → Option (Option X × List X)
  | none => none
  | some (row, un) => some (row.map fun g => g F, adsOf rd un)
def rdX (rd : List (Nat × X)) (k : Nat) (F : F8) : Option G → List (Nat × X)
  | none => rd
  | some g => (k, g F) :: rd
def oldX (n0 : Nat) (F : F8) : Option G → Prop
  | none => True
  | some g => Old n0 (g F)
def valX (d : Option Tmp) (F : F8) : X := match d with | some t => gT t F | none => .v .undef
open Classical in
noncomputable def seqD (cl : Cl) (n0 : Nat) : List DOp → List (Nat × X) → F8 → Mm → RX
  | [], _, F, M => .nrm F M
  | o :: l, rd, F, M => if oldX n0 F o.ad then (match o.f cl .nrm F M with
      | .nrm F1 M1 => if Pst o.d.isSome o.mc (valX o.d F1) M M1 (ckX rd F o.ck) then seqD cl n0 l (rdX rd o.k F o.ad) F1 M1 else .no
      | _ => .no) else .no
def rpAt (L : List Oper) (j : Nat) : Bool := match L[j]? with | some o => rpOp o.op | none => true
def alAt (L : List Oper) (j : Nat) : Bool := match L[j]? with | some o => alOp o.op | none => false
def appOp : Op → Option Operand
  | .call { callee := .builtin .append, args, .. } => args.toList.head?
  | .store _ a _ => some a
  | _ => none
def noDefer : Op → Bool
  | .defer _ => false
  | _ => true
def tmpsOf (op : Op) : List Nat := op.operands.toList.filterMap fun x => match x with | .tmp t => some t | _ => none
def statAt (L : List Oper) (pre : List Nat) (n N i : Nat) (o : Oper) : Bool :=
  let un := unord pre n i
  okD N o.dst && noDefer o.op && un.all (fun j => match (L[j]?).bind (·.dst) with | some t => !((tmpsOf o.op).contains t) | none => true) &&
  (match o.guard with | some (j, _) => Nat.blt j n && bitB pre i j | none => true) &&
  (rpOp o.op || alOp o.op || (List.range i).all fun j => rpAt L j || bitB pre i j) &&
  (match appOp o.op with | some _ => un.all fun j => !(rpAt L j) || Nat.blt j i || (match (L[j]?).bind (fun o => adOf o.op) with | none => true | some _ => false) | none => true)
def statD (N : Nat) (ops : Array Oper) (pre : List Nat) : Bool :=
  closedB ops.toList pre && nodupB (ops.toList.map (·.dst)) && ops.toList.zipIdx.all fun q => statAt ops.toList pre ops.size N q.2 q.1
noncomputable def dOp (P : Program) (funs : List (FuncId × Func)) (N : Nat) (L : List Oper) (pre : List Nat) (n : Nat) (o : Oper) (i : Nat) : DOp :=
  let un := unord pre n i
  let unM := un.any fun j => !(rpAt L j)
  let unR := un.any fun j => rpAt L j || alAt L j
  { f := compG P funs N L o, k := i, d := o.dst,
    ad := if rpOp o.op && unM then (adOf o.op).map gX else none,
    mc := !(rpOp o.op),
    ck := if !(rpOp o.op) && !(alOp o.op) && unR then some ((appOp o.op).map gX, un) else none }
noncomputable def dOps (P : Program) (funs : List (FuncId × Func)) (N : Nat) (ops : Array Oper) (pre : List Nat) : List DOp := ops.toList.zipIdx.map fun q => dOp P funs N ops.toList pre ops.size q.1 q.2
noncomputable def cSeqD (l : List DOp) : CF := fun cl _ F M => seqD cl M.nx l [] F M
theorem seqD_run (cl : Cl) (n0 : Nat) : ∀ (l : List DOp) (rd : List (Nat × X)) (F : F8) (M : Mm) (r : RX), seqD cl n0 l rd F M = r → r ≠ .no → ∃ (fF : Nat → F8) (fM : Nat → Mm) (fr : Nat → List (Nat × X)), fF 0 = F ∧ fM 0 = M ∧ fr 0 = rd ∧ r = .nrm (fF l.length) (fM l.length) ∧
    ∀ k o, l[k]? = some o → oldX n0 (fF k) o.ad ∧ o.f cl .nrm (fF k) (fM k) = .nrm (fF (k + 1)) (fM (k + 1)) ∧ Pst o.d.isSome o.mc (valX o.d (fF (k + 1))) (fM k) (fM (k + 1)) (ckX (fr k) (fF k) o.ck) ∧ fr (k + 1) = rdX (fr k) o.k (fF k) o.ad
  | [], rd, F, M, r, h, _ => ⟨fun _ => F, fun _ => M, fun _ => rd, rfl, rfl, rfl, h.symm, fun k o ho => by simp at ho⟩
  | o :: l, rd, F, M, r, h, hr => by
    unfold seqD at h
    split at h
    rotate_left
    · exact absurd h.symm hr
    rename_i h1
    split at h
    rotate_left
    · exact absurd h.symm hr
    rename_i F1 M1 h2
    split at h
    rotate_left
    · exact absurd h.symm hr
    rename_i h3
    obtain ⟨fF, fM, fr, e1, e2, e3, e4, e5⟩ := seqD_run cl n0 l _ F1 M1 r h hr
    refine ⟨fun k => match k with | 0 => F | k + 1 => fF k, fun k => match k with | 0 => M | k + 1 => fM k, fun k => match k with | 0 => rd | k + 1 => fr k, rfl, rfl, rfl, e4, fun k o' ho => ?_⟩
    cases k with
    | zero =>
      simp at ho
      subst ho
      refine ⟨h1, ?_, ?_, e3⟩
      · show o.f cl .nrm F M = .nrm (fF 0) (fM 0)
        rw [e1, e2]; exact h2
      · show Pst o.d.isSome o.mc (valX o.d (fF 0)) M (fM 0) (ckX rd F o.ck)
        rw [e1, e2]; exact h3
    | succ k => exact e5 k o' (by simpa using ho)
theorem compG_inv {P : Program} {funs : List (FuncId × Func)} {N : Nat} {ops : Array Oper} {o : Oper} {cl : Cl} {F F1 : F8} {M M1 : Mm} (hN : N ≤ 511) (hb : Nb F N) (hd : noDefer o.op = true) (h : compG P funs N ops.toList o cl .nrm F M = .nrm F1 M1) :
    ∃ x, F1 = dS o.dst x F ∧ ((Wants N ops o F ∧ Does P N cl o.op F M x M1) ∨ (Skips N ops o F ∧ x = .v .undef ∧ M1.H = M.H ∧ M1.nx = M.nx)) := by
  have hcall : ∀ {f : Operand} {args : Array Operand} {ts : Array TypeId} {g : Nat} {first cap : List V} {ax : List X} {k : K}, o.op = .call { callee := .value f, args := args, argTypes := ts } → (∀ x ∈ args.toList, okO N x = true) → opv (toFr F N) f = some (.fn (.func g) first cap) →
      ax.map X.toV = first ++ (args.toList.map fun x => (gX x F).toV) ++ cap → cxR (cl g ax M) M.lw (fun x M => .nrm (dS o.dst x F) M) = .nrm F1 M1 → ∃ x, F1 = dS o.dst x F ∧ Does P N cl o.op F M x M1 := by
    intro f args ts g first cap ax k ho hok hv hax hf
    obtain ⟨x, M', lw', hc, hf⟩ := cxR_some hf (by simp)
    simp at hf
    obtain ⟨rfl, rfl⟩ := hf
    exact ⟨x, rfl, .inr ⟨f, args, ts, g, first, cap, _, ax, M', ho, hv, hops hN hb hok, hax, hc, rfl, rfl⟩⟩
  have hevo : ∀ {f : OF}, Stp P N o.op (dS o.dst) f → f cl .nrm F M = .nrm F1 M1 → ∃ x, F1 = dS o.dst x F ∧ Does P N cl o.op F M x M1 := by
    intro f hs hf
    obtain ⟨x, H', nx', lw', h1, h2⟩ := hs cl .nrm F M _ hb hf (by simp)
    simp at h2
    obtain ⟨rfl, rfl⟩ := h2
    exact ⟨x, rfl, .inl h1⟩
  have base : compOp P funs N o cl .nrm F M = .nrm F1 M1 → ∃ x, F1 = dS o.dst x F ∧ Does P N cl o.op F M x M1 := by
    intro h
    by_cases hok : okOp N o = true
    rotate_left
    · rw [show compOp P funs N o = oNo from by unfold compOp; rw [Bool.eq_false_iff.2 hok]] at h
      simp [oNo] at h
    rw [show compOp P funs N o = compOp' P funs N (dS o.dst) o.op from by unfold compOp; rw [hok]] at h
    simp only [okOp, Bool.and_eq_true, List.all_eq_true] at hok
    obtain ⟨hdd, hopr⟩ := hok
    by_cases hk : Fx.kindOk o.op = true
    · exact hevo (compStp hN o.op hopr hk) h
    · generalize ho : o.op = op at h hopr hk hd
      cases op <;> (try (exact absurd rfl hk))
      case call c =>
        obtain ⟨callee, args, ts⟩ := c
        cases callee with
        | builtin b => exact absurd rfl hk
        | invoke r m => simp [compOp', oNo] at h
        | value f =>
          have hargs : ∀ x ∈ args.toList, okO N x = true := fun x hx => hopr x (by simp [Op.operands, Call.operands] at hx ⊢; exact .inr hx)
          have hf := hopr f (by simp [Op.operands, Call.operands])
          have h : compCall funs (oGen P (.call ⟨.value f, args, ts⟩) N false (dS o.dst)) (dS o.dst) f args.toList cl .nrm F M = .nrm F1 M1 := h
          have hv' : ∀ {f'}, compCall funs (oGen P (.call ⟨.value f, args, ts⟩) N false (dS o.dst)) (dS o.dst) f args.toList = oCallV (gX f) (args.toList.map gX) (dS o.dst) → f' = f → ∃ x, F1 = dS o.dst x F ∧ Does P N cl o.op F M x M1 := by
            intro f' he _
            rw [he] at h
            simp only [oCallV] at h
            obtain ⟨v, hv, hf1⟩ := caseV_some h (by simp)
            obtain ⟨g, p, q, hg, hf2⟩ := fnR_some hf1 (by simp)
            have h1 := hop hN hb hf
            rw [hv, hg] at h1
            refine hcall (k := .nrm) ho hargs h1 ?_ hf2
            rw [List.map_append, List.map_append, map_toX, map_toX, List.map_map, List.map_map, List.append_assoc]
            rfl
          rw [← ho]
          cases f with
          | func g =>
            simp only [compCall] at h
            cases hff : findF funs g with
            | some q =>
              simp only [hff] at h
              exact hcall (k := .nrm) (first := []) (cap := []) (ax := (args.toList.map gX).map fun q => q F) ho hargs rfl (by simp) (show cxR (cl g ((args.toList.map gX).map fun q => q F) M) M.lw (fun x M => .nrm (dS o.dst x F) M) = _ from h)
            | none =>
              simp only [hff] at h
              exact hevo (ho ▸ stp_gen) h
          | tmp t => exact hv' rfl rfl
          | const v => exact hv' rfl rfl
          | global g => exact hv' rfl rfl
      case «defer» c => simp [noDefer] at hd
  cases hg : o.guard with
  | none =>
    rw [show compG P funs N ops.toList o = compOp P funs N o from by unfold compG; rw [hg]] at h
    obtain ⟨x, h1, h2⟩ := base h
    exact ⟨x, h1, .inl ⟨.inl hg, h2⟩⟩
  | some q =>
    obtain ⟨j, want⟩ := q
    cases ht : (ops.toList[j]?).bind (·.dst) with
    | none =>
      rw [show compG P funs N ops.toList o = oNo from by unfold compG; rw [hg]; simp only [ht]] at h
      simp [oNo] at h
    | some t =>
    by_cases hbl : Nat.blt t N = true
    rotate_left
    · rw [show compG P funs N ops.toList o = oNo from by unfold compG; rw [hg]; simp only [ht, Bool.eq_false_iff.2 hbl]] at h
      simp [oNo] at h
    rw [show compG P funs N ops.toList o = oIf (gT t) want (dS o.dst) (compOp P funs N o) from by unfold compG; rw [hg]; simp only [ht, hbl]] at h
    have ht' : (ops[j]?).bind (·.dst) = some t := by simpa using ht
    have h1 := hop hN hb (x := .tmp t) (by simpa [okO] using hbl)
    simp only [oIf] at h
    cases hx : gT t F with
    | i kd n => rw [hx] at h; simp at h
    | b b =>
      rw [hx] at h
      have h2 : opv (toFr F N) (.tmp t) = some (.bool (.bool b)) := by rw [h1]; show some (gT t F).toV = _; rw [hx]; rfl
      by_cases hbw : b = want
      · subst hbw
        have h' : compOp P funs N o cl .nrm F M = .nrm F1 M1 := by
          cases b <;> simpa [ifB_eq] using h
        obtain ⟨x, h3, h4⟩ := base h'
        exact ⟨x, h3, .inl ⟨.inr ⟨j, b, t, hg, ht', h2⟩, h4⟩⟩
      · have h' : RX.nrm (dS o.dst (.v .undef) F) M = .nrm F1 M1 := by
          cases b <;> cases want <;> first | exact absurd rfl hbw | simpa [ifB_eq] using h
        simp at h'
        obtain ⟨rfl, rfl⟩ := h'
        exact ⟨_, rfl, .inr ⟨⟨j, want, t, hg, ht', .inl (by rw [h2]; cases b <;> cases want <;> first | exact absurd rfl hbw | rfl)⟩, rfl, rfl, rfl⟩⟩
    | v v =>
      rw [hx] at h
      simp only at h
      obtain ⟨hu, hf2⟩ := ifB_some h (by simp)
      have hv := isU_some hu
      have h2 : opv (toFr F N) (.tmp t) = some (.tup []) := by
        rw [h1]
        show some (gT t F).toV = _
        rw [hx, hv]
        rfl
      simp at hf2
      obtain ⟨rfl, rfl⟩ := hf2
      exact ⟨_, rfl, .inr ⟨⟨j, want, t, hg, ht', .inr h2⟩, rfl, rfl, rfl⟩⟩
section
variable {P : Program} {σ : Env} {base : Nat → Prop} {N : Nat} {funs : List (FuncId × Func)}
theorem unord_sym {pre : List Nat} {n i j : Nat} (h : j ∈ unord pre n i) (hi : i < n) : i ∈ unord pre n j := by
  unfold unord at h ⊢
  simp only [List.mem_filter, List.mem_range] at h ⊢
  refine ⟨hi, ?_⟩
  obtain ⟨-, h2⟩ := h
  rcases Nat.lt_trichotomy i j with hlt | e | hgt
  · rw [if_neg (by simp; omega)] at h2
    rw [if_pos (by simpa using hlt)]
    simp at h2 ⊢
    exact h2.2
  · subst e; simp at h2
  · rw [if_pos (by simpa using hgt)] at h2
    rw [if_neg (by simp; omega)]
    simp at h2 ⊢
    exact ⟨hgt, h2⟩
theorem unord_ne {pre : List Nat} {n i j : Nat} (h : j ∈ unord pre n i) : j ≠ i := by
  intro e
  subst e
  unfold unord at h
  simp [List.mem_filter] at h
theorem seqD_ok (hm : P.follows .mixedOrders = true) (hN : N ≤ 511) {id : Nat} {ops : Array Oper} {pre : List Nat} (hst : statD N ops pre = true) : COk P N (.region id ops true) (cSeqD (dOps P funs N ops pre)) := by
  intro σ cl hcl n base ρ F M a w Q r hh hf hr hL
  simp only [statD, Bool.and_eq_true] at hst
  obtain ⟨⟨hcl', hnd⟩, hall⟩ := hst
  have hb : Kp base w w.drew := Kp.drew (Kp.refl _ _)
  obtain ⟨fF, fM, fr, e1, e2, e3, rfl, hrun⟩ := seqD_run cl M.nx _ [] F M r hf hr
  subst e1
  subst e2
  have hlen : (dOps P funs N ops pre).length = ops.size := by simp [dOps]
  have ilt : ∀ {i : Nat} {o : Oper}, ops.toList[i]? = some o → i < ops.size := fun ho => by have := (List.getElem?_eq_some_iff.1 ho).1; simpa using this
  have st : ∀ {i : Nat} {o : Oper}, ops.toList[i]? = some o → statAt ops.toList pre ops.size N i o = true := fun {i o} ho => List.all_eq_true.1 hall (o, i) (List.mem_zipIdx_iff_getElem?.2 ho)
  have dd : ∀ {i : Nat} {o : Oper}, ops.toList[i]? = some o → (dOps P funs N ops pre)[i]? = some (dOp P funs N ops.toList pre ops.size o i) := fun {i o} ho => by
    simp [dOps, List.getElem?_zipIdx, ho]
  have un_lt : ∀ {i j : Nat}, j ∈ unord pre ops.size i → j < ops.size := fun h => by unfold unord at h; simpa using (List.mem_filter.1 h).1
  have nbs : ∀ i, i ≤ ops.size → Nb (fF i) N := by
    intro i
    induction i with
    | zero => intro _; exact hh.nb
    | succ i ih =>
      intro hi t ht
      have ho : ops.toList[i]? = some ops[i] := by simp [show i < ops.size by omega]
      obtain ⟨h1, h2, h3, h4⟩ := hrun i _ (dd ho)
      have hs := st ho
      simp only [statAt, Bool.and_eq_true] at hs
      obtain ⟨x, hx, -⟩ := compG_inv hN (ih (by omega)) hs.1.1.1.1.2 h2
      have hdn := hs.1.1.1.1.1
      cases hd : ops[i].dst with
      | none =>
        rw [hx, hd]
        exact ih (by omega) t ht
      | some d =>
        rw [hd] at hdn
        simp only [okD, Nat.blt_eq] at hdn
        by_cases e : d = t
        · subst e
          have := h3.1 (by show (ops[i].dst).isSome = true; rw [hd]; rfl)
          rw [show valX (dOp P funs N ops.toList pre ops.size ops[i] i).d (fF (i + 1)) = gT d (fF (i + 1)) from by show valX ops[i].dst _ = _; rw [hd]; rfl] at this
          exact this
        · rw [hx, hd]
          show (gT t (sT d x (fF i))).toV ≠ _
          rw [gT_sT (by omega) (Nat.lt_of_lt_of_le ht (by omega)), if_neg e]
          exact ih (by omega) t ht
  have inv : ∀ i, ∃ x, ∀ o, ops.toList[i]? = some o → fF (i + 1) = dS o.dst x (fF i) ∧ ((Wants N ops o (fF i) ∧ Does P N cl o.op (fF i) (fM i) x (fM (i + 1))) ∨ (Skips N ops o (fF i) ∧ x = .v .undef ∧ (fM (i + 1)).H = (fM i).H ∧ (fM (i + 1)).nx = (fM i).nx)) := by
    intro i
    by_cases hi : i < ops.size
    · have ho : ops.toList[i]? = some ops[i] := by simp [hi]
      have hs := st ho
      simp only [statAt, Bool.and_eq_true] at hs
      obtain ⟨h1, h2, h3, h4⟩ := hrun i _ (dd ho)
      obtain ⟨x, hx⟩ := compG_inv hN (nbs i (by omega)) hs.1.1.1.1.2 h2
      refine ⟨x, fun o ho' => ?_⟩
      rw [ho] at ho'
      simp at ho'
      subst ho'
      exact hx
    · exact ⟨.v .undef, fun o ho => absurd (ilt ho) hi⟩
  obtain ⟨x, hx⟩ := Classical.axiomOfChoice inv
  have mono : ∀ (i : Nat) (o : Oper), ops.toList[i]? = some o → (fM i).nx ≤ (fM (i + 1)).nx := by
    intro i o ho
    obtain ⟨h1, h2, h3, h4⟩ := hrun i _ (dd ho)
    cases hrp : rpOp o.op with
    | false => exact h3.2.1 (by show (!(rpOp o.op)) = true; rw [hrp]; rfl)
    | true =>
      rcases (hx i o ho).2 with ⟨-, hd⟩ | ⟨-, -, -, e⟩
      · rcases hd with hd | ⟨f, args, ts, g, first, cap, as, ax, M', e, -⟩
        · rw [evo_eq] at hd
          cases he : evp P [] (toFr (fF i) N) (fM i).H o.op with
          | none => rw [he] at hd; simp [evm_rp hrp] at hd
          | some q => rw [he] at hd; obtain ⟨v, vc⟩ := q; simp at hd; omega
        · rw [e] at hrp; simp [rpOp] at hrp
      · omega
  have nx0 : ∀ k, k ≤ ops.size → (fM 0).nx ≤ (fM k).nx := by
    intro k
    induction k with
    | zero => intro _; exact Nat.le_refl _
    | succ k ih => intro hk; exact Nat.le_trans (ih (by omega)) (mono k ops[k] (by simp [show k < ops.size by omega]))
  have rds : ∀ (i : Nat) (o : Oper) (g : G), ops.toList[i]? = some o → (dOp P funs N ops.toList pre ops.size o i).ad = some g → ∀ k, i < k → k ≤ ops.size → (i, g (fF i)) ∈ fr k := by
    intro i o g ho hg k hik hk
    induction k with
    | zero => omega
    | succ k ih =>
      have hok : ops.toList[k]? = some ops[k] := by simp [show k < ops.size by omega]
      obtain ⟨-, -, -, h4⟩ := hrun k _ (dd hok)
      rw [h4]
      by_cases e : i = k
      · subst e
        rw [hok] at ho
        simp at ho
        subst ho
        rw [hg]
        show _ ∈ ((i, g (fF i)) :: fr i)
        simp
      · have := ih (by omega) (by omega)
        cases hq : (dOp P funs N ops.toList pre ops.size ops[k] k).ad with
        | none => exact this
        | some g' => exact List.mem_cons_of_mem _ this
  have keepR : ∀ (k : Nat) (ok : Oper), ops.toList[k]? = some ok → rpOp ok.op = false → alOp ok.op = false → (∃ j oj, ops.toList[j]? = some oj ∧ (rpOp oj.op = true ∨ alOp oj.op = true) ∧ j ∈ unord pre ops.size k) →
      KeepX (((appOp ok.op).map gX).bind fun g => idX (g (fF k))) (fM k) (fM (k + 1)) ∧ ∀ e ∈ fr k, e.1 ∈ unord pre ops.size k → idX e.2 = none ∨ idX e.2 ≠ ((appOp ok.op).map gX).bind fun g => idX (g (fF k)) := by
    intro k ok hok h1 h2 ⟨j, oj, hj, hrl, hun⟩
    obtain ⟨-, -, h3, -⟩ := hrun k _ (dd hok)
    have hck : (dOp P funs N ops.toList pre ops.size ok k).ck = some ((appOp ok.op).map gX, unord pre ops.size k) := by
      show (if (!(rpOp ok.op) && !(alOp ok.op) && (unord pre ops.size k).any fun j => rpAt ops.toList j || alAt ops.toList j) = true then some ((appOp ok.op).map gX, unord pre ops.size k) else none) = _
      rw [if_pos]
      simp only [h1, h2, Bool.not_false, Bool.true_and, List.any_eq_true]
      exact ⟨j, hun, by simp only [rpAt, alAt, hj]; rcases hrl with h | h <;> simp [h]⟩
    have h5 := h3.2.2
    rw [hck] at h5
    simp only [ckX] at h5
    have e : (((appOp ok.op).map gX).map fun g => g (fF k)).bind idX = ((appOp ok.op).map gX).bind fun g => idX (g (fF k)) := by cases appOp ok.op <;> rfl
    rw [e] at h5
    refine ⟨h5.1, fun q hq hqu => h5.2 q.2 ?_⟩
    unfold adsOf
    exact List.mem_map.2 ⟨q, List.mem_filter.2 ⟨hq, by simpa using hqu⟩, rfl⟩
  have ch : Chain P N cl ops pre x fF fM := by
    refine ⟨fun i o ho => (hx i o ho).1, fun i o ho => (hx i o ho).2, mono, hcl', hnd, fun i o ho => ?_, fun i o ho t ht j oj hj hun => ?_, fun i o ho j want hg => ?_, fun i o ho h1 h2 j oj hji hj hrj => ?_, ?_, fun i o ho h1 h2 ⟨k, ok, hok, hak, hun⟩ id b hb hro => ?_⟩
    · have hs := st ho; simp only [statAt, Bool.and_eq_true] at hs; exact hs.1.1.1.1.1
    · have hs := st ho
      simp only [statAt, Bool.and_eq_true, List.all_eq_true] at hs
      have := hs.1.1.1.2 j hun
      intro e
      rw [hj] at this
      simp only [Option.bind_some, e] at this
      simp at this
      refine this ?_
      unfold tmpsOf
      exact List.mem_filterMap.2 ⟨.tmp t, ht, rfl⟩
    · have hs := st ho
      simp only [statAt, Bool.and_eq_true] at hs
      have := hs.1.1.2
      rw [hg] at this
      simpa using this
    · have hs := st ho
      simp only [statAt, Bool.and_eq_true, h1, h2, Bool.false_or, List.all_eq_true, List.mem_range] at hs
      have := hs.1.2 j hji
      simpa [rpAt, hj, hrj] using this
    · intro i o ho hri y v id hy hv hid k ok hok hrk hun
      have hki := unord_ne hun
      have hkl := ilt hok
      have hil := ilt ho
      have hN' := hN
      have had : (dOp P funs N ops.toList pre ops.size o i).ad = some (gX y) := by
        show (if (rpOp o.op && (unord pre ops.size i).any fun j => !(rpAt ops.toList j)) = true then (adOf o.op).map gX else none) = _
        rw [if_pos, hy]
        · rfl
        · simp only [hri, Bool.true_and, List.any_eq_true]
          exact ⟨k, hun, by simp [rpAt, hok, hrk]⟩
      have hval : idX (gX y (fF i)) = some id := by
        have hnb := nbs i (by omega)
        have : (gX y (fF i)).toV = v := by
          cases y with
          | tmp t =>
            simp only [opv] at hv
            have htl : t < N := by
              have h : (toFr (fF i) N).get t = some v := by
                split at hv
                · simp at hv
                · exact hv
              exact Fr.lt_of_get h
            rw [toFr_get htl hN] at hv
            show (gT t (fF i)).toV = v
            have h : (gT t (fF i)).toV ≠ .bad := hnb t htl
            revert hv h
            generalize (gT t (fF i)).toV = u
            intro hv h
            cases u <;> simp at hv h <;> exact hv
          | const u =>
            simp only [opv] at hv
            show (V.toX ((ofValue u).getD .bad)).toV = v
            rw [hv, toX_toV]; rfl
          | global g => simp [opv] at hv
          | func f => simp only [opv, Option.some.injEq] at hv; exact hv
        unfold idX
        rw [this]; exact hid
      obtain ⟨h1, -, -, -⟩ := hrun i _ (dd ho)
      rw [had] at h1
      have hold : id < (fM 0).nx := h1 id hval
      have hk0 := nx0 k (by omega)
      cases hak : alOp ok.op with
      | true =>
        rcases (hx k ok hok).2 with ⟨-, hd⟩ | ⟨-, -, e, -⟩
        · rcases hd with hd | ⟨f, args, ts, g, first, cap, as, ax, M', e, -⟩
          · generalize ok.op = op at hak hd
            cases op <;> (try (simp [alOp] at hak; done))
            rename_i t
            rw [evo_eq] at hd
            simp only [evp, evm] at hd
            cases hz : zeroV P t with
            | none => rw [hz] at hd; simp at hd
            | some z =>
              cases hs : szOf P t with
              | none => rw [hz, hs] at hd; simp at hd
              | some s =>
                rw [hz, hs] at hd
                simp at hd
                rw [← hd.2.1, look_cons, if_neg (by omega)]
          · rw [e] at hak; simp [alOp] at hak
        · rw [e]
      | false =>
        obtain ⟨g1, g2⟩ := keepR k ok hok hrk hak ⟨i, o, ho, .inl hri, unord_sym hun hil⟩
        refine g1.1 id (by omega) fun e => ?_
        cases hap : appOp ok.op with
        | none => rw [hap] at e; simp at e
        | some row =>
          by_cases hik : i < k
          · have := g2 _ (rds i o (gX y) ho had k hik (by omega)) (unord_sym hun hil)
            simp only [hval] at this
            rcases this with h | h
            · simp at h
            · exact h e
          · have hs := st hok
            simp only [statAt, Bool.and_eq_true, hap, List.all_eq_true] at hs
            have := hs.2 i (unord_sym hun hil)
            simp only [rpAt, ho, hri, Bool.not_true, Bool.false_or, Option.bind_some, hy, Bool.or_false, Nat.blt_eq] at this
            exact hik this
    · exact (keepR i o ho h1 h2 ⟨k, ok, hok, .inr hak, hun⟩).1.2 id b hb hro
  refine wp_region_any hm (ch.any hcl hN (w0 := w.drew) (ρ0 := ρ) (base := base) ⟨hh.n, hh.fs, hh.d, hh.m.drew, hh.s⟩ ?_)
  intro ρ' a' w' he hh' hk
  rw [hlen] at hL
  exact (hL ρ' _ _ a' w' he hh' (hb.trans hk)).1 rfl
end
end Go.Proofs.Ytehbfajmileefaa.Px
