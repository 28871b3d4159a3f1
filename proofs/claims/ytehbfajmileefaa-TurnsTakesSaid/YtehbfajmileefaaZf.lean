import Derived.Test.YtehbfajmileefaaZe
namespace Go.Proofs.Ytehbfajmileefaa.Px
open Go.RowKit Go.Proofs.Ytehbfajmileefaa.Vx Go.Proofs.Ytehbfajmileefaa.Fx
set_option linter.unusedVariables false
set_option linter.unusedSimpArgs false
set_option maxRecDepth 10000
def alOp : Op → Bool
  | .alloc _ => true
  | _ => false
def Does (P : Program) (N : Nat) (cl : Cl) (op : Op) (F : F8) (M : Mm) (x : X) (M1 : Mm) : Prop :=
  evo P [] (toFr F N) M.H M.nx op = some ⟨x.toV, M1.H, M1.nx, []⟩ ∨
  ∃ f args ts g first cap as ax M', op = .call { callee := .value f, args := args, argTypes := ts } ∧ opv (toFr F N) f = some (.fn (.func g) first cap) ∧ mapO (opv (toFr F N)) args.toList = some as ∧ ax.map X.toV = first ++ as ++ cap ∧
    cl g ax M = .val x M' ∧ M1.H = M'.H ∧ M1.nx = M'.nx
def Wants (N : Nat) (ops : Array Oper) (o : Oper) (F : F8) : Prop :=
  o.guard = none ∨ ∃ j want t, o.guard = some (j, want) ∧ (ops[j]?).bind (·.dst) = some t ∧ opv (toFr F N) (.tmp t) = some (.bool (.bool want))
def Skips (N : Nat) (ops : Array Oper) (o : Oper) (F : F8) : Prop :=
  ∃ j want t, o.guard = some (j, want) ∧ (ops[j]?).bind (·.dst) = some t ∧ (opv (toFr F N) (.tmp t) = some (.bool (.bool (!want))) ∨ opv (toFr F N) (.tmp t) = some (.tup []))
structure Chain (P : Program) (N : Nat) (cl : Cl) (ops : Array Oper) (pre : List Nat) (x : Nat → X) (F : Nat → F8) (M : Nat → Mm) : Prop where
  fs : ∀ (i : Nat) (o : Oper), ops.toList[i]? = some o → F (i + 1) = dS o.dst (x i) (F i)
  go : ∀ (i : Nat) (o : Oper), ops.toList[i]? = some o → (Wants N ops o (F i) ∧ Does P N cl o.op (F i) (M i) (x i) (M (i + 1))) ∨ (Skips N ops o (F i) ∧ x i = .v .undef ∧ (M (i + 1)).H = (M i).H ∧ (M (i + 1)).nx = (M i).nx)
  mono : ∀ (i : Nat) (o : Oper), ops.toList[i]? = some o → (M i).nx ≤ (M (i + 1)).nx
  cls : closedB ops.toList pre = true
  nd : nodupB (ops.toList.map (·.dst)) = true
  dn : ∀ (i : Nat) (o : Oper), ops.toList[i]? = some o → okD N o.dst = true
  opr : ∀ (i : Nat) (o : Oper), ops.toList[i]? = some o → ∀ t, .tmp t ∈ o.op.operands.toList → ∀ (j : Nat) (oj : Oper), ops.toList[j]? = some oj → j ∈ unord pre ops.size i → oj.dst ≠ some t
  gd : ∀ (i : Nat) (o : Oper), ops.toList[i]? = some o → ∀ j want, o.guard = some (j, want) → j < ops.size ∧ bitB pre i j = true
  mem : ∀ (i : Nat) (o : Oper), ops.toList[i]? = some o → rpOp o.op = false → alOp o.op = false → ∀ (j : Nat) (oj : Oper), j < i → ops.toList[j]? = some oj → rpOp oj.op = false → bitB pre i j = true
  stab : ∀ (i : Nat) (o : Oper), ops.toList[i]? = some o → rpOp o.op = true → ∀ y v id, adOf o.op = some y → opv (toFr (F i) N) y = some v → idV v = some id → ∀ (k : Nat) (ok : Oper), ops.toList[k]? = some ok → rpOp ok.op = false → k ∈ unord pre ops.size i → Vx.look (M (k + 1)).H id = Vx.look (M k).H id
  ro : ∀ (i : Nat) (o : Oper), ops.toList[i]? = some o → rpOp o.op = false → alOp o.op = false → (∃ (k : Nat) (ok : Oper), ops.toList[k]? = some ok ∧ alOp ok.op = true ∧ k ∈ unord pre ops.size i) → ∀ id b, Vx.look (M (i + 1)).H id = some b → b.ro = true → Vx.look (M i).H id = some b
theorem Chain.rp {P : Program} {N : Nat} {cl : Cl} {ops : Array Oper} {pre : List Nat} {x : Nat → X} {F : Nat → F8} {M : Nat → Mm} (h : Chain P N cl ops pre x F M) {i : Nat} {o : Oper} (ho : ops.toList[i]? = some o) (hr : rpOp o.op = true) :
    (M (i + 1)).H = (M i).H ∧ (M (i + 1)).nx = (M i).nx ∧ (Skips N ops o (F i) ∧ x i = .v .undef ∨ Wants N ops o (F i) ∧ evp P [] (toFr (F i) N) (M i).H o.op = some ((x i).toV, [])) := by
  rcases h.go i o ho with ⟨hw, hd⟩ | ⟨hs, hx, h1, h2⟩
  · rcases hd with hd | ⟨f, args, ts, g, first, cap, as, ax, M', e, -⟩
    · rw [evo_eq] at hd
      cases he : evp P [] (toFr (F i) N) (M i).H o.op with
      | none => rw [he] at hd; simp [evm_rp hr] at hd
      | some q =>
        rw [he] at hd
        obtain ⟨v, vc⟩ := q
        simp at hd
        obtain ⟨rfl, h1, h2, rfl⟩ := hd
        exact ⟨h1.symm, h2.symm, .inr ⟨hw, rfl⟩⟩
    · rw [e] at hr; simp [rpOp] at hr
  · exact ⟨h1, h2, .inl ⟨hs, hx⟩⟩
theorem Chain.al {P : Program} {N : Nat} {cl : Cl} {ops : Array Oper} {pre : List Nat} {x : Nat → X} {F : Nat → F8} {M : Nat → Mm} (h : Chain P N cl ops pre x F M) {i : Nat} {o : Oper} (ho : ops.toList[i]? = some o) (hr : alOp o.op = true) :
    (Skips N ops o (F i) ∧ x i = .v .undef ∧ (M (i + 1)).H = (M i).H ∧ (M (i + 1)).nx = (M i).nx) ∨
    (Wants N ops o (F i) ∧ ∃ t z s, o.op = .alloc t ∧ zeroV P t = some z ∧ (x i).toV = .ptr (M i).nx 0 ∧ (M (i + 1)).H = ((M i).nx, ⟨t, s, z.cells, false, false⟩) :: (M i).H ∧ (M (i + 1)).nx = (M i).nx + 1) := by
  rcases h.go i o ho with ⟨hw, hd⟩ | hs
  · right
    refine ⟨hw, ?_⟩
    rcases hd with hd | ⟨f, args, ts, g, first, cap, as, ax, M', e, -⟩
    · generalize o.op = op at hr hd
      cases op <;> (try (simp [alOp] at hr; done))
      rename_i t
      rw [evo_eq] at hd
      simp only [evp, evm] at hd
      cases hz : zeroV P t with
      | none => rw [hz] at hd; simp at hd
      | some z =>
        cases hs : szOf P t with
        | none => rw [hz, hs] at hd; simp at hd
        | some s =>
          rw [hz, hs] at hd
          simp at hd
          obtain ⟨h1, h2, h3⟩ := hd
          exact ⟨t, z, s, rfl, hz, h1.symm, h2.symm, h3.symm⟩
    · rw [e] at hr; simp [alOp] at hr
  · exact .inl hs
theorem al_rp {op : Op} (h : alOp op = true) : rpOp op = false := by cases op <;> first | rfl | (simp [alOp] at h; done)
structure DI (P : Program) (σ : Env) (ρ0 : Rho) (base : Nat → Prop) (N : Nat) (ops : Array Oper) (x : Nat → X) (F : Nat → F8) (M : Nat → Mm) (a0 : Act) (w0 : World) (listed : Array Bool) (ρ : Rho) (c : Nat) (H : Hp) (a : Act) (w : World) : Prop where
  ls : listed.size = ops.size
  down : ∀ (i : Nat) (o : Oper), Dn listed i → ops.toList[i]? = some o → ∀ e ∈ o.after.toList, Region.binds .any e = true → Dn listed e.on
  ts : a.tmps.size = N
  tn : ∀ (k : Nat) (o : Oper) (t : Nat), Dn listed k → ops.toList[k]? = some o → o.dst = some t → ∃ v, a.tmps[t]? = some v ∧ den σ ρ (x k).toV = some v ∧ V.under (M (k + 1)).nx (x k).toV = true
  to : ∀ (t : Nat), t < N → (∀ (k : Nat) (o : Oper), Dn listed k → ops.toList[k]? = some o → o.dst ≠ some t) → ∃ v, a.tmps[t]? = some v ∧ den σ ρ (gT t (F 0)).toV = some v ∧ V.under (M 0).nx (gT t (F 0)).toV = true
  cn : c ≤ ops.size
  cm : ∀ (k : Nat) (o : Oper), ops.toList[k]? = some o → rpOp o.op = false → alOp o.op = false → (Dn listed k ↔ k < c)
  ca : ∀ (k : Nat) (o : Oper), ops.toList[k]? = some o → alOp o.op = true → k < c → Dn listed k
  ha : ∀ id b, Vx.look (M c).H id = some b → Vx.look H id = some b
  hb : ∀ (k : Nat) (o : Oper) (id : Nat) (b : Blk), ops.toList[k]? = some o → alOp o.op = true → Dn listed k → c ≤ k → (M k).nx < (M (k + 1)).nx → id = (M k).nx → Vx.look (M (k + 1)).H id = some b → Vx.look H id = some b
  hd : ∀ id b, Vx.look H id = some b → (id < (M c).nx ∧ Vx.look (M c).H id = some b) ∨ ∃ (k : Nat) (o : Oper), ops.toList[k]? = some o ∧ alOp o.op = true ∧ Dn listed k ∧ c ≤ k ∧ (M k).nx < (M (k + 1)).nx ∧ id = (M k).nx
  uc : ∀ j, j ≤ c → ∀ id b, Vx.look (M j).H id = some b → id < (M j).nx ∧ V.underL (M j).nx b.cells = true
  sc : Srt (M c).H (M c).nx
  tot : ∀ j, j < (M c).nx → (ρ j).isSome = true
  ta : ∀ (k : Nat) (o : Oper), ops.toList[k]? = some o → alOp o.op = true → Dn listed k → ∀ j, (M k).nx ≤ j → j < (M (k + 1)).nx → (ρ j).isSome = true
  fr : ∀ (k : Nat) (o : Oper), ops.toList[k]? = some o → ¬ Dn listed k → ∀ j, (M k).nx ≤ j → j < (M (k + 1)).nx → ρ j = none
  m : Vx.M σ ρ base H (M ops.size).nx w
  ext : Ext ρ0 ρ
  bel : Kp base w0 w
  df : a.defers = a0.defers
theorem badF_keep : ∀ (ds : List (Option Tmp)) (F : Fr) (t : Nat), some t ∉ ds → (badF F ds).get t = F.get t
  | [], F, t, _ => rfl
  | none :: l, F, t, h => badF_keep l F t (fun hm => h (List.mem_cons_of_mem _ hm))
  | some d :: l, F, t, h => by
    show (badF (F.setF d .bad) l).get t = _
    rw [badF_keep l _ t (fun hm => h (List.mem_cons_of_mem _ hm))]
    have hne : d ≠ t := fun e => h (by rw [e]; simp)
    rw [setF_eq', Fr.get_set, if_neg (fun q => hne q.1.symm)]
theorem look_filter (p : Nat → Bool) : ∀ (H : Hp) (i : Nat), Vx.look (H.filter fun e => p e.1) i = if p i = true then Vx.look H i else none
  | [], i => by simp [Vx.look]
  | (j, b) :: H, i => by
    have ih := look_filter p H i
    by_cases hp : p j = true
    · rw [List.filter_cons_of_pos (by simpa using hp), look_cons, look_cons, ih]
      by_cases e : j = i
      · subst e; simp [hp]
      · rw [if_neg e, if_neg e]
    · rw [List.filter_cons_of_neg (by simpa using hp), ih, look_cons]
      by_cases e : j = i
      · subst e; rw [if_neg hp, if_neg hp]
      · rw [if_neg e]
section
variable {P : Program} {σ : Env} {ρ0 : Rho} {base : Nat → Prop} {N : Nat} {ops : Array Oper} {pre : List Nat} {cl : Cl} {x : Nat → X} {F : Nat → F8} {M : Nat → Mm} {a0 : Act} {w0 : World} {listed : Array Bool} {ρ : Rho} {c : Nat} {H : Hp} {a : Act} {w : World}
theorem Chain.lt (ch : Chain P N cl ops pre x F M) {i : Nat} {o : Oper} (ho : ops.toList[i]? = some o) : i < ops.size := by have := (List.getElem?_eq_some_iff.1 ho).1; simpa using this
theorem Chain.at (ch : Chain P N cl ops pre x F M) {i : Nat} (hi : i < ops.size) : ops.toList[i]? = some ops[i] := by simp [hi]
theorem Chain.le (ch : Chain P N cl ops pre x F M) {i j : Nat} (hij : i ≤ j) (hj : j ≤ ops.size) : (M i).nx ≤ (M j).nx := by
  induction j with
  | zero => have : i = 0 := by omega
            subst this; exact Nat.le_refl _
  | succ j ih =>
    by_cases e : i = j + 1
    · subst e; exact Nat.le_refl _
    · exact Nat.le_trans (ih (by omega) (by omega)) (ch.mono j _ (ch.at (by omega)))
theorem Chain.uniq (ch : Chain P N cl ops pre x F M) {i j t : Nat} {o o' : Oper} (h1 : ops.toList[i]? = some o) (h2 : ops.toList[j]? = some o') (h3 : o.dst = some t) (h4 : o'.dst = some t) : i = j :=
  nodupB_ok ch.nd i j t (by simp only [List.getElem?_map, h1, Option.map_some, h3]) (by simp only [List.getElem?_map, h2, Option.map_some, h4])
theorem Chain.slot (ch : Chain P N cl ops pre x F M) (hN : N ≤ 511) {i : Nat} {o : Oper} (ho : ops.toList[i]? = some o) {t : Nat} (ht : t < 512) : gT t (F (i + 1)) = if o.dst = some t then x i else gT t (F i) := by
  rw [ch.fs i o ho]
  have hd := ch.dn i o ho
  cases e : o.dst with
  | none => simp [dS, sN]
  | some d =>
    rw [e] at hd
    simp only [okD, Nat.blt_eq] at hd
    simp only [dS, Option.some.injEq]
    rw [gT_sT (by omega) ht]
theorem Chain.keep (ch : Chain P N cl ops pre x F M) (hN : N ≤ 511) {t : Nat} (ht : t < 512) : ∀ {j : Nat}, j ≤ ops.size → (∀ (k : Nat) (o : Oper), k < j → ops.toList[k]? = some o → o.dst ≠ some t) → gT t (F j) = gT t (F 0)
  | 0, _, _ => rfl
  | j + 1, hj, h => by
    rw [ch.slot hN (ch.at (by omega)) ht, if_neg (h j _ (by omega) (ch.at (by omega)))]
    exact ch.keep hN ht (by omega) fun k o hk ho => h k o (by omega) ho
theorem Chain.new (ch : Chain P N cl ops pre x F M) (hN : N ≤ 511) {t : Nat} (ht : t < 512) {k : Nat} {o : Oper} (ho : ops.toList[k]? = some o) (hd : o.dst = some t) : ∀ {j : Nat}, k < j → j ≤ ops.size → gT t (F j) = x k
  | 0, h, _ => by omega
  | j + 1, h, hj => by
    rw [ch.slot hN (ch.at (by omega)) ht]
    by_cases e : k = j
    · subst e
      have := ch.at (show k < ops.size by omega)
      rw [ho] at this
      simp at this
      rw [← this, if_pos hd]
    · rw [if_neg (fun hq => e (ch.uniq ho (ch.at (by omega)) hd hq)), ch.new hN ht ho hd (by omega) (by omega)]
theorem DI.up (ch : Chain P N cl ops pre x F M) (hI : DI P σ ρ0 base N ops x F M a0 w0 listed ρ c H a w) : ∀ {i : Nat}, c ≤ i → i ≤ ops.size → (∀ (k : Nat) (o : Oper), c ≤ k → k < i → ops.toList[k]? = some o → rpOp o.op = false → alOp o.op = true ∧ Dn listed k) →
    (∀ id b, Vx.look (M i).H id = some b → Vx.look H id = some b) ∧ Srt (M i).H (M i).nx ∧ (∀ id b, Vx.look (M i).H id = some b → V.underL (M i).nx b.cells = true) ∧ (∀ j, j < (M i).nx → (ρ j).isSome = true)
  | i, hci, hin, h => by
    induction i with
    | zero =>
      have : c = 0 := by omega
      subst this
      exact ⟨hI.ha, hI.sc, fun id b h => (hI.uc _ (Nat.le_refl _) id b h).2, hI.tot⟩
    | succ i ih =>
      by_cases e : c = i + 1
      · subst e
        exact ⟨hI.ha, hI.sc, fun id b h => (hI.uc _ (Nat.le_refl _) id b h).2, hI.tot⟩
      · obtain ⟨h1, h2, h3, h4⟩ := ih (by omega) (by omega) fun k o h1 h2 => h k o h1 (by omega)
        have ho := ch.at (show i < ops.size by omega)
        cases hr : rpOp ops[i].op with
        | true =>
          obtain ⟨e1, e2, -⟩ := ch.rp ho hr
          rw [e1, e2]
          exact ⟨h1, h2, h3, h4⟩
        | false =>
          obtain ⟨hal, hdn⟩ := h i _ (by omega) (by omega) ho hr
          rcases ch.al ho hal with ⟨-, -, e1, e2⟩ | ⟨-, t, z, s, -, hz, -, e1, e2⟩
          · rw [e1, e2]
            exact ⟨h1, h2, h3, h4⟩
          · refine ⟨fun id b hb => ?_, by rw [e1, e2]; exact h2.cons _, fun id b hb => ?_, fun j hj => ?_⟩
            · by_cases e : id = (M i).nx
              · exact hI.hb i _ id b ho hal hdn (by omega) (by omega) e hb
              · rw [e1, look_cons, if_neg (fun q => e q.symm)] at hb
                exact h1 id b hb
            · rw [e1, look_cons] at hb
              split at hb
              · simp at hb
                subst hb
                obtain ⟨y, -, hd⟩ := run_zeroV (w := w) (σ := σ) (ρ := fun _ => none) hz
                exact underL_mono (Nat.zero_le _) (underL_of (n := 0) (fun _ _ => rfl) (cells_den hd))
              · exact underL_mono (by omega) (h3 id b hb)
            · by_cases hj' : j < (M i).nx
              · exact h4 j hj'
              · exact hI.ta i _ ho hal hdn j (by omega) hj
noncomputable def frM (N : Nat) (ops : Array Oper) (pre : List Nat) (F : F8) (i : Nat) : Fr := badF (toFr F N) ((unord pre ops.size i).map fun j => (ops.toList.map (·.dst)).getD j none)
theorem Chain.frM (ch : Chain P N cl ops pre x F M) {i : Nat} {o : Oper} (ho : ops.toList[i]? = some o) : ∀ y ∈ o.op.operands.toList, opv (toFr (F i) N) y = opv (frM N ops pre (F i) i) y := by
  intro y hy
  cases y with
  | tmp t =>
    have : some t ∉ (unord pre ops.size i).map fun j => (ops.toList.map (·.dst)).getD j none := by
      intro hm
      obtain ⟨j, hj, e⟩ := List.mem_map.1 hm
      have hjs : j < ops.size := by unfold unord at hj; simpa using (List.mem_filter.1 hj).1
      have hoj := ch.at hjs
      have : (ops.toList.map (·.dst)).getD j none = ops[j].dst := by simp [List.getD, hoj]
      rw [this] at e
      exact ch.opr i o ho t hy j _ hoj hj e
    simp only [opv, Px.frM, badF_keep _ _ _ this]
  | _ => rfl
theorem Chain.ord (ch : Chain P N cl ops pre x F M) (hdown : ∀ (i : Nat) (o : Oper), Dn listed i → ops.toList[i]? = some o → ∀ e ∈ o.after.toList, Region.binds .any e = true → Dn listed e.on) {i : Nat} {o : Oper} (ho : ops.toList[i]? = some o) (hnd : ¬ Dn listed i) (hedges : ∀ e ∈ o.after.toList, Region.binds .any e = true → Dn listed e.on) :
    (∀ j, j < ops.size → bitB pre i j = true → j < i ∧ Dn listed j) ∧ (∀ j, j < ops.size → bitB pre j i = true → ¬ Dn listed j ∧ i < j) := by
  have hil := ch.lt ho
  refine ⟨fun j hj hb => ⟨bit_lt ch.cls i j hil hj hb, ?_⟩, fun j hj hb => ⟨fun hd => hnd (bit_dn ch.cls hdown j i hj hil hd hb), bit_lt ch.cls j i hj hil hb⟩⟩
  obtain ⟨e, he, heb, h3⟩ := (closed_at ch.cls ho).2 j hj hb
  have hel := (closed_at ch.cls ho).1 e he heb
  rcases h3 with h3 | h3
  · rw [← h3]; exact hedges e he heb
  · exact bit_dn ch.cls hdown e.on j (by omega) hj (hedges e he heb) h3
theorem DI.opOk (ch : Chain P N cl ops pre x F M) (hN : N ≤ 511) (hI : DI P σ ρ0 base N ops x F M a0 w0 listed ρ c H a w) {i : Nat} {o : Oper} (ho : ops.toList[i]? = some o) (hnd : ¬ Dn listed i) (hedges : ∀ e ∈ o.after.toList, Region.binds .any e = true → Dn listed e.on) :
    OpOk σ ρ (frM N ops pre (F i) i) a ∧ OpOk σ (cut ρ (M i).nx) (frM N ops pre (F i) i) a := by
  obtain ⟨o1, o2⟩ := ch.ord hI.down ho hnd hedges
  have hil := ch.lt ho
  have key : ∀ y v, opv (Px.frM N ops pre (F i) i) y = some v → den σ ρ v = some (a.eval y) ∧ V.under (M i).nx v = true := by
    intro y v hy
    cases y with
    | tmp t =>
      simp only [opv] at hy
      have hy' : (Px.frM N ops pre (F i) i).get t = some v ∧ v ≠ .bad := by
        split at hy
        · simp at hy
        · rename_i hne
          exact ⟨hy, fun e => hne (by rw [hy, e])⟩
      rcases badF_get _ _ _ _ hy'.1 with hbad | ⟨h1, h2⟩
      · exact absurd hbad hy'.2
      have htl : t < N := Fr.lt_of_get h1
      have ht5 : t < 512 := Nat.lt_of_lt_of_le htl (by omega)
      rw [toFr_get htl hN] at h1
      simp at h1
      have fin : ∀ {z : Value}, a.tmps[t]? = some z → a.eval (.tmp t) = z := fun hz => by simp [Act.eval, Array.getD_eq_getD_getElem?, hz]
      by_cases hex : ∃ (k : Nat) (ok : Oper), Dn listed k ∧ ops.toList[k]? = some ok ∧ ok.dst = some t
      · obtain ⟨k, ok, hdk, hk, hkd⟩ := hex
        have hkl := ch.lt hk
        have hki : k ≠ i := fun e => hnd (e ▸ hdk)
        have hlt : k < i := by
          apply Classical.byContradiction
          intro hge
          have h3 : k ∈ unord pre ops.size i := mem_unord ⟨hkl, Ne.symm hki, by
            rw [Bool.eq_false_iff]; exact fun hb => hge (o1 k hkl hb).1, by rw [Bool.eq_false_iff]; exact fun hb => (o2 k hkl hb).1 hdk⟩
          exact h2 (List.mem_map.2 ⟨k, h3, by simp [List.getD, hk, hkd]⟩)
        obtain ⟨z, hz, hdz, huz⟩ := hI.tn k ok t hdk hk hkd
        rw [ch.new hN ht5 hk hkd hlt (by omega)] at h1
        subst h1
        rw [fin hz]
        exact ⟨hdz, under_mono (ch.le (by omega) (by omega)) huz⟩
      · obtain ⟨z, hz, hdz, huz⟩ := hI.to t htl (fun k ok hdk hk hkd => hex ⟨k, ok, hdk, hk, hkd⟩)
        have : gT t (F i) = gT t (F 0) := by
          refine ch.keep hN ht5 (by omega) fun k ok hki hk hkd => ?_
          have hkl := ch.lt hk
          have hndk : ¬ Dn listed k := fun hdk => hex ⟨k, ok, hdk, hk, hkd⟩
          have h3 : k ∈ unord pre ops.size i := mem_unord ⟨hkl, by omega, by
            rw [Bool.eq_false_iff]; exact fun hb => hndk (o1 k hkl hb).2, by rw [Bool.eq_false_iff]; exact fun hb => by have := (o2 k hkl hb).2; omega⟩
          exact h2 (List.mem_map.2 ⟨k, h3, by simp [List.getD, hk, hkd]⟩)
        rw [this] at h1
        subst h1
        rw [fin hz]
        exact ⟨hdz, under_mono (ch.le (by omega) (by omega)) huz⟩
    | const u =>
      have h1 : den σ (fun _ => none) v = some u := ofValue_den hy
      exact ⟨den_mono (fun i r h => by simp at h) h1, under_mono (Nat.zero_le _) (under_of (n := 0) (fun _ _ => rfl) h1)⟩
    | global g => simp [opv] at hy
    | func f => simp only [opv, Option.some.injEq] at hy; subst hy; exact ⟨by simp [den, denL, Act.eval], rfl⟩
  exact ⟨fun y v hy => (key y v hy).1, fun y v hy => by rw [den_cut (key y v hy).2]; exact (key y v hy).1⟩
theorem DI.wanted (ch : Chain P N cl ops pre x F M) (hI : DI P σ ρ0 base N ops x F M a0 w0 listed ρ c H a w) {i : Nat} {o : Oper} (ho : ops.toList[i]? = some o) (hop : OpOk σ ρ (frM N ops pre (F i) i) a) :
    (Wants N ops o (F i) → Region.wanted o (yielded ops a.tmps) = true) ∧ (Skips N ops o (F i) → Region.wanted o (yielded ops a.tmps) = false) := by
  have same : ∀ {j want t}, o.guard = some (j, want) → (ops[j]?).bind (·.dst) = some t → opv (Px.frM N ops pre (F i) i) (.tmp t) = opv (toFr (F i) N) (.tmp t) := by
    intro j want t hg ht
    obtain ⟨hj, hb⟩ := ch.gd i o ho j want hg
    have hoj := ch.at hj
    have hd : ops[j].dst = some t := by
      rw [Array.getElem?_eq_getElem hj] at ht
      simpa using ht
    have : some t ∉ (unord pre ops.size i).map fun k => (ops.toList.map (·.dst)).getD k none := by
      intro hm
      obtain ⟨k, hk, e⟩ := List.mem_map.1 hm
      have hks : k < ops.size := by unfold unord at hk; simpa using (List.mem_filter.1 hk).1
      have hok := ch.at hks
      have e2 : (ops.toList.map (·.dst)).getD k none = ops[k].dst := by simp [List.getD, hok]
      rw [e2] at e
      have := ch.uniq hok hoj e hd
      subst this
      unfold unord at hk
      have hk := (List.mem_filter.1 hk).2
      have hlt := bit_lt ch.cls i k (ch.lt ho) hks hb
      rw [if_pos (by simpa using hlt)] at hk
      simp [hb] at hk
    simp only [opv, Px.frM, badF_keep _ _ _ this]
  refine ⟨fun hw => ?_, fun hs => ?_⟩
  · rcases hw with hg | ⟨j, want, t, hg, ht, hv⟩
    · simp [Region.wanted, hg]
    · have := wanted_boolO hop hg (ops := ops) (t := .bool want) (by rw [ht, Option.bind_some, same hg ht]; exact hv)
      rw [this]; simp [T.b]
  · obtain ⟨j, want, t, hg, ht, hv | hv⟩ := hs
    · have := wanted_boolO hop hg (ops := ops) (t := .bool (!want)) (by rw [ht, Option.bind_some, same hg ht]; exact hv)
      rw [this]; cases want <;> simp [T.b]
    · exact wanted_undefO hop hg (ops := ops) (by rw [ht, Option.bind_some, same hg ht]; exact hv)
theorem DI.put (ch : Chain P N cl ops pre x F M) (hI : DI P σ ρ0 base N ops x F M a0 w0 listed ρ c H a w) {i : Nat} {o : Oper} (ho : ops.toList[i]? = some o) (hnd : ¬ Dn listed i) (hedges : ∀ e ∈ o.after.toList, Region.binds .any e = true → Dn listed e.on)
    {ρ' : Rho} {c' : Nat} {H' : Hp} {v : Value} {w' : World} (he : Ext ρ ρ') (hv : den σ ρ' (x i).toV = some v) (hu : V.under (M (i + 1)).nx (x i).toV = true) (hk : Kp base w w')
    (cn : c' ≤ ops.size)
    (cm : ∀ (k : Nat) (o : Oper), ops.toList[k]? = some o → rpOp o.op = false → alOp o.op = false → ((Dn listed k ∨ k = i) ↔ k < c'))
    (ca : ∀ (k : Nat) (o : Oper), ops.toList[k]? = some o → alOp o.op = true → k < c' → (Dn listed k ∨ k = i))
    (ha : ∀ id b, Vx.look (M c').H id = some b → Vx.look H' id = some b)
    (hb : ∀ (k : Nat) (o : Oper) (id : Nat) (b : Blk), ops.toList[k]? = some o → alOp o.op = true → (Dn listed k ∨ k = i) → c' ≤ k → (M k).nx < (M (k + 1)).nx → id = (M k).nx → Vx.look (M (k + 1)).H id = some b → Vx.look H' id = some b)
    (hd : ∀ id b, Vx.look H' id = some b → (id < (M c').nx ∧ Vx.look (M c').H id = some b) ∨ ∃ (k : Nat) (o : Oper), ops.toList[k]? = some o ∧ alOp o.op = true ∧ (Dn listed k ∨ k = i) ∧ c' ≤ k ∧ (M k).nx < (M (k + 1)).nx ∧ id = (M k).nx)
    (uc : ∀ j, j ≤ c' → ∀ id b, Vx.look (M j).H id = some b → id < (M j).nx ∧ V.underL (M j).nx b.cells = true) (sc : Srt (M c').H (M c').nx) (tot : ∀ j, j < (M c').nx → (ρ' j).isSome = true)
    (ta : ∀ (k : Nat) (o : Oper), ops.toList[k]? = some o → alOp o.op = true → (Dn listed k ∨ k = i) → ∀ j, (M k).nx ≤ j → j < (M (k + 1)).nx → (ρ' j).isSome = true)
    (fr : ∀ (k : Nat) (o : Oper), ops.toList[k]? = some o → ¬ Dn listed k → k ≠ i → ∀ j, (M k).nx ≤ j → j < (M (k + 1)).nx → ρ' j = none)
    (m : Vx.M σ ρ' base H' (M ops.size).nx w') : DI P σ ρ0 base N ops x F M a0 w0 (listed.setIfInBounds i true) ρ' c' H' (a.put o.dst v) w' := by
  have hil := ch.lt ho
  have hD := dn_set (listed := listed) (i := i) (by rw [hI.ls]; exact hil)
  have hput : ∀ t, t < N → (o.dst = some t → (a.put o.dst v).tmps[t]? = some v) ∧ (o.dst ≠ some t → (a.put o.dst v).tmps[t]? = a.tmps[t]?) := by
    intro t ht
    cases hdst : o.dst with
    | none => exact ⟨by simp, fun _ => rfl⟩
    | some d =>
      simp only [Act.put]
      refine ⟨fun e => ?_, fun e => ?_⟩
      · simp at e; subst e; simp [hI.ts, ht]
      · exact Array.getElem?_setIfInBounds_ne (fun q => e (by rw [q]))
  have dlt : ∀ {k : Nat} {ok : Oper} {t : Nat}, ops.toList[k]? = some ok → ok.dst = some t → t < N := fun hk hd => by
    have := ch.dn _ _ hk; rw [hd] at this; simpa [okD] using this
  refine ⟨by simp [hI.ls], ?_, ?_, ?_, ?_, cn, ?_, ?_, ha, ?_, ?_, uc, sc, tot, ?_, ?_, m, hI.ext.trans he, hI.bel.trans hk, (put_defers _ _).trans hI.df⟩
  · intro j oj hdj hj e hem heb
    rw [hD] at hdj ⊢
    rcases hdj with hdj | rfl
    · exact .inl (hI.down j oj hdj hj e hem heb)
    · rw [ho] at hj
      simp at hj
      subst hj
      exact .inl (hedges e hem heb)
  · rw [← hI.ts]
    cases o.dst <;> simp [Act.put]
  · intro k ok t hdk hk hkd
    rw [hD] at hdk
    by_cases hki : k = i
    · subst hki
      rw [ho] at hk
      simp at hk
      subst hk
      exact ⟨v, (hput t (dlt ho hkd)).1 hkd, hv, hu⟩
    · obtain ⟨z, h1, h2, h3⟩ := hI.tn k ok t (hdk.resolve_right hki) hk hkd
      exact ⟨z, by rw [(hput t (dlt hk hkd)).2 (fun e => hki (ch.uniq hk ho hkd e))]; exact h1, den_mono he h2, h3⟩
  · intro t ht hno
    obtain ⟨z, h1, h2, h3⟩ := hI.to t ht (fun k ok hdk hk => hno k ok ((hD k).2 (.inl hdk)) hk)
    exact ⟨z, by rw [(hput t ht).2 (hno i o ((hD i).2 (.inr rfl)) ho)]; exact h1, den_mono he h2, h3⟩
  · intro k ok hk h1 h2; rw [hD]; exact cm k ok hk h1 h2
  · intro k ok hk h1 h2; rw [hD]; exact ca k ok hk h1 h2
  · intro k ok id b hk h1 h2 h3 h4 h5 h6; rw [hD] at h2; exact hb k ok id b hk h1 h2 h3 h4 h5 h6
  · intro id b h
    rcases hd id b h with h | ⟨k, ok, h1, h2, h3, h4⟩
    · exact .inl h
    · exact .inr ⟨k, ok, h1, h2, (hD k).2 h3, h4⟩
  · intro k ok hk h1 h2 j h3 h4; rw [hD] at h2; exact ta k ok hk h1 h2 j h3 h4
  · intro k ok hk h1 j h3 h4
    rw [hD] at h1
    exact fr k ok hk (fun h => h1 (.inl h)) (fun h => h1 (.inr h)) j h3 h4
end
end Go.Proofs.Ytehbfajmileefaa.Px
