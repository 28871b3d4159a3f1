import Derived.Test.YtehbfajmileefaaFg
namespace Go.Proofs.Ytehbfajmileefaa.Fx
open Go.RowKit Go.Proofs.Ytehbfajmileefaa.Vx
set_option linter.unusedVariables false
set_option linter.unusedSimpArgs false
section
variable {pre : List Nat} {P : Program} {σ : Env} {ρ : Rho} {w : World} {base : Nat → Prop} {N : Nat} {F : F8} {M : Mm} {a : Act} {funs : List (FuncId × Func)}
theorem sl_ops {o : Option Operand} {x : Operand} (h : o = some x) : x ∈ o.toArray.toList := by subst h; simp
def kindOk : Op → Bool
  | .call { callee, .. } => (match callee with | .builtin _ => true | _ => false)
  | .defer _ => false
  | _ => true
set_option maxHeartbeats 2000000 in
theorem compStp (hN : N ≤ 511) {d : S} (op : Op) (hops : ∀ x ∈ op.operands.toList, okO N x = true) (hk : kindOk op = true) : Stp P N op d (compOp' P funs N d op) := by
  have step' : ∀ f, Stp P N op d f → Stp P N op d f := fun f hf => hf
  have gen : ∀ b, Stp P N op d (oGen P op N b d) := fun b => stp_gen
  cases op
  case move x => exact step' _ (pur_move hN (hops x (by simp [Op.operands]))).stp
  case assign x => exact step' _ (pur_assign hN (hops x (by simp [Op.operands]))).stp
  case pick c x y => exact step' _ (pur_pick hN (hops c (by simp [Op.operands])) (hops x (by simp [Op.operands])) (hops y (by simp [Op.operands]))).stp
  case binOp op t x y q =>
    have hx := hops x (by simp [Op.operands])
    have hy := hops y (by simp [Op.operands])
    simp only [compOp']
    split
    · split
      · exact step' _ (pur_bin hN hx hy).stp
      · exact gen _
    · split
      · exact step' _ (pur_eqT (neg := false) hN hx hy).stp
      · exact step' _ (pur_eqT (neg := true) hN hx hy).stp
      · exact gen _
    · exact gen _
  case unOp op t x =>
    simp only [compOp']
    split
    · exact step' _ (pur_not hN (hops x (by simp [Op.operands]))).stp
    · exact gen _
  case load t x =>
    have hx := hops x (by simp [Op.operands])
    simp only [compOp']
    split
    · rename_i h1; exact step' _ (pur_load1 hN hx h1).stp
    · rename_i n h1 h2; exact step' _ (pur_loadN hN hx h1 h2).stp
    · exact gen _
  case store t x y =>
    have hx := hops x (by simp [Op.operands])
    have hy := hops y (by simp [Op.operands])
    simp only [compOp']
    split
    · rename_i h1 h2; exact step' _ (stp_store1 hN hx hy h2)
    · rename_i n h1 h2; exact step' _ (stp_storeN hN hx hy h2)
    · exact gen _
  case fieldAddr t x f =>
    have hx := hops x (by simp [Op.operands])
    simp only [compOp']
    split
    · rename_i fs h1
      split
      · rename_i fd h2
        split
        · rename_i z h3; exact step' _ (pur_fieldAddr hN hx h1 h2 h3).stp
        · exact gen _
      · exact gen _
    · exact gen _
  case indexAddr t x i =>
    have hx := hops x (by simp [Op.operands])
    have hi := hops i (by simp [Op.operands])
    simp only [compOp']
    split
    · rename_i e h1
      split
      · rename_i z h2; exact step' _ (pur_indexAddr hN hx hi h1 h2).stp
      · exact gen _
    · rename_i n e h1
      split
      · rename_i z h2; exact step' _ (pur_indexArr hN hx hi h1 h2).stp
      · exact gen _
    · exact gen _
  case index t x i =>
    have hx := hops x (by simp [Op.operands])
    have hi := hops i (by simp [Op.operands])
    simp only [compOp']
    split
    · rename_i h1; exact step' _ (pur_indexT hN hx hi h1).stp
    · exact gen _
  case extract x i => exact step' _ (pur_ext hN (hops x (by simp [Op.operands]))).stp
  case convert s t x =>
    have hx := hops x (by simp [Op.operands])
    simp only [compOp']
    split
    · rename_i k1 k2 h1 h2; exact step' _ (pur_conv hN hx h1 h2).stp
    · exact gen _
  case alloc t =>
    simp only [compOp']
    split
    · rename_i z n h1 h2; exact step' _ (stp_alloc h1 h2)
    · exact gen _
  case box t x =>
    have hx := hops x (by simp [Op.operands])
    simp only [compOp']
    split
    · rename_i n h1; exact step' _ (stp_box hN hx h1)
    · exact gen _
  case makeFunc f as bs =>
    simp only [compOp']
    split
    · exact step' _ (pur_fn hN (fun x hx => hops x (by simp [Op.operands] at hx ⊢; exact .inl hx)) (fun x hx => hops x (by simp [Op.operands] at hx ⊢; exact .inr hx))).stp
    · exact gen _
  case build t ps =>
    simp only [compOp']
    split
    · rename_i z fs h1 h2
      split
      · rename_i pl h3
        split
        · rename_i l h4; exact step' _ (pur_build hN (fun q hq => hops q.2 (by simp only [Op.operands]; exact List.mem_map.2 ⟨q, hq, rfl⟩)) h1 h2 h3 h4).stp
        · exact gen _
      · exact gen _
    · exact gen _
  case call c =>
    obtain ⟨callee, args, ts⟩ := c
    cases callee with
    | builtin b =>
      cases b
      case copy => exact gen true
      case len =>
        show Stp P N _ d (compLen P _ _ _ _)
        unfold compLen
        split
        · rename_i x t ha ht
          have hx := hops x (by simp [Op.operands, Call.operands, ha])
          split
          · rename_i e h1; exact step' _ (pur_lenS (q := 0) hN hx h1 ha ht).stp
          · rename_i h1; exact step' _ (pur_lenT hN hx h1 ha ht).stp
          · exact gen false
        · exact gen false
      all_goals exact gen false
    | value f => simp [kindOk] at hk
    | invoke r m => simp [kindOk] at hk
  case «defer» c => simp [kindOk] at hk
  case mapUpdate t m k v => exact gen true
  all_goals exact gen false
theorem compOp_ok (hN : N ≤ 511) (o : Oper) : OOk P N o (compOp P funs N o) := by
  unfold compOp
  split
  rotate_left
  · exact oNo_ok
  rename_i hok
  simp only [okOp, Bool.and_eq_true, List.all_eq_true] at hok
  obtain ⟨hd, hops⟩ := hok
  generalize ho : o.op = op at hops
  have step' : kindOk op = true → OOk P N o (compOp' P funs N (dS o.dst) op) := fun hk => step_ok hN (by rw [ho]; exact compStp hN op hops hk) hd
  cases op
  case call c =>
    obtain ⟨callee, args, ts⟩ := c
    cases callee with
    | builtin b => exact step' rfl
    | value f =>
      have hargs : ∀ x ∈ args.toList, okO N x = true := fun x hx => hops x (by simp [Op.operands, Call.operands] at hx ⊢; exact .inr hx)
      have hf := hops f (by simp [Op.operands, Call.operands])
      show OOk P N o (compCall funs _ _ f args.toList)
      cases f with
      | func g =>
        simp only [compCall]
        split
        · exact call_ok hN ho hd hargs
        · exact step_ok hN (ho ▸ stp_gen) hd
      | tmp t => exact callV_ok hN ho hd hf hargs
      | const v => exact callV_ok hN ho hd hf hargs
      | global g => exact callV_ok hN ho hd hf hargs
    | invoke r m => exact oNo_ok
  case «defer» c =>
    obtain ⟨callee, args, ts⟩ := c
    cases callee with
    | value f =>
      exact defer_ok hN ho hd (hops f (by simp [Op.operands, Call.operands])) (fun x hx => hops x (by simp [Op.operands, Call.operands] at hx ⊢; exact .inr hx))
    | _ => exact oNo_ok
  all_goals exact step' rfl
theorem compG_ok (hN : N ≤ 511) {ops : Array Oper} (o : Oper) (hd : o.guard = none ∨ okD N o.dst = true) : GOk P N ops o (compG P funs N ops.toList o) := by
  unfold compG
  split
  · rename_i hg
    intro σ cl hcl base ρ F M a w k r next Q hh hf hr hL
    rw [if_pos (by simp [Region.wanted, hg])]
    exact compOp_ok hN o σ cl hcl base ρ F M a w k r next Q hh hf hr hL
  · rename_i j want hg
    have no : GOk P N ops o oNo := fun σ cl hcl base ρ F M a w k r next Q hh hf hr hL => absurd hf.symm hr
    split
    · rename_i t ht
      split
      · rename_i hb
        exact oIf_ok hN hg (by simpa using ht) (by simpa using hb) (by rcases hd with h | h <;> simp_all) (compOp_ok hN o)
      · exact no
    · exact no
def LeadX (σ : Env) (base : Nat → Prop) (N : Nat) (r : RX) (ρ : Rho) (w : World) (Q : Exit → Act → World → Prop) : Prop :=
  ∀ ρ' F' M' a' w', Ext ρ ρ' → HX σ ρ' base N F' M' a' w' → Kp base w w' → (r = .nrm F' M' → Q .normal a' w') ∧ (∀ id, r = .ext id F' M' → Q (.exit id) a' w') ∧ (r = .ret F' M' → Q .ret a' w')
theorem LeadX.mono {r : RX} {Q : Exit → Act → World → Prop} (h : LeadX σ base N r ρ w Q) {ρ' : Rho} {w' : World} (he : Ext ρ ρ') (hk : Kp base w w') : LeadX σ base N r ρ' w' Q :=
  fun ρ2 F2 M2 a2 w2 h1 h2 h3 => h ρ2 F2 M2 a2 w2 (he.trans h1) h2 (hk.trans h3)
def COk (P : Program) (N : Nat) (c : Code) (f : CF) : Prop :=
  ∀ σ cl, ClOk P σ cl → ∀ n base ρ F M a w (Q : Exit → Act → World → Prop) r, HX σ ρ base N F M a w → f cl n F M = r → r ≠ .no → LeadX σ base N r ρ w Q → c.wp P Q a w
def okDs (N : Nat) (l : List Oper) : Bool := l.all fun o => okD N o.dst
theorem ops_ok (hN : N ≤ 511) {ops : Array Oper} {cl : Cl} (hcl : ClOk P σ cl) {n : Nat} {Q : Exit → Act → World → Prop} {r : RX} (hr : r ≠ .no) : ∀ (l : List Oper), (∀ o ∈ l, okD N o.dst = true) → ∀ {ρ F M a w}, HX σ ρ base N F M a w → cOps (l.map (compG P funs N ops.toList)) cl n F M = r → LeadX σ base N r ρ w Q → wpList P ops Q l a w
  | [], _, ρ, F, M, a, w, hh, hf, hL => by
    exact (hL ρ F M a w (Ext.refl _) hh (Kp.refl _ _)).1 hf.symm
  | o :: l, hd, ρ, F, M, a, w, hh, hf, hL => by
    have hf : compG P funs N ops.toList o cl (cOps (l.map (compG P funs N ops.toList)) cl n) F M = r := hf
    have := compG_ok (P := P) (funs := funs) hN (ops := ops) o (.inr (hd o (by simp))) σ cl hcl base ρ F M a w _ r (wpList P ops Q l) Q hh hf hr fun ρ' F' M' a' w' he hh' hk hf' =>
      ops_ok hN hcl hr l (fun o ho => hd o (List.mem_cons_of_mem _ ho)) hh' hf' (hL.mono he hk)
    unfold wpList
    split
    · rename_i hw; rw [if_pos hw] at this; exact .inl this
    · rename_i hw; rw [if_neg hw] at this; exact this
theorem pure_evm {F : Fr} {H : Hp} {nx : Nat} {op : Op} (h : pureOp op = true) : evm P F H nx op = none := by
  cases op <;> simp [pureOp] at h <;> try rfl
  rename_i c
  obtain ⟨callee, args, ts⟩ := c
  cases callee with
  | builtin b => cases b <;> simp at h <;> rfl
  | _ => simp at h
theorem pure_kind {op : Op} (h : pureOp op = true) : kindOk op = true := by
  cases op <;> simp [pureOp] at h <;> try rfl
  rename_i c
  obtain ⟨callee, args, ts⟩ := c
  cases callee with
  | builtin b => rfl
  | _ => simp at h
theorem pureG_ok (hN : N ≤ 511) {ops S : Array Oper} {o : Oper} (hp : pureOp o.op = true) (hd : okD N o.dst = true) (hS : ∀ j want, o.guard = some (j, want) → (S[j]?).bind (·.dst) = (ops[j]?).bind (·.dst)) {cl : Cl} {k : K} {r : RX} (hh : HX σ ρ base N F M a w) (hf : compG P funs N ops.toList o cl k F M = r) (hr : r ≠ .no)
    {K2 : Act → Prop} (hL : ∀ F' M' a', HX σ ρ base N F' M' a' w → k F' M' = r → K2 a') : if Region.wanted o (yielded S a.tmps) then o.still P a w K2 else K2 (a.put o.dst undef) := by
  have act : ∀ {F0 M0}, HX σ ρ base N F0 M0 a w → compOp P funs N o cl k F0 M0 = r → o.still P a w K2 := by
    intro F0 M0 hh hf
    cases hok : okOp N o with
    | false => simp only [compOp, hok] at hf; exact absurd hf.symm hr
    | true =>
    simp only [compOp, hok] at hf
    simp only [okOp, Bool.and_eq_true, List.all_eq_true] at hok
    obtain ⟨x, H', nx', lw', h1, h2⟩ := compStp (P := P) (funs := funs) hN o.op hok.2 (pure_kind hp) cl k F0 M0 r hh.nb hf hr
    rw [evo_eq, pure_evm hp] at h1
    split at h1
    rotate_left
    · simp at h1
    rename_i q hq
    simp at h1
    obtain ⟨q1, rfl, rfl, q4⟩ := h1
    obtain ⟨v, hv, hdv⟩ := evp_ok (P := P) (o := o) (pc := []) (a := a) hq (by simp) (by rw [q4]; simp) (hh.op hN) hh.m
    unfold Oper.still
    rw [hv]
    exact ⟨rfl, hL _ _ _ (hh.put hN (Ext.refl _) (M' := ⟨M0.H, M0.nx, lw'⟩) hh.m hh.s hd (by rw [← q1]; exact hdv)) h2⟩
  have skip : k (dS o.dst .undef F) M = r → K2 (a.put o.dst undef) := fun hk => hL _ M _ (hh.put hN (Ext.refl _) hh.m hh.s hd (by simp [X.toV, undef_den])) hk
  cases hg : o.guard with
  | none =>
    simp only [compG, hg] at hf
    rw [if_pos (by simp [Region.wanted, hg])]
    exact act hh hf
  | some q =>
    obtain ⟨j, want⟩ := q
    cases ht : (ops.toList[j]?).bind (·.dst) with
    | none => simp only [compG, hg, ht] at hf; exact absurd hf.symm hr
    | some t =>
    cases hb : Nat.blt t N with
    | false => simp only [compG, hg, ht, hb] at hf; exact absurd hf.symm hr
    | true =>
    simp only [compG, hg, ht, hb] at hf
    have ht' : (S[j]?).bind (·.dst) = some t := by rw [hS j want hg]; simpa using ht
    have h1 := hop hN hh.nb (x := .tmp t) (by simpa [okO] using hb)
    simp only [oIf] at hf
    cases hx : gT t F with
    | i kd n => rw [hx] at hf; exact absurd hf.symm hr
    | b b =>
      rw [hx] at hf
      have h2 : opv (toFr F N) (.tmp t) = some (.bool (.bool b)) := by rw [h1]; show some (gT t F).toV = _; rw [hx]; rfl
      have hw := wanted_boolO (hh.op hN) hg (ops := S) (t := .bool b) (by rw [ht']; exact h2)
      simp only [T.b] at hw
      rw [hw]
      cases b <;> cases want <;> simp only [ifB_eq, if_true, Bool.false_eq_true, if_false] at hf <;> simp
      all_goals first
        | exact skip hf
        | exact act hh hf
    | v v =>
      rw [hx] at hf
      simp only at hf
      obtain ⟨hu, hf2⟩ := ifB_some hf hr
      have hv := isU_some hu
      have h2 : opv (toFr F N) (.tmp t) = some (.tup []) := by
        rw [h1]
        show some (gT t F).toV = _
        rw [hx, hv]
        rfl
      have hw := wanted_undefO (hh.op hN) hg (ops := S) (by rw [ht']; exact h2)
      rw [hw]
      simpa using skip hf2
theorem still_ok (hN : N ≤ 511) {ops S : Array Oper} {cl : Cl} {n : Nat} {r : RX} (hr : r ≠ .no) {rest : List OF} {X : Act → Prop} : ∀ (l : List Oper), (∀ o ∈ l, pureOp o.op = true ∧ okD N o.dst = true ∧ ∀ j want, o.guard = some (j, want) → (S[j]?).bind (·.dst) = (ops[j]?).bind (·.dst)) →
    ∀ {F M a}, HX σ ρ base N F M a w → cOps (l.map (compG P funs N ops.toList) ++ rest) cl n F M = r → (∀ F' M' a', HX σ ρ base N F' M' a' w → cOps rest cl n F' M' = r → X a') → wpStill P S w X l a
  | [], _, F, M, a, hh, hf, hX => hX F M a hh hf
  | o :: l, ho, F, M, a, hh, hf, hX => by
    have hf : compG P funs N ops.toList o cl (cOps (l.map (compG P funs N ops.toList) ++ rest) cl n) F M = r := hf
    obtain ⟨h1, h2, h3⟩ := ho o (by simp)
    have := pureG_ok (P := P) (funs := funs) hN (ops := ops) (S := S) h1 h2 h3 hh hf hr (K2 := wpStill P S w X l) fun F' M' a' hh' hf' => still_ok hN hr l (fun o ho' => ho o (List.mem_cons_of_mem _ ho')) hh' hf' hX
    unfold wpStill
    exact this
theorem guards_lt {L : List Oper} (hg : guardsB L = true) {i : Nat} {o : Oper} (hi : L[i]? = some o) {j : Nat} {want : Bool} (h : o.guard = some (j, want)) : j < i := by
  have := List.all_eq_true.1 hg (o, i) (List.mem_zipIdx_iff_getElem?.2 hi)
  rw [h] at this
  simpa using this
theorem seq_ok (hN : N ≤ 511) {ops : Array Oper} (hc : closedB ops.toList pre = true) (hg : guardsB ops.toList = true) (hds : okDs N ops.toList = true) {cl : Cl} (hcl : ClOk P σ cl) {n : Nat} {Q : Exit → Act → World → Prop} {r : RX} (hr : r ≠ .no) :
    ∀ (f lo : Nat), segsB ops pre f lo = true → lo ≤ ops.size → ∀ {ρ F M a w}, HX σ ρ base N F M a w → cOps ((ops.toList.drop lo).map (compG P funs N ops.toList)) cl n F M = r → LeadX σ base N r ρ w Q → wpAny P .any ops Q (ops.size - lo) (upto ops.size lo) a w
  | 0, lo, h, _, ρ, F, M, a, w, hh, hf, hL => by simp [segsB] at h
  | f + 1, lo, h, hlo, ρ, F, M, a, w, hh, hf, hL => by
    have hds' : ∀ o ∈ ops.toList, okD N o.dst = true := by have h := hds; simp only [okDs, List.all_eq_true] at h; exact h
    unfold segsB at h
    by_cases h0 : lo = ops.size
    · subst h0
      rw [Nat.sub_self]
      have hdrop : ops.toList.drop ops.size = [] := by rw [List.drop_eq_nil_iff]; simp
      rw [hdrop] at hf
      exact ⟨full_ready, (hL ρ F M a w (Ext.refl _) hh (Kp.refl _ _)).1 hf.symm⟩
    rw [if_neg (by simpa using h0)] at h
    by_cases hb : barB pre ops.size lo = true
    · rw [if_pos hb] at h
      have hlt : lo < ops.toList.length := by simp; omega
      have ho : ops.toList[lo]? = some ops.toList[lo] := List.getElem?_eq_getElem hlt
      have hdrop : ops.toList.drop lo = ops.toList[lo] :: ops.toList.drop (lo + 1) := List.drop_eq_getElem_cons hlt
      rw [hdrop] at hf
      have hf : compG P funs N ops.toList ops.toList[lo] cl (cOps ((ops.toList.drop (lo + 1)).map (compG P funs N ops.toList)) cl n) F M = r := hf
      rw [show ops.size - lo = (ops.size - (lo + 1)) + 1 by omega]
      refine bar_step hc ho hb ?_
      have := compG_ok (P := P) (funs := funs) hN (ops := ops) ops.toList[lo] (.inr (hds' _ (List.getElem_mem hlt))) σ cl hcl base ρ F M a w _ r (fun a w => wpAny P .any ops Q (ops.size - (lo + 1)) (upto ops.size (lo + 1)) a w) (thenQ (fun a w => wpAny P .any ops Q (ops.size - (lo + 1)) (upto ops.size (lo + 1)) a w) Q) hh hf hr
        fun ρ' F' M' a' w' he hh' hk hf' => seq_ok hN hc hg hds hcl hr f (lo + 1) h (by omega) hh' hf' (hL.mono he hk)
      unfold wpList
      split
      · rename_i hw; rw [if_pos hw] at this; exact .inl this
      · rename_i hw; rw [if_neg hw] at this; exact this
    · rw [if_neg hb] at h
      simp only at h
      generalize barFrom pre ops.size ops.size lo = k at h
      simp only [Bool.and_eq_true, Bool.or_eq_true, Nat.blt_eq, Nat.ble_eq] at h
      obtain ⟨⟨⟨⟨⟨⟨hlk, hk⟩, hbar⟩, hpure⟩, hns⟩, hlex⟩, hrest⟩ := h
      have hlen : (segL ops.toList lo k).length = k := segL_len (by omega) (by simpa using hk)
      have hget : ∀ i, (segL ops.toList lo k)[i]? = if i < lo then (ops.toList[i]?).map selfM else if i < k then ops.toList[i]? else none := fun i => segL_get (by omega) (by simpa using hk) i
      have hbar' : k = ops.size ∨ barB pre ops.size k = true := hbar.imp (fun h => Nat.eq_of_beq_eq_true h) id
      have hsplit : ops.toList.drop lo = (ops.toList.take k).drop lo ++ ops.toList.drop k := by
        conv => lhs; rw [← List.take_append_drop k ops.toList]
        rw [List.drop_append_of_le_length (by simp; omega)]
      rw [hsplit, List.map_append] at hf
      have hl : ((ops.toList.take k).drop lo).length = k - lo := by simp; omega
      have hseg : ∀ j, ((ops.toList.take k).drop lo)[j]? = (segL ops.toList lo k).toArray[lo + j]? := fun j => by
        rw [List.getElem?_toArray, hget, if_neg (by omega), List.getElem?_drop]
        by_cases hj : lo + j < k
        · rw [if_pos hj, List.getElem?_take_of_lt hj]
        · rw [if_neg hj, List.getElem?_eq_none (by simp; omega)]
      have hmem : ∀ o ∈ (ops.toList.take k).drop lo, pureOp o.op = true ∧ okD N o.dst = true ∧ ∀ j want, o.guard = some (j, want) → ((segL ops.toList lo k).toArray[j]?).bind (·.dst) = (ops[j]?).bind (·.dst) := by
        intro o ho
        refine ⟨by simp only [pureAll, List.all_eq_true] at hpure; exact hpure o ho, hds' o (List.mem_of_mem_take (List.mem_of_mem_drop ho)), fun j want hgd => ?_⟩
        obtain ⟨i, hi⟩ := List.getElem?_of_mem ho
        rw [hseg, List.getElem?_toArray, hget, if_neg (by omega)] at hi
        split at hi
        rotate_left
        · simp at hi
        rename_i hik
        have hjl : j < lo + i := guards_lt hg hi hgd
        rw [List.getElem?_toArray, hget]
        have e2 : ops[j]? = ops.toList[j]? := by simp
        rw [e2]
        by_cases hj : j < lo
        · rw [if_pos hj]
          cases ops.toList[j]? <;> simp [selfM]
        · rw [if_neg hj, if_pos (by omega)]
      have hst := still_ok (P := P) (funs := funs) (N := N) hN (ops := ops) (S := (segL ops.toList lo k).toArray) (n := n) hr (X := fun a' => wpAny P .any ops Q (ops.size - k) (upto ops.size k) a' w) _ hmem hh hf fun F' M' a' hh' hf' => seq_ok hN hc hg hds hcl hr f k hrest hk hh' hf' hL
      have hup : ((List.range k).map fun i => decide (i < lo)).toArray = upto k lo := rfl
      have h1 := wpAnyS_lex (P := P) (md := .any) (ops := (segL ops.toList lo k).toArray) (w := w) hns _ lo (upto k lo) a hseg (by rw [hl, ← hup]; exact hlex) hst
      rw [hl] at h1
      have h2 := wpAny_of_still (P := P) (Q' := thenQ (fun a w => wpAny P .any ops Q (ops.size - k) (upto ops.size k) a w) Q) (fun a' h => h) (k - lo) (upto k lo) a h1
      have := seg_ok (lo := lo) (k := k) (S := (segL ops.toList lo k).toArray) hc hg (by omega) hk hbar' (by simp) (k - lo) (upto ops.size lo) (upto k lo) a w (upto_size _ _) ?_ ?_ ?_ (upto_size _ _) ?_ h2
      · rwa [show k - lo + (ops.size - k) = ops.size - lo by omega] at this
      · intro i oi hi hoi e he heb
        rw [upto_dn] at hi ⊢
        have := (closed_at hc hoi).1 e he heb
        omega
      · intro i hi; rw [upto_dn]; omega
      · intro i hi; rw [upto_dn] at hi; omega
      · intro i; rw [upto_dn, upto_dn]; omega
theorem drawS_ok (hm : P.follows .mixedOrders = true) (hN : N ≤ 511) {id : Nat} {ops : Array Oper} (hd : drawOk ops = true) (hds : okDs N ops.toList = true) : COk P N (.region id ops true) (cOps (ops.toList.map (compG P funs N ops.toList))) := by
  intro σ cl hcl n base ρ F M a w Q r hh hf hr hL
  simp only [drawOk, Bool.and_eq_true] at hd
  have hb : Kp base w w.drew := Kp.drew (Kp.refl _ _)
  have := seq_ok (P := P) (funs := funs) (base := base) hN hd.1.2 hd.1.1 hds hcl hr (ops.size + 1) 0 hd.2 (Nat.zero_le _) (ρ := ρ) (F := F) (M := M) (a := a) (w := w.drew) ⟨hh.n, hh.fs, hh.d, hh.m.drew, hh.s⟩ (by simpa using hf) (hL.mono (Ext.refl _) hb)
  rw [← upto_zero, Nat.sub_zero] at this
  exact wp_region_any hm this
theorem slow_ok {cl : Cl} (hcl : ClOk P σ cl) : CallOk P σ (slowC cl) := by
  intro f args st out h hv base ρ w xs hx hpc hM
  unfold slowC at h
  cases hc : cl f (args.map V.toX) ⟨st.H, st.nx, st.nx⟩ with
  | no => rw [hc] at h; simp at h
  | val x M' =>
    rw [hc] at h
    simp only at h
    cases hs : srtB st.H st.nx with
    | false => rw [hs] at h; simp at h
    | true =>
      rw [hs] at h
      simp at h
      subst h
      obtain ⟨-, hcall⟩ := hcl _ _ _ _ _ hc (srtB_ok hs)
      refine (hcall base ρ w xs (by rw [map_toX]; exact hx) hM).mono ?_
      rintro e w' ⟨v, ρ', rfl, k1, k2, k3, k4, -⟩
      exact ⟨_, List.mem_singleton.2 rfl, v, ρ', rfl, k1, k2, rfl, hpc, k3, k4⟩
theorem N8.get_of {α : Type} (f : Nat → α) {i : Nat} (hi : i < 8) : (N8.of f).get i = f i := by
  rcases lt8 hi with rfl | rfl | rfl | rfl | rfl | rfl | rfl | rfl <;> rfl
theorem gT_back {F : F8} {Fr' : Fr} {i : Nat} (hi : i < 512) : gT i (backX F Fr') = if i = 511 then gT 511 F else V.toX (Fr'.t.get i) := by
  show (((backX F Fr').get (i / 64)).get (i / 8 % 8)).get (i % 8) = _
  unfold backX
  rw [N8.get_of _ (by omega), N8.get_of _ (by omega), N8.get_of _ (by omega)]
  have e : 64 * (i / 64) + 8 * (i / 8 % 8) + i % 8 = i := by omega
  rw [e]
  by_cases h : i = 511
  · rw [if_pos h, show Nat.beq i 511 = true by simpa using h]
  · rw [if_neg h, show Nat.beq i 511 = false by rw [Bool.eq_false_iff]; simpa using h]
theorem draw_ok (hm : P.follows .mixedOrders = true) (hfs : FunsOk P funs) (hN : N ≤ 511) {id : Nat} {ops : Array Oper} : COk P N (.region id ops true) (cDraw P funs N ops) := by
  intro σ cl hcl n base ρ F M a w Q r hh hf hr hL
  unfold cDraw at hf
  split at hf
  rotate_left
  · exact absurd hf.symm hr
  rename_i st hst
  cases hs : (ltB' st.H st.nx && Nat.beq st.F.n N) with
  | false => rw [hs] at hf; exact absurd hf.symm hr
  | true =>
    rw [hs] at hf
    simp only at hf
    simp only [Bool.and_eq_true] at hs
    obtain ⟨hs, hn⟩ := hs
    have hn := Nat.eq_of_beq_eq_true hn
    refine runDD_ok hm hfs (slow_ok hcl) hst (by intro x hx; simp at hx) ⟨hh.fr hN, by simp, hh.m⟩ ?_
    intro lf hlf ρ' a' w' he hH hb hd
    simp only [List.mem_singleton] at hlf
    subst hlf
    have hlen : a'.tmps.size = st.F.n := by
      have := denL_len hH.F
      rw [Fr.len_list] at this
      simpa using this
    refine (hL ρ' (backX F st.F) ⟨dd st.H, st.nx, 0⟩ a' w' he ⟨by omega, fun t ht => ?_, ?_, hH.m.sub fun i b hb => ddM_look _ _ i b hb, dd_srt hs⟩ hb).1 hf.symm
    · have hg : st.F.list[t]? = some (st.F.t.get t) := by rw [Fr.get_list, Fr.get_eq, if_pos (by omega)]
      obtain ⟨y, hy, hdy⟩ := denL_get hH.F hg
      refine ⟨y, by simpa using hy, ?_⟩
      rw [gT_back (by omega), if_neg (by omega), toX_toV]
      exact hdy
    · have := hh.d.mono he
      unfold Dfx at this ⊢
      rw [gT_back (by omega), if_pos rfl, hd]
      exact this
end
end Go.Proofs.Ytehbfajmileefaa.Fx
