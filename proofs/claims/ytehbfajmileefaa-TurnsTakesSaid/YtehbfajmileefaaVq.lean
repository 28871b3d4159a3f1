import Derived.Test.YtehbfajmileefaaVd
namespace Go.Proofs.Ytehbfajmileefaa.Vx
open Go.RowKit
set_option linter.unusedVariables false
set_option linter.unusedSimpArgs false
theorem getP_eq : ∀ (f i : Nat) (t : Tr), i < f → getP (pathR f i) t = t.get i
  | 0, i, t, h => by omega
  | f + 1, 0, t, h => by cases t <;> rfl
  | f + 1, j + 1, t, h => by
    have e : pathR (f + 1) (j + 1) = Nat.beq (j % 2) 0 :: pathR f (j / 2) := rfl
    rw [e]
    cases t with
    | lf => rfl
    | nd l v r =>
      have e2 : getP (Nat.beq (j % 2) 0 :: pathR f (j / 2)) (.nd l v r) = Bool.rec (motive := fun _ => V) (getP (pathR f (j / 2)) r) (getP (pathR f (j / 2)) l) (Nat.beq (j % 2) 0) := rfl
      rw [e2, getP_eq f _ l (by omega), getP_eq f _ r (by omega)]
      simp only [Tr.get]
      cases Nat.beq (j % 2) 0 <;> rfl
theorem setP_eq : ∀ (f i : Nat) (v : V) (t : Tr), i < f → setP (pathR f i) v t = Tr.set f t i v
  | 0, i, v, t, h => by omega
  | f + 1, 0, v, t, h => by cases t <;> rfl
  | f + 1, j + 1, v, t, h => by
    have e : pathR (f + 1) (j + 1) = Nat.beq (j % 2) 0 :: pathR f (j / 2) := rfl
    rw [e]
    have ih := fun t => setP_eq f (j / 2) v t (by omega)
    cases t with
    | lf =>
      have e2 : setP (Nat.beq (j % 2) 0 :: pathR f (j / 2)) v .lf = Bool.rec (motive := fun _ => Tr) (.nd .lf .undef (setP (pathR f (j / 2)) v .lf)) (.nd (setP (pathR f (j / 2)) v .lf) .undef .lf) (Nat.beq (j % 2) 0) := rfl
      rw [e2, ih]
      simp only [Tr.set]
      cases Nat.beq (j % 2) 0 <;> rfl
    | nd l u r =>
      have e2 : setP (Nat.beq (j % 2) 0 :: pathR f (j / 2)) v (.nd l u r) = Bool.rec (motive := fun _ => Tr) (.nd l u (setP (pathR f (j / 2)) v r)) (.nd (setP (pathR f (j / 2)) v l) u r) (Nat.beq (j % 2) 0) := rfl
      rw [e2, ih, ih]
      simp only [Tr.set]
      cases Nat.beq (j % 2) 0 <;> rfl
theorem Tr.set_more : ∀ (f g : Nat) (t : Tr) (i : Nat) (v : V), i < f → i < g → Tr.set f t i v = Tr.set g t i v
  | 0, g, t, i, v, h, _ => by omega
  | f + 1, 0, t, i, v, _, h => by omega
  | f + 1, g + 1, t, i, v, h, k => by
    rw [Tr.set_succ, Tr.set_succ]
    cases i with
    | zero => rfl
    | succ j => simp only [Tr.set_more f g _ (j / 2) v (by omega) (by omega)]
theorem getF_eq (F : Fr) (i : Nat) : F.getF i = F.get i := by
  obtain ⟨n, t⟩ := F
  have e : (Fr.mk n t).getF i = Bool.rec (motive := fun _ => Option V) none (some (getP (pathR (i + 1) i) t)) (Nat.blt i n) := rfl
  rw [e, getP_eq _ _ _ (Nat.lt_succ_self i)]
  unfold Fr.get
  cases Nat.blt i n <;> rfl
theorem setF_eq' (F : Fr) (i : Nat) (v : V) : F.setF i v = F.set i v := by
  obtain ⟨n, t⟩ := F
  have e : (Fr.mk n t).setF i v = Bool.rec (motive := fun _ => Fr) ⟨n, t⟩ ⟨n, setP (pathR (i + 1) i) v t⟩ (Nat.blt i n) := rfl
  rw [e, setP_eq _ _ _ _ (Nat.lt_succ_self i)]
  cases h : Nat.blt i n
  · simp only [Fr.set, h]
  · have : i < n := by have : i + 1 ≤ n := by simpa [Nat.blt] using h
                       omega
    simp only [Fr.set, h]
    rw [Tr.set_more (i + 1) n t i v (Nat.lt_succ_self i) this]
theorem isBad_eq (v : V) : V.isBad v = match v with | .bad => true | _ => false := by cases v <;> rfl
theorem noBad_eq (o : Option V) : noBad o = match o with | some .bad => none | r => r := by
  cases o with
  | none => rfl
  | some v => cases v <;> rfl
theorem opvF_eq (F : Fr) (x : Operand) : opvF F x = opv F x := by
  cases x with
  | tmp t =>
    have e : opvF F (.tmp t) = noBad (F.getF t) := rfl
    rw [e, getF_eq, noBad_eq]
    rfl
  | _ => rfl
theorem boolQ_eq (t : T) : T.bool? t = match t with | .bool b => some b | _ => none := by cases t <;> rfl
theorem intQ_eq (t : T) : T.int? t = match t with | .int b => some b | _ => none := by cases t <;> rfl
theorem lit_some {v : V} {k : IntKind} {m : Int} (h : V.lit v = some (k, m)) : v = .int k (.int m) := by
  cases v <;> try (simp [V.lit] at h; done)
  rename_i k' t
  have e : V.lit (.int k' t) = litK k' (T.int? t) := rfl
  rw [e, intQ_eq] at h
  cases t <;> simp [litK] at h
  rw [h.1, h.2]
theorem blit_some {v : V} {b : Bool} (h : V.blit v = some b) : v = .bool (.bool b) := by
  cases v <;> try (simp [V.blit] at h; done)
  rename_i t
  have e : V.blit (.bool t) = T.bool? t := rfl
  rw [e, boolQ_eq] at h
  cases t <;> simp at h
  rw [h]
theorem ptrQ_eq (v : V) : V.ptr? v = match v with | .ptr i o => some (i, o) | _ => none := by cases v <;> rfl
theorem ptr_some {v : V} {i o : Nat} (h : V.ptr? v = some (i, o)) : v = .ptr i o := by rw [ptrQ_eq] at h; cases v <;> simp at h; rw [h.1, h.2]
theorem aggQ_eq (v : V) : V.agg? v = match v with | .agg l => some l | _ => none := by cases v <;> rfl
theorem tupQ_eq (v : V) : V.tup? v = match v with | .tup l => some l | _ => none := by cases v <;> rfl
theorem oneF_eq (v : V) : V.oneF v = v.one := by cases v <;> rfl
theorem nthR_eq : ∀ (l : List V) (i : Nat), nthR l i = l[i]?
  | [], i => rfl
  | v :: l, 0 => rfl
  | v :: l, i + 1 => by
    have e : nthR (v :: l) (i + 1) = nthR l i := rfl
    rw [e, nthR_eq l i]; rfl
theorem lookF_eq : ∀ (H : Hp) (i : Nat), lookF H i = look H i
  | [], i => rfl
  | (j, b) :: H, i => by
    have e : lookF ((j, b) :: H) i = Bool.rec (motive := fun _ => Option Blk) (lookF H i) (some b) (Nat.beq j i) := rfl
    have e2 : look ((j, b) :: H) i = if Nat.beq j i then some b else look H i := rfl
    rw [e, lookF_eq H i, e2]
    cases Nat.beq j i <;> rfl
theorem ltI_eq (a b : Int) : ltI a b = ltB a b := by
  cases a with
  | ofNat m => cases b with
    | ofNat n =>
      have e : ltI (.ofNat m) (.ofNat n) = Nat.blt m n := rfl
      rw [e, Bool.eq_iff_iff, ltB_t]
      simp [Nat.blt]; omega
    | negSucc n =>
      have e : ltI (.ofNat m) (.negSucc n) = false := rfl
      rw [e]; symm; rw [ltB_f]; simp; omega
  | negSucc m => cases b with
    | ofNat n =>
      have e : ltI (.negSucc m) (.ofNat n) = true := rfl
      rw [e]; symm; rw [ltB_t]; simp; omega
    | negSucc n =>
      have e : ltI (.negSucc m) (.negSucc n) = Nat.blt n m := rfl
      rw [e, Bool.eq_iff_iff, ltB_t]
      simp [Nat.blt]; omega
theorem leI_eq (a b : Int) : leI a b = leB a b := by
  cases a with
  | ofNat m => cases b with
    | ofNat n =>
      have e : leI (.ofNat m) (.ofNat n) = Nat.ble m n := rfl
      rw [e, Bool.eq_iff_iff, leB_t]
      simp
    | negSucc n =>
      have e : leI (.ofNat m) (.negSucc n) = false := rfl
      rw [e]; symm; rw [leB_f]; simp; omega
  | negSucc m => cases b with
    | ofNat n =>
      have e : leI (.negSucc m) (.ofNat n) = true := rfl
      rw [e]; symm; rw [leB_t]; simp; omega
    | negSucc n =>
      have e : leI (.negSucc m) (.negSucc n) = Nat.ble n m := rfl
      rw [e, Bool.eq_iff_iff, leB_t]
      simp; omega
theorem eqI_eq (a b : Int) : eqI a b = eqB a b := by
  cases a with
  | ofNat m => cases b with
    | ofNat n =>
      have e : eqI (.ofNat m) (.ofNat n) = Nat.beq m n := rfl
      rw [e, Bool.eq_iff_iff, eqB_t]
      simp; omega
    | negSucc n =>
      have e : eqI (.ofNat m) (.negSucc n) = false := rfl
      rw [e]; symm; rw [eqB_f]; simp
  | negSucc m => cases b with
    | ofNat n =>
      have e : eqI (.negSucc m) (.ofNat n) = false := rfl
      rw [e]; symm; rw [eqB_f]; simp
    | negSucc n =>
      have e : eqI (.negSucc m) (.negSucc n) = Nat.beq m n := rfl
      rw [e, Bool.eq_iff_iff, eqB_t]
      simp
theorem wrapF_eq (k : IntKind) (n : Int) : wrapF k n = k.wrap n := by
  cases n with
  | negSucc m => rfl
  | ofNat m =>
    have e : wrapF k (.ofNat m) = Bool.rec (motive := fun _ => Int) (k.wrap (.ofNat m)) (.ofNat m) (Nat.ble m (kmaxN k)) := rfl
    rw [e]
    cases h : Nat.ble m (kmaxN k)
    · rfl
    · have h' : m ≤ kmaxN k := by simpa using h
      symm
      apply wrap_in
      cases k <;> simp [kmaxN, IntKind.min, IntKind.max, IntKind.bits, IntKind.signed] at h' ⊢ <;> omega
theorem litBin_ok {P : Program} {op : BinOp} {t : TypeId} {k : IntKind} {m n : Int} {r : V × List T} (h : litBin op k m n = some r) : binV P op t (.int k (.int m)) (.int k (.int n)) = some r := by
  cases op <;> first
    | (have e : litBin .quo k m n = none := rfl
       simp [litBin] at h; done)
    | (simp only [litBin, Option.some.injEq, wrapF_eq, eqI_eq, ltI_eq, leI_eq] at h
       subst h
       simp [binV, mkAdd, mkSub, mkMul, mkEq, mkLt, mkLe, mkNot, notB]
       try (cases eqB m n <;> rfl))
theorem ikB_eq (k k' : IntKind) : ikB k k' = decide (k = k') := by cases k <;> cases k' <;> rfl
theorem iiV_eq (f : IntKind → T → T → Option (V × List T)) (k : IntKind) (a : T) (y : V) : iiV f k a y = match y with
    | .int k' b => if k = k' then f k a b else none
    | _ => none := by
  unfold iiV
  cases y <;> try rfl
  rename_i k' b
  simp only [ikB_eq]
  by_cases h : k = k'
  · simp [h]
  · simp [h]
theorem binVF_eq (P : Program) (op : BinOp) (t : TypeId) (x y : V) : binVF P op t x y = binV P op t x y := by
  cases op <;> cases x <;> first
    | rfl
    | (simp only [binVF, bAdd, bSub, bMul, bEql, bNeq, bLss, bLeq, bGtr, bGeq, iiV_eq, cmV, adV, suV, muV]
       cases y <;> rfl)
    | (cases y <;> rfl)
theorem pick_true (pc : List T) (x y : Option V) : pickV pc (.bool true) x y = x := by
  have : decG pc (.bool true) = some true := by simp [decG, simB, againT, decT, pcDec]
  simp [pickV, this]
theorem pick_false (pc : List T) (x y : Option V) : pickV pc (.bool false) x y = y := by
  have : decG pc (.bool false) = some false := by simp [decG, simB, againT, decT, pcDec]
  simp [pickV, this]
theorem binL_eq (P : Program) (op : BinOp) (t : TypeId) (a b : V) : binL P op t a b = binV P op t a b := by
  unfold binL
  split
  · rename_i k m ha
    split
    · rename_i k' n hb
      rw [lit_some ha, lit_some hb]
      unfold binK
      split
      · rename_i hk
        rw [ikB_eq, decide_eq_true_eq] at hk
        subst hk
        split
        · rename_i r hr; exact (litBin_ok hr).symm
        · exact binVF_eq _ _ _ _ _
      · exact binVF_eq _ _ _ _ _
    · exact binVF_eq _ _ _ _ _
  · exact binVF_eq _ _ _ _ _
theorem evOpt_eq (o : Option V) : evOpt o = o.map fun v => (v, []) := by cases o <;> rfl
theorem partF_eq (P : Program) (t : TypeId) (off : Nat) (b : Blk) : partF P t off b = (partV P t b.cells off).map fun v => (v, []) := by
  unfold partF
  split
  · rename_i h
    simp only [partV, h, nthR_eq]
    cases b.cells[off]? with
    | none => rfl
    | some v => simp only [oneF_eq, Option.bind_some]; cases v.one <;> rfl
  · exact evOpt_eq _
theorem evpF_eq (P : Program) (pc : List T) (F : Fr) (H : Hp) (op : Op) : evpF P pc F H op = evp P pc F H op := by
  unfold evpF
  cases op <;> try rfl
  case move x => show eMove F x = _; simp only [evp, eMove, opvF_eq]; cases opv F x <;> rfl
  case assign x => show eMove F x = _; simp only [evp, eMove, opvF_eq]; cases opv F x <;> rfl
  case pick c a b =>
    show ePick pc F c a b = _
    simp only [evp, ePick, opvF_eq]
    cases hc : opv F c with
    | none => simp [evp0, hc]
    | some v =>
      simp only [Option.bind_some]
      split
      · rename_i h; rw [blit_some h]; simp only [pick_true, evOpt_eq]
      · rename_i h; rw [blit_some h]; simp only [pick_false, evOpt_eq]
      · simp only [evp0, hc]
  case load t a =>
    show eLoad P F H t a = _
    simp only [evp, eLoad, opvF_eq]
    cases opv F a with
    | none => rfl
    | some v =>
      simp only [Option.bind_some, ptrQ_eq]
      cases v <;> try rfl
      simp only [lookF_eq]
      rename_i id off
      unfold lookC
      cases look H id with
      | none => rfl
      | some b => cases hm : b.mp <;> simp [partF_eq, hm]
  case nilCheck x =>
    show eNilCheck F x = _
    simp only [evp, eNilCheck, opvF_eq]
    cases opv F x with
    | none => rfl
    | some v => cases v <;> first
      | rfl
      | (rename_i f _ _; cases f <;> rfl)
  case binOp op t x y ty =>
    show eBin P F op t x y = _
    simp only [evp, eBin, opvF_eq, binL_eq]
    cases opv F x with
    | none => rfl
    | some a => cases opv F y <;> rfl
  case unOp op t x =>
    show eUn P pc F H op t x (eNot F x) = _
    cases op <;> try rfl
    simp only [eUn, evp, eNot, opvF_eq]
    cases opv F x with
    | none => rfl
    | some v =>
      simp only [Option.bind_some]
      split
      · rename_i b h; rw [blit_some h]; cases b <;> rfl
      · cases v <;> rfl
  case convert s d x =>
    show eConv P pc F H s d x = _
    simp only [eConv, opvF_eq]
    cases h : opv F x with
    | none => rfl
    | some v =>
      simp only [Option.bind_some]
      split
      · rename_i k m hl
        have := lit_some hl
        subst this
        simp only [evp, h, evCv]
        cases P.underlying s with
        | none => rfl
        | some a =>
          cases a <;> (cases P.underlying d with
            | none => rfl
            | some b => cases b <;> first
              | rfl
              | (simp only; split <;> simp [bytesV]))
      · rfl
  case fieldAddr s x f =>
    show eFieldAddr P F s x f = _
    simp only [evp, eFieldAddr, opvF_eq, faOff]
    cases opv F x with
    | none => cases P.underlying s with
      | none => rfl
      | some a => cases a <;> rfl
    | some v =>
      simp only [Option.bind_some, ptrQ_eq]
      cases P.underlying s with
      | none => cases v <;> rfl
      | some a =>
        cases a <;> cases v <;> try rfl
        rename_i fs id off
        simp only
        cases fs[f]? with
        | none => rfl
        | some fd =>
          simp only [Option.bind_some]
          cases szOf P fd.type with
          | none => rfl
          | some z =>
            simp only [Option.bind_some]
            by_cases hz : z = 0
            · simp [hz]
            · simp [hz]
  case field t x f =>
    show eField P F t x f = _
    simp only [evp, eField, opvF_eq, evFd]
    cases opv F x with
    | none => cases P.underlying t with
      | none => rfl
      | some a => cases a <;> rfl
    | some v =>
      simp only [Option.bind_some, aggQ_eq]
      cases v <;> (cases P.underlying t with
      | none => rfl
      | some a => cases a <;> rfl)
  case indexAddr t x ix =>
    show eIndexAddr P F t x ix = _
    simp only [evp, eIndexAddr, opvF_eq, evIA]
    cases opv F x with
    | none => cases P.underlying t with
      | none => rfl
      | some a => cases a <;> rfl
    | some v => cases opv F ix with
      | none => cases P.underlying t with
        | none => rfl
        | some a => cases a <;> cases v <;> rfl
      | some w =>
        simp only [Option.bind_some]
        cases P.underlying t with
        | none => rfl
        | some a => cases a <;> cases v <;> (cases natLit w <;> rfl)
  case extract x i =>
    show eExtract F x i = _
    simp only [evp, eExtract, opvF_eq, nthR_eq]
    cases opv F x with
    | none => rfl
    | some v =>
      simp only [Option.bind_some, tupQ_eq]
      cases v <;> try rfl
      exact evOpt_eq _
theorem setFF_eq (F : Fr) (d : Option Tmp) (v : V) : setFF F d v = setF F d v := by cases d <;> simp only [setFF, setF, setF_eq']
theorem opvF_fun (F : Fr) : opvF F = opv F := funext (opvF_eq F)
theorem evmF_eq (P : Program) (F : Fr) (H : Hp) (nx : Nat) (op : Op) : evmF P F H nx op = evm P F H nx op := by
  unfold evmF
  cases op <;> try rfl
  case store t a x => show mStore P F H nx t a x = _; simp only [evm, mStore, opvF_eq]
  case box t x =>
    show mBox P F H nx t x = _
    simp only [evm, mBox, opvF_eq]
    cases opv F x <;> rfl
  case call c =>
    show mCall P F H nx c = _
    obtain ⟨callee, args, ats⟩ := c
    cases callee <;> try rfl
    rename_i b
    cases b <;> try rfl
    simp only [mCall, evm, mApp, opvF_eq]
theorem evo_eq (P : Program) (pc : List T) (F : Fr) (H : Hp) (nx : Nat) (op : Op) : evo P pc F H nx op = match evp P pc F H op with
    | some r => some ⟨r.1, H, nx, r.2⟩
    | none => (evm P F H nx op).map fun r => ⟨r.1, r.2.1, r.2.2, []⟩ := by
  simp only [evo, evpF_eq, evmF_eq]
  cases evp P pc F H op with
  | some r => rfl
  | none =>
    simp only
    cases evm P F H nx op <;> rfl
theorem calleeOf_eq (funs : List (FuncId × Func)) (F : Fr) (c : Call) : calleeOf funs F c = match c.callee with
    | .value f =>
      match opv F f with
      | some (.fn (.func g) first cap) => (findF funs g).bind fun _ => (mapO (opv F) c.args.toList).map fun as => (g, first ++ as ++ cap)
      | _ => none
    | _ => none := by
  unfold calleeOf
  cases c.callee <;> try rfl
  simp only [calleeF, opvF_eq, opvF_fun]
  rfl
theorem callM_eq (call : FuncId → List V → St → Option COut) (g : FuncId × List V) (st : St) : callM call g st =
    if V.plainL g.2 then (call g.1 g.2 { st with H := [] }).map fun r => (r.1.map (fun x => (x.1, { x.2 with H := if V.plain x.1 then st.H else nonRo x.2.H ++ st.H })), r.2)
    else call g.1 g.2 st := by
  obtain ⟨f, as⟩ := g
  obtain ⟨F, H, nx, pc⟩ := st
  simp only [callM]
  cases h : V.plainL as
  · simp
  · simp only [if_true]
    cases call f as ⟨F, [], nx, pc⟩ with
    | none => rfl
    | some r =>
      simp only [Option.map_some]
      congr 2
      apply List.map_congr_left
      rintro ⟨v, ⟨F', H', nx', pc'⟩⟩ -
      simp only [callM1]
      cases V.plain v <;> rfl
theorem thenO_eq (o : Option Out) (k : St → Option Out) : thenO o k = o.bind fun a => (thenL k a.1).map fun b => (b.1, a.2 ++ b.2) := by
  unfold thenO
  split
  · rename_i e st
    simp only [Option.bind_some, List.nil_append]
    cases e
    · simp only [then1, thenL]
      cases k st with
      | none => rfl
      | some a => obtain ⟨a1, a2⟩ := a; simp
    · simp [then1, thenL]
    · simp [then1, thenL]
  · simp only [thenM, Option.bind_some]
  · rfl
theorem addVc_eq (pc vc : List T) (o : Out) : addVc pc vc o = (o.1, (vc.filter fun t => decG pc t != some true).map (fun t => (pc, t)) ++ o.2) := by
  cases vc with
  | nil => simp [addVc]
  | cons t l => rfl
theorem addVs_eq (vc : Vcs) (o : Option Out) : addVs vc o = o.map fun out => (out.1, vc ++ out.2) := by
  cases vc with
  | nil => cases o <;> simp [addVs]
  | cons t l => rfl
theorem stepK_eq (P : Program) (funs : List (FuncId × Func)) (call : FuncId → List V → St → Option COut) (o : Oper) (k : St → Option Out) (st : St) : stepK P funs call o k st =
    match isCall funs st.F o.op with
      | some g => (callM call g st).bind fun r => (eachL (fun x => k { x.2 with F := setF st.F o.dst x.1 }) r.1).map fun out => (out.1, r.2 ++ out.2)
      | none => (evo P st.pc st.F st.H st.nx o.op).bind fun r => (k { st with F := setF st.F o.dst r.v, H := r.H, nx := r.nx }).map fun out => (out.1, (r.vc.filter fun t => decG st.pc t != some true).map (fun t => (st.pc, t)) ++ out.2) := by
  obtain ⟨F, H, nx, pc⟩ := st
  simp only [stepK]
  cases isCall funs F o.op with
  | some g =>
    simp only
    cases callM call g ⟨F, H, nx, pc⟩ with
    | none => rfl
    | some r =>
      simp only [callsK, addVs_eq, Option.bind_some]
      congr 2
      funext x
      simp only [callK, setFF_eq]
  | none =>
    simp only
    cases evo P pc F H nx o.op with
    | none => rfl
    | some r =>
      simp only [evosK, evoK, setFF_eq, Option.bind_some]
      cases k ⟨setF F o.dst r.v, r.H, r.nx, pc⟩ with
      | none => rfl
      | some out => simp [addVc_eq]
theorem skipK_eq (d : Option Tmp) (k : St → Option Out) (st : St) : skipK d k st = k { st with F := setF st.F d .undef } := by simp only [skipK, setFF_eq]
theorem leaveK_eq (P : Program) (rs : List ResultVar) (F : Fr) (nx0 : Nat) (o : Option Out) : leaveK P rs F nx0 o = o.bind fun o => (leaveL P rs F nx0 o.1).map fun l => (l, o.2) := by
  unfold leaveK
  cases o with
  | none => rfl
  | some o => simp only [Option.bind_some]; cases leaveL P rs F nx0 o.1 <;> rfl
theorem run_zero (P : Program) (cs : List Ctr) (funs : List (FuncId × Func)) (c : Code) (st : St) : run P cs funs 0 c st = none := rfl
theorem run_succ (P : Program) (cs : List Ctr) (funs : List (FuncId × Func)) (n : Nat) (c : Code) (st : St) : run P cs funs (n + 1) c st = match c with
    | .skip | .label _ => some ([(.nrm, st)], [])
    | .seq a b => thenO (run P cs funs n a st) (run P cs funs n b)
    | .cond c x y =>
      match opv st.F c with
      | some (.bool t) => splitT st t (run P cs funs n x) (run P cs funs n y)
      | _ => none
    | .block id c => (run P cs funs n c st).map fun o => (o.1.map fun e => (catchE id e.1, e.2), o.2)
    | .loop c => thenO (run P cs funs n c st) (run P cs funs n (.loop c))
    | .scope c => run P cs funs n c st
    | .exit id => some ([(.ext id, st)], [])
    | .ret => some ([(.ret, st)], [])
    | .region _ ops false => runOps P funs (callF P cs funs (run P cs funs n)) ops ops.toList st
    | .region _ ops true => runDD P funs (callF P cs funs (run P cs funs n)) ops st
    | _ => none := by
  have e : run P cs funs (n + 1) c st = runC c P cs funs (run P cs funs n) st := rfl
  rw [e]
  cases c <;> try rfl
  case region id ops draw =>
    show regionK P cs funs _ ops draw st = _
    cases draw <;> rfl
  case cond c x y =>
    show condK _ c x y st = _
    simp only [condK, opvF_eq]
    rfl
end Go.Proofs.Ytehbfajmileefaa.Vx
