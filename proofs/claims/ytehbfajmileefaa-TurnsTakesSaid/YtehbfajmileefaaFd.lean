import Derived.Test.YtehbfajmileefaaFb
namespace Go.Proofs.Ytehbfajmileefaa.Fx
open Go.RowKit Go.Proofs.Ytehbfajmileefaa.Vx
set_option linter.unusedVariables false
set_option linter.unusedSimpArgs false
def Nb (F : F8) (N : Nat) : Prop := ∀ t, t < N → (gT t F).toV ≠ .bad
theorem hop {F : F8} {N : Nat} (hN : N ≤ 511) (hb : Nb F N) {x : Operand} (h : okO N x = true) : opv (toFr F N) x = some (gX x F).toV := by
  cases x with
  | tmp t =>
    simp only [okO, Nat.blt_eq] at h
    simp only [opv, toFr_get h hN]
    have := hb t h
    show (match some (gT t F).toV with | some .bad => none | r => r) = some (gT t F).toV
    split
    · rename_i he; simp at he; exact absurd he this
    · rfl
  | const v =>
    simp only [okO, Option.isSome_iff_exists] at h
    obtain ⟨u, hu⟩ := h
    simp only [opv, hu, gX, kX, Option.getD_some, toX_toV]
  | global g => simp [okO] at h
  | func f => rfl
theorem hops {F : F8} {N : Nat} (hN : N ≤ 511) (hb : Nb F N) : ∀ {l : List Operand}, (∀ x ∈ l, okO N x = true) → mapO (opv (toFr F N)) l = some (l.map fun x => (gX x F).toV)
  | [], _ => rfl
  | x :: l, h => by
    simp only [mapO, hop hN hb (h x (by simp)), Option.bind_some, hops (l := l) hN hb (fun y hy => h y (List.mem_cons_of_mem _ hy)), Option.map_some, List.map_cons]
def Stp (P : Program) (N : Nat) (op : Op) (d : S) (f : OF) : Prop :=
  ∀ (cl : Cl) (k : K) (F : F8) (M : Mm) (r : RX), Nb F N → f cl k F M = r → r ≠ .no → ∃ x H' nx' lw', evo P [] (toFr F N) M.H M.nx op = some ⟨x.toV, H', nx', []⟩ ∧ k (d x F) ⟨H', nx', lw'⟩ = r
def Pur (P : Program) (N : Nat) (op : Op) (d : S) (f : OF) : Prop :=
  ∀ (cl : Cl) (k : K) (F : F8) (M : Mm) (r : RX), Nb F N → f cl k F M = r → r ≠ .no → ∃ x, evp P [] (toFr F N) M.H op = some (x.toV, []) ∧ k (d x F) M = r
section
variable {P : Program} {N : Nat} {d : S}
theorem Pur.stp {op : Op} {f : OF} (h : Pur P N op d f) : Stp P N op d f := by
  intro cl k F M r hb hf hr
  obtain ⟨x, h1, h2⟩ := h cl k F M r hb hf hr
  exact ⟨x, M.H, M.nx, M.lw, by rw [evo_eq, h1], h2⟩
theorem evoM {F : Fr} {H : Hp} {nx : Nat} {op : Op} {v : V} {H' : Hp} {nx' : Nat} (h1 : evp P [] F H op = none) (h2 : evm P F H nx op = some (v, H', nx')) : evo P [] F H nx op = some ⟨v, H', nx', []⟩ := by
  rw [evo_eq, h1]
  simp [h2]
theorem pur_move {x : Operand} (hN : N ≤ 511) (hx : okO N x = true) : Pur P N (.move x) d (oMove (gX x) d) := by
  intro cl k F M r hb hf hr
  simp only [oMove, fX_eq] at hf
  exact ⟨_, by simp only [evp, hop hN hb hx, Option.map_some], hf⟩
theorem pur_assign {x : Operand} (hN : N ≤ 511) (hx : okO N x = true) : Pur P N (.assign x) d (oMove (gX x) d) := by
  intro cl k F M r hb hf hr
  simp only [oMove, fX_eq] at hf
  exact ⟨_, by simp only [evp, hop hN hb hx, Option.map_some], hf⟩
theorem pur_pick {c a b : Operand} (hN : N ≤ 511) (hc : okO N c = true) (ha : okO N a = true) (hb' : okO N b = true) : Pur P N (.pick c a b) d (oPick (gX c) (gX a) (gX b) d) := by
  intro cl k F M r hb hf hr
  simp only [oPick, fX_eq] at hf
  obtain ⟨t, ht, hf⟩ := caseB_some hf hr
  have h1 := hop hN hb hc
  rw [ht] at h1
  cases t with
  | true =>
    simp only [ifB_eq, if_true] at hf
    exact ⟨_, by simp only [evp, h1, X.toV, pick_true, hop hN hb ha, Option.map_some], hf⟩
  | false =>
    simp only [ifB_eq, Bool.false_eq_true, if_false] at hf
    exact ⟨_, by simp only [evp, h1, X.toV, pick_false, hop hN hb hb', Option.map_some], hf⟩
theorem binI_some {op : BinOp} {kd : IntKind} {m n : Int} {k : X → RX} {r : RX} (h : binI op kd m n k = r) (hr : r ≠ .no) : ∃ x, litBin op kd m n = some (x.toV, []) ∧ k x = r := by
  cases op <;> simp only [binI, fI_eq, fB_eq] at h <;> first
    | exact absurd h.symm hr
    | exact ⟨_, rfl, h⟩
theorem pur_bin {op : BinOp} {t q : TypeId} {x y : Operand} (hN : N ≤ 511) (hx : okO N x = true) (hy : okO N y = true) : Pur P N (.binOp op t x y q) d (oBin op (gX x) (gX y) d) := by
  intro cl k F M r hb hf hr
  simp only [oBin] at hf
  obtain ⟨kd, m, hm, hf⟩ := caseI_some hf hr
  obtain ⟨kd', n, hn, hf⟩ := caseI_some hf hr
  obtain ⟨hk, hf2⟩ := ifB_some hf hr
  rw [ikF_eq] at hk
  have hk := of_decide_eq_true hk
  obtain ⟨z, hz, hf3⟩ := binI_some hf2 hr
  have h1 := hop hN hb hx
  have h2 := hop hN hb hy
  rw [hm] at h1
  rw [hn, ← hk] at h2
  exact ⟨z, by simp only [evp, h1, h2, X.toV, Option.bind_some]; exact litBin_ok hz, hf3⟩
theorem notB_eq (b : Bool) : notB b = !b := by cases b <;> rfl
theorem pur_not {t : TypeId} {x : Operand} (hN : N ≤ 511) (hx : okO N x = true) : Pur P N (.unOp .not t x) d (oNot (gX x) d) := by
  intro cl k F M r hb hf hr
  simp only [oNot, fB_eq] at hf
  obtain ⟨b, hb', hf⟩ := caseB_some hf hr
  have h1 := hop hN hb hx
  rw [hb'] at h1
  exact ⟨.b (notB b), by simp only [evp, h1, X.toV, mkNot, notB_eq], hf⟩
theorem pur_eqT {neg : Bool} {t q : TypeId} {x y : Operand} (hN : N ≤ 511) (hx : okO N x = true) (hy : okO N y = true) : Pur P N (.binOp (match neg with | false => .eql | true => .neq) t x y q) d (oEqT neg (gX x) (gX y) d) := by
  intro cl k F M r hb hf hr
  simp only [oEqT] at hf
  obtain ⟨v, hv, hf1⟩ := caseV_some hf hr
  obtain ⟨u, hu, hf2⟩ := caseV_some hf1 hr
  obtain ⟨a, ha, hf3⟩ := strR_some hf2 hr
  obtain ⟨b, hb2, hf4⟩ := strR_some hf3 hr
  obtain ⟨s, hs, hf5⟩ := optR_some hf4 hr
  obtain ⟨s', hs', hf6⟩ := optR_some hf5 hr
  rw [ha, strQ_some hs] at hv
  rw [hb2, strQ_some hs'] at hu
  rw [fB_eq] at hf6
  clear hf hf1 hf2 hf3 hf4 hf5
  have hf := hf6
  have h1 := hop hN hb hx
  have h2 := hop hN hb hy
  rw [hv] at h1
  rw [hu] at h2
  have e : sEqB s s' = eqBs s.data.toList s'.data.toList := by rw [eqBs_eq]; rfl
  cases neg with
  | false => exact ⟨.b (eqBs s.data.toList s'.data.toList), by simp only [evp, h1, h2, X.toV, Option.bind_some, binV, mkSeq, e], hf⟩
  | true => exact ⟨.b (notB (eqBs s.data.toList s'.data.toList)), by simp only [evp, h1, h2, X.toV, Option.bind_some, binV, mkSeq, mkNot, e, notB_eq], hf⟩
theorem pur_load1 {t : TypeId} {x : Operand} (hN : N ≤ 511) (hx : okO N x = true) (ht : aggB P t = some false) : Pur P N (.load t x) d (oLoad1 (gX x) d) := by
  intro cl k F M r hb hf hr
  simp only [oLoad1] at hf
  obtain ⟨v, hv, hf⟩ := caseV_some hf hr
  obtain ⟨id, off, rfl, hf⟩ := ptrR_some hf hr
  obtain ⟨b, hbk, hf⟩ := optR_some hf hr
  obtain ⟨hmp, hf⟩ := blkR_some hf hr
  obtain ⟨u, hu, hf⟩ := optR_some hf hr
  obtain ⟨h1, hf⟩ := ifB_some hf hr
  rw [fX_eq] at hf
  have h2 := hop hN hb hx
  rw [hv] at h2
  rw [lookF_eq] at hbk
  have hbk := look_lookC hbk hmp
  rw [nthR_eq] at hu
  rw [oneF_eq] at h1
  exact ⟨V.toX u, by rw [toX_toV]; simp only [evp, h2, X.toV, hbk, Option.bind_some, partV, ht, hu, h1, if_true, Option.map_some], hf⟩
theorem pur_loadN {t : TypeId} {n : Nat} {x : Operand} (hN : N ≤ 511) (hx : okO N x = true) (ht : aggB P t = some true) (hn : szOf P t = some (n + 1)) : Pur P N (.load t x) d (oLoadN (n + 1) (gX x) d) := by
  intro cl k F M r hb hf hr
  simp only [oLoadN] at hf
  obtain ⟨v, hv, hf⟩ := caseV_some hf hr
  obtain ⟨id, off, rfl, hf⟩ := ptrR_some hf hr
  obtain ⟨b, hbk, hf⟩ := optR_some hf hr
  obtain ⟨hmp, hf⟩ := blkR_some hf hr
  obtain ⟨l, hl, hf⟩ := optR_some hf hr
  have h2 := hop hN hb hx
  rw [hv] at h2
  rw [lookF_eq] at hbk
  have hbk := look_lookC hbk hmp
  rw [takeR_eq, dropR_eq] at hl
  split at hl <;> simp at hl
  rename_i hle
  subst hl
  simp at hle
  exact ⟨.v (.agg _), by simp only [evp, h2, X.toV, hbk, Option.bind_some, partV, ht, hn]; rw [if_pos (by omega)]; rfl, hf⟩
theorem pur_fieldAddr {t : TypeId} {f z : Nat} {fs : Array Field} {fd : Field} {x : Operand} (hN : N ≤ 511) (hx : okO N x = true) (ht : P.underlying t = some (.struct fs)) (hf' : fs[f]? = some fd) (hz : szOf P fd.type = some (z + 1)) :
    Pur P N (.fieldAddr t x f) d (oFieldAddr fd.offset (gX x) d) := by
  intro cl k F M r hb hf hr
  simp only [oFieldAddr, fN_eq] at hf
  obtain ⟨v, hv, hf⟩ := caseV_some hf hr
  obtain ⟨id, off, rfl, hf⟩ := ptrR_some hf hr
  have h2 := hop hN hb hx
  rw [hv] at h2
  exact ⟨.v (.ptr id (off + fd.offset)), by simp [evp, h2, X.toV, ht, hf', hz], hf⟩
theorem intRec_some {n : Int} {k : Nat → RX} {r : RX} (h : (Int.rec (motive := fun _ => RX) k (fun _ => .no) n : RX) = r) (hr : r ≠ .no) : ∃ m : Nat, n = .ofNat m ∧ k m = r := by
  cases n with
  | ofNat m => exact ⟨m, rfl, h⟩
  | negSucc m => exact absurd h.symm hr
theorem pur_indexAddr {t e : TypeId} {z : Nat} {x i : Operand} (hN : N ≤ 511) (hx : okO N x = true) (hi : okO N i = true) (ht : P.underlying t = some (.slice e)) (hz : szOf P e = some z) :
    Pur P N (.indexAddr t x i) d (oIndexAddr z (gX x) (gX i) d) := by
  intro cl k F M r hb hf hr
  simp only [oIndexAddr, fN_eq] at hf
  obtain ⟨v, hv, hf⟩ := caseV_some hf hr
  obtain ⟨kd, n, hn, hf⟩ := caseI_some hf hr
  rcases slR_some hf hr with ⟨-, hf⟩ | ⟨id, off, len, c, rfl, hf⟩
  · exact absurd hf.symm hr
  obtain ⟨m, rfl, hf⟩ := intRec_some hf hr
  obtain ⟨hlt, hf⟩ := ifB_some hf hr
  have h1 := hop hN hb hx
  have h2 := hop hN hb hi
  rw [hv] at h1
  rw [hn] at h2
  exact ⟨.v (.ptr id (off + m * z)), by simp only [evp, h1, h2, X.toV, ht, Option.bind_some, natLit, hz]; rw [if_pos (by simpa using hlt)], hf⟩
theorem pur_indexArr {t e : TypeId} {n z : Nat} {x i : Operand} (hN : N ≤ 511) (hx : okO N x = true) (hi : okO N i = true) (ht : P.underlying t = some (.array n e)) (hz : szOf P e = some z) :
    Pur P N (.indexAddr t x i) d (oIndexArr n z (gX x) (gX i) d) := by
  intro cl k F M r hb hf hr
  simp only [oIndexArr, fN_eq] at hf
  obtain ⟨v, hv, hf⟩ := caseV_some hf hr
  obtain ⟨kd, q, hn, hf⟩ := caseI_some hf hr
  obtain ⟨id, off, rfl, hf⟩ := ptrR_some hf hr
  obtain ⟨m, rfl, hf⟩ := intRec_some hf hr
  obtain ⟨hlt, hf⟩ := ifB_some hf hr
  have h1 := hop hN hb hx
  have h2 := hop hN hb hi
  rw [hv] at h1
  rw [hn] at h2
  exact ⟨.v (.ptr id (off + m * z)), by simp only [evp, h1, h2, X.toV, ht, Option.bind_some, natLit, hz]; rw [if_pos (by simpa using hlt)], hf⟩
theorem pur_lenS {t e q : TypeId} {x : Operand} (hN : N ≤ 511) (hx : okO N x = true) (ht : P.underlying t = some (.slice e)) {args : Array Operand} {ts : Array TypeId} (ha : args.toList = [x]) (hts : ts.toList = [t]) :
    Pur P N (.call { callee := .builtin .len, args := args, argTypes := ts }) d (oLenS (gX x) d) := by
  intro cl k F M r hb hf hr
  simp only [oLenS] at hf
  obtain ⟨v, hv, hf⟩ := caseV_some hf hr
  have h1 := hop hN hb hx
  rw [hv] at h1
  rcases slE_some hf hr with ⟨rfl, hf⟩ | ⟨i, rfl, hb2, hf⟩ | ⟨id, off, len, c, rfl, hf⟩
  · exact ⟨.i .i64 (.ofNat 0), by simp only [evp, ha, hts, h1, X.toV, Option.bind_some, lenM, lenV, ht, Option.map_some]; rfl, hf⟩
  · exact ⟨.i .i64 (.ofNat 0), by simp only [evp, ha, hts, h1, X.toV, Option.bind_some, lenM, lenV, ht, hb2, cond_true, Option.map_some]; rfl, hf⟩
  · exact ⟨.i .i64 (.ofNat len), by simp only [evp, ha, hts, h1, X.toV, Option.bind_some, lenM, lenV, ht, Option.map_some]; rfl, hf⟩
theorem pur_lenT {t : TypeId} {x : Operand} (hN : N ≤ 511) (hx : okO N x = true) (ht : P.underlying t = some .string) {args : Array Operand} {ts : Array TypeId} (ha : args.toList = [x]) (hts : ts.toList = [t]) :
    Pur P N (.call { callee := .builtin .len, args := args, argTypes := ts }) d (oLenT (gX x) d) := by
  intro cl k F M r hb hf hr
  simp only [oLenT, fN_eq] at hf
  obtain ⟨v, hv, hf⟩ := caseV_some hf hr
  obtain ⟨a, rfl, hf⟩ := strR_some hf hr
  obtain ⟨s, hs, hf⟩ := optR_some hf hr
  obtain rfl := strQ_some hs
  have h1 := hop hN hb hx
  rw [hv] at h1
  exact ⟨.i .i64 (.ofNat s.data.toList.length), by simp only [evp, ha, hts, h1, X.toV, Option.bind_some, lenM, lenV, ht, Option.map_some, mkLen]; rfl, hf⟩
theorem pur_indexT {t : TypeId} {x i : Operand} (hN : N ≤ 511) (hx : okO N x = true) (hi : okO N i = true) (ht : P.underlying t = some .string) : Pur P N (.index t x i) d (oIndexT (gX x) (gX i) d) := by
  intro cl k F M r hb hf hr
  simp only [oIndexT] at hf
  obtain ⟨v, hv, hf⟩ := caseV_some hf hr
  obtain ⟨kd, n, hn, hf⟩ := caseI_some hf hr
  obtain ⟨a, rfl, hf⟩ := strR_some hf hr
  obtain ⟨s, hs, hf⟩ := optR_some hf hr
  obtain rfl := strQ_some hs
  obtain ⟨m, rfl, hf⟩ := intRec_some hf hr
  obtain ⟨c, hc, hf⟩ := optR_some hf hr
  rw [fN_eq] at hf
  rw [nthB_eq] at hc
  have h1 := hop hN hb hx
  have h2 := hop hN hb hi
  rw [hv] at h1
  rw [hn] at h2
  exact ⟨.i .u8 (.ofNat c.toNat), by simp only [evp, h1, h2, X.toV, ht, hc, Option.map_some]; rfl, hf⟩
theorem pur_ext {i : Nat} {x : Operand} (hN : N ≤ 511) (hx : okO N x = true) : Pur P N (.extract x i) d (oExt i (gX x) d) := by
  intro cl k F M r hb hf hr
  simp only [oExt, fX_eq] at hf
  obtain ⟨v, hv, hf⟩ := caseV_some hf hr
  obtain ⟨l, rfl, hf⟩ := tupR_some hf hr
  obtain ⟨u, hu, hf⟩ := optR_some hf hr
  rw [nthR_eq] at hu
  have h1 := hop hN hb hx
  rw [hv] at h1
  exact ⟨V.toX u, by rw [toX_toV]; simp only [evp, h1, X.toV, hu, Option.map_some], hf⟩
theorem pur_conv {s t : TypeId} {k1 k2 : IntKind} {x : Operand} (hN : N ≤ 511) (hx : okO N x = true) (hs : P.underlying s = some (.int k1)) (ht : P.underlying t = some (.int k2)) : Pur P N (.convert s t x) d (oConv k2 (gX x) d) := by
  intro cl k F M r hb hf hr
  simp only [oConv, fI_eq] at hf
  obtain ⟨kd, n, hn, hf⟩ := caseI_some hf hr
  have h1 := hop hN hb hx
  rw [hn] at h1
  exact ⟨.i k2 (wrapF k2 n), by simp only [evp, h1, hs, ht, X.toV, convT, wrapF_eq], hf⟩
theorem pur_fn {f : Nat} {as bs : Array Operand} (hN : N ≤ 511) (ha : ∀ x ∈ as.toList, okO N x = true) (hb' : ∀ x ∈ bs.toList, okO N x = true) : Pur P N (.makeFunc (.func f) as bs) d (oFn f (as.toList.map gX) (bs.toList.map gX) d) := by
  intro cl k F M r hb hf hr
  simp only [oFn, List.map_map] at hf
  exact ⟨.v (.fn (.func f) (as.toList.map fun x => (gX x F).toV) (bs.toList.map fun x => (gX x F).toV)), by simp only [evp, hops hN hb ha, hops hN hb hb', Option.bind_some, Option.map_some, X.toV], hf⟩
theorem fill_some {F : F8} (hN : N ≤ 511) (hb : Nb F N) {pl : Nat → Option (Nat × Nat)} : ∀ {ps : List (Nat × Operand)} {l : List (Nat × Nat × Operand)} {cells c : List V}, partG pl ps = some l → (∀ q ∈ ps, okO N q.2 = true) → fillP F (partX l) cells = some c →
    ∃ qs, mapO (fun (q : Nat × Operand) => (opv (toFr F N) q.2).map fun v => (q.1, v)) ps = some qs ∧ fillV pl cells qs = some c
  | [], l, cells, c, h, _, hf => by
    simp [partG] at h
    subst h
    exact ⟨[], rfl, hf⟩
  | (i, x) :: ps, l, cells, c, h, hok, hf => by
    simp only [partG, Option.bind_eq_some_iff, Option.map_eq_some_iff] at h
    obtain ⟨q, hq, m, hm, rfl⟩ := h
    have e : fillP F (partX ((q.1, q.2, x) :: m)) cells = (Bool.rec (motive := fun _ => Option (List V)) none (Option.rec (motive := fun _ => Option (List V)) none (fun c => fillP F (partX m) c) (setL cells q.1 (gX x F).cells)) (lenB (gX x F).cells q.2)) := rfl
    rw [e] at hf
    cases hl : lenB (gX x F).cells q.2 with
    | false => rw [hl] at hf; simp at hf
    | true =>
      rw [hl] at hf
      rw [lenB_eq] at hl
      simp at hl
      rw [setL_eq] at hf
      by_cases hle : q.1 + (gX x F).cells.length ≤ cells.length
      · rw [if_pos hle] at hf
        simp only at hf
        obtain ⟨qs, h1, h2⟩ := fill_some hN hb hm (fun y hy => hok y (by simp [hy])) hf
        refine ⟨(i, (gX x F).toV) :: qs, by simp only [mapO, hop hN hb (hok (i, x) (by simp)), Option.map_some, Option.bind_some, h1], ?_⟩
        unfold fillV
        rw [hq]
        rw [toV_one] at hl hle h2
        simp only
        rw [if_pos ⟨hl, by omega⟩]
        exact h2
      · rw [if_neg hle] at hf
        simp at hf
theorem pur_build {t : TypeId} {ps : Array (Nat × Operand)} {z : V} {fs : Array Field} {pl : List (Nat × Nat)} {l : List (Nat × Nat × Operand)} (hN : N ≤ 511) (hok : ∀ q ∈ ps.toList, okO N q.2 = true) (hz : zeroV P t = some z) (ht : P.underlying t = some (.struct fs))
    (hpl : mapO (fun (f : Field) => (szOf P f.type).map fun s => (f.offset, s)) fs.toList = some pl) (hl : partG (fun i => pl[i]?) ps.toList = some l) : Pur P N (.build t ps) d (oBuild z.cells (partX l) d) := by
  intro cl k F M r hb hf hr
  simp only [oBuild] at hf
  obtain ⟨c, hc, hf⟩ := optR_some hf hr
  obtain ⟨qs, h1, h2⟩ := fill_some hN hb hl hok hc
  exact ⟨.v (.agg c), by simp only [evp, buildV, hz, ht, partsV, h1, hpl, h2, Option.bind_some, Option.map_some, X.toV], hf⟩
theorem newR_eq (M : Mm) (b : Blk) (v : Nat → X) (s : S) (F : F8) (k : K) : newR M b v s F k = k (s (v M.nx) F) ⟨(M.nx, b) :: M.H, M.nx + 1, M.lw⟩ := by cases M; rfl
theorem stp_alloc {t n : Nat} {z : V} (hz : zeroV P t = some z) (hn : szOf P t = some n) : Stp P N (.alloc t) d (oAlloc t n z.cells d) := by
  intro cl k F M r hb hf hr
  simp only [oAlloc, newR_eq] at hf
  exact ⟨ptr0 M.nx, _, _, _, evoM (by simp [evp]) (by simp only [evm, hz, hn, Option.bind_some]; rfl), hf⟩
theorem stp_box {t n : Nat} {x : Operand} (hN : N ≤ 511) (hx : okO N x = true) (hn : szOf P t = some n) : Stp P N (.box t x) d (oBox t n (gX x) d) := by
  intro cl k F M r hb hf hr
  simp only [oBox, newR_eq, fX_eq, toV_one] at hf
  exact ⟨ptr0 M.nx, _, _, _, evoM (by simp [evp]) (by simp only [evm, hop hN hb hx, hn, Option.bind_some]; rfl), hf⟩
theorem cells_one {v : V} (h : v.one = true) : v.cells = [v] ∧ allOne v.cells = true := by
  cases v <;> simp [V.one] at h <;> simp [V.cells, allOne, V.one]
theorem stp_store1 {t : TypeId} {a x : Operand} (hN : N ≤ 511) (ha : okO N a = true) (hx : okO N x = true) (hn : szOf P t = some 1) : Stp P N (.store t a x) d (oStore1 (gX a) (gX x) d) := by
  intro cl k F M r hb hf hr
  simp only [oStore1, fX_eq, mmR_eq] at hf
  obtain ⟨v, hv, hf⟩ := caseV_some hf hr
  obtain ⟨id, off, rfl, hf⟩ := ptrR_some hf hr
  obtain ⟨h1, hf⟩ := ifB_some hf hr
  obtain ⟨H', hH, hf⟩ := optR_some hf hr
  obtain ⟨lw, hf⟩ := lwX_some hf
  obtain ⟨b, c, hbk, hc, rfl⟩ := updF_some hH
  obtain ⟨c0, c1, c2, rfl⟩ := stB_some hc
  have hbk := look_lookC hbk c0
  rw [oneF_eq] at h1
  obtain ⟨e1, e2⟩ := cells_one h1
  have h2 := hop hN hb ha
  rw [hv] at h2
  refine ⟨.undef, _, _, _, evoM (by simp [evp]) ?_, hf⟩
  have h3 := hop hN hb hx
  generalize (gX x F).toV = u at *
  simp only [evm, h2, h3, X.toV, hbk, Option.bind_some, hn]
  split
  · rw [e1]
  · rename_i hng
    exact absurd ⟨by rw [e1]; rfl, by omega, e2, c1⟩ hng
theorem stp_storeN {t n : Nat} {a x : Operand} (hN : N ≤ 511) (ha : okO N a = true) (hx : okO N x = true) (hn : szOf P t = some n) : Stp P N (.store t a x) d (oStoreN n (gX a) (gX x) d) := by
  intro cl k F M r hb hf hr
  simp only [oStoreN, mmR_eq] at hf
  obtain ⟨v, hv, hf⟩ := caseV_some hf hr
  obtain ⟨id, off, rfl, hf⟩ := ptrR_some hf hr
  obtain ⟨u, hu, hf⟩ := caseV_some hf hr
  obtain ⟨l, rfl, hf⟩ := aggR_some hf hr
  obtain ⟨h1, hf⟩ := ifB_some hf hr
  obtain ⟨h3, hf⟩ := ifB_some hf hr
  obtain ⟨H', hH, hf⟩ := optR_some hf hr
  obtain ⟨lw, hf⟩ := lwX_some hf
  obtain ⟨b, c, hbk, hc, rfl⟩ := updF_some hH
  obtain ⟨c0, c1, c2, rfl⟩ := stL_some hc
  have hbk := look_lookC hbk c0
  have h1 := Nat.eq_of_beq_eq_true h1
  have h2 := hop hN hb ha
  have h4 := hop hN hb hx
  rw [hv] at h2
  rw [hu] at h4
  refine ⟨.undef, _, _, _, evoM (by simp [evp]) ?_, hf⟩
  simp only [evm, h2, h4, X.toV, hbk, Option.bind_some, hn]
  split
  · rfl
  · rename_i hng
    exact absurd ⟨h1, by omega, h3, c1⟩ hng
theorem orR_some {o : OR} {k : X → Hp → Nat → RX} {r : RX} (h : orR o k = r) (hr : r ≠ .no) : o.vc = [] ∧ k (V.toX o.v) o.H o.nx = r := by
  obtain ⟨v, H, nx, vc⟩ := o
  cases vc with
  | nil => simp only [orR, fX_eq] at h; exact ⟨rfl, h⟩
  | cons a l => exact absurd h.symm hr
theorem stp_gen {op : Op} {w : Bool} : Stp P N op d (oGen P op N w d) := by
  intro cl k F M r hb hf hr
  simp only [oGen, mmR_eq] at hf
  obtain ⟨o, ho, hf⟩ := optR_some hf hr
  obtain ⟨h1, hf⟩ := orR_some hf hr
  obtain ⟨v, H, nx, vc⟩ := o
  simp only at h1
  subst h1
  exact ⟨V.toX v, H, nx, _, by rw [toX_toV]; exact ho, hf⟩
end
end Go.Proofs.Ytehbfajmileefaa.Fx
