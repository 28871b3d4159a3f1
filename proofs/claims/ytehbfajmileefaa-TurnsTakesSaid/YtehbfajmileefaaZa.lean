import Derived.Test.YtehbfajmileefaaFh
namespace Go.Proofs.Ytehbfajmileefaa.Px
open Go.RowKit Go.Proofs.Ytehbfajmileefaa.Vx Go.Proofs.Ytehbfajmileefaa.Fx
set_option linter.unusedVariables false
set_option linter.unusedSimpArgs false
noncomputable def bd (r : RX) (kn : F8 → Mm → CX) (ke : Nat → F8 → Mm → CX) (kr : F8 → Mm → CX) : CX := RX.rec (motive := fun _ => CX) kn ke kr .no r
def binB (op : BinOp) (kd : IntKind) (m n : Int) : Option X := match op with
  | .add => some (.i kd (kd.wrap (m + n)))
  | .sub => some (.i kd (kd.wrap (m - n)))
  | .mul => some (.i kd (kd.wrap (m * n)))
  | .eql => some (.b (decide (m = n)))
  | .neq => some (.b (!decide (m = n)))
  | .lss => some (.b (decide (m < n)))
  | .leq => some (.b (decide (m ≤ n)))
  | .gtr => some (.b (decide (n < m)))
  | .geq => some (.b (decide (n ≤ m)))
  | _ => none
def oC {α : Type} (o : Option α) (k : α → CX) : CX := match o with
  | some a => k a
  | none => .no
noncomputable def vBin (op : BinOp) (x y : X) (k : X → CX) : CX := match x, y with
  | .i kd m, .i kd' n => if kd = kd' then oC (binB op kd m n) k else .no
  | _, _ => .no
noncomputable def vNot (x : X) (k : X → CX) : CX := match x with
  | .b t => k (.b (!t))
  | _ => .no
noncomputable def vIf (x : X) (a b : CX) : CX := match x with
  | .b t => if t = true then a else b
  | _ => .no
noncomputable def vPick (c x y : X) (k : X → CX) : CX := match c with
  | .b t => k (if t = true then x else y)
  | _ => .no
noncomputable def vConv (kd : IntKind) (x : X) (k : X → CX) : CX := match x with
  | .i _ n => k (.i kd (kd.wrap n))
  | _ => .no
noncomputable def vLoad1 (x : X) (M : Mm) (k : X → CX) : CX := match x with
  | .v (.ptr id off) => oC (lookC M.H id) fun b => oC b.cells[off]? fun u => if u.one = true then k (V.toX u) else .no
  | _ => .no
noncomputable def vLoadN (n : Nat) (x : X) (M : Mm) (k : X → CX) : CX := match x with
  | .v (.ptr id off) => oC (lookC M.H id) fun b => if n ≤ (b.cells.drop off).length then k (.v (.agg ((b.cells.drop off).take n))) else .no
  | _ => .no
noncomputable def vFieldAddr (d : Nat) (x : X) (k : X → CX) : CX := match x with
  | .v (.ptr id off) => k (.v (.ptr id (off + d)))
  | _ => .no
noncomputable def vIndexAddr (z : Nat) (x i : X) (k : X → CX) : CX := match x, i with
  | .v (.sl id off len _), .i _ n => if 0 ≤ n ∧ n < len then k (.v (.ptr id (off + n.toNat * z))) else .no
  | _, _ => .no
noncomputable def vIndexArr (m z : Nat) (x i : X) (k : X → CX) : CX := match x, i with
  | .v (.ptr id off), .i _ n => if 0 ≤ n ∧ n < m then k (.v (.ptr id (off + n.toNat * z))) else .no
  | _, _ => .no
noncomputable def vLenS (x : X) (k : X → CX) : CX := match x with
  | .v .nils => k (.i .i64 0)
  | .v (.sl _ _ n _) => k (.i .i64 n)
  | .v (.val i) => bif Nat.beq (i % 2) 1 then k (.i .i64 0) else .no
  | _ => .no
noncomputable def vLenT (x : X) (k : X → CX) : CX := match x with
  | .v (.str (.str b)) => k (.i .i64 b.data.toList.length)
  | _ => .no
noncomputable def vIndexT (x i : X) (k : X → CX) : CX := match x, i with
  | .v (.str (.str b)), .i _ n => if 0 ≤ n then oC b.data.toList[n.toNat]? fun c => k (.i .u8 c.toNat) else .no
  | _, _ => .no
noncomputable def vEqT (neg : Bool) (x y : X) (k : X → CX) : CX := match x, y with
  | .v (.str (.str a)), .v (.str (.str b)) => k (.b (if neg = true then !decide (a.data.toList = b.data.toList) else decide (a.data.toList = b.data.toList)))
  | _, _ => .no
noncomputable def vExt (i : Nat) (x : X) (k : X → CX) : CX := match x with
  | .v (.tup l) => oC l[i]? fun u => k (V.toX u)
  | _ => .no
noncomputable def lwN (u : X) (id lw : Nat) : Nat := match u with
  | .v v => if V.plain v = true then lw else minN id lw
  | _ => lw
noncomputable def vStore1 (x u : X) (M : Mm) (k : X → Mm → CX) : CX := match x with
  | .v (.ptr id off) => if u.toV.one = true then oC (updF M.H id (stB off u.toV)) fun H => k (.v .undef) ⟨H, M.nx, lwN u id M.lw⟩ else .no
  | _ => .no
noncomputable def vStoreN (n : Nat) (x u : X) (M : Mm) (k : X → Mm → CX) : CX := match x, u with
  | .v (.ptr id off), .v (.agg l) => if l.length = n then (if allOne l = true then oC (updF M.H id (stL off l)) fun H => k (.v .undef) ⟨H, M.nx, lwN u id M.lw⟩ else .no) else .no
  | _, _ => .no
noncomputable def vAlloc (t z : Nat) (cells : List V) (M : Mm) (k : X → Mm → CX) : CX := k (.v (.ptr M.nx 0)) ⟨(M.nx, ⟨t, z, cells, false, false⟩) :: M.H, M.nx + 1, M.lw⟩
noncomputable def vBox (t z : Nat) (x : X) (M : Mm) (k : X → Mm → CX) : CX := vAlloc t z x.cells M k
noncomputable def vFill : List (Nat × Nat × X) → List V → Option (List V)
  | [], cells => some cells
  | (off, z, x) :: ps, cells => if x.cells.length = z then (setL cells off x.cells).bind fun c => vFill ps c else none
noncomputable def vBuild (z : List V) (ps : List (Nat × Nat × X)) (k : X → CX) : CX := oC (vFill ps z) fun l => k (.v (.agg l))
noncomputable def vCall (cl : Cl) (f : Nat) (xs : List X) (M : Mm) (k : X → Mm → CX) : CX := match cl f xs M with
  | .val x M' => k x ⟨M'.H, M'.nx, minN M'.lw M.lw⟩
  | .no => .no
noncomputable def vCallV (cl : Cl) (g : X) (xs : List X) (M : Mm) (k : X → Mm → CX) : CX := match g with
  | .v (.fn (.func f) a b) => vCall cl f (a.map V.toX ++ (xs ++ b.map V.toX)) M k
  | _ => .no
noncomputable def vFn (f : Nat) (as bs : List X) (k : X → CX) : CX := k (.v (.fn (.func f) (as.map X.toV) (bs.map X.toV)))
noncomputable def vGuard (c : X) (want : Bool) (o : (X → Mm → CX) → CX) (M : Mm) (k : X → Mm → CX) : CX := match c with
  | .i _ _ => .no
  | .b b => if b = want then o k else k (.v .undef) M
  | .v v => if isU (.v v) = true then k (.v .undef) M else .no
noncomputable def nB (x : X) : Option V := match x.toV with
  | .bad => none
  | v => some v
noncomputable def nBo : Option X → Option (Option V)
  | none => some none
  | some x => (nB x).map some
noncomputable def oR (o : Option (V × List T)) (M : Mm) (w : Bool) (k : X → Mm → CX) : CX := match o with
  | some (v, []) => k (V.toX v) ⟨M.H, M.nx, if w = true then 0 else M.lw⟩
  | _ => .no
noncomputable def oM (o : Option MR) (M : Mm) (w : Bool) (k : X → Mm → CX) : CX := match o with
  | some (v, H, nx) => k (V.toX v) ⟨H, nx, if w = true then 0 else M.lw⟩
  | _ => .no
noncomputable def vApp (P : Program) (t u : TypeId) (x y : X) (M : Mm) (k : X → Mm → CX) : CX := oM ((nB x).bind fun a => (nB y).bind fun b => appendV P t u a b M.H M.nx) M false k
noncomputable def vCopy (P : Program) (t u : TypeId) (x y : X) (M : Mm) (k : X → Mm → CX) : CX := oM ((nB x).bind fun a => (nB y).bind fun b => copyV P t a b M.H M.nx) M true k
noncomputable def vSlice (P : Program) (t : TypeId) (x : X) (lo hi mx : Option X) (M : Mm) (k : X → Mm → CX) : CX :=
  oR ((nB x).bind fun v => (nBo lo).bind fun l => (nBo hi).bind fun h => (nBo mx).bind fun m => match sliceV P M.H t v l h m with | some v => some (v, []) | none => sliceS P t v l h m) M false k
noncomputable def vBinG (P : Program) (op : BinOp) (t : TypeId) (x y : X) (M : Mm) (k : X → Mm → CX) : CX := oR ((nB x).bind fun a => (nB y).bind fun b => binV P op t a b) M false k
noncomputable def vCap (P : Program) (t : TypeId) (x : X) (M : Mm) (k : X → Mm → CX) : CX := oR ((nB x).bind fun v => (capV P t v).map fun n => (.int .i64 n, [])) M false k
noncomputable def vMM (mn : Bool) (x y : X) (M : Mm) (k : X → Mm → CX) : CX := oR ((nB x).bind fun a => (nB y).bind fun b => (minmaxV mn a b).map fun v => (v, [])) M false k
noncomputable def vMake (P : Program) (t : TypeId) (x y : X) (M : Mm) (k : X → Mm → CX) : CX := oM (match P.underlying t, (nB x).bind natLit, (nB y).bind natLit with
  | some (.slice e), some ln, some cp => (P.info? e).bind fun i => (zeroV P e).bind fun z =>
      if ln ≤ cp ∧ cp * i.bytes ≤ maxBytes ∧ cp ≤ maxBytes ∧ z.cells.length = i.size ∧ 0 < i.size then some (.sl M.nx 0 ln (.is cp), (M.nx, ⟨e, i.size, (List.replicate cp z.cells).flatten, false, false⟩) :: M.H, M.nx + 1) else none
  | _, _, _ => none) M false k
noncomputable def vParts : List (Nat × X) → Option (List (Nat × V))
  | [] => some []
  | (i, x) :: l => (nB x).bind fun v => (vParts l).map fun m => (i, v) :: m
noncomputable def vSlit (P : Program) (t : TypeId) (len : Nat) (parts : List (Nat × X)) (M : Mm) (k : X → Mm → CX) : CX := oM (match P.underlying t with
  | some (.slice e) =>
      (szOf P e).bind fun s => (vParts parts).bind fun ps =>
      if len * s > 16777216 ∨ s = 0 then none else
      (zeroV P e).bind fun z => if z.cells.length = s then
        (fillV (fun i => some (i * s, s)) (List.replicate len z.cells).flatten ps).bind fun l =>
          some (.sl M.nx 0 len (.is len), (M.nx, ⟨e, s, l, false, false⟩) :: M.H, M.nx + 1)
        else none
  | _ => none) M false k
noncomputable def vIndexA (P : Program) (t : TypeId) (x i : X) (M : Mm) (k : X → Mm → CX) : CX := oR (match P.underlying t, nB x, nB i with
    | some (.array n e), some (.agg l), some j => (natLit j).bind fun i => (szOf P e).bind fun z => if i < n then (partV P e l (i * z)).map fun v => (v, []) else none
    | some .string, some (.str (.str s)), some (.int _ (.int (.ofNat i))) => (s.data.toList[i]?).map fun b => (.int .u8 (.int b.toNat), [])
    | some .string, some (.str s), some (.int _ i) => some (.int .u8 (.byte s i), [mkLe (.int 0) i, mkNot (mkLe (mkLen s) i)])
    | _, _, _ => none) M false k
end Go.Proofs.Ytehbfajmileefaa.Px
