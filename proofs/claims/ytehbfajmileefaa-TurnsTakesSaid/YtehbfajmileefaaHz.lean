import Derived.Test.YtehbfajmileefaaZl
import Derived.Test.YtehbfajmileefaaZk
import Derived.Test.YtehbfajmileefaaYs
set_option linter.constructorNameAsVariable false
set_option linter.unusedSimpArgs false
set_option linter.unusedVariables false
namespace Go.Proofs.Ytehbfajmileefaa.Hx
open Go.RowKit Go.Proofs.Ytehbfajmileefaa.Vx Go.Proofs.Ytehbfajmileefaa.Fx Go.Proofs.Ytehbfajmileefaa.Px
inductive Cp where
  | any
  | is
  | n (k : Nat)
  | emp
def Cp.isE : Cp → Bool
  | .emp => true
  | _ => false
inductive W where
  | i (k : IntKind) (n : Int)
  | b (t : Bool)
  | s (l : ByteArray)
  | c (v : V)
  | ptr (id off : Nat)
  | sl (id off len : Nat) (cap : Cap) (z : Nat)
  | l (rows : List W) (cp : Cp)
  | p (cells : List W) (off : Nat)
  | fn (f : Nat) (a b : List W)
  | agg (l : List W)
  | tup (l : List W)
  | u
abbrev W.un : W := .tup []
def W.cells : W → List W
  | .agg xs => xs
  | w => [w]
def W.one : W → Bool
  | .agg _ | .tup _ | .u => false
  | _ => true
def W.pu1 : W → Bool
  | .ptr _ _ | .sl _ _ _ _ _ | .fn _ _ _ | .agg _ | .tup _ => false
  | _ => true
def W.pu : W → Bool
  | .ptr _ _ | .sl _ _ _ _ _ => false
  | .fn _ xs ys => xs.all W.pu1 && ys.all W.pu1
  | .agg xs => xs.all W.pu1
  | .tup xs => xs.all W.pu1
  | _ => true
def W.fl1 : W → Bool
  | .i _ _ | .b _ | .s _ | .c _ => true
  | _ => false
def W.flat : W → Bool
  | .agg xs => xs.all W.fl1
  | .tup xs => xs.all W.fl1
  | w => W.fl1 w
def embA : V → W
  | .int k (.int n) => .i k n
  | .bool (.bool t) => .b t
  | .str (.str s) => .s s
  | .nilp => .c .nilp
  | .nils => .c .nils
  | .nilf => .c .nilf
  | .nili => .c .nili
  | .nilm => .c .nilm
  | .nilc => .c .nilc
  | .fn (.func f) [] [] => .fn f [] []
  | _ => .u
def embV : V → W
  | .agg l => .agg (l.map embA)
  | .tup l => .tup (l.map embA)
  | v => embA v
structure BN where
  ty : TypeId
  sz : Nat
  cells : List W
  sp : Bool
  ro : Bool
  pu : Bool
structure Nm where
  H : List (Nat × BN)
  nx : Nat
inductive CW where
  | val (w : W)
  | no
abbrev Clh := Nat → List W → CW
def lookN : List (Nat × BN) → Nat → Option BN
  | [], _ => none
  | (j, b) :: H, i => bif Nat.beq j i then some b else lookN H i
def updN : List (Nat × BN) → Nat → BN → List (Nat × BN)
  | [], _, _ => []
  | (j, b) :: H, i, c => bif Nat.beq j i then (j, c) :: H else (j, b) :: updN H i c
def delN : List (Nat × BN) → Nat → List (Nat × BN)
  | [], _ => []
  | (j, b) :: H, i => bif Nat.beq j i then delN H i else (j, b) :: delN H i
def oW {α : Type} (o : Option α) (k : α → CW) : CW := match o with
  | some a => k a
  | none => .no
def mkRow : Nat → List W → W
  | 1, [.agg _] => .u
  | 1, [w] => w
  | _, l => .agg l
def chunk : Nat → Nat → List W → List W
  | 0, _, _ => []
  | n + 1, z, l => mkRow z (l.take z) :: chunk n z (l.drop z)
def cpOf : Cap → Cp
  | .is n => .n n
  | .rest _ => .any
def capFits (cap : Cap) (len z : Nat) (b : BN) : Bool := match cap with
  | .is n => Nat.ble len n
  | .rest q => b.sp && Nat.beq b.sz z && Nat.ble ((q + len) * z) b.cells.length
def pur : Nat → List (Nat × BN) → W → W
  | 0, _, w => match w with
    | .ptr _ _ | .sl _ _ _ _ _ | .fn _ _ _ | .agg _ | .tup _ => .u
    | w => w
  | k + 1, H, .ptr id off => match lookN H id with
    | some b => .p (bif b.pu then b.cells else b.cells.map (pur k H)) off
    | none => .u
  | k + 1, H, .sl id off len cap z => match lookN H id with
    | some b => bif Nat.ble (off + len * z) b.cells.length && capFits cap len z b && Nat.blt 0 z then
        .l (chunk len z ((bif b.pu then b.cells else b.cells.map (pur k H)).drop off)) (cpOf cap) else .u
    | none => .u
  | k + 1, H, .agg l => .agg (l.map (pur k H))
  | k + 1, H, .tup l => .tup (l.map (pur k H))
  | k + 1, H, .fn f a b => .fn f (a.map (pur k H)) (b.map (pur k H))
  | _ + 1, _, w => w
def ids : Nat → List (Nat × BN) → W → List Nat
  | 0, _, _ => []
  | k + 1, H, .ptr id _ => id :: (match lookN H id with
    | some b => bif b.pu then [] else b.cells.flatMap (ids k H)
    | none => [])
  | k + 1, H, .sl id _ _ _ _ => id :: (match lookN H id with
    | some b => bif b.pu then [] else b.cells.flatMap (ids k H)
    | none => [])
  | k + 1, H, .agg l => l.flatMap (ids k H)
  | k + 1, H, .tup l => l.flatMap (ids k H)
  | k + 1, H, .fn _ a b => a.flatMap (ids k H) ++ b.flatMap (ids k H)
  | _ + 1, _, _ => []
def memN (i : Nat) : List Nat → Bool
  | [] => false
  | j :: l => Nat.beq j i || memN i l
def frzH (l : List Nat) : List (Nat × BN) → List (Nat × BN)
  | [] => []
  | (j, b) :: H => (j, bif memN j l then { b with ro := true } else b) :: frzH l H
def frz (w : W) (xs : List W) (N : Nm) : Nm := bif w.flat || xs.all W.pu then N else ⟨frzH (xs.flatMap (ids 4 N.H)) N.H, N.nx⟩
def hb (op : BinOp) (kd : IntKind) (m n : Int) : Option W := match op with
  | .add => some (.i kd (kd.wrap (m + n)))
  | .sub => some (.i kd (kd.wrap (m - n)))
  | .mul => some (.i kd (kd.wrap (m * n)))
  | .eql => some (.b (decide (m = n)))
  | .neq => some (.b (!decide (m = n)))
  | .lss => some (.b (decide (m < n)))
  | .leq => some (.b (decide (m ≤ n)))
  | .gtr => some (.b (decide (n < m)))
  | .geq => some (.b (decide (n ≤ m)))
  | _ => none
def hBin (op : BinOp) (x y : W) (k : W → CW) : CW := match x, y with
  | .i kd m, .i kd' n => if kd = kd' then oW (hb op kd m n) k else .no
  | _, _ => .no
def hNot (x : W) (k : W → CW) : CW := match x with
  | .b t => k (.b (!t))
  | _ => .no
def hIf (x : W) (a b : CW) : CW := match x with
  | .b t => if t = true then a else b
  | _ => .no
def hPick (c x y : W) (k : W → CW) : CW := match c with
  | .b t => k (if t = true then x else y)
  | _ => .no
def hConv (kd : IntKind) (x : W) (k : W → CW) : CW := match x with
  | .i _ n => k (.i kd (kd.wrap n))
  | _ => .no
def hLoad1 (x : W) (N : Nm) (k : W → CW) : CW := match x with
  | .ptr id off => oW (lookN N.H id) fun b => oW b.cells[off]? fun u => if u.one = true then k u else .no
  | .p cs off => oW cs[off]? fun u => if u.one = true then k u else .no
  | _ => .no
def hLoadN (n : Nat) (x : W) (N : Nm) (k : W → CW) : CW := match x with
  | .ptr id off => oW (lookN N.H id) fun b => if n ≤ (b.cells.drop off).length then k (.agg ((b.cells.drop off).take n)) else .no
  | .p cs off => if n ≤ (cs.drop off).length then k (.agg ((cs.drop off).take n)) else .no
  | _ => .no
def hFieldAddr (d : Nat) (x : W) (k : W → CW) : CW := match x with
  | .ptr id off => k (.ptr id (off + d))
  | .p cs off => k (.p cs (off + d))
  | _ => .no
def hIndexAddr (z : Nat) (x i : W) (k : W → CW) : CW := match x, i with
  | .sl id off len _ _, .i _ n => if 0 ≤ n ∧ n < len then k (.ptr id (off + n.toNat * z)) else .no
  | .l rows _, .i _ n => if 0 ≤ n then oW rows[n.toNat]? fun r => if r.cells.length = z then k (.p r.cells 0) else .no else .no
  | _, _ => .no
def hIndexArr (m z : Nat) (x i : W) (k : W → CW) : CW := match x, i with
  | .ptr id off, .i _ n => if 0 ≤ n ∧ n < m then k (.ptr id (off + n.toNat * z)) else .no
  | .p cs off, .i _ n => if 0 ≤ n ∧ n < m then k (.p cs (off + n.toNat * z)) else .no
  | _, _ => .no
def hLenS (x : W) (k : W → CW) : CW := match x with
  | .c .nils => k (.i .i64 0)
  | .sl _ _ n _ _ => k (.i .i64 n)
  | .l rows _ => k (.i .i64 rows.length)
  | _ => .no
def hLenT (x : W) (k : W → CW) : CW := match x with
  | .s b => k (.i .i64 b.data.toList.length)
  | _ => .no
def hIndexT (x i : W) (k : W → CW) : CW := match x, i with
  | .s b, .i _ n => if 0 ≤ n then oW b.data.toList[n.toNat]? fun c => k (.i .u8 c.toNat) else .no
  | _, _ => .no
def hEqT (neg : Bool) (x y : W) (k : W → CW) : CW := match x, y with
  | .s a, .s b => k (.b (if neg = true then !decide (a.data.toList = b.data.toList) else decide (a.data.toList = b.data.toList)))
  | _, _ => .no
def hExt (i : Nat) (x : W) (k : W → CW) : CW := match x with
  | .tup l => oW l[i]? k
  | _ => .no
def putW (cells : List W) (off : Nat) (new : List W) : List W := cells.take off ++ new ++ cells.drop (off + new.length)
def hStore1 (x u : W) (N : Nm) (k : W → Nm → CW) : CW := match x with
  | .ptr id off => oW (lookN N.H id) fun b => if b.ro = false ∧ u.one = true ∧ off < b.cells.length then k .un ⟨updN N.H id { b with cells := b.cells.set off u, pu := b.pu && u.pu }, N.nx⟩ else .no
  | _ => .no
def hStoreN (n : Nat) (x u : W) (N : Nm) (k : W → Nm → CW) : CW := match x, u with
  | .ptr id off, .agg l => oW (lookN N.H id) fun b => if b.ro = false ∧ l.length = n ∧ l.all W.one = true ∧ off + n ≤ b.cells.length then k .un ⟨updN N.H id { b with cells := putW b.cells off l, pu := b.pu && l.all W.pu }, N.nx⟩ else .no
  | _, _ => .no
def hNew (t z : Nat) (cells : List W) (N : Nm) (k : W → Nm → CW) : CW := k (.ptr N.nx 0) ⟨(N.nx, ⟨t, z, cells, false, false, cells.all W.pu⟩) :: N.H, N.nx + 1⟩
def hBox (t z : Nat) (x : W) (N : Nm) (k : W → Nm → CW) : CW := match x with
  | .u => .no
  | x => hNew t z x.cells N k
def hFill : List (Nat × Nat × W) → List W → Option (List W)
  | [], cells => some cells
  | (off, z, x) :: ps, cells => if x.cells.length = z ∧ off + z ≤ cells.length then hFill ps (putW cells off x.cells) else none
def hBuild (z : List W) (ps : List (Nat × Nat × W)) (k : W → CW) : CW := oW (hFill ps z) fun l => k (.agg l)
def hCall (cl : Clh) (f : Nat) (xs : List W) (N : Nm) (k : W → Nm → CW) : CW := match cl f (xs.map (pur 4 N.H)) with
  | .val w => k w (frz w xs N)
  | .no => .no
def hCallV (cl : Clh) (g : W) (xs : List W) (N : Nm) (k : W → Nm → CW) : CW := match g with
  | .fn f a b => hCall cl f (a ++ (xs ++ b)) N k
  | _ => .no
def hFn (f : Nat) (xs ys : List W) (k : W → CW) : CW := k (.fn f xs ys)
def hGuard (c : W) (want : Bool) (o : (W → Nm → CW) → CW) (N : Nm) (k : W → Nm → CW) : CW := match c with
  | .b t => if t = want then o k else k .un N
  | .tup [] => k .un N
  | _ => .no
def szI (P : Program) (t : TypeId) : Option (Nat × Nat × Nat) := match P.underlying t with
  | some (.slice e) => (P.info? e).bind fun i => i.zero.bind fun zr => if zr.cells.size = i.size ∧ 0 < i.size then some (e, i.size, i.bytes) else none
  | _ => none
def hSrc (P : Program) (t u z : Nat) (H : List (Nat × BN)) : W → Option (List W × Nat)
  | .c .nils => if t = u then some ([], 0) else none
  | .sl id off m _ _ => if t = u then (if m = 0 then some ([], 0) else (lookN H id).bind fun b => if off + m * z ≤ b.cells.length then some ((b.cells.drop off).take (m * z), m) else none) else none
  | .l rows cp => if (t = u ∧ (cp.isE && rows.isEmpty) = false) ∧ (rows.all fun r => decide (r.cells.length = z)) = true then some (rows.flatMap W.cells, rows.length) else none
  | .s b => match P.underlying u with
    | some .string => if z = 1 then some (b.data.toList.map fun c => .i .u8 c.toNat, b.data.toList.length) else none
    | _ => none
  | _ => none
def delI (l : List Nat) : List (Nat × BN) → List (Nat × BN)
  | [] => []
  | (j, b) :: H => bif memN j l then delI l H else (j, b) :: delI l H
def hNews (news : List W) (H : List (Nat × BN)) : List W × List (Nat × BN) := bif news.all W.pu then (news, H) else (news.map (pur 3 H), delI (news.flatMap (ids 3 H)) H)
def hApp (P : Program) (t u : TypeId) (s x : W) (N : Nm) (k : W → Nm → CW) : CW :=
  oW (szI P t) fun q => oW (hSrc P t u q.2.1 N.H x) fun src =>
  if src.2 = 0 then (match s with
    | .c .nils => k (.c .nils) ⟨N.H, N.nx + 1⟩
    | .sl id off n (.is c) z => if n ≤ c then k (.sl id off n (.is c) z) ⟨N.H, N.nx + 1⟩ else .no
    | .sl id off n (.rest 0) z => oW (lookN N.H id) fun b => if b.sp = true ∧ n * b.sz ≤ b.cells.length then k (.sl id off n (.rest 0) z) ⟨N.H, N.nx + 1⟩ else .no
    | .l rows (.n c) => k (.l rows (.n c)) ⟨N.H, N.nx + 1⟩
    | .l rows .is => k (.l rows .is) ⟨N.H, N.nx + 1⟩
    | _ => .no)
  else if src.1.all W.one = true then (match s with
    | .c .nils => if src.2 * q.2.2 ≤ maxBytes ∧ src.2 ≤ maxBytes then
        k (.sl N.nx 0 src.2 (.rest 0) q.2.1) ⟨(N.nx, ⟨q.1, q.2.1, (hNews src.1 N.H).1, true, false, true⟩) :: (hNews src.1 N.H).2, N.nx + 1⟩ else .no
    | .sl id 0 n (.rest 0) z => oW (lookN (hNews src.1 N.H).2 id) fun b =>
        if b.sp = true ∧ b.ty = q.1 ∧ b.sz = q.2.1 ∧ n * q.2.1 = b.cells.length ∧ (n + src.2) * q.2.2 ≤ maxBytes ∧ n + src.2 ≤ maxBytes ∧ b.ro = false ∧ b.pu = true then
          k (.sl N.nx 0 (n + src.2) (.rest 0) q.2.1) ⟨(N.nx, ⟨q.1, q.2.1, b.cells ++ (hNews src.1 N.H).1, true, false, true⟩) :: delN (hNews src.1 N.H).2 id, N.nx + 1⟩ else .no
    | .sl id off n (.is c) z => oW (lookN (hNews src.1 N.H).2 id) fun b =>
        if n + src.2 ≤ c then (if b.ty = q.1 ∧ off = 0 ∧ n * q.2.1 + (hNews src.1 N.H).1.length ≤ b.cells.length ∧ b.ro = false ∧ b.pu = true then
          k (.sl id 0 (n + src.2) (.is c) z) ⟨updN (hNews src.1 N.H).2 id { b with cells := putW b.cells (n * q.2.1) (hNews src.1 N.H).1 }, N.nx + 1⟩ else .no)
        else if (n + src.2) * q.2.2 ≤ maxBytes ∧ n + src.2 ≤ maxBytes ∧ off + n * q.2.1 ≤ b.cells.length ∧ b.pu = true then
          k (.sl N.nx 0 (n + src.2) (.rest 0) q.2.1) ⟨(N.nx, ⟨q.1, q.2.1, (b.cells.drop off).take (n * q.2.1) ++ (hNews src.1 N.H).1, true, false, true⟩) :: (hNews src.1 N.H).2, N.nx + 1⟩ else .no
    | .l rows (.n c) => if rows.length = c ∧ (rows.all fun r => decide (r.cells.length = q.2.1)) = true ∧ (c + src.2) * q.2.2 ≤ maxBytes ∧ c + src.2 ≤ maxBytes then
          k (.sl N.nx 0 (c + src.2) (.rest 0) q.2.1) ⟨(N.nx, ⟨q.1, q.2.1, rows.flatMap W.cells ++ (hNews src.1 N.H).1, true, false, true⟩) :: (hNews src.1 N.H).2, N.nx + 1⟩ else .no
    | _ => .no) else .no
def hBnd (x : Option W) (d y : Nat) : Option Nat := match x with
  | none => some d
  | some (.i _ n) => if 0 ≤ n ∧ n ≤ y then some n.toNat else none
  | some _ => none
def hSlice (P : Program) (t : TypeId) (x : W) (lo hi mx : Option W) (N : Nm) (k : W → CW) : CW :=
  if mx.isSome && !hi.isSome then .no else
  match P.underlying t, x with
  | some (.slice e), .c .nils => oW (szOf P e) fun z => oW (hBnd mx 0 0) fun m => oW (hBnd hi 0 m) fun h => oW (hBnd lo 0 h) fun l => k (.c .nils)
  | some (.slice e), .sl id off len (.is c) _ => oW (szOf P e) fun z => oW (hBnd mx c c) fun m => oW (hBnd hi len m) fun h => oW (hBnd lo 0 h) fun l => k (.sl id (if m = l then off else off + l * z) (h - l) (.is (m - l)) z)
  | some (.slice e), .sl id off len (.rest q) _ => oW (szOf P e) fun z => oW (lookN N.H id) fun b => if b.sp = true ∧ (q + len) * b.sz ≤ b.cells.length then (match mx with
      | some m => oW (hBnd (some m) len len) fun m => oW (hBnd hi len m) fun h => oW (hBnd lo 0 h) fun l => k (.sl id (if m = l then off else off + l * z) (h - l) (.is (m - l)) z)
      | none => oW (hBnd hi len len) fun h => oW (hBnd lo 0 h) fun l => if l = 0 then k (.sl id off h (.rest q) z) else if l < len then k (.sl id (off + l * z) (h - l) (.rest (q + l)) z) else .no) else .no
  | some (.slice e), .l rows cp => oW (szOf P e) fun z => if (rows.all fun r => decide (r.cells.length = z)) = true ∧ (cp.isE && rows.isEmpty) = false then (match mx with
      | some m => oW (hBnd (some m) rows.length rows.length) fun m => oW (hBnd hi rows.length m) fun h => oW (hBnd lo 0 h) fun l => k (.l ((rows.take h).drop l) (.n (m - l)))
      | none => oW (hBnd hi rows.length rows.length) fun h => oW (hBnd lo 0 h) fun l => (match cp with
        | .n c => k (.l ((rows.take h).drop l) (.n (c - l)))
        | .is => k (.l ((rows.take h).drop l) .is)
        | .any => if l = 0 ∨ l < rows.length then k (.l ((rows.take h).drop l) .any) else .no
        | .emp => .no)) else .no
  | some (.array n e), .ptr id off => oW (szOf P e) fun z => oW (hBnd mx n n) fun m => oW (hBnd hi n m) fun h => oW (hBnd lo 0 h) fun l => k (.sl id (if m = l then off else off + l * z) (h - l) (.is (m - l)) z)
  | some .string, .s s => if mx.isSome then .no else oW (hBnd hi s.size s.size) fun h => oW (hBnd lo 0 h) fun l => k (.s (s.extract l h))
  | _, _ => .no
def W.sv1 : W → Option V
  | .i kd m => some (.int kd (.int m))
  | .b t => some (.bool (.bool t))
  | .s bs => some (.str (.str bs))
  | _ => none
def W.sv : W → Option V
  | .agg ws => (mapO W.sv1 ws).map .agg
  | w => w.sv1
def V.sw : V → Option W
  | .int k (.int n) => some (.i k n)
  | .bool (.bool t) => some (.b t)
  | .str (.str l) => some (.s l)
  | _ => none
def hSc (o : Option (V × List T)) (k : W → CW) : CW := match o with
  | some (v, []) => oW (V.sw v) k
  | _ => .no
def nilB : W → W → Option Bool
  | .c .nils, .c .nils => some true
  | .sl _ _ _ _ _, .c .nils => some false
  | .l (_ :: _) _, .c .nils => some false
  | .c .nilp, .c .nilp => some true
  | .ptr _ _, .c .nilp => some false
  | .p _ _, .c .nilp => some false
  | .c .nilf, .c .nilf => some true
  | .fn _ _ _, .c .nilf => some false
  | _, _ => none
def nilT (P : Program) (t : TypeId) : W → Bool
  | .c .nils => (match P.underlying t with | some (.slice _) => true | _ => false)
  | .c .nilp => (match P.underlying t with | some (.pointer _) => true | _ => false)
  | .c .nilf => (match P.underlying t with | some (.func ..) => true | _ => false)
  | _ => false
def hBinG (P : Program) (op : BinOp) (t : TypeId) (x y : W) (k : W → CW) : CW := match nilB x y with
  | some r => (match op with
    | .eql => if nilT P t y = true then k (.b r) else .no
    | .neq => if nilT P t y = true then k (.b (!r)) else .no
    | _ => .no)
  | none => oW x.sv fun a => oW y.sv fun b => hSc (binV P op t a b) k
def hMM (mn : Bool) (x y : W) (k : W → CW) : CW := match x, y with
  | .i kd a, .i kd' b => if kd = kd' then k (.i kd (if mn then (if b < a then b else a) else (if a < b then b else a))) else .no
  | _, _ => .no
def hCap (P : Program) (t : TypeId) (x : W) (k : W → CW) : CW := match P.underlying t, x with
  | some (.array n _), x => k (.i .i64 n)
  | some (.slice _), .c .nils => k (.i .i64 0)
  | some (.slice _), .sl _ _ _ (.is n) _ => k (.i .i64 n)
  | some (.slice _), .l _ (.n c) => k (.i .i64 c)
  | _, _ => .no
def hMake (P : Program) (t : TypeId) (x y : W) (N : Nm) (k : W → Nm → CW) : CW := match P.underlying t, x, y with
  | some (.slice e), .i _ ln, .i _ cp => oW (P.info? e) fun i => oW (zeroV P e) fun z =>
      if 0 ≤ ln ∧ ln ≤ cp ∧ cp.toNat * i.bytes ≤ maxBytes ∧ cp.toNat ≤ maxBytes ∧ z.cells.length = i.size ∧ 0 < i.size ∧ z.cells.all (fun v => (embA v).pu && (embA v).one) = true then
        k (.sl N.nx 0 ln.toNat (.is cp.toNat) i.size) ⟨(N.nx, ⟨e, i.size, (List.replicate cp.toNat (z.cells.map embA)).flatten, false, false, true⟩) :: N.H, N.nx + 1⟩ else .no
  | _, _, _ => .no
def hFillV (s : Nat) : List W → List (Nat × W) → Option (List W)
  | cells, [] => some cells
  | cells, (i, v) :: rest => if v.cells.length = s ∧ i * s + s ≤ cells.length then hFillV s (putW cells (i * s) v.cells) rest else none
def hSlit (P : Program) (t : TypeId) (len : Nat) (parts : List (Nat × W)) (N : Nm) (k : W → Nm → CW) : CW := match P.underlying t with
  | some (.slice e) => oW (szOf P e) fun s => oW (zeroV P e) fun z => if len * s ≤ 16777216 ∧ 0 < s ∧ z.cells.length = s then
      oW (hFillV s (List.replicate len (z.cells.map embA)).flatten parts) fun l => k (.sl N.nx 0 len (.is len) s) ⟨(N.nx, ⟨e, s, l, false, false, l.all W.pu⟩) :: N.H, N.nx + 1⟩ else .no
  | _ => .no
end Go.Proofs.Ytehbfajmileefaa.Hx
namespace Go.Proofs.Ytehbfajmileefaa.Hx
open Go.RowKit Go.Proofs.Ytehbfajmileefaa.Vx Go.Proofs.Ytehbfajmileefaa.Fx Go.Proofs.Ytehbfajmileefaa.Px
structure Ctx where
  H : Hp
  nx : Nat
  own : Nat → Prop
  wr : Nat → Prop
  ψ : Nat → Nat
  n : Nat
  lo : Nat
  wo : ∀ i, wr i → own i
def nilV : V → Bool
  | .nilp | .nils | .nilf | .nili | .nilm | .nilc => true
  | _ => false
def CapR (cp : Cp) (cap : Cap) (len z : Nat) (b : Blk) : Prop := match cap with
  | .is c => len ≤ c ∧ ∀ k, cp = .n k → k = c
  | .rest q => cp = .any ∧ b.spare = true ∧ b.sz = z ∧ (q + len) * z ≤ b.cells.length
inductive R (C : Ctx) : Bool → W → V → Prop
  | i {f k n} : R C f (.i k n) (.int k (.int n))
  | b {f t} : R C f (.b t) (.bool (.bool t))
  | s {f l} : R C f (.s l) (.str (.str l))
  | c {f v} : nilV v = true → R C f (.c v) v
  | ptr {id off} : id < C.n → R C true (.ptr id off) (.ptr (C.ψ id) off)
  | sl {id off len cap z} : id < C.n → R C true (.sl id off len cap z) (.sl (C.ψ id) off len cap)
  | lnil {f cp} : (∀ k, cp = .n k → k = 0) → R C f (.l [] cp) .nils
  | emp {f k} : Nat.beq (k % 2) 1 = true → R C f (.l [] .emp) (.val k)
  | l {f rows cp id off cap b z} : id < C.nx → ¬ C.own id → lookC C.H id = some b → off + rows.length * z ≤ b.cells.length → CapR cp cap rows.length z b →
      (∀ (i : Nat) (r : W), rows[i]? = some r → r.cells.length = z) → (∀ (i d : Nat) (r w : W) (v : V), rows[i]? = some r → r.cells[d]? = some w → b.cells[off + i * z + d]? = some v → R C false w v) → R C f (.l rows cp) (.sl id off rows.length cap)
  | p {f cells d id off b} : id < C.nx → ¬ C.own id → lookC C.H id = some b → off + cells.length ≤ b.cells.length → (∀ (i : Nat) (w : W) (v : V), cells[i]? = some w → b.cells[off + i]? = some v → R C false w v) → R C f (.p cells d) (.ptr id (off + d))
  | fn {f g xs ys xs' ys'} : xs.length = xs'.length → ys.length = ys'.length → (∀ (i : Nat) w v, xs[i]? = some w → xs'[i]? = some v → R C f w v) → (∀ (i : Nat) w v, ys[i]? = some w → ys'[i]? = some v → R C f w v) → R C f (.fn g xs ys) (.fn (.func g) xs' ys')
  | agg {f xs xs'} : xs.length = xs'.length → (∀ (i : Nat) w v, xs[i]? = some w → xs'[i]? = some v → R C f w v) → R C f (.agg xs) (.agg xs')
  | tup {f xs xs'} : xs.length = xs'.length → (∀ (i : Nat) w v, xs[i]? = some w → xs'[i]? = some v → R C f w v) → R C f (.tup xs) (.tup xs')
  | u {f v} : v ≠ .bad → R C f .u v
def LR (C : Ctx) (f : Bool) (ws : List W) (vs : List V) : Prop := ws.length = vs.length ∧ ∀ (i : Nat) w v, ws[i]? = some w → vs[i]? = some v → R C f w v
theorem R.nb {C : Ctx} {f : Bool} {w : W} {v : V} (h : R C f w v) : v ≠ .bad := by
  cases h <;> first | simp; done | assumption | (rename_i h; intro e; subst e; simp [nilV] at h)
theorem R.one {C : Ctx} {f : Bool} {w : W} {v : V} (h : R C f w v) (h1 : w.one = true) : v.one = true := by
  cases h <;> first | rfl | (simp [W.one] at h1; done) | (rename_i h; revert h; cases v <;> simp [nilV, V.one])
structure Le (C D : Ctx) : Prop where
  nx : C.nx ≤ D.nx
  im : ∀ i, i < C.nx → ¬ C.own i → Vx.look D.H i = Vx.look C.H i ∧ ¬ D.own i
theorem Le.lookC {C D : Ctx} (h : Le C D) {i : Nat} (h1 : i < C.nx) (h2 : ¬ C.own i) : Vx.lookC D.H i = Vx.lookC C.H i := lookC_congr (h.im i h1 h2).1
theorem R.mono {C D : Ctx} (h : Le C D) : ∀ {f : Bool} {w : W} {v : V}, R C f w v → (f = true → C.n ≤ D.n ∧ ∀ i, i < C.n → D.ψ i = C.ψ i) → R D f w v := by
  intro f w v hr
  induction hr with
  | i => intro _; exact .i
  | b => intro _; exact .b
  | s => intro _; exact .s
  | c h => intro _; exact .c h
  | ptr h => intro hp; obtain ⟨h1, h2⟩ := hp rfl; rw [← h2 _ h]; exact .ptr (by omega)
  | sl h => intro hp; obtain ⟨h1, h2⟩ := hp rfl; rw [← h2 _ h]; exact .sl (by omega)
  | lnil h => intro _; exact .lnil h
  | emp h => intro _; exact .emp h
  | l h1 h2 h3 h4 h5 h6 h7 ih => intro _; exact .l (Nat.lt_of_lt_of_le h1 h.nx) (h.im _ h1 h2).2 ((h.lookC h1 h2).trans h3) h4 h5 h6 (fun i d r w v a1 a2 a3 => ih i d r w v a1 a2 a3 (by simp))
  | p h1 h2 h3 h4 h5 ih => intro _; exact .p (Nat.lt_of_lt_of_le h1 h.nx) (h.im _ h1 h2).2 ((h.lookC h1 h2).trans h3) h4 (fun i w v a1 a2 => ih i w v a1 a2 (by simp))
  | fn h1 h2 h3 h4 ih1 ih2 => intro hp; exact .fn h1 h2 (fun i w v a1 a2 => ih1 i w v a1 a2 hp) (fun i w v a1 a2 => ih2 i w v a1 a2 hp)
  | agg h1 h3 ih1 => intro hp; exact .agg h1 (fun i w v a1 a2 => ih1 i w v a1 a2 hp)
  | tup h1 h3 ih1 => intro hp; exact .tup h1 (fun i w v a1 a2 => ih1 i w v a1 a2 hp)
  | u h => intro _; exact .u h
theorem R.up {C : Ctx} : ∀ {f : Bool} {w : W} {v : V}, R C f w v → R C true w v := by
  intro f w v hr
  induction hr with
  | i => exact .i
  | b => exact .b
  | s => exact .s
  | c h => exact .c h
  | ptr h => exact .ptr h
  | sl h => exact .sl h
  | lnil h => exact .lnil h
  | emp h => exact .emp h
  | l h1 h2 h3 h4 h5 h6 h7 ih => exact .l h1 h2 h3 h4 h5 h6 h7
  | p h1 h2 h3 h4 h5 ih => exact .p h1 h2 h3 h4 h5
  | fn h1 h2 h3 h4 ih1 ih2 => exact .fn h1 h2 (fun i w v a1 a2 => ih1 i w v a1 a2) (fun i w v a1 a2 => ih2 i w v a1 a2)
  | agg h1 h3 ih1 => exact .agg h1 ih1
  | tup h1 h3 ih1 => exact .tup h1 ih1
  | u h => exact .u h
theorem LR.up {C : Ctx} {f : Bool} {ws : List W} {vs : List V} (h : LR C f ws vs) : LR C true ws vs := ⟨h.1, fun i w v a b => (h.2 i w v a b).up⟩
theorem LR.mono {C D : Ctx} (h : Le C D) {f : Bool} {ws : List W} {vs : List V} (hl : LR C f ws vs) (hp : f = true → C.n ≤ D.n ∧ ∀ i, i < C.n → D.ψ i = C.ψ i) : LR D f ws vs := ⟨hl.1, fun i w v a b => (hl.2 i w v a b).mono h hp⟩
theorem LR.nil {C : Ctx} {f : Bool} : LR C f [] [] := ⟨rfl, by simp⟩
theorem LR.cons {C : Ctx} {f : Bool} {w : W} {v : V} {ws : List W} {vs : List V} (h : R C f w v) (hl : LR C f ws vs) : LR C f (w :: ws) (v :: vs) := ⟨by simp [hl.1], fun i a b ha hb => by
  cases i with
  | zero => simp at ha hb; subst ha; subst hb; exact h
  | succ i => simp at ha hb; exact hl.2 i a b ha hb⟩
theorem LR.take {C : Ctx} {f : Bool} {ws : List W} {vs : List V} (h : LR C f ws vs) (n : Nat) : LR C f (ws.take n) (vs.take n) := ⟨by simp [h.1], fun i w v a b => by
  rw [List.getElem?_take] at a b
  split at a <;> simp_all
  exact h.2 i w v a b⟩
theorem LR.drop {C : Ctx} {f : Bool} {ws : List W} {vs : List V} (h : LR C f ws vs) (n : Nat) : LR C f (ws.drop n) (vs.drop n) := ⟨by simp [h.1], fun i w v a b => by
  rw [List.getElem?_drop] at a b
  exact h.2 _ w v a b⟩
theorem LR.append {C : Ctx} {f : Bool} {ws ws' : List W} {vs vs' : List V} (h : LR C f ws vs) (h' : LR C f ws' vs') : LR C f (ws ++ ws') (vs ++ vs') := ⟨by simp [h.1, h'.1], fun i w v a b => by
  rw [List.getElem?_append] at a b
  rw [h.1] at a
  split at a <;> rename_i hi
  · rw [if_pos hi] at b; exact h.2 i w v a b
  · rw [if_neg hi] at b; exact h'.2 _ w v a b⟩
theorem LR.put {C : Ctx} {f : Bool} {ws ns : List W} {vs ms : List V} (h : LR C f ws vs) (h' : LR C f ns ms) (off : Nat) : LR C f (putW ws off ns) (put1 vs off ms) := by
  unfold putW put1
  rw [h'.1]
  exact ((h.take off).append h').append (h.drop _)
theorem LR.set {C : Ctx} {f : Bool} {ws : List W} {vs : List V} (h : LR C f ws vs) {w : W} {v : V} (hr : R C f w v) {off : Nat} (ho : off < ws.length) : LR C f (ws.set off w) (put1 vs off [v]) := by
  have e : ws.set off w = putW ws off [w] := by
    unfold putW
    rw [List.set_eq_take_append_cons_drop, if_pos ho]
    simp
  rw [e]
  exact h.put (.cons hr .nil) off
theorem LR.agg {C : Ctx} {f : Bool} {ws : List W} {vs : List V} (h : LR C f ws vs) : R C f (.agg ws) (.agg vs) := .agg h.1 h.2
theorem LR.one {C : Ctx} {f : Bool} {ws : List W} {vs : List V} (h : LR C f ws vs) (h1 : ws.all W.one = true) : allOne vs = true := by
  unfold allOne
  rw [List.all_eq_true] at h1 ⊢
  intro v hv
  obtain ⟨i, hi, e⟩ := List.mem_iff_getElem.1 hv
  have hi' : i < ws.length := by rw [h.1]; exact hi
  exact (h.2 i ws[i] v (List.getElem?_eq_getElem hi') (by rw [List.getElem?_eq_getElem hi, e])).one (h1 _ (List.getElem_mem hi'))
theorem LR.get {C : Ctx} {f : Bool} {ws : List W} {vs : List V} (h : LR C f ws vs) {i : Nat} {w : W} (hi : ws[i]? = some w) : ∃ v, vs[i]? = some v ∧ R C f w v := by
  have : i < vs.length := by rw [← h.1]; exact (List.getElem?_eq_some_iff.1 hi).1
  exact ⟨vs[i], List.getElem?_eq_getElem this, h.2 i w _ hi (List.getElem?_eq_getElem this)⟩
theorem R.pu1 {C : Ctx} {f : Bool} {w : W} {v : V} (h : R C f w v) (hp : w.pu1 = true) : R C false w v := by
  cases h <;> first | (simp [W.pu1] at hp; done) | exact .i | exact .b | exact .s | exact .c ‹_› | exact .lnil ‹_› | exact .emp ‹_› | exact .l ‹_› ‹_› ‹_› ‹_› ‹_› ‹_› ‹_› | exact .p ‹_› ‹_› ‹_› ‹_› ‹_› | exact .u ‹_›
theorem all_get {α : Type} {p : α → Bool} {l : List α} (h : l.all p = true) {i : Nat} {x : α} (hi : l[i]? = some x) : p x = true := List.all_eq_true.1 h x (List.mem_of_getElem? hi)
theorem R.pu {C : Ctx} {f : Bool} {w : W} {v : V} (h : R C f w v) (hp : w.pu = true) : R C false w v := by
  cases h with
  | fn h1 h2 h3 h4 =>
    simp only [W.pu, Bool.and_eq_true] at hp
    exact .fn h1 h2 (fun i w v a b => (h3 i w v a b).pu1 (all_get hp.1 a)) (fun i w v a b => (h4 i w v a b).pu1 (all_get hp.2 a))
  | agg h1 h3 => exact .agg h1 (fun i w v a b => (h3 i w v a b).pu1 (all_get hp a))
  | tup h1 h3 => exact .tup h1 (fun i w v a b => (h3 i w v a b).pu1 (all_get hp a))
  | _ => first | (simp [W.pu] at hp; done) | exact .i | exact .b | exact .s | exact .c ‹_› | exact .lnil ‹_› | exact .emp ‹_› | exact .l ‹_› ‹_› ‹_› ‹_› ‹_› ‹_› ‹_› | exact .p ‹_› ‹_› ‹_› ‹_› ‹_› | exact .u ‹_›
theorem LR.pu {C : Ctx} {f : Bool} {ws : List W} {vs : List V} (h : LR C f ws vs) (hp : ws.all W.pu = true) : LR C false ws vs := ⟨h.1, fun i w v a b => (h.2 i w v a b).pu (all_get hp a)⟩
theorem R.fl1 {C D : Ctx} {f g : Bool} {w : W} {v : V} (h : R C f w v) (hp : w.fl1 = true) : R D g w v := by
  cases h <;> first | (simp [W.fl1] at hp; done) | exact .i | exact .b | exact .s | exact .c ‹_›
theorem R.flat {C D : Ctx} {f g : Bool} {w : W} {v : V} (h : R C f w v) (hp : w.flat = true) : R D g w v := by
  cases h with
  | agg h1 h3 => exact .agg h1 (fun i w v a b => (h3 i w v a b).fl1 (all_get hp a))
  | tup h1 h3 => exact .tup h1 (fun i w v a b => (h3 i w v a b).fl1 (all_get hp a))
  | _ => first | (simp [W.flat, W.fl1] at hp; done) | exact .i | exact .b | exact .s | exact .c ‹_›
theorem R.plain {C D : Ctx} {f : Bool} {w : W} {v : V} (h : R C f w v) : V.plain v = true → R D false w v := by
  have pl : ∀ {l : List V} {i : Nat} {x : V}, V.plainL l = true → l[i]? = some x → V.plain x = true := by
    intro l
    induction l with
    | nil => intro i x _ h; simp at h
    | cons y l ih =>
      intro i x hp hx
      simp only [V.plainL, Bool.and_eq_true] at hp
      cases i with
      | zero => simp at hx; subst hx; exact hp.1
      | succ i => simp at hx; exact ih hp.2 hx
  induction h with
  | i => intro _; exact .i
  | b => intro _; exact .b
  | s => intro _; exact .s
  | c h => intro _; exact .c h
  | lnil h => intro _; exact .lnil h
  | emp h => intro _; exact .emp h
  | fn h1 h2 h3 h4 ih1 ih2 =>
    intro hp
    simp only [V.plain, Bool.and_eq_true] at hp
    exact .fn h1 h2 (fun i w v a b => ih1 i w v a b (pl hp.1 b)) (fun i w v a b => ih2 i w v a b (pl hp.2 b))
  | agg h1 h3 ih1 => intro hp; simp only [V.plain] at hp; exact .agg h1 (fun i w v a b => ih1 i w v a b (pl hp b))
  | tup h1 h3 ih1 => intro hp; simp only [V.plain] at hp; exact .tup h1 (fun i w v a b => ih1 i w v a b (pl hp b))
  | u h => intro _; exact .u h
  | _ => intro hp; simp [V.plain] at hp
structure BR (C : Ctx) (b : BN) (c : Blk) : Prop where
  mp : c.mp = false
  ty : c.ty = b.ty
  sz : c.sz = b.sz
  sp : c.spare = b.sp
  ro : c.ro = false
  cs : LR C (!b.pu) b.cells c.cells
structure St (C : Ctx) (N : Nm) (M : Mm) : Prop where
  h : M.H = C.H
  x : M.nx = C.nx
  n : N.nx = C.n
  fr : Srt C.H C.nx
  inj : ∀ i j, i < C.n → j < C.n → C.ψ i = C.ψ j → i = j
  lt : ∀ i, i < C.n → C.lo ≤ C.ψ i ∧ C.ψ i < C.nx
  bl : ∀ id b, lookN N.H id = some b → id < C.n ∧ ∃ c, Vx.look C.H (C.ψ id) = some c ∧ BR C b c ∧ (b.ro = false → C.wr (C.ψ id)) ∧ (b.ro = true → ¬ C.own (C.ψ id))
  wl : ∀ i, C.wr i → C.lo ≤ i
  ll : C.lo ≤ C.nx
  ol : ∀ i, C.own i → i < C.nx
structure LeF (C D : Ctx) : Prop where
  nx : C.nx ≤ D.nx
  n : C.n ≤ D.n
  ψ : ∀ i, i < C.n → D.ψ i = C.ψ i
  lo : D.lo = C.lo
  keep : ∀ i, i < C.nx → ¬ C.wr i → Vx.look D.H i = Vx.look C.H i ∧ ¬ D.wr i
  own : ∀ i, i < C.nx → ¬ C.own i → ¬ D.own i
  frn : ∀ i, i < C.nx → C.own i → ¬ C.wr i → D.own i
  ro : ∀ i b, Vx.look D.H i = some b → b.ro = true → Vx.look C.H i = some b
structure LeG (C D : Ctx) : Prop where
  nx : C.nx ≤ D.nx
  lo : D.lo = C.lo
  keep : ∀ i, i < C.nx → ¬ C.wr i → Vx.look D.H i = Vx.look C.H i ∧ ¬ D.wr i
  own : ∀ i, i < C.nx → ¬ C.own i → ¬ D.own i
  frn : ∀ i, i < C.nx → C.own i → ¬ C.wr i → D.own i
  ro : ∀ i b, Vx.look D.H i = some b → b.ro = true → Vx.look C.H i = some b
theorem LeF.g {C D : Ctx} (h : LeF C D) : LeG C D := ⟨h.nx, h.lo, h.keep, h.own, h.frn, h.ro⟩
theorem LeG.trans {C D E : Ctx} (h : LeG C D) (k : LeG D E) : LeG C E :=
  ⟨Nat.le_trans h.nx k.nx, k.lo.trans h.lo,
   fun i hi hw => by
    obtain ⟨a, b⟩ := h.keep i hi hw
    obtain ⟨c, d⟩ := k.keep i (Nat.lt_of_lt_of_le hi h.nx) b
    exact ⟨c.trans a, d⟩,
   fun i hi ho => k.own i (Nat.lt_of_lt_of_le hi h.nx) (h.own i hi ho),
   fun i hi ho hw => k.frn i (Nat.lt_of_lt_of_le hi h.nx) (h.frn i hi ho hw) (h.keep i hi hw).2, fun i b hb hr => h.ro i b (k.ro i b hb hr) hr⟩
theorem LeF.le {C D : Ctx} (h : LeF C D) : Le C D := ⟨h.nx, fun i hi ho => ⟨(h.keep i hi fun hw => ho (C.wo i hw)).1, h.own i hi ho⟩⟩
theorem LeF.refl (C : Ctx) : LeF C C := ⟨Nat.le_refl _, Nat.le_refl _, fun _ _ => rfl, rfl, fun _ _ h => ⟨rfl, h⟩, fun _ _ h => h, fun _ _ h _ => h, fun _ _ h _ => h⟩
theorem LeF.trans {C D E : Ctx} (h : LeF C D) (k : LeF D E) : LeF C E :=
  ⟨Nat.le_trans h.nx k.nx, Nat.le_trans h.n k.n, fun i hi => (k.ψ i (Nat.lt_of_lt_of_le hi h.n)).trans (h.ψ i hi), k.lo.trans h.lo,
   fun i hi hw => by
    obtain ⟨a, b⟩ := h.keep i hi hw
    obtain ⟨c, d⟩ := k.keep i (Nat.lt_of_lt_of_le hi h.nx) b
    exact ⟨c.trans a, d⟩,
   fun i hi ho => k.own i (Nat.lt_of_lt_of_le hi h.nx) (h.own i hi ho),
   fun i hi ho hw => k.frn i (Nat.lt_of_lt_of_le hi h.nx) (h.frn i hi ho hw) (h.keep i hi hw).2, fun i b hb hr => h.ro i b (k.ro i b hb hr) hr⟩
theorem LeF.r {C D : Ctx} (h : LeF C D) {f : Bool} {w : W} {v : V} (hr : R C f w v) : R D f w v := hr.mono h.le fun _ => ⟨h.n, h.ψ⟩
theorem LeF.lr {C D : Ctx} (h : LeF C D) {f : Bool} {ws : List W} {vs : List V} (hr : LR C f ws vs) : LR D f ws vs := hr.mono h.le fun _ => ⟨h.n, h.ψ⟩
theorem LeF.br {C D : Ctx} (h : LeF C D) {b : BN} {c : Blk} (hb : BR C b c) : BR D b c := ⟨hb.mp, hb.ty, hb.sz, hb.sp, hb.ro, h.lr hb.cs⟩
def RX (C : Ctx) (w : W) (x : X) : Prop := ∃ v, x = V.toX v ∧ R C true w v
theorem LeF.rx {C D : Ctx} (h : LeF C D) {w : W} {x : X} : RX C w x → RX D w x := fun ⟨v, e, hr⟩ => ⟨v, e, h.r hr⟩
theorem RX.of {C : Ctx} {f : Bool} {w : W} {v : V} (h : R C f w v) : RX C w (V.toX v) := ⟨v, rfl, h.up⟩
theorem RX.toV {C : Ctx} {w : W} {x : X} (h : RX C w x) : R C true w x.toV := by
  obtain ⟨v, rfl, hr⟩ := h
  rw [toX_toV]; exact hr
theorem BR.mp' {C : Ctx} {b : BN} {c : Blk} {i : Nat} {H : Hp} (h : BR C b c) (hl : Vx.look H i = some c) : lookC H i = some c := by
  unfold lookC; rw [hl]; simp [h.mp]
theorem St.blk {C : Ctx} {N : Nm} {M : Mm} (h : St C N M) {id : Nat} {b : BN} (hb : lookN N.H id = some b) : id < C.n ∧ ∃ c, lookC M.H (C.ψ id) = some c ∧ Vx.look C.H (C.ψ id) = some c ∧ BR C b c ∧ (b.ro = false → C.wr (C.ψ id)) ∧ (b.ro = true → ¬ C.own (C.ψ id)) := by
  obtain ⟨h1, c, h2, h3, h4⟩ := h.bl id b hb
  exact ⟨h1, c, by rw [h.h]; exact h3.mp' h2, h2, h3, h4⟩
theorem lookN_cons {H : List (Nat × BN)} {i j : Nat} {b : BN} : lookN ((j, b) :: H) i = if j = i then some b else lookN H i := by
  show (bif Nat.beq j i then some b else lookN H i) = _
  by_cases h : j = i
  · subst h; simp
  · have : Nat.beq j i = false := by rw [Bool.eq_false_iff]; simpa using h
    rw [this, if_neg h]; rfl
theorem lookN_upd {H : List (Nat × BN)} {i j : Nat} {b c : BN} : lookN H i = some c → lookN (updN H i b) j = if i = j then some b else lookN H j := by
  intro h
  induction H with
  | nil => simp [lookN] at h
  | cons e H ih =>
    obtain ⟨k, d⟩ := e
    rw [lookN_cons] at h
    by_cases hk : k = i
    · subst hk
      have : updN ((k, d) :: H) k b = (k, b) :: H := by simp [updN]
      rw [this, lookN_cons, lookN_cons]
      by_cases hj : k = j <;> simp [hj]
    · rw [if_neg hk] at h
      have hb : Nat.beq k i = false := by rw [Bool.eq_false_iff]; simpa using hk
      have : updN ((k, d) :: H) i b = (k, d) :: updN H i b := by simp [updN, hb]
      rw [this, lookN_cons, lookN_cons, ih h]
      by_cases hj : k = j
      · subst hj; simp [Ne.symm hk]
      · simp [hj]
theorem lookN_del {H : List (Nat × BN)} {i j : Nat} : lookN (delN H i) j = if i = j then none else lookN H j := by
  induction H with
  | nil => simp [delN, lookN]
  | cons e H ih =>
    obtain ⟨k, d⟩ := e
    by_cases hk : k = i
    · subst hk
      have : delN ((k, d) :: H) k = delN H k := by simp [delN]
      rw [this, ih, lookN_cons]
      by_cases hj : k = j <;> simp [hj]
    · have hb : Nat.beq k i = false := by rw [Bool.eq_false_iff]; simpa using hk
      have : delN ((k, d) :: H) i = (k, d) :: delN H i := by simp [delN, hb]
      rw [this, lookN_cons, ih, lookN_cons]
      by_cases hj : k = j
      · subst hj; simp [Ne.symm hk]
      · simp [hj]
theorem lookN_delI {l : List Nat} {H : List (Nat × BN)} {j : Nat} : lookN (delI l H) j = if memN j l = true then none else lookN H j := by
  induction H with
  | nil => simp [delI, lookN]
  | cons e H ih =>
    obtain ⟨k, d⟩ := e
    cases hm : memN k l with
    | true =>
      have : delI l ((k, d) :: H) = delI l H := by simp [delI, hm]
      rw [this, ih, lookN_cons]
      by_cases hj : k = j
      · subst hj; simp [hm]
      · simp [hj]
    | false =>
      have : delI l ((k, d) :: H) = (k, d) :: delI l H := by simp [delI, hm]
      rw [this, lookN_cons, ih, lookN_cons]
      by_cases hj : k = j
      · subst hj; simp [hm]
      · simp [hj]
theorem lookN_frz {l : List Nat} {H : List (Nat × BN)} {j : Nat} : lookN (frzH l H) j = (lookN H j).map fun b => if memN j l = true then { b with ro := true } else b := by
  induction H with
  | nil => simp [frzH, lookN]
  | cons e H ih =>
    obtain ⟨k, d⟩ := e
    have : frzH l ((k, d) :: H) = (k, bif memN k l then { d with ro := true } else d) :: frzH l H := rfl
    rw [this, lookN_cons, lookN_cons, ih]
    by_cases hj : k = j
    · subst hj; cases memN k l <;> simp
    · simp [hj]
end Go.Proofs.Ytehbfajmileefaa.Hx
namespace Go.Proofs.Ytehbfajmileefaa.Hx
open Go.RowKit Go.Proofs.Ytehbfajmileefaa.Vx Go.Proofs.Ytehbfajmileefaa.Fx Go.Proofs.Ytehbfajmileefaa.Px
section
variable {C : Ctx} {x : X}
theorem RX.i {k : IntKind} {n : Int} (h : RX C (.i k n) x) : x = .i k n := by obtain ⟨v, rfl, hr⟩ := h; cases hr; rfl
theorem RX.b {t : Bool} (h : RX C (.b t) x) : x = .b t := by obtain ⟨v, rfl, hr⟩ := h; cases hr; rfl
theorem RX.s {l : ByteArray} (h : RX C (.s l) x) : x = .v (.str (.str l)) := by obtain ⟨v, rfl, hr⟩ := h; cases hr; rfl
theorem RX.c {v : V} (h : RX C (.c v) x) : x = .v v ∧ nilV v = true := by
  obtain ⟨u, rfl, hr⟩ := h
  cases hr with
  | c hv => exact ⟨by revert hv; cases v <;> simp [nilV] <;> rfl, hv⟩
theorem RX.ptr {id off : Nat} (h : RX C (.ptr id off) x) : x = .v (.ptr (C.ψ id) off) ∧ id < C.n := by obtain ⟨v, rfl, hr⟩ := h; cases hr; exact ⟨rfl, ‹_›⟩
theorem RX.sl {id off len z : Nat} {cap : Cap} (h : RX C (.sl id off len cap z) x) : x = .v (.sl (C.ψ id) off len cap) ∧ id < C.n := by obtain ⟨v, rfl, hr⟩ := h; cases hr; exact ⟨rfl, ‹_›⟩
theorem RX.agg {ws : List W} (h : RX C (.agg ws) x) : ∃ vs, x = .v (.agg vs) ∧ LR C true ws vs := by obtain ⟨v, rfl, hr⟩ := h; cases hr; exact ⟨_, rfl, ‹_›, ‹_›⟩
theorem RX.tup {ws : List W} (h : RX C (.tup ws) x) : ∃ vs, x = .v (.tup vs) ∧ LR C true ws vs := by obtain ⟨v, rfl, hr⟩ := h; cases hr; exact ⟨_, rfl, ‹_›, ‹_›⟩
theorem RX.fn {f : Nat} {xs ys : List W} (h : RX C (.fn f xs ys) x) : ∃ vs us, x = .v (.fn (.func f) vs us) ∧ LR C true xs vs ∧ LR C true ys us := by obtain ⟨v, rfl, hr⟩ := h; cases hr; exact ⟨_, _, rfl, ⟨‹_›, ‹_›⟩, ‹_›, ‹_›⟩
theorem RX.p {cells : List W} {d : Nat} (h : RX C (.p cells d) x) : ∃ id off b, x = .v (.ptr id (off + d)) ∧ id < C.nx ∧ ¬ C.own id ∧ lookC C.H id = some b ∧ off + cells.length ≤ b.cells.length ∧ LR C false cells ((b.cells.drop off).take cells.length) := by
  obtain ⟨v, rfl, hr⟩ := h
  cases hr with
  | p h1 h2 h3 h4 h5 => exact ⟨_, _, _, rfl, h1, h2, h3, h4, by simp; omega, fun i w v a b => by
      rw [List.getElem?_take] at b
      split at b
      · rw [List.getElem?_drop] at b; exact h5 i w v a b
      · simp at b⟩
theorem RX.l {rows : List W} {cp : Cp} (h : RX C (.l rows cp) x) (hc : (cp.isE && rows.isEmpty) = false) : (x = .v .nils ∧ rows = [] ∧ ∀ k, cp = .n k → k = 0) ∨ ∃ id off cap b z, x = .v (.sl id off rows.length cap) ∧ id < C.nx ∧ ¬ C.own id ∧ lookC C.H id = some b ∧ off + rows.length * z ≤ b.cells.length ∧ CapR cp cap rows.length z b ∧
      (∀ (i : Nat) (r : W), rows[i]? = some r → r.cells.length = z) ∧ (∀ (i d : Nat) (r w : W) (v : V), rows[i]? = some r → r.cells[d]? = some w → b.cells[off + i * z + d]? = some v → R C false w v) := by
  obtain ⟨v, rfl, hr⟩ := h
  cases hr with
  | lnil h => exact .inl ⟨rfl, rfl, h⟩
  | emp h => simp [Cp.isE] at hc
  | l h1 h2 h3 h4 h5 h6 h7 => exact .inr ⟨_, _, _, _, _, rfl, h1, h2, h3, h4, h5, h6, h7⟩
theorem RX.cells {w : W} (h : RX C w x) (hu : w ≠ .u) : LR C true w.cells x.cells := by
  obtain ⟨v, rfl, hr⟩ := h
  cases hr with
  | agg h1 h2 => exact ⟨h1, h2⟩
  | u => exact absurd rfl hu
  | i => exact .cons .i .nil
  | b => exact .cons .b .nil
  | s => exact .cons .s .nil
  | c h => revert h; cases v <;> simp [nilV] <;> exact .cons (.c rfl) .nil
  | ptr h => exact .cons (.ptr h) .nil
  | sl h => exact .cons (.sl h) .nil
  | lnil h => exact .cons (.lnil h) .nil
  | emp h => exact .cons (.emp h) .nil
  | l h1 h2 h3 h4 h5 h6 h7 => exact .cons (.l h1 h2 h3 h4 h5 h6 h7) .nil
  | p h1 h2 h3 h4 h5 => exact .cons (.p h1 h2 h3 h4 h5) .nil
  | fn h1 h2 h3 h4 => exact .cons (.fn h1 h2 h3 h4) .nil
  | tup h1 h2 => exact .cons (.tup h1 h2) .nil
end
section
variable {C : Ctx} {N : Nm} {M : Mm} {Q : CX → CW → Prop} {w w1 w2 w3 : W} {x x1 x2 x3 : X} {K : X → CX} {K' : W → CW}
theorem oW_ok {α : Type} {o : Option α} {k : α → CW} {c : CX} (hQ : ∀ c, Q c .no) (h : ∀ a, o = some a → Q c (k a)) : Q c (oW o k) := by
  cases o with
  | none => exact hQ _
  | some a => exact h a rfl
theorem RX.mk_i {k : IntKind} {n : Int} : RX C (.i k n) (.i k n) := ⟨_, (toX_int k n).symm, .i⟩
theorem RX.mk_b {t : Bool} : RX C (.b t) (.b t) := ⟨_, (toX_bool t).symm, .b⟩
theorem RX.mk_un : RX C .un (.v .undef) := ⟨.tup [], rfl, .tup rfl (by simp)⟩
theorem hBin_ok (hQ : ∀ c, Q c .no) {op : BinOp} (h1 : RX C w1 x1) (h2 : RX C w2 x2) (hk : ∀ w x, RX C w x → Q (K x) (K' w)) : Q (vBin op x1 x2 K) (hBin op w1 w2 K') := by
  unfold hBin
  split
  · obtain rfl := h1.i
    obtain rfl := h2.i
    split
    · rename_i e; subst e
      rw [vBin_i]
      cases op <;> simp only [hb, binB, oW, oC] <;> first | exact hQ _ | exact hk _ _ .mk_i | exact hk _ _ .mk_b
    · exact hQ _
  · exact hQ _
theorem hNot_ok (hQ : ∀ c, Q c .no) (h1 : RX C w1 x1) (hk : ∀ w x, RX C w x → Q (K x) (K' w)) : Q (vNot x1 K) (hNot w1 K') := by
  unfold hNot
  split
  · obtain rfl := h1.b; exact hk _ _ .mk_b
  · exact hQ _
theorem hIf_ok (hQ : ∀ c, Q c .no) {a b : CX} {a' b' : CW} (h1 : RX C w1 x1) (ha : Q a a') (hb : Q b b') : Q (vIf x1 a b) (hIf w1 a' b') := by
  unfold hIf
  split
  · rename_i t; obtain rfl := h1.b
    rw [vIf_b]
    cases t <;> simp [ha, hb]
  · exact hQ _
theorem hPick_ok (hQ : ∀ c, Q c .no) (h1 : RX C w1 x1) (h2 : RX C w2 x2) (h3 : RX C w3 x3) (hk : ∀ w x, RX C w x → Q (K x) (K' w)) : Q (vPick x1 x2 x3 K) (hPick w1 w2 w3 K') := by
  unfold hPick
  split
  · rename_i t; obtain rfl := h1.b
    rw [vPick_b]
    cases t <;> simp <;> exact hk _ _ ‹_›
  · exact hQ _
theorem hConv_ok (hQ : ∀ c, Q c .no) {kd : IntKind} (h1 : RX C w1 x1) (hk : ∀ w x, RX C w x → Q (K x) (K' w)) : Q (vConv kd x1 K) (hConv kd w1 K') := by
  unfold hConv
  split
  · obtain rfl := h1.i; exact hk _ _ .mk_i
  · exact hQ _
theorem hLoad1_ok (hQ : ∀ c, Q c .no) (hS : St C N M) (h1 : RX C w1 x1) (hk : ∀ w x, RX C w x → Q (K x) (K' w)) : Q (vLoad1 x1 M K) (hLoad1 w1 N K') := by
  unfold hLoad1
  split
  · obtain ⟨rfl, hid⟩ := h1.ptr
    refine oW_ok hQ fun b hb => oW_ok hQ fun u hu => ?_
    split
    · rename_i ho
      obtain ⟨-, c, h2, -, h3, -⟩ := hS.blk hb
      obtain ⟨v, h4, h5⟩ := h3.cs.get hu
      rw [vLoad1_p, h2]
      simp only [oC_some, h4, h5.one ho, if_true]
      exact hk _ _ (.of h5)
    · exact hQ _
  · obtain ⟨id, off, b, rfl, h2, h3, h4, h5, h6⟩ := h1.p
    refine oW_ok hQ fun u hu => ?_
    split
    · rename_i cs d ho
      obtain ⟨v, h7, h8⟩ := h6.get hu
      rw [List.getElem?_take] at h7
      split at h7
      · rw [List.getElem?_drop] at h7
        rw [vLoad1_p, hS.h, h4]
        simp only [oC_some, h7, h8.one ho, if_true]
        exact hk _ _ (.of h8)
      · simp at h7
    · exact hQ _
  · exact hQ _
theorem hLoadN_ok (hQ : ∀ c, Q c .no) {n : Nat} (hS : St C N M) (h1 : RX C w1 x1) (hk : ∀ w x, RX C w x → Q (K x) (K' w)) : Q (vLoadN n x1 M K) (hLoadN n w1 N K') := by
  unfold hLoadN
  split
  · obtain ⟨rfl, hid⟩ := h1.ptr
    refine oW_ok hQ fun b hb => ?_
    split
    · rename_i ho
      obtain ⟨-, c, h2, -, h3, -⟩ := hS.blk hb
      rw [vLoadN_p, h2]
      have := (h3.cs.drop ‹Nat›).1
      simp only [oC_some]
      rw [if_pos (by rw [← (h3.cs.drop _).1]; exact ho)]
      exact hk _ _ (RX.of ((h3.cs.drop _).take n).agg)
    · exact hQ _
  · rename_i cs d
    obtain ⟨id, off, b, rfl, h2, h3, h4, h5, h6⟩ := h1.p
    split
    · rename_i ho
      rw [vLoadN_p, hS.h, h4]
      have e := ((h6.drop d).take n)
      have e2 : ((((b.cells.drop off).take cs.length).drop d).take n) = (b.cells.drop (off + d)).take n := by
        rw [List.drop_take, List.drop_drop, List.take_take, Nat.min_eq_left (by simpa using ho)]
      rw [e2] at e
      simp only [oC_some]
      rw [if_pos (by simp at ho ⊢; omega)]
      exact hk _ _ (RX.of e.agg)
    · exact hQ _
  · exact hQ _
theorem hFieldAddr_ok (hQ : ∀ c, Q c .no) {d : Nat} (h1 : RX C w1 x1) (hk : ∀ w x, RX C w x → Q (K x) (K' w)) : Q (vFieldAddr d x1 K) (hFieldAddr d w1 K') := by
  unfold hFieldAddr
  split
  · obtain ⟨rfl, hid⟩ := h1.ptr
    exact hk _ _ ⟨.ptr _ _, rfl, .ptr hid⟩
  · obtain ⟨v, rfl, hr⟩ := h1
    cases hr with
    | p h2 h3 h4 h5 h6 =>
      rw [toX_ptr, vFieldAddr_p, Nat.add_assoc]
      exact hk _ _ ⟨.ptr _ _, rfl, .p h2 h3 h4 h5 h6⟩
  · exact hQ _
theorem hIndexAddr_ok (hQ : ∀ c, Q c .no) {z : Nat} (h1 : RX C w1 x1) (h2 : RX C w2 x2) (hk : ∀ w x, RX C w x → Q (K x) (K' w)) : Q (vIndexAddr z x1 x2 K) (hIndexAddr z w1 w2 K') := by
  unfold hIndexAddr
  split
  · obtain ⟨rfl, hid⟩ := h1.sl
    obtain rfl := h2.i
    rw [vIndexAddr_s]
    split
    · exact hk _ _ ⟨.ptr _ _, rfl, .ptr hid⟩
    · exact hQ _
  · obtain rfl := h2.i
    rename_i rows cp k n
    split
    · rename_i h0
      refine oW_ok hQ fun r hr => ?_
      split
      · rename_i hz
        rcases h1.l (by cases rows with | nil => simp at hr | cons a l => simp) with ⟨rfl, rfl, -⟩ | ⟨id, off, cap, b, z', rfl, g1, g2, g3, g4, g5, g6, g7⟩
        · simp at hr
        · have hlt := (List.getElem?_eq_some_iff.1 hr).1
          have hz' : z' = z := by rw [← hz]; exact (g6 _ _ hr).symm
          subst hz'
          have hne : rows ≠ [] := by intro e; subst e; simp at hlt
          have hle := g4
          have hle2 : (n.toNat + 1) * z' ≤ rows.length * z' := Nat.mul_le_mul_right _ hlt
          rw [vIndexAddr_s, if_pos ⟨h0, by omega⟩]
          refine hk _ _ ⟨.ptr id (off + n.toNat * z' + 0), rfl, .p g1 g2 g3 ?_ fun i w v a1 a2 => g7 n.toNat i r w v hr a1 a2⟩
          rw [hz, Nat.add_assoc]
          rw [Nat.add_mul, Nat.one_mul] at hle2
          omega
      · exact hQ _
    · exact hQ _
  · exact hQ _
theorem hIndexArr_ok (hQ : ∀ c, Q c .no) {m z : Nat} (h1 : RX C w1 x1) (h2 : RX C w2 x2) (hk : ∀ w x, RX C w x → Q (K x) (K' w)) : Q (vIndexArr m z x1 x2 K) (hIndexArr m z w1 w2 K') := by
  unfold hIndexArr
  split
  · obtain ⟨rfl, hid⟩ := h1.ptr
    obtain rfl := h2.i
    show Q (if _ then _ else _) _
    split
    · exact hk _ _ ⟨.ptr _ _, rfl, .ptr hid⟩
    · exact hQ _
  · obtain rfl := h2.i
    obtain ⟨v, rfl, hr⟩ := h1
    cases hr with
    | p h2 h3 h4 h5 h6 =>
      show Q (if _ then _ else _) _
      split
      · rw [Nat.add_assoc]; exact hk _ _ ⟨.ptr _ _, rfl, .p h2 h3 h4 h5 h6⟩
      · exact hQ _
  · exact hQ _
theorem hLenS_ok (hQ : ∀ c, Q c .no) (h1 : RX C w1 x1) (hk : ∀ w x, RX C w x → Q (K x) (K' w)) : Q (vLenS x1 K) (hLenS w1 K') := by
  unfold hLenS
  split
  · obtain ⟨rfl, -⟩ := h1.c; exact hk _ _ .mk_i
  · obtain ⟨rfl, -⟩ := h1.sl; exact hk _ _ .mk_i
  · rename_i rows cp
    cases hE : (cp.isE && rows.isEmpty) with
    | false => rcases h1.l hE with ⟨rfl, rfl, -⟩ | ⟨id, off, cap, b, z', rfl, -⟩ <;> exact hk _ _ .mk_i
    | true =>
      obtain ⟨v, rfl, hr⟩ := h1
      cases hr with
      | lnil _ => exact hk _ _ .mk_i
      | l => exact hk _ _ .mk_i
      | emp h =>
        rename_i j
        show Q (bif Nat.beq (j % 2) 1 then K (.i .i64 0) else .no) _
        rw [h]
        exact hk _ _ .mk_i
  · exact hQ _
theorem hLenT_ok (hQ : ∀ c, Q c .no) (h1 : RX C w1 x1) (hk : ∀ w x, RX C w x → Q (K x) (K' w)) : Q (vLenT x1 K) (hLenT w1 K') := by
  unfold hLenT
  split
  · obtain rfl := h1.s; exact hk _ _ .mk_i
  · exact hQ _
theorem hIndexT_ok (hQ : ∀ c, Q c .no) (h1 : RX C w1 x1) (h2 : RX C w2 x2) (hk : ∀ w x, RX C w x → Q (K x) (K' w)) : Q (vIndexT x1 x2 K) (hIndexT w1 w2 K') := by
  unfold hIndexT
  split
  · obtain rfl := h1.s
    obtain rfl := h2.i
    show Q (if _ then oC _ _ else _) _
    split
    · refine oW_ok hQ fun c hc => ?_
      rw [hc]
      exact hk _ _ .mk_i
    · exact hQ _
  · exact hQ _
theorem hEqT_ok (hQ : ∀ c, Q c .no) {neg : Bool} (h1 : RX C w1 x1) (h2 : RX C w2 x2) (hk : ∀ w x, RX C w x → Q (K x) (K' w)) : Q (vEqT neg x1 x2 K) (hEqT neg w1 w2 K') := by
  unfold hEqT
  split
  · obtain rfl := h1.s
    obtain rfl := h2.s
    exact hk _ _ .mk_b
  · exact hQ _
theorem hExt_ok (hQ : ∀ c, Q c .no) {i : Nat} (h1 : RX C w1 x1) (hk : ∀ w x, RX C w x → Q (K x) (K' w)) : Q (vExt i x1 K) (hExt i w1 K') := by
  unfold hExt
  split
  · obtain ⟨vs, rfl, hl⟩ := h1.tup
    refine oW_ok hQ fun u hu => ?_
    obtain ⟨v, h2, h3⟩ := hl.get hu
    rw [vExt_t, h2]
    exact hk _ _ (.of h3)
  · exact hQ _
end
end Go.Proofs.Ytehbfajmileefaa.Hx
namespace Go.Proofs.Ytehbfajmileefaa.Hx
open Go.RowKit Go.Proofs.Ytehbfajmileefaa.Vx Go.Proofs.Ytehbfajmileefaa.Fx Go.Proofs.Ytehbfajmileefaa.Px
theorem chunk_get : ∀ (n z : Nat) (l : List W) (i : Nat), (chunk n z l)[i]? = if i < n then some (mkRow z ((l.drop (i * z)).take z)) else none
  | 0, z, l, i => by simp [chunk]
  | n + 1, z, l, 0 => by simp [chunk]
  | n + 1, z, l, i + 1 => by
    show (chunk n z (l.drop z))[i]? = _
    rw [chunk_get n z (l.drop z) i, List.drop_drop]
    have e : z + i * z = (i + 1) * z := by rw [Nat.add_mul, Nat.one_mul, Nat.add_comm]
    rw [e]
    by_cases h : i < n
    · rw [if_pos h, if_pos (by omega)]
    · rw [if_neg h, if_neg (by omega)]
theorem chunk_len : ∀ (n z : Nat) (l : List W), (chunk n z l).length = n
  | 0, z, l => rfl
  | n + 1, z, l => by simp [chunk, chunk_len n z]
theorem mkRow_cells {z : Nat} {m : List W} (hm : m.length = z) (hz : 0 < z) : (mkRow z m).cells.length = z ∧ ∀ (d : Nat) (u : W), (mkRow z m).cells[d]? = some u → m[d]? = some u ∨ (u = .u ∧ d < m.length) := by
  unfold mkRow
  split
  · refine ⟨rfl, fun d u h => ?_⟩
    simp only [W.cells] at h
    cases d with
    | zero => simp at h; exact .inr ⟨h.symm, by simp⟩
    | succ d => simp at h
  · rename_i w hw
    have : w.cells = [w] := by cases w <;> first | rfl | exact absurd rfl (hw _)
    rw [this]
    exact ⟨rfl, fun d u h => .inl h⟩
  · exact ⟨hm, fun d u h => .inl h⟩
theorem memN_iff {i : Nat} : ∀ {l : List Nat}, memN i l = true ↔ i ∈ l
  | [] => by simp [memN]
  | j :: l => by
    have := memN_iff (i := i) (l := l)
    simp only [memN, Bool.or_eq_true, this, List.mem_cons]
    constructor
    · rintro (h | h)
      · exact .inl (Nat.eq_of_beq_eq_true h).symm
      · exact .inr h
    · rintro (h | h)
      · subst h; exact .inl (Nat.beq_refl _)
      · exact .inr h
section
variable {C : Ctx} {N : Nm} {M : Mm}
def Ctx.less (C : Ctx) (l : List Nat) : Ctx := { C with own := fun i => C.own i ∧ ¬ (C.wr i ∧ ∃ j, j ∈ l ∧ j < C.n ∧ C.ψ j = i), wr := fun i => C.wr i ∧ ¬ ∃ j, j ∈ l ∧ j < C.n ∧ C.ψ j = i, wo := fun i h => ⟨C.wo i h.1, fun h2 => h.2 h2.2⟩ }
theorem less_le (l : List Nat) : LeF C (C.less l) := ⟨Nat.le_refl _, Nat.le_refl _, fun _ _ => rfl, rfl, fun i _ h => ⟨rfl, fun h2 => h h2.1⟩, fun i _ h h2 => h h2.1, fun i _ h hw => ⟨h, fun h2 => hw h2.1⟩, fun _ _ h _ => h⟩
theorem St.less (hS : St C N M) (l : List Nat) : St (C.less l) ⟨frzH l N.H, N.nx⟩ M := by
  refine ⟨hS.h, hS.x, hS.n, hS.fr, hS.inj, hS.lt, fun id b hb => ?_, fun i hi => hS.wl i hi.1, hS.ll, fun i hi => hS.ol i hi.1⟩
  rw [lookN_frz] at hb
  cases hl : lookN N.H id with
  | none => rw [hl] at hb; simp at hb
  | some b0 =>
    rw [hl] at hb
    obtain ⟨h1, c, h2, h3, h4, h5⟩ := hS.bl id b0 hl
    simp only [Option.map_some, Option.some.injEq] at hb
    have k3 := (less_le (C := C) l).br h3
    refine ⟨h1, c, h2, ?_, ?_, ?_⟩
    · subst hb
      split
      · exact ⟨k3.mp, k3.ty, k3.sz, k3.sp, k3.ro, k3.cs⟩
      · exact k3
    · intro hr
      subst hb
      split at hr
      · simp at hr
      · rename_i hm
        exact ⟨h4 hr, fun ⟨j, hj, hjn, e⟩ => hm (memN_iff.2 (by rw [← hS.inj j id hjn h1 e]; exact hj))⟩
    · intro hr ho
      obtain ⟨ho1, ho2⟩ := ho
      cases hr0 : b0.ro with
      | true => exact h5 hr0 ho1
      | false =>
        refine ho2 ⟨h4 hr0, id, ?_, h1, rfl⟩
        subst hb
        split at hr
        · rename_i hm; exact memN_iff.1 hm
        · rw [hr0] at hr; simp at hr
theorem St.sub (hS : St C N M) {H' : List (Nat × BN)} (hsub : ∀ id b, lookN H' id = some b → lookN N.H id = some b) : St C ⟨H', N.nx⟩ M :=
  ⟨hS.h, hS.x, hS.n, hS.fr, hS.inj, hS.lt, fun id b hb => hS.bl id b (hsub id b hb), hS.wl, hS.ll, hS.ol⟩
theorem frz_del (l : List Nat) (H : List (Nat × BN)) (id : Nat) (b : BN) (h : lookN (delI l H) id = some b) : lookN (frzH l H) id = some b := by
  rw [lookN_delI] at h
  split at h
  · simp at h
  · rename_i hm
    rw [lookN_frz, h]
    simp [hm]
theorem St.move (hS : St C N M) (l : List Nat) : St (C.less l) ⟨delI l N.H, N.nx⟩ M := (hS.less l).sub (frz_del l N.H)
theorem pur_ok (hS : St C N M) {D : Ctx} (hH : D.H = C.H) (hx : D.nx = C.nx) (hO : ∀ i, D.own i → C.own i) : ∀ (k : Nat) (w : W) (v : V), R C true w v →
    (∀ id b, id ∈ ids k N.H w → lookN N.H id = some b → ¬ D.own (C.ψ id)) → R D false (pur k N.H w) v := by
  have hle : Le C D := ⟨by rw [hx]; exact Nat.le_refl _, fun i hi ho => ⟨by rw [hH], fun h => ho (hO i h)⟩⟩
  have base : ∀ {w : W} {v : V}, R C true w v → w.pu1 = true → R D false w v := fun h hp => (h.pu1 hp).mono hle (by simp)
  have cells : ∀ (k : Nat), (∀ (w : W) (v : V), R C true w v → (∀ id b, id ∈ ids k N.H w → lookN N.H id = some b → ¬ D.own (C.ψ id)) → R D false (pur k N.H w) v) →
      ∀ (id : Nat) (b : BN), lookN N.H id = some b → (b.pu = false → ∀ id' b', id' ∈ b.cells.flatMap (ids k N.H) → lookN N.H id' = some b' → ¬ D.own (C.ψ id')) →
      ∃ c, lookC D.H (C.ψ id) = some c ∧ BR C b c ∧ C.ψ id < D.nx ∧ LR D false (bif b.pu then b.cells else b.cells.map (pur k N.H)) c.cells := by
    intro k ih id b hb hi
    obtain ⟨h1, c, h2, -, h3, -, -⟩ := hS.blk hb
    refine ⟨c, by rw [hH, ← hS.h]; exact h2, h3, by rw [hx]; exact (hS.lt id h1).2, ?_⟩
    have hc := h3.cs
    cases hp : b.pu with
    | true => rw [hp] at hc; exact hc.mono hle (by simp)
    | false =>
      rw [hp] at hc
      refine ⟨by simp [hc.1], fun i w v a1 a2 => ?_⟩
      simp only [cond_false, List.getElem?_map] at a1
      cases hw : b.cells[i]? with
      | none => rw [hw] at a1; simp at a1
      | some w0 =>
        rw [hw] at a1; simp at a1; subst a1
        exact ih w0 v (hc.2 i w0 v hw a2) fun id' b' hid => hi hp id' b' (List.mem_flatMap.2 ⟨w0, List.mem_of_getElem? hw, hid⟩)
  intro k
  induction k with
  | zero =>
    intro w v h hi
    have := h.nb
    cases h <;> first | exact .u this | exact base (by first | exact .i | exact .b | exact .s | exact .c ‹_› | exact .lnil ‹_› | exact .emp ‹_› | exact .l ‹_› ‹_› ‹_› ‹_› ‹_› ‹_› ‹_› | exact .p ‹_› ‹_› ‹_› ‹_› ‹_› | exact .u ‹_›) rfl
  | succ k ih =>
    intro w v h hi
    have hnb := h.nb
    have lists : ∀ {ws : List W} {vs : List V}, LR C true ws vs → (∀ id b, id ∈ ws.flatMap (ids k N.H) → lookN N.H id = some b → ¬ D.own (C.ψ id)) → LR D false (ws.map (pur k N.H)) vs := by
      intro ws vs hl hi
      refine ⟨by simp [hl.1], fun i w v a1 a2 => ?_⟩
      rw [List.getElem?_map] at a1
      cases hw : ws[i]? with
      | none => rw [hw] at a1; simp at a1
      | some w0 =>
        rw [hw] at a1; simp at a1; subst a1
        exact ih w0 v (hl.2 i w0 v hw a2) fun id b hid => hi id b (List.mem_flatMap.2 ⟨w0, List.mem_of_getElem? hw, hid⟩)
    cases h with
    | ptr hid =>
      rename_i id off
      simp only [pur]
      cases hb : lookN N.H id with
      | none => exact .u hnb
      | some b =>
        simp only
        obtain ⟨c, g1, g2, g3, g4⟩ := cells k ih id b hb (fun hp id' b' hid' => hi id' b' (by simp only [ids, hb, hp, cond_false]; exact List.mem_cons_of_mem _ hid'))
        have := R.p (C := D) (f := false) (d := off) (off := 0) g3 (hi id b (by simp [ids]) hb) g1 (by rw [g4.1]; omega) (fun i w v a1 a2 => g4.2 i w v a1 (by simpa using a2))
        simpa using this
    | sl hid =>
      rename_i id off len cap z
      simp only [pur]
      cases hb : lookN N.H id with
      | none => exact .u hnb
      | some b =>
        simp only
        obtain ⟨c, g1, g2, g3, g4⟩ := cells k ih id b hb (fun hp id' b' hid' => hi id' b' (by simp only [ids, hb, hp, cond_false]; exact List.mem_cons_of_mem _ hid'))
        cases hq : (Nat.ble (off + len * z) b.cells.length && capFits cap len z b && Nat.blt 0 z) with
        | false => exact .u hnb
        | true =>
          simp only [cond_true]
          simp only [Bool.and_eq_true, Nat.ble_eq, Nat.blt_eq] at hq
          obtain ⟨⟨q1, q2⟩, q3⟩ := hq
          generalize (bif b.pu then b.cells else b.cells.map (pur k N.H)) = cs at g4 ⊢
          have hcl : b.cells.length = c.cells.length := g2.cs.1
          have hcl2 : cs.length = c.cells.length := g4.1
          have row : ∀ i, i < len → (((cs.drop off).drop (i * z)).take z).length = z := by
            intro i hi
            have : (i + 1) * z ≤ len * z := Nat.mul_le_mul_right _ hi
            rw [Nat.add_mul, Nat.one_mul] at this
            simp; omega
          have e := R.l (C := D) (f := false) (rows := chunk len z (cs.drop off)) (cp := cpOf cap) (cap := cap) (off := off) (z := z) g3 (hi id b (by simp [ids]) hb) g1 (by rw [chunk_len]; omega) ?_ ?_ ?_
          · rw [chunk_len] at e; exact e
          · rw [chunk_len]
            unfold capFits at q2
            unfold CapR cpOf
            cases cap with
            | is n => simp only [Nat.ble_eq] at q2; exact ⟨q2, fun k hk => by injection hk with hk; exact hk.symm⟩
            | rest q =>
              simp only [Bool.and_eq_true, Nat.ble_eq] at q2
              exact ⟨rfl, by rw [g2.sp]; exact q2.1.1, by rw [g2.sz]; exact Nat.eq_of_beq_eq_true q2.1.2, by rw [← hcl]; exact q2.2⟩
          · intro i r hr
            rw [chunk_get] at hr
            split at hr
            · rename_i hil; obtain rfl := Option.some.inj hr; exact (mkRow_cells (row i hil) q3).1
            · simp at hr
          · intro i d r w v hr hw hv
            rw [chunk_get] at hr
            split at hr
            · rename_i hil; obtain rfl := Option.some.inj hr
              rcases (mkRow_cells (row i hil) q3).2 d w hw with hw | ⟨rfl, hd⟩
              · rw [List.getElem?_take] at hw
                split at hw
                · rw [List.getElem?_drop, List.getElem?_drop] at hw
                  exact g4.2 _ w v hw (by rw [← hv]; congr 1; omega)
                · simp at hw
              · have := (g4.get (i := off + i * z + d) (w := cs[off + i * z + d]'(by
                  rw [row i hil] at hd
                  have : (i + 1) * z ≤ len * z := Nat.mul_le_mul_right _ hil
                  rw [Nat.add_mul, Nat.one_mul] at this
                  omega)) (List.getElem?_eq_getElem _))
                obtain ⟨v', e1, e2⟩ := this
                rw [hv] at e1; simp at e1; subst e1
                exact .u e2.nb
            · simp at hr
    | fn h1 h2 h3 h4 =>
      simp only [pur]
      have l1 := lists ⟨h1, h3⟩ fun id b hid => hi id b (by simp only [ids]; exact List.mem_append_left _ hid)
      have l2 := lists ⟨h2, h4⟩ fun id b hid => hi id b (by simp only [ids]; exact List.mem_append_right _ hid)
      exact .fn l1.1 l2.1 l1.2 l2.2
    | agg h1 h2 => simp only [pur]; exact (lists ⟨h1, h2⟩ hi).agg
    | tup h1 h2 => simp only [pur]; have l1 := lists ⟨h1, h2⟩ hi; exact .tup l1.1 l1.2
    | _ => exact base (by first | exact .i | exact .b | exact .s | exact .c ‹_› | exact .lnil ‹_› | exact .emp ‹_› | exact .l ‹_› ‹_› ‹_› ‹_› ‹_› ‹_› ‹_› | exact .p ‹_› ‹_› ‹_› ‹_› ‹_› | exact .u ‹_›) rfl
theorem plainL_get {l : List V} : V.plainL l = true → ∀ {i : Nat} {x : V}, l[i]? = some x → V.plain x = true := by
  induction l with
  | nil => intro _ i x h; simp at h
  | cons y l ih =>
    intro hp i x hx
    simp only [V.plainL, Bool.and_eq_true] at hp
    cases i with
    | zero => simp at hx; subst hx; exact hp.1
    | succ i => simp at hx; exact ih hp.2 hx
theorem pur_plain {E : Ctx} {H : List (Nat × BN)} : ∀ (k : Nat) (w : W) (v : V), R C true w v → V.plain v = true → R E false (pur k H w) v := by
  have base : ∀ {w : W} {v : V}, R C true w v → w.pu1 = true → V.plain v = true → R E false w v := fun h hp hv => (h.pu1 hp).plain hv
  intro k
  induction k with
  | zero =>
    intro w v h hv
    have := h.nb
    cases h <;> first | exact .u this | exact base (by first | exact .i | exact .b | exact .s | exact .c ‹_› | exact .lnil ‹_› | exact .emp ‹_› | exact .l ‹_› ‹_› ‹_› ‹_› ‹_› ‹_› ‹_› | exact .p ‹_› ‹_› ‹_› ‹_› ‹_› | exact .u ‹_›) rfl hv
  | succ k ih =>
    intro w v h hv
    have lists : ∀ {ws : List W} {vs : List V}, LR C true ws vs → V.plainL vs = true → LR E false (ws.map (pur k H)) vs := by
      intro ws vs hl hp
      refine ⟨by simp [hl.1], fun i w v a1 a2 => ?_⟩
      rw [List.getElem?_map] at a1
      cases hw : ws[i]? with
      | none => rw [hw] at a1; simp at a1
      | some w0 =>
        rw [hw] at a1; simp at a1; subst a1
        exact ih w0 v (hl.2 i w0 v hw a2) (plainL_get hp a2)
    cases h with
    | ptr hid => simp [V.plain] at hv
    | sl hid => simp [V.plain] at hv
    | fn h1 h2 h3 h4 =>
      simp only [V.plain, Bool.and_eq_true] at hv
      simp only [pur]
      have l1 := lists ⟨h1, h3⟩ hv.1
      have l2 := lists ⟨h2, h4⟩ hv.2
      exact .fn l1.1 l2.1 l1.2 l2.2
    | agg h1 h2 => simp only [pur]; exact (lists ⟨h1, h2⟩ (by simpa [V.plain] using hv)).agg
    | tup h1 h2 => simp only [pur]; have l1 := lists ⟨h1, h2⟩ (by simpa [V.plain] using hv); exact .tup l1.1 l1.2
    | _ => exact base (by first | exact .i | exact .b | exact .s | exact .c ‹_› | exact .lnil ‹_› | exact .emp ‹_› | exact .l ‹_› ‹_› ‹_› ‹_› ‹_› ‹_› ‹_› | exact .p ‹_› ‹_› ‹_› ‹_› ‹_› | exact .u ‹_›) rfl hv
end
end Go.Proofs.Ytehbfajmileefaa.Hx
namespace Go.Proofs.Ytehbfajmileefaa.Hx
open Go.RowKit Go.Proofs.Ytehbfajmileefaa.Vx Go.Proofs.Ytehbfajmileefaa.Fx Go.Proofs.Ytehbfajmileefaa.Px
section
variable {C : Ctx} {N : Nm} {M : Mm} {Q : CX → CW → Prop} {w w1 w2 w3 : W} {x x1 x2 x3 : X} {K : X → CX} {K' : W → CW} {KM : X → Mm → CX} {KN : W → Nm → CW}
def HK (C : Ctx) (M : Mm) (dz : Option Nat) (Q : CX → CW → Prop) (KM : X → Mm → CX) (KN : W → Nm → CW) : Prop :=
  ∀ (D : Ctx) (w : W) (x : X) (N' : Nm) (M' : Mm), LeF C D → St D N' M' → RX D w x → KeepX dz M M' → Q (KM x M') (KN w N')
theorem keepSame {dz : Option Nat} : KeepX dz M M := ⟨fun _ _ _ => rfl, fun _ _ h _ => h⟩
theorem LR.flag {p q : Bool} {ws : List W} {vs : List V} (h : LR C (!p) ws vs) (hq : q = true → p = true) : LR C (!q) ws vs := by
  cases q with
  | true => rw [hq rfl] at h; exact h
  | false => exact h.up
theorem St.new (hS : St C N M) {b : BN} {c : Blk} (hb : BR C b c) (hr : b.ro = false) (lw : Nat) : ∃ D, LeF C D ∧ St D ⟨(N.nx, b) :: N.H, N.nx + 1⟩ ⟨(M.nx, c) :: M.H, M.nx + 1, lw⟩ ∧ N.nx < D.n ∧ D.ψ N.nx = M.nx ∧ KeepX none M ⟨(M.nx, c) :: M.H, M.nx + 1, lw⟩ := by
  have hnx := hS.x
  have hn := hS.n
  let D : Ctx := { C with H := (C.nx, c) :: C.H, nx := C.nx + 1, own := fun i => C.own i ∨ i = C.nx, wr := fun i => C.wr i ∨ i = C.nx, ψ := fun i => if i = C.n then C.nx else C.ψ i, n := C.n + 1, wo := fun i h => h.imp (C.wo i) id }
  have hL : LeF C D := by
    refine ⟨Nat.le_succ _, Nat.le_succ _, fun i hi => if_neg (by omega), rfl, fun i hi h => ⟨?_, ?_⟩, fun i hi h => ?_, fun i hi h _ => .inl h, fun i b' h' hr' => ?_⟩
    · show Vx.look ((C.nx, c) :: C.H) i = _
      rw [look_cons, if_neg (by omega)]
    · rintro (h2 | h2); exact h h2; omega
    · rintro (h2 | h2); exact h h2; omega
    · have h' : Vx.look ((C.nx, c) :: C.H) i = some b' := h'
      rw [look_cons] at h'
      split at h'
      · simp at h'; subst h'; rw [hb.ro] at hr'; simp at hr'
      · exact h'
  refine ⟨D, hL, ⟨?_, ?_, ?_, ?_, ?_, ?_, ?_, ?_, ?_, ?_⟩, ?_, ?_, ?_⟩
  · show (M.nx, c) :: M.H = (C.nx, c) :: C.H
    rw [hS.h, hnx]
  · show M.nx + 1 = C.nx + 1
    rw [hnx]
  · show N.nx + 1 = C.n + 1
    rw [hn]
  · exact Srt.cons hS.fr c
  · intro i j hi hj
    have hi : i < C.n + 1 := hi
    have hj : j < C.n + 1 := hj
    show (if i = C.n then C.nx else C.ψ i) = (if j = C.n then C.nx else C.ψ j) → _
    split <;> split
    · omega
    · intro e; have := (hS.lt j (by omega)).2; omega
    · intro e; have := (hS.lt i (by omega)).2; omega
    · intro e; exact hS.inj i j (by omega) (by omega) e
  · intro i hi
    have hi : i < C.n + 1 := hi
    show C.lo ≤ (if i = C.n then C.nx else C.ψ i) ∧ (if i = C.n then C.nx else C.ψ i) < C.nx + 1
    split
    · exact ⟨hS.ll, by omega⟩
    · have := hS.lt i (by omega); omega
  · intro id b' hb'
    show id < C.n + 1 ∧ ∃ c', Vx.look ((C.nx, c) :: C.H) (if id = C.n then C.nx else C.ψ id) = some c' ∧ BR D b' c' ∧ (b'.ro = false → (C.wr (if id = C.n then C.nx else C.ψ id) ∨ (if id = C.n then C.nx else C.ψ id) = C.nx)) ∧ (b'.ro = true → ¬ (C.own (if id = C.n then C.nx else C.ψ id) ∨ (if id = C.n then C.nx else C.ψ id) = C.nx))
    rw [lookN_cons] at hb'
    split at hb'
    · rename_i e
      simp at hb'; subst hb'
      rw [if_pos (by omega)]
      refine ⟨by omega, c, by rw [look_cons, if_pos rfl], hL.br hb, fun _ => .inr rfl, fun h => by rw [hr] at h; simp at h⟩
    · rename_i e
      obtain ⟨h1, c', h2, h3, h4, h5⟩ := hS.bl id b' hb'
      rw [if_neg (by omega)]
      have := (hS.lt id h1).2
      refine ⟨by omega, c', by rw [look_cons, if_neg (by omega)]; exact h2, hL.br h3, fun h => .inl (h4 h), fun h => ?_⟩
      rintro (h6 | h6); exact h5 h h6; omega
  · intro i hi
    rcases hi with hi | hi
    · exact hS.wl i hi
    · have := hS.ll; show C.lo ≤ i; omega
  · have := hS.ll; show C.lo ≤ C.nx + 1; omega
  · intro i hi
    show i < C.nx + 1
    rcases hi with hi | hi
    · have := hS.ol i hi; omega
    · omega
  · show N.nx < C.n + 1; omega
  · show (if N.nx = C.n then C.nx else C.ψ N.nx) = M.nx
    rw [if_pos hn, hnx]
  · refine ⟨fun j hj _ => ?_, fun i b' hb' hr' => ?_⟩
    · show Vx.look ((M.nx, c) :: M.H) j = _
      rw [look_cons, if_neg (by omega)]
    · have hb' : Vx.look ((M.nx, c) :: M.H) i = some b' := hb'
      rw [look_cons] at hb'
      split at hb'
      · simp at hb'; subst hb'; rw [hb.ro] at hr'; simp at hr'
      · exact hb'
theorem St.bump (hS : St C N M) (lw : Nat) : ∃ D, LeF C D ∧ St D ⟨N.H, N.nx + 1⟩ ⟨M.H, M.nx + 1, lw⟩ ∧ KeepX none M ⟨M.H, M.nx + 1, lw⟩ := by
  have hnx := hS.x
  have hn := hS.n
  let D : Ctx := { C with nx := C.nx + 1, ψ := fun i => if i = C.n then C.nx else C.ψ i, n := C.n + 1 }
  have hL : LeF C D := ⟨Nat.le_succ _, Nat.le_succ _, fun i hi => if_neg (by omega), rfl, fun i hi h => ⟨rfl, h⟩, fun i hi h => h, fun i hi h _ => h, fun _ _ h _ => h⟩
  refine ⟨D, hL, ⟨hS.h, ?_, ?_, Srt.le hS.fr (Nat.le_succ _), ?_, ?_, ?_, hS.wl, ?_, ?_⟩, ⟨fun j hj _ => rfl, fun i b h _ => h⟩⟩
  · show M.nx + 1 = C.nx + 1
    rw [hnx]
  · show N.nx + 1 = C.n + 1
    rw [hn]
  · intro i j hi hj
    have hi : i < C.n + 1 := hi
    have hj : j < C.n + 1 := hj
    show (if i = C.n then C.nx else C.ψ i) = (if j = C.n then C.nx else C.ψ j) → _
    split <;> split
    · omega
    · intro e; have := (hS.lt j (by omega)).2; omega
    · intro e; have := (hS.lt i (by omega)).2; omega
    · intro e; exact hS.inj i j (by omega) (by omega) e
  · intro i hi
    have hi : i < C.n + 1 := hi
    show C.lo ≤ (if i = C.n then C.nx else C.ψ i) ∧ (if i = C.n then C.nx else C.ψ i) < C.nx + 1
    split
    · exact ⟨hS.ll, by omega⟩
    · have := hS.lt i (by omega); omega
  · intro id b' hb'
    obtain ⟨h1, c', h2, h3, h4, h5⟩ := hS.bl id b' hb'
    show id < C.n + 1 ∧ ∃ c', Vx.look C.H (if id = C.n then C.nx else C.ψ id) = some c' ∧ BR D b' c' ∧ (b'.ro = false → C.wr (if id = C.n then C.nx else C.ψ id)) ∧ (b'.ro = true → ¬ C.own (if id = C.n then C.nx else C.ψ id))
    rw [if_neg (by omega)]
    exact ⟨by omega, c', h2, hL.br h3, h4, h5⟩
  · have := hS.ll; show C.lo ≤ C.nx + 1; omega
  · intro i hi; have := hS.ol i hi; show i < C.nx + 1; omega
theorem St.upd (hS : St C N M) {id : Nat} {b : BN} (hb : lookN N.H id = some b) (hr : b.ro = false) {ws : List W} {vs : List V} {pu : Bool} (hl : LR C (!pu) ws vs) : ∃ c, lookC M.H (C.ψ id) = some c ∧ BR C b c ∧ ∀ lw, ∃ D, LeF C D ∧
    St D ⟨updN N.H id { b with cells := ws, pu := pu }, N.nx⟩ ⟨Vx.upd M.H (C.ψ id) { c with cells := vs }, M.nx, lw⟩ ∧ KeepX (some (C.ψ id)) M ⟨Vx.upd M.H (C.ψ id) { c with cells := vs }, M.nx, lw⟩ ∧ D.n = C.n ∧ D.ψ = C.ψ := by
  obtain ⟨h1, c, h2, h3, h4, h5, h6⟩ := hS.blk hb
  refine ⟨c, h2, h4, fun lw => ?_⟩
  let D : Ctx := { C with H := Vx.upd C.H (C.ψ id) { c with cells := vs } }
  have hL : LeF C D := by
    refine ⟨Nat.le_refl _, Nat.le_refl _, fun i hi => rfl, rfl, fun i hi h => ⟨?_, h⟩, fun i hi h => h, fun i hi h _ => h, fun i b' h' hr' => ?_⟩
    rotate_left
    · have h' : Vx.look (Vx.upd C.H (C.ψ id) { c with cells := vs }) i = some b' := h'
      rw [look_upd h3] at h'
      split at h'
      · simp at h'; subst h'; simp [h4.ro] at hr'
      · exact h'
    show Vx.look (Vx.upd C.H (C.ψ id) _) i = _
    rw [look_upd h3, if_neg (fun e => h (by rw [← e]; exact h5 hr))]
  refine ⟨D, hL, ⟨?_, hS.x, hS.n, Srt.upd hS.fr _ _, hS.inj, hS.lt, ?_, hS.wl, hS.ll, hS.ol⟩, KeepX.upd h2 h4.ro lw, rfl, rfl⟩
  · show Vx.upd M.H _ _ = Vx.upd C.H _ _
    rw [hS.h]
  · intro id' b' hb'
    show id' < C.n ∧ ∃ c', Vx.look (Vx.upd C.H (C.ψ id) { c with cells := vs }) (C.ψ id') = some c' ∧ BR D b' c' ∧ (_ → (C.wr _)) ∧ (_ → ¬ (C.own _))
    rw [lookN_upd hb] at hb'
    split at hb'
    · rename_i e
      subst e
      simp at hb'; subst hb'
      refine ⟨h1, { c with cells := vs }, by rw [look_upd h3, if_pos rfl], ⟨?_, h4.ty, h4.sz, h4.sp, h4.ro, hL.lr hl⟩, h5, h6⟩
      rw [Blk.mp_cells]; exact h4.mp
    · rename_i e
      obtain ⟨k1, c', k2, k3, k4, k5⟩ := hS.bl id' b' hb'
      exact ⟨k1, c', by rw [look_upd h3, if_neg (fun q => e (hS.inj _ _ h1 k1 q))]; exact k2, hL.br k3, k4, k5⟩
theorem St.rest (hS : St C N M) {id : Nat} {b b2 : BN} {c2 : Blk} (hb : lookN N.H id = some b) (hr : b.ro = false) (hb2 : BR C b2 c2) (hr2 : b2.ro = false) (lw : Nat) : ∃ D, LeF C D ∧
    St D ⟨(N.nx, b2) :: delN N.H id, N.nx + 1⟩ ⟨(M.nx, c2) :: Vx.del M.H (C.ψ id), M.nx + 1, lw⟩ ∧ N.nx < D.n ∧ D.ψ N.nx = M.nx ∧ KeepX (some (C.ψ id)) M ⟨(M.nx, c2) :: Vx.del M.H (C.ψ id), M.nx + 1, lw⟩ := by
  obtain ⟨h1, c, h2, h3, h4, h5, h6⟩ := hS.blk hb
  let E : Ctx := { C with H := Vx.del C.H (C.ψ id) }
  have hE : LeF C E := by
    refine ⟨Nat.le_refl _, Nat.le_refl _, fun i hi => rfl, rfl, fun i hi h => ⟨?_, h⟩, fun i hi h => h, fun i hi h _ => h, fun i b' h' hr' => ?_⟩
    rotate_left
    · have h' : Vx.look (Vx.del C.H (C.ψ id)) i = some b' := h'
      rw [look_del] at h'
      split at h'
      · simp at h'
      · exact h'
    show Vx.look (Vx.del C.H (C.ψ id)) i = _
    rw [look_del, if_neg (fun e => h (by rw [← e]; exact h5 hr))]
  have sE : St E ⟨delN N.H id, N.nx⟩ ⟨Vx.del M.H (C.ψ id), M.nx, lw⟩ := by
    refine ⟨?_, hS.x, hS.n, Srt.del hS.fr _, hS.inj, hS.lt, ?_, hS.wl, hS.ll, hS.ol⟩
    · show Vx.del M.H _ = Vx.del C.H _
      rw [hS.h]
    · intro id' b' hb'
      show id' < C.n ∧ ∃ c', Vx.look (Vx.del C.H (C.ψ id)) (C.ψ id') = some c' ∧ BR E b' c' ∧ (_ → (C.wr _)) ∧ (_ → ¬ (C.own _))
      rw [lookN_del] at hb'
      split at hb'
      · simp at hb'
      · rename_i e
        obtain ⟨k1, c', k2, k3, k4, k5⟩ := hS.bl id' b' hb'
        exact ⟨k1, c', by rw [look_del, if_neg (fun q => e (hS.inj _ _ h1 k1 q))]; exact k2, hE.br k3, k4, k5⟩
  obtain ⟨D, d1, d2, d3, d4, d5⟩ := sE.new (hE.br hb2) hr2 lw
  refine ⟨D, hE.trans d1, d2, d3, d4, fun j hj hne => ?_, fun i b' hb' hr' => ?_⟩
  · rw [d5.1 j hj (by simp)]
    show Vx.look (Vx.del M.H (C.ψ id)) j = _
    rw [look_del, if_neg (fun e => hne (by rw [e]))]
  · have := d5.2 i b' hb' hr'
    have this : Vx.look (Vx.del M.H (C.ψ id)) i = some b' := this
    rw [look_del] at this
    split at this
    · simp at this
    · exact this
theorem hNew_ok {t z : Nat} {ws : List W} {vs : List V} (hS : St C N M) (hl : LR C true ws vs) (hk : HK C M none Q KM KN) : Q (vAlloc t z vs M KM) (hNew t z ws N KN) := by
  have hb : BR C ⟨t, z, ws, false, false, ws.all W.pu⟩ ⟨t, z, vs, false, false⟩ := by
    refine ⟨by cases z <;> rfl, rfl, rfl, rfl, rfl, ?_⟩
    show LR C (!(ws.all W.pu)) ws vs
    cases hp : ws.all W.pu with
    | false => exact hl
    | true => exact hl.pu hp
  obtain ⟨D, d1, d2, d3, d4, d5⟩ := hS.new hb rfl M.lw
  refine hk D _ _ _ _ d1 d2 ⟨.ptr M.nx 0, rfl, ?_⟩ d5
  rw [← d4]; exact .ptr d3
theorem hStore1_ok (hQ : ∀ c, Q c .no) (hS : St C N M) (h1 : RX C w1 x1) (h2 : RX C w2 x2) (hk : HK C M (idX x1) Q KM KN) : Q (vStore1 x1 x2 M KM) (hStore1 w1 w2 N KN) := by
  unfold hStore1
  split
  · rename_i id off
    obtain ⟨rfl, hid⟩ := h1.ptr
    refine oW_ok hQ fun b hb => ?_
    split
    · rename_i hc
      obtain ⟨hc1, hc2, hc3⟩ := hc
      obtain ⟨-, c, g2, -, g3, -, -⟩ := hS.blk hb
      have r2 := h2.toV
      have hl : LR C (!(b.pu && w2.pu)) (b.cells.set off w2) (put1 c.cells off [x2.toV]) := by
        refine LR.set (g3.cs.flag (by simp; intro h _; exact h)) ?_ hc3
        cases hp : (b.pu && w2.pu) with
        | false => exact r2
        | true => simp only [Bool.and_eq_true] at hp; exact r2.pu hp.2
      obtain ⟨c', k1, k2, k3⟩ := hS.upd hb hc1 hl
      rw [g2] at k1; simp at k1; subst k1
      obtain ⟨lw, st⟩ := store1_of (M := M) (x := x2) g2 g3.ro (r2.one hc2) (by rw [← g3.cs.1]; exact hc3)
      rw [st]
      obtain ⟨D, d1, d2, d3, -, -⟩ := k3 lw
      exact hk D _ _ _ _ d1 d2 .mk_un d3
    · exact hQ _
  · exact hQ _
theorem hStoreN_ok (hQ : ∀ c, Q c .no) {n : Nat} (hS : St C N M) (h1 : RX C w1 x1) (h2 : RX C w2 x2) (hk : HK C M (idX x1) Q KM KN) : Q (vStoreN n x1 x2 M KM) (hStoreN n w1 w2 N KN) := by
  unfold hStoreN
  split
  · rename_i id off l
    obtain ⟨rfl, hid⟩ := h1.ptr
    obtain ⟨vs, rfl, r2⟩ := h2.agg
    refine oW_ok hQ fun b hb => ?_
    split
    · rename_i hc
      obtain ⟨hc1, hc2, hc3, hc4⟩ := hc
      obtain ⟨-, c, g2, -, g3, -, -⟩ := hS.blk hb
      have hl : LR C (!(b.pu && l.all W.pu)) (putW b.cells off l) (put1 c.cells off vs) := by
        refine LR.put (g3.cs.flag (by simp; intro h _; exact h)) ?_ off
        cases hp : (b.pu && l.all W.pu) with
        | false => exact r2
        | true => simp only [Bool.and_eq_true] at hp; exact r2.pu hp.2
      obtain ⟨c', k1, k2, k3⟩ := hS.upd hb hc1 hl
      rw [g2] at k1; simp at k1; subst k1
      obtain ⟨lw, st⟩ := storeN_of (M := M) (n := n) g2 g3.ro (by rw [← r2.1]; exact hc2) (r2.one hc3) (by rw [← g3.cs.1, ← r2.1, hc2]; exact hc4)
      rw [st]
      obtain ⟨D, d1, d2, d3, -, -⟩ := k3 lw
      exact hk D _ _ _ _ d1 d2 .mk_un d3
    · exact hQ _
  · exact hQ _
end
end Go.Proofs.Ytehbfajmileefaa.Hx
namespace Go.Proofs.Ytehbfajmileefaa.Hx
open Go.RowKit Go.Proofs.Ytehbfajmileefaa.Vx Go.Proofs.Ytehbfajmileefaa.Fx Go.Proofs.Ytehbfajmileefaa.Px
section
variable {P : Program} {C : Ctx} {N : Nm} {M : Mm} {Q : CX → CW → Prop} {w w1 w2 w3 : W} {x x1 x2 x3 : X} {K : X → CX} {K' : W → CW} {KM : X → Mm → CX} {KN : W → Nm → CW}
theorem hBox_ok (hQ : ∀ c, Q c .no) {t z : Nat} (hS : St C N M) (h1 : RX C w1 x1) (hk : HK C M none Q KM KN) : Q (vBox t z x1 M KM) (hBox t z w1 N KN) := by
  unfold hBox
  split
  · exact hQ _
  · rename_i hu
    exact hNew_ok hS (h1.cells hu) hk
theorem setL_of {vs cs : List V} : ∀ {off : Nat}, off + vs.length ≤ cs.length → setL cs off vs = some (put1 cs off vs) := by
  intro off h
  have : ∀ (vs l : List V), vs.length ≤ l.length → overN vs l = some (vs ++ l.drop vs.length) := by
    intro vs
    induction vs with
    | nil => intro l _; simp [overN]
    | cons v vs ih =>
      intro l hl
      cases l with
      | nil => simp at hl
      | cons u l =>
        show (Option.rec (motive := fun _ => Option (List V)) none (fun l => some (v :: l)) (overN vs l) : Option (List V)) = _
        rw [ih l (by simpa using hl)]
        simp
  have key : ∀ (off : Nat) (cs : List V), off + vs.length ≤ cs.length → setL cs off vs = some (put1 cs off vs) := by
    intro off
    induction off with
    | zero =>
      intro cs h
      cases cs with
      | nil =>
        show overN vs [] = _
        rw [this vs [] (by simpa using h)]
        simp [put1]
      | cons u cs =>
        show overN vs (u :: cs) = _
        rw [this vs _ (by simpa using h)]
        simp [put1]
    | succ off ih =>
      intro cs h
      cases cs with
      | nil => simp at h
      | cons u cs =>
        show (Option.rec (motive := fun _ => Option (List V)) none (fun l => some (u :: l)) (setL cs off vs) : Option (List V)) = _
        rw [ih cs (by simp at h; omega)]
        simp [put1, Nat.add_right_comm]
  exact key off cs h
theorem fill_ok : ∀ {ps : List (Nat × Nat × W)} {qs : List (Nat × Nat × X)} {ws : List W} {vs : List V} {l : List W}, ps.length = qs.length → (∀ (i : Nat) p q, ps[i]? = some p → qs[i]? = some q → p.1 = q.1 ∧ p.2.1 = q.2.1 ∧ RX C p.2.2 q.2.2 ∧ p.2.2 ≠ .u) → LR C true ws vs → hFill ps ws = some l → ∃ m, vFill qs vs = some m ∧ LR C true l m
  | [], [], ws, vs, l, _, _, hl, h => by simp [hFill] at h; subst h; exact ⟨vs, rfl, hl⟩
  | [], _ :: _, _, _, _, h, _, _, _ => by simp at h
  | _ :: _, [], _, _, _, h, _, _, _ => by simp at h
  | (off, z, w) :: ps, (off', z', x) :: qs, ws, vs, l, hlen, hp, hl, h => by
    obtain ⟨e1, e2, e3, e4⟩ := hp 0 _ _ rfl rfl
    simp only at e1 e2 e3 e4
    subst e1; subst e2
    simp only [hFill] at h
    split at h
    · rename_i hc
      have hcl := e3.cells e4
      have := fill_ok (by simpa using hlen) (fun i p q a b => hp (i + 1) p q a b) (hl.put hcl off) h
      obtain ⟨m, k1, k2⟩ := this
      refine ⟨m, ?_, k2⟩
      simp only [vFill]
      rw [if_pos (by rw [← hcl.1]; exact hc.1), setL_of (by rw [← hcl.1, ← hl.1, hc.1]; exact hc.2)]
      exact k1
    · simp at h
theorem hBuild_ok (hQ : ∀ c, Q c .no) {z : List V} {ws : List W} {ps : List (Nat × Nat × W)} {qs : List (Nat × Nat × X)} (hz : LR C true ws z) (hlen : ps.length = qs.length) (hp : ∀ (i : Nat) p q, ps[i]? = some p → qs[i]? = some q → p.1 = q.1 ∧ p.2.1 = q.2.1 ∧ RX C p.2.2 q.2.2 ∧ p.2.2 ≠ .u) (hk : ∀ w x, RX C w x → Q (K x) (K' w)) : Q (vBuild z qs K) (hBuild ws ps K') := by
  unfold hBuild
  refine oW_ok hQ fun l hl => ?_
  obtain ⟨m, k1, k2⟩ := fill_ok hlen hp hz hl
  unfold vBuild
  rw [k1]
  exact hk _ _ (RX.of k2.agg)
def LX (C : Ctx) (ws : List W) (xs : List X) : Prop := ws.length = xs.length ∧ ∀ (i : Nat) w x, ws[i]? = some w → xs[i]? = some x → RX C w x
theorem LX.lr {ws : List W} {xs : List X} (h : LX C ws xs) : LR C true ws (xs.map X.toV) := ⟨by simp [h.1], fun i w v a b => by
  rw [List.getElem?_map] at b
  cases hx : xs[i]? with
  | none => rw [hx] at b; simp at b
  | some x => rw [hx] at b; simp at b; subst b; exact (h.2 i w x a hx).toV⟩
theorem LR.lx {ws : List W} {vs : List V} (h : LR C true ws vs) : LX C ws (vs.map V.toX) := ⟨by simp [h.1], fun i w x a b => by
  rw [List.getElem?_map] at b
  cases hx : vs[i]? with
  | none => rw [hx] at b; simp at b
  | some v => rw [hx] at b; simp at b; subst b; exact .of (h.2 i w v a hx)⟩
theorem LX.append {ws ws' : List W} {xs xs' : List X} (h : LX C ws xs) (h' : LX C ws' xs') : LX C (ws ++ ws') (xs ++ xs') := ⟨by simp [h.1, h'.1], fun i w x a b => by
  rw [List.getElem?_append] at a b
  rw [h.1] at a
  split at a <;> rename_i hi
  · rw [if_pos hi] at b; exact h.2 i w x a b
  · rw [if_neg hi] at b; exact h'.2 _ w x a b⟩
theorem hFn_ok {f : Nat} {us ws : List W} {xs ys : List X} (h1 : LX C us xs) (h2 : LX C ws ys) (hk : ∀ w x, RX C w x → Q (K x) (K' w)) : Q (vFn f xs ys K) (hFn f us ws K') := by
  have l1 := h1.lr
  have l2 := h2.lr
  exact hk _ _ ⟨.fn (.func f) _ _, rfl, .fn l1.1 l2.1 l1.2 l2.2⟩
theorem hGuard_ok (hQ : ∀ c, Q c .no) {want : Bool} {dz : Option Nat} {o : (X → Mm → CX) → CX} {o' : (W → Nm → CW) → CW} (hS : St C N M) (h1 : RX C w1 x1) (ho : Q (o KM) (o' KN)) (hk : HK C M dz Q KM KN) : Q (vGuard x1 want o M KM) (hGuard w1 want o' N KN) := by
  unfold hGuard
  split
  · obtain rfl := h1.b
    rw [vGuard_b]
    split
    · exact ho
    · exact hk C _ _ _ _ (LeF.refl C) hS .mk_un keepSame
  · obtain ⟨vs, rfl, hl⟩ := h1.tup
    have : vs = [] := List.length_eq_zero_iff.1 (by rw [← hl.1]; rfl)
    subst this
    exact hk C _ _ _ _ (LeF.refl C) hS .mk_un keepSame
  · exact hQ _
theorem sw_ok {v : V} {w : W} (h : V.sw v = some w) : RX C w (V.toX v) := by
  unfold V.sw at h
  split at h <;> simp at h <;> subst h
  · exact ⟨_, rfl, .i⟩
  · exact ⟨_, rfl, .b⟩
  · exact ⟨_, rfl, .s⟩
theorem sv1_ok {f : Bool} {v u : V} (h1 : R C f w u) (h : w.sv1 = some v) : u = v := by
  cases h1 <;> simp [W.sv1] at h <;> exact h
theorem sv_r {f : Bool} {v u : V} (h1 : R C f w u) (h : w.sv = some v) : u = v := by
  cases h1 with
  | agg h2 h3 =>
    rename_i xs xs'
    simp only [W.sv, Option.map_eq_some_iff] at h
    obtain ⟨l, hl, rfl⟩ := h
    congr 1
    have key : ∀ (xs : List W) (xs' l : List V), xs.length = xs'.length → (∀ (i : Nat) w v, xs[i]? = some w → xs'[i]? = some v → R C f w v) → mapO W.sv1 xs = some l → xs' = l := by
      intro xs
      induction xs with
      | nil => intro xs' l h2 _ hl; simp [mapO] at hl; subst hl; exact List.length_eq_zero_iff.1 h2.symm
      | cons x xs ih =>
        intro xs' l h2 h3 hl
        cases xs' with
        | nil => simp at h2
        | cons y ys =>
          simp only [mapO, Option.bind_eq_some_iff, Option.map_eq_some_iff] at hl
          obtain ⟨a, ha, us, hus, rfl⟩ := hl
          rw [sv1_ok (h3 0 x y rfl rfl) ha, ih ys us (by simpa using h2) (fun i w v a b => h3 (i + 1) w v a b) hus]
    exact key xs xs' l h2 h3 hl
  | _ => first | (simp [W.sv, W.sv1] at h; done) | (simp only [W.sv, W.sv1, Option.some.injEq] at h; exact h)
theorem sv_ok {v : V} (h1 : RX C w x) (h : w.sv = some v) : nB x = some v := by
  have hb := h1.toV.nb
  have e := sv_r h1.toV h
  unfold nB; split
  · rename_i h; exact absurd h hb
  · rw [← e]
theorem hSc_ok (hQ : ∀ c, Q c .no) {o : Option (V × List T)} (hS : St C N M) (hk : ∀ w x, RX C w x → Q (KM x M) (K' w)) : Q (oR o M false KM) (hSc o K') := by
  unfold hSc
  split
  · refine oW_ok hQ fun u hu => ?_
    simp only [oR, Bool.false_eq_true, if_false]
    exact hk _ _ (sw_ok hu)
  · exact hQ _
theorem nil_ok {r : Bool} {t : TypeId} (h1 : RX C w1 x1) (h2 : RX C w2 x2) (h : nilB w1 w2 = some r) (ht : nilT P t w2 = true) : ∃ a b, nB x1 = some a ∧ nB x2 = some b ∧ binV P .eql t a b = some (.bool (.bool r), []) ∧ binV P .neq t a b = some (.bool (.bool (!r)), []) := by
  have n1 : nB x1 = some x1.toV := by
    have hb := h1.toV.nb
    unfold nB; split
    · rename_i h; exact absurd h hb
    · rfl
  have n2 : nB x2 = some x2.toV := by
    have hb := h2.toV.nb
    unfold nB; split
    · rename_i h; exact absurd h hb
    · rfl
  refine ⟨_, _, n1, n2, ?_⟩
  unfold nilB at h
  split at h <;> simp at h <;> subst h <;> (obtain ⟨rfl, -⟩ := h2.c) <;> simp only [nilT] at ht <;> split at ht <;> (try (simp at ht; done)) <;> rename_i hu
  · obtain ⟨rfl, -⟩ := h1.c; simp [binV, eqV, hu, X.toV, mkNot]
  · obtain ⟨rfl, -⟩ := h1.sl; simp [binV, eqV, hu, X.toV, mkNot]
  · rcases h1.l (by simp) with ⟨rfl, e, -⟩ | ⟨id, off, cap, b, z', rfl, -⟩
    · simp at e
    · simp [binV, eqV, hu, X.toV, mkNot]
  · obtain ⟨rfl, -⟩ := h1.c; simp [binV, eqV, hu, X.toV, mkNot]
  · obtain ⟨rfl, -⟩ := h1.ptr; simp [binV, eqV, hu, X.toV, mkNot]
  · obtain ⟨id, off, b, rfl, -⟩ := h1.p; simp [binV, eqV, hu, X.toV, mkNot]
  · obtain ⟨rfl, -⟩ := h1.c; simp [binV, eqV, hu, X.toV, mkNot]
  · obtain ⟨vs, us, rfl, -⟩ := h1.fn; simp [binV, eqV, hu, X.toV, mkNot]
theorem hBinG_ok (hQ : ∀ c, Q c .no) {op : BinOp} {t : TypeId} (hS : St C N M) (h1 : RX C w1 x1) (h2 : RX C w2 x2) (hk : ∀ w x, RX C w x → Q (KM x M) (K' w)) : Q (vBinG P op t x1 x2 M KM) (hBinG P op t w1 w2 K') := by
  unfold hBinG
  split
  · rename_i r hr
    split
    · split
      · rename_i ht
        obtain ⟨a, b, e1, e2, e3, -⟩ := nil_ok h1 h2 hr ht
        simp only [vBinG, e1, e2, Option.bind_some, e3, oR, Bool.false_eq_true, if_false]
        exact hk _ _ .mk_b
      · exact hQ _
    · split
      · rename_i ht
        obtain ⟨a, b, e1, e2, -, e3⟩ := nil_ok h1 h2 hr ht
        simp only [vBinG, e1, e2, Option.bind_some, e3, oR, Bool.false_eq_true, if_false]
        exact hk _ _ .mk_b
      · exact hQ _
    · exact hQ _
  · refine oW_ok hQ fun a ha => oW_ok hQ fun b hb => ?_
    simp only [vBinG, sv_ok h1 ha, sv_ok h2 hb, Option.bind_some]
    exact hSc_ok hQ hS hk
theorem hMM_ok (hQ : ∀ c, Q c .no) {mn : Bool} (hS : St C N M) (h1 : RX C w1 x1) (h2 : RX C w2 x2) (hk : ∀ w x, RX C w x → Q (KM x M) (K' w)) : Q (vMM mn x1 x2 M KM) (hMM mn w1 w2 K') := by
  unfold hMM
  split
  · obtain rfl := h1.i
    obtain rfl := h2.i
    split
    · rename_i kd a kd' b e
      subst e
      have e : vMM mn (.i kd a) (.i kd b) M KM = KM (.i kd (if mn then (if b < a then b else a) else (if a < b then b else a))) M := by
        simp only [vMM, nB_i, Option.bind_some, minmaxV, if_true]
        cases mn with
        | true =>
          simp only [if_true, mkLt, ltB, mkIte, Option.map_some]
          by_cases h : b < a
          · simp [h, oR, toX_int]
          · simp [h, oR, toX_int]
        | false =>
          simp only [Bool.false_eq_true, if_false, mkLt, ltB, mkIte, Option.map_some]
          by_cases h : a < b
          · simp [h, oR, toX_int]
          · simp [h, oR, toX_int]
      rw [e]
      exact hk _ _ .mk_i
    · exact hQ _
  · exact hQ _
theorem hCap_ok (hQ : ∀ c, Q c .no) {t : TypeId} (hS : St C N M) (h1 : RX C w1 x1) (hk : ∀ w x, RX C w x → Q (KM x M) (K' w)) : Q (vCap P t x1 M KM) (hCap P t w1 K') := by
  have go : ∀ {n : Nat}, (nB x1).bind (fun v => (capV P t v).map fun n => (V.int .i64 n, ([] : List T))) = some (.int .i64 (.int n), []) → Q (vCap P t x1 M KM) (K' (.i .i64 n)) := by
    intro n h
    simp only [vCap, h, oR, Bool.false_eq_true, if_false]
    exact hk _ _ .mk_i
  unfold hCap
  split
  · rename_i n e hu
    refine go ?_
    have hb := h1.toV.nb
    have : nB x1 = some x1.toV := by
      unfold nB; split
      · rename_i h; exact absurd h hb
      · rfl
    rw [this]; simp only [Option.bind_some, capV, hu, Option.map_some]
  · rename_i hu
    obtain ⟨rfl, -⟩ := h1.c
    exact go (n := 0) (by rw [nB_v (by simp)]; simp only [Option.bind_some, capV, hu, Option.map_some]; rfl)
  · rename_i hu
    obtain ⟨rfl, -⟩ := h1.sl
    exact go (by rw [nB_v (by simp)]; simp only [Option.bind_some, capV, hu, Option.map_some])
  · rename_i rows c hu
    rcases h1.l (by rfl) with ⟨rfl, rfl, h0⟩ | ⟨id, off, cap, b, z', rfl, -, -, -, -, hcap, -⟩
    · have := h0 _ rfl
      subst this
      exact go (n := 0) (by rw [nB_v (by simp)]; simp only [Option.bind_some, capV, hu, Option.map_some]; rfl)
    · unfold CapR at hcap
      split at hcap
      · have := hcap.2 _ rfl
        subst this
        exact go (by rw [nB_v (by simp)]; simp only [Option.bind_some, capV, hu, Option.map_some])
      · simp at hcap
  · exact hQ _
end
end Go.Proofs.Ytehbfajmileefaa.Hx
namespace Go.Proofs.Ytehbfajmileefaa.Hx
open Go.RowKit Go.Proofs.Ytehbfajmileefaa.Vx Go.Proofs.Ytehbfajmileefaa.Fx Go.Proofs.Ytehbfajmileefaa.Px
section
variable {P : Program} {C : Ctx} {N : Nm} {M : Mm} {Q : CX → CW → Prop} {w w1 w2 w3 : W} {x x1 x2 x3 : X} {K : X → CX} {K' : W → CW} {KM : X → Mm → CX} {KN : W → Nm → CW}
def OX (C : Ctx) (o : Option W) (o' : Option X) : Prop := (o = none ∧ o' = none) ∨ ∃ w x, o = some w ∧ o' = some x ∧ RX C w x
theorem bnd_ok {o : Option W} {o' : Option X} {d y n : Nat} (h : OX C o o') (hb : hBnd o d y = some n) : ∃ ov, nBo o' = some ov ∧ (∀ y', (o.isSome = true → n ≤ y → n ≤ y') → boundV ov d y' = some n) ∧ ov.isSome = o.isSome ∧ (o.isSome = true → n ≤ y) ∧ (o = none → n = d) := by
  rcases h with ⟨rfl, rfl⟩ | ⟨w, x, rfl, rfl, h⟩
  · simp only [hBnd, Option.some.injEq] at hb
    subst hb
    exact ⟨none, rfl, fun y' _ => rfl, rfl, by simp, by simp⟩
  · unfold hBnd at hb
    split at hb
    · rename_i e; simp at e
    · rename_i k m e
      simp at e; subst e
      split at hb
      · rename_i hc
        simp at hb
        obtain rfl := h.i
        refine ⟨some (.int k (.int m)), rfl, fun y' hy => ?_, rfl, fun _ => by omega, by simp⟩
        have e2 : m = ((m.toNat : Nat) : Int) := by omega
        unfold boundV
        rw [e2]
        simp only [natLit_c, Option.bind_some]
        have := hy rfl (by omega)
        rw [if_pos (by omega), hb]
      · simp at hb
    · simp at hb
theorem nB_of (h : RX C w x) : nB x = some x.toV := by
  have hb := h.toV.nb
  unfold nB; split
  · rename_i h; exact absurd h hb
  · rfl
theorem ox_nb {o : Option W} {o' : Option X} (h : OX C o o') : ∃ ov, nBo o' = some ov ∧ ov.isSome = o.isSome := by
  rcases h with ⟨rfl, rfl⟩ | ⟨w, x, rfl, rfl, h⟩
  · exact ⟨none, rfl, rfl⟩
  · exact ⟨some x.toV, by simp only [nBo, nB_of h, Option.map_some], rfl⟩
theorem l_piece {rows : List W} {cp : Cp} {cap : Cap} {id off z l h : Nat} {b : Blk} {cp' : Cp} {cap' : Cap} {off' : Nat} (g1 : id < C.nx) (g2 : ¬ C.own id) (g3 : lookC C.H id = some b) (g4 : off + rows.length * z ≤ b.cells.length)
    (g6 : ∀ (i : Nat) (r : W), rows[i]? = some r → r.cells.length = z) (g7 : ∀ (i d : Nat) (r w : W) (v : V), rows[i]? = some r → r.cells[d]? = some w → b.cells[off + i * z + d]? = some v → R C false w v)
    (hl : l ≤ h) (hh : h ≤ rows.length) (ho : off' = off + l * z ∨ (off' = off ∧ h = l)) (hc : CapR cp' cap' (h - l) z b) : R C true (.l ((rows.take h).drop l) cp') (.sl id off' (h - l) cap') := by
  have hlen : ((rows.take h).drop l).length = h - l := by simp; omega
  have hle : h * z ≤ rows.length * z := Nat.mul_le_mul_right _ hh
  have hle2 : l * z + (h - l) * z = h * z := by rw [← Nat.add_mul]; congr 1; omega
  have row : ∀ (i : Nat) (r : W), ((rows.take h).drop l)[i]? = some r → rows[l + i]? = some r ∧ l + i < h := by
    intro i r hr
    rw [List.getElem?_drop, List.getElem?_take] at hr
    split at hr
    · exact ⟨hr, ‹_›⟩
    · simp at hr
  have e := R.l (C := C) (f := true) (rows := (rows.take h).drop l) (cp := cp') (cap := cap') (id := id) (off := off') (z := z) (b := b) g1 g2 g3 ?_ ?_ ?_ ?_
  · rw [hlen] at e; exact e
  · rw [hlen]
    rcases ho with rfl | ⟨rfl, rfl⟩
    · omega
    · simp; omega
  · rw [hlen]; exact hc
  · intro i r hr; exact g6 _ _ (row i r hr).1
  · intro i d r w v hr hw hv
    obtain ⟨k1, k2⟩ := row i r hr
    rcases ho with rfl | ⟨rfl, rfl⟩
    · refine g7 (l + i) d r w v k1 hw ?_
      rw [← hv]; congr 1
      rw [Nat.add_mul]; omega
    · omega
theorem hSlice_ok (hQ : ∀ c, Q c .no) {t : TypeId} {lo hi mx : Option W} {lo' hi' mx' : Option X} (hS : St C N M) (h1 : RX C w1 x1) (hlo : OX C lo lo') (hhi : OX C hi hi') (hmx : OX C mx mx') (hk : ∀ w x, RX C w x → Q (KM x M) (K' w)) : Q (vSlice P t x1 lo' hi' mx' M KM) (hSlice P t w1 lo hi mx N K') := by
  have go : ∀ {v : V} {ol oh om : Option V} {r : V} {w : W}, nB x1 = some v → nBo lo' = some ol → nBo hi' = some oh → nBo mx' = some om → sliceV P M.H t v ol oh om = some r → R C true w r → Q (vSlice P t x1 lo' hi' mx' M KM) (K' w) := by
    intro v ol oh om r w e1 e2 e3 e4 e5 hr
    simp only [vSlice, e1, e2, e3, e4, Option.bind_some, e5, oR, Bool.false_eq_true, if_false]
    exact hk _ _ (.of hr)
  unfold hSlice
  split
  · exact hQ _
  rename_i hmh
  have hmh : (mx.isSome && !hi.isSome) = false := Bool.eq_false_iff.2 hmh
  split
  ·
    rename_i e hu
    refine oW_ok hQ fun z hz => oW_ok hQ fun m hm => oW_ok hQ fun h hh => oW_ok hQ fun l hl => ?_
    obtain ⟨rfl, -⟩ := h1.c
    obtain ⟨om, m1, m2, m3, m4, m5⟩ := bnd_ok hmx hm
    obtain ⟨oh, h1', h2, h3, -⟩ := bnd_ok hhi hh
    obtain ⟨ol, l1, l2, l3, -⟩ := bnd_ok hlo hl
    refine go (nB_v (by simp)) l1 h1' m1 ?_ (R.c rfl)
    simp only [sliceV, hu, hz, Option.bind_some, m3, h3, hmh, Bool.false_eq_true, if_false, m2 0 (fun _ a => a), h2 m (fun _ a => a), l2 h (fun _ a => a), Option.map_some]
  ·
    rename_i e id off len c z0 hu
    refine oW_ok hQ fun z hz => oW_ok hQ fun m hm => oW_ok hQ fun h hh => oW_ok hQ fun l hl => ?_
    obtain ⟨rfl, hid⟩ := h1.sl
    obtain ⟨om, m1, m2, m3, m4, m5⟩ := bnd_ok hmx hm
    obtain ⟨oh, h1', h2, h3, -⟩ := bnd_ok hhi hh
    obtain ⟨ol, l1, l2, l3, -⟩ := bnd_ok hlo hl
    refine go (nB_v (by simp)) l1 h1' m1 (r := .sl (C.ψ id) (if m = l then off else off + l * z) (h - l) (.is (m - l))) ?_ (R.sl hid)
    simp only [sliceV, hu, hz, Option.bind_some, m3, h3, hmh, Bool.false_eq_true, if_false, m2 c (fun _ a => a), h2 m (fun _ a => a), l2 h (fun _ a => a), Option.map_some]
  ·
    rename_i e id off len q z0 hu
    refine oW_ok hQ fun z hz => oW_ok hQ fun b hb => ?_
    split
    · rename_i hc
      obtain ⟨rfl, hid⟩ := h1.sl
      obtain ⟨-, c, g2, -, g3, -, -⟩ := hS.blk hb
      have hcond : (!c.spare || !(Nat.ble ((q + len) * c.sz) c.cells.length)) = false := by
        rw [g3.sp, g3.sz, ← g3.cs.1, hc.1, Nat.ble_eq_true_of_le hc.2]; rfl
      split
      · rename_i m'
        refine oW_ok hQ fun m hm => oW_ok hQ fun h hh => oW_ok hQ fun l hl => ?_
        obtain ⟨om, m1, m2, m3, m4, m5⟩ := bnd_ok hmx hm
        obtain ⟨oh, h1', h2, h3, -⟩ := bnd_ok hhi hh
        obtain ⟨ol, l1, l2, l3, -⟩ := bnd_ok hlo hl
        refine go (nB_v (by simp)) l1 h1' m1 (r := .sl (C.ψ id) (if m = l then off else off + l * z) (h - l) (.is (m - l))) ?_ (R.sl hid)
        cases hi with
        | none => simp at hmh
        | some hi =>
        cases om with
        | none => simp at m3
        | some om =>
        cases oh with
        | none => simp at h3
        | some oh =>
        simp only [sliceV, hu, hz, Option.bind_some, g2, hcond, Bool.false_eq_true, if_false, m2 len (fun _ a => a), h2 m (fun _ a => a), l2 h (fun _ a => a), Option.map_some]
      · refine oW_ok hQ fun h hh => oW_ok hQ fun l hl => ?_
        obtain ⟨om, m1, m3⟩ := ox_nb hmx
        obtain ⟨oh, h1', h2, h3, -⟩ := bnd_ok hhi hh
        obtain ⟨ol, l1, l2, l3, -⟩ := bnd_ok hlo hl
        cases om with
        | some om => simp at m3
        | none =>
        split
        · rename_i hl0
          refine go (nB_v (by simp)) l1 h1' m1 (r := .sl (C.ψ id) off h (.rest q)) ?_ (R.sl hid)
          simp only [sliceV, hu, hz, Option.bind_some, g2, hcond, Bool.false_eq_true, if_false, h2 len (fun _ a => a), l2 h (fun _ a => a), if_pos hl0]
        · rename_i hl0
          split
          · rename_i hl1
            refine go (nB_v (by simp)) l1 h1' m1 (r := .sl (C.ψ id) (off + l * z) (h - l) (.rest (q + l))) ?_ (R.sl hid)
            simp only [sliceV, hu, hz, Option.bind_some, g2, hcond, Bool.false_eq_true, if_false, h2 len (fun _ a => a), l2 h (fun _ a => a), if_neg hl0, if_pos hl1]
          · exact hQ _
    · exact hQ _
  ·
    rename_i e rows cp hu
    refine oW_ok hQ fun z hz => ?_
    split
    rotate_left
    · exact hQ _
    rename_i hrz
    obtain ⟨hrz, hE⟩ := hrz
    have hrz : ∀ (i : Nat) (r : W), rows[i]? = some r → r.cells.length = z := fun i r hr => of_decide_eq_true (all_get hrz hr)
    have nilcase : x1 = .v .nils → rows = [] → ∀ {m h l : Nat} {cp' : Cp}, (∀ k, cp' = .n k → k = 0) → (mx.isSome = true → hBnd mx 0 0 = some m) → (mx = none → m = 0) → hBnd hi 0 m = some h → hBnd lo 0 h = some l → Q (vSlice P t x1 lo' hi' mx' M KM) (K' (.l (([] : List W).drop l) cp')) := by
      intro ex er m h l cp' hcp hm1 hm2 hh hl
      have hm : hBnd mx 0 0 = some m := by
        cases mx with
        | none => rw [hm2 rfl]; rfl
        | some q => exact hm1 rfl
      obtain ⟨om, m1, m2, m3, m4, m5⟩ := bnd_ok hmx hm
      obtain ⟨oh, h1', h2, h3, -⟩ := bnd_ok hhi hh
      obtain ⟨ol, l1, l2, l3, -⟩ := bnd_ok hlo hl
      subst ex
      rw [List.drop_nil]
      refine go (nB_v (by simp)) l1 h1' m1 (r := .nils) ?_ (R.lnil hcp)
      simp only [sliceV, hu, hz, Option.bind_some, m3, h3, hmh, Bool.false_eq_true, if_false, m2 0 (fun _ a => a), h2 m (fun _ a => a), l2 h (fun _ a => a), Option.map_some]
    split
    · rename_i m'
      refine oW_ok hQ fun m hm => oW_ok hQ fun h hh => oW_ok hQ fun l hl => ?_
      obtain ⟨om, m1, m2, m3, m4, m5⟩ := bnd_ok hmx hm
      have hml := m4 rfl
      cases hi with
      | none => simp at hmh
      | some hi =>
      obtain ⟨oh, h1', h2, h3, h4, h5⟩ := bnd_ok hhi hh
      obtain ⟨ol, l1, l2, l3, l4, l5⟩ := bnd_ok hlo hl
      have hhm := h4 rfl
      have hlh : l ≤ h := by
        cases lo with
        | none => rw [l5 rfl]; omega
        | some lo => exact l4 rfl
      rcases h1.l hE with ⟨rfl, rfl, h0⟩ | ⟨id, off, cap, b, z', rfl, g1, g2, g3, g4, g5, g6, g7⟩
      · simp only [List.length_nil, Nat.le_zero_eq] at hml
        rw [List.take_nil]
        subst hml
        have : h = 0 := by omega
        subst this
        exact nilcase rfl rfl (fun k hk => by injection hk with hk; omega) (fun _ => hm) (by simp) (by
          revert hh; unfold hBnd; split <;> simp) hl
      · have ez : rows ≠ [] → z' = z := by
          intro hne
          cases rows with
          | nil => exact absurd rfl hne
          | cons r rs => exact (g6 0 r rfl).symm.trans (hrz 0 r rfl)
        have ho : (if m = l then off else off + l * z) = off + l * z' ∨ ((if m = l then off else off + l * z) = off ∧ h = l) := by
          split
          · right; exact ⟨rfl, by omega⟩
          · left
            cases rows with
            | nil => simp at hml; omega
            | cons r rs => rw [ez (by simp)]
        unfold CapR at g5
        cases cap with
        | is c =>
          have m2' : boundV om c c = some m := by
            cases om with
            | none => simp at m3
            | some ov => exact m2 c (fun _ _ => by have := g5.1; omega)
          refine go (nB_v (by simp)) l1 h1' m1 (r := .sl id (if m = l then off else off + l * z) (h - l) (.is (m - l))) ?_ (l_piece (cp := cp) (cap := .is c) g1 g2 g3 g4 g6 g7 hlh (by omega) ho ⟨by omega, fun k hk => by injection hk with hk; exact hk.symm⟩)
          simp only [sliceV, hu, hz, Option.bind_some, m3, h3, hmh, Bool.false_eq_true, if_false, m2', h2 m (fun _ a => a), l2 h (fun _ a => a), Option.map_some]
        | rest q =>
          obtain ⟨g51, g52, g53, g54⟩ := g5
          have hcond : (!b.spare || !(Nat.ble ((q + rows.length) * b.sz) b.cells.length)) = false := by
            rw [g52, g53, Nat.ble_eq_true_of_le g54]; rfl
          refine go (nB_v (by simp)) l1 h1' m1 (r := .sl id (if m = l then off else off + l * z) (h - l) (.is (m - l))) ?_ (l_piece (cp := cp) (cap := .rest q) g1 g2 g3 g4 g6 g7 hlh (by omega) ho ⟨by omega, fun k hk => by injection hk with hk; exact hk.symm⟩)
          cases om with
          | none => simp at m3
          | some om =>
          cases oh with
          | none => simp at h3
          | some oh =>
          simp only [sliceV, hu, hz, Option.bind_some, g3, show lookC M.H id = some b from by rw [hS.h]; exact g3, hcond, Bool.false_eq_true, if_false, m2 rows.length (fun _ a => a), h2 m (fun _ a => a), l2 h (fun _ a => a), Option.map_some]
    · refine oW_ok hQ fun h hh => oW_ok hQ fun l hl => ?_
      obtain ⟨om, m1, m3⟩ := ox_nb hmx
      cases om with
      | some om => simp at m3
      | none =>
      obtain ⟨oh, h1', h2, h3, h4, h5⟩ := bnd_ok hhi hh
      obtain ⟨ol, l1, l2, l3, l4, l5⟩ := bnd_ok hlo hl
      have hhl : h ≤ rows.length := by
        cases hi with
        | none => rw [h5 rfl]; omega
        | some hi => exact h4 rfl
      have hlh : l ≤ h := by
        cases lo with
        | none => rw [l5 rfl]; omega
        | some lo => exact l4 rfl
      have main : ∀ cp', (∀ k, cp' = .n k → ∃ c, cp = .n c ∧ k = c - l) → (cp' = .any ∨ cp ≠ .any) → (cp = .any → l = 0 ∨ l < rows.length) → Q (vSlice P t x1 lo' hi' mx' M KM) (K' (.l ((rows.take h).drop l) cp')) := by
        intro cp' hcp hcp2 hany
        rcases h1.l hE with ⟨rfl, rfl, h0⟩ | ⟨id, off, cap, b, z', rfl, g1, g2, g3, g4, g5, g6, g7⟩
        · rw [List.take_nil]
          simp only [List.length_nil, Nat.le_zero_eq] at hhl
          subst hhl
          have : l = 0 := by omega
          subst this
          exact nilcase rfl rfl (fun k hk => by obtain ⟨c, e1, e2⟩ := hcp k hk; have := h0 c e1; omega) (by simp) (fun _ => rfl) hh hl
        · have ez : rows ≠ [] → z' = z := by
            intro hne
            cases rows with
            | nil => exact absurd rfl hne
            | cons r rs => exact (g6 0 r rfl).symm.trans (hrz 0 r rfl)
          have ezl : l * z = l * z' := by
            cases rows with
            | nil => simp at hhl; have : l = 0 := by omega
                     subst this; simp
            | cons r rs => rw [ez (by simp)]
          unfold CapR at g5
          cases cap with
          | is c =>
            obtain ⟨g51, g52⟩ := g5
            refine go (nB_v (by simp)) l1 h1' m1 (r := .sl id (if c = l then off else off + l * z) (h - l) (.is (c - l))) ?_ (l_piece (cp := cp) (cap := .is c) g1 g2 g3 g4 g6 g7 hlh hhl (by
              split
              · right; exact ⟨rfl, by omega⟩
              · left; rw [ezl]) ⟨by omega, fun k hk => by obtain ⟨c', e1, e2⟩ := hcp k hk; rw [e2, g52 c' e1]⟩)
            simp only [sliceV, hu, hz, Option.bind_some, h3, m3, hmh, Bool.false_eq_true, if_false, show boundV none c c = some c from rfl, h2 c (fun a b => by omega), l2 h (fun _ a => a), Option.map_some]
          | rest q =>
            obtain ⟨g51, g52, g53, g54⟩ := g5
            have hcond : (!b.spare || !(Nat.ble ((q + rows.length) * b.sz) b.cells.length)) = false := by
              rw [g52, g53, Nat.ble_eq_true_of_le g54]; rfl
            have ecp : cp' = .any := by
              rcases hcp2 with h | h
              · exact h
              · exact absurd g51 h
            have hb2 : ∀ a, a ≤ rows.length → (q + a) * z' ≤ b.cells.length := fun a ha => Nat.le_trans (Nat.mul_le_mul_right _ (by omega)) g54
            rcases hany g51 with hl0 | hl1
            · refine go (nB_v (by simp)) l1 h1' m1 (r := .sl id off h (.rest q)) ?_ ?_
              · simp only [sliceV, hu, hz, Option.bind_some, show lookC M.H id = some b from by rw [hS.h]; exact g3, hcond, Bool.false_eq_true, if_false, h2 rows.length (fun _ a => a), l2 h (fun _ a => a), if_pos hl0]
              · have := l_piece (cp := cp) (cap := .rest q) (cp' := cp') (cap' := .rest q) (off' := off) g1 g2 g3 g4 g6 g7 hlh hhl (.inl (by rw [hl0]; simp)) ⟨ecp, g52, g53, by rw [hl0, Nat.sub_zero]; exact hb2 h hhl⟩
                rw [hl0, Nat.sub_zero] at this
                rw [hl0]; exact this
            · by_cases hl0 : l = 0
              · refine go (nB_v (by simp)) l1 h1' m1 (r := .sl id off h (.rest q)) ?_ ?_
                · simp only [sliceV, hu, hz, Option.bind_some, show lookC M.H id = some b from by rw [hS.h]; exact g3, hcond, Bool.false_eq_true, if_false, h2 rows.length (fun _ a => a), l2 h (fun _ a => a), if_pos hl0]
                · have := l_piece (cp := cp) (cap := .rest q) (cp' := cp') (cap' := .rest q) (off' := off) g1 g2 g3 g4 g6 g7 hlh hhl (.inl (by rw [hl0]; simp)) ⟨ecp, g52, g53, by rw [hl0, Nat.sub_zero]; exact hb2 h hhl⟩
                  rw [hl0, Nat.sub_zero] at this
                  rw [hl0]; exact this
              · refine go (nB_v (by simp)) l1 h1' m1 (r := .sl id (off + l * z) (h - l) (.rest (q + l))) ?_ (l_piece (cp := cp) (cap := .rest q) g1 g2 g3 g4 g6 g7 hlh hhl (.inl (by rw [ezl])) ⟨ecp, g52, g53, by
                  have : q + l + (h - l) = q + h := by omega
                  rw [this]; exact hb2 h hhl⟩)
                simp only [sliceV, hu, hz, Option.bind_some, show lookC M.H id = some b from by rw [hS.h]; exact g3, hcond, Bool.false_eq_true, if_false, h2 rows.length (fun _ a => a), l2 h (fun _ a => a), if_neg hl0, if_pos hl1]
      split
      · rename_i c; exact main _ (fun k hk => ⟨c, rfl, by injection hk with hk; exact hk.symm⟩) (.inr (by simp)) (by simp)
      · exact main _ (by simp) (.inr (by simp)) (by simp)
      · split
        · rename_i hcl; exact main _ (by simp) (.inl rfl) (fun _ => hcl)
        · exact hQ _
      · exact hQ _
  ·
    rename_i n e id off hu
    refine oW_ok hQ fun z hz => oW_ok hQ fun m hm => oW_ok hQ fun h hh => oW_ok hQ fun l hl => ?_
    obtain ⟨rfl, hid⟩ := h1.ptr
    obtain ⟨om, m1, m2, m3, m4, m5⟩ := bnd_ok hmx hm
    obtain ⟨oh, h1', h2, h3, -⟩ := bnd_ok hhi hh
    obtain ⟨ol, l1, l2, l3, -⟩ := bnd_ok hlo hl
    refine go (nB_v (by simp)) l1 h1' m1 (r := .sl (C.ψ id) (if m = l then off else off + l * z) (h - l) (.is (m - l))) ?_ (R.sl hid)
    simp only [sliceV, hu, hz, Option.bind_some, m3, h3, hmh, Bool.false_eq_true, if_false, m2 n (fun _ a => a), h2 m (fun _ a => a), l2 h (fun _ a => a), Option.map_some]
  ·
    rename_i s hu
    split
    · exact hQ _
    rename_i hmn
    refine oW_ok hQ fun h hh => oW_ok hQ fun l hl => ?_
    obtain rfl := h1.s
    obtain ⟨om, m1, m3⟩ := ox_nb hmx
    obtain ⟨oh, h1', h2, h3, -⟩ := bnd_ok hhi hh
    obtain ⟨ol, l1, l2, l3, -⟩ := bnd_ok hlo hl
    cases om with
    | some om => simp at m3; exact absurd m3.symm (by simpa using hmn)
    | none =>
    refine go (nB_v (by simp)) l1 h1' m1 (r := .str (.str (s.extract l h))) ?_ R.s
    simp only [sliceV, hu, Option.bind_some, h2 s.size (fun _ a => a), l2 h (fun _ a => a), Option.map_some]
  · exact hQ _
end
end Go.Proofs.Ytehbfajmileefaa.Hx
namespace Go.Proofs.Ytehbfajmileefaa.Hx
open Go.RowKit Go.Proofs.Ytehbfajmileefaa.Vx Go.Proofs.Ytehbfajmileefaa.Fx Go.Proofs.Ytehbfajmileefaa.Px
section
variable {P : Program} {C : Ctx} {N : Nm} {M : Mm} {Q : CX → CW → Prop} {w w1 w2 w3 : W} {x x1 x2 x3 : X} {K : X → CX} {K' : W → CW} {KM : X → Mm → CX} {KN : W → Nm → CW}
theorem flat_get {z : Nat} (hz : 0 < z) : ∀ (rows : List W), (∀ (i : Nat) (r : W), rows[i]? = some r → r.cells.length = z) → (rows.flatMap W.cells).length = rows.length * z ∧ ∀ (k : Nat) (w : W), (rows.flatMap W.cells)[k]? = some w → ∃ r, rows[k / z]? = some r ∧ r.cells[k % z]? = some w
  | [], _ => ⟨by simp, by simp⟩
  | r :: rows, h => by
    have hr := h 0 r rfl
    obtain ⟨l1, l2⟩ := flat_get hz rows fun i r hr => h (i + 1) r hr
    refine ⟨by simp only [List.flatMap_cons, List.length_append, List.length_cons, l1, hr]; rw [Nat.add_mul, Nat.one_mul, Nat.add_comm], fun k w hk => ?_⟩
    rw [List.flatMap_cons, List.getElem?_append] at hk
    split at hk
    · rename_i hlt
      rw [hr] at hlt
      refine ⟨r, by rw [Nat.div_eq_of_lt hlt]; rfl, by rw [Nat.mod_eq_of_lt hlt]; exact hk⟩
    · rename_i hge
      rw [hr] at hk hge
      obtain ⟨r', k1, k2⟩ := l2 _ _ hk
      have e : k = (k - z) + z := by omega
      refine ⟨r', ?_, ?_⟩
      · rw [e, Nat.add_div_right _ hz]; exact k1
      · rw [e, Nat.add_mod_right]; exact k2
theorem rows_lr {z off : Nat} {rows : List W} {b : Blk} (hz : 0 < z) (g4 : off + rows.length * z ≤ b.cells.length) (g6 : ∀ (i : Nat) (r : W), rows[i]? = some r → r.cells.length = z) (g7 : ∀ (i d : Nat) (r w : W) (v : V), rows[i]? = some r → r.cells[d]? = some w → b.cells[off + i * z + d]? = some v → R C false w v) :
    LR C false (rows.flatMap W.cells) ((b.cells.drop off).take (rows.length * z)) := by
  obtain ⟨l1, l2⟩ := flat_get hz rows g6
  refine ⟨by rw [l1]; simp; omega, fun k w v a1 a2 => ?_⟩
  obtain ⟨r, k1, k2⟩ := l2 k w a1
  rw [List.getElem?_take] at a2
  split at a2
  · rw [List.getElem?_drop] at a2
    refine g7 (k / z) (k % z) r w v k1 k2 ?_
    rw [← a2]; congr 1
    have := Nat.div_add_mod k z
    rw [Nat.mul_comm] at this
    omega
  · simp at a2
theorem szI_of {t e z y : Nat} (h : szI P t = some (e, z, y)) : ∃ i zr, P.underlying t = some (.slice e) ∧ P.info? e = some i ∧ i.zero = some zr ∧ zr.cells.size = z ∧ i.size = z ∧ i.bytes = y ∧ 0 < z := by
  unfold szI at h
  split at h
  · rename_i e' hu
    cases hi : P.info? e' with
    | none => rw [hi] at h; simp at h
    | some i =>
      rw [hi] at h
      cases hz : i.zero with
      | none => simp [hz] at h
      | some zr =>
        simp only [Option.bind_some, hz] at h
        split at h
        · rename_i hc
          simp at h
          obtain ⟨rfl, rfl, rfl⟩ := h
          exact ⟨i, zr, hu, hi, hz, hc.1, rfl, rfl, hc.2⟩
        · simp at h
  · simp at h
theorem src_ok {t u z m : Nat} {ws : List W} (hz : 0 < z) (hS : St C N M) (h1 : RX C w x) (h : hSrc P t u z N.H w = some (ws, m)) : ∃ v vs, nB x = some v ∧ srcV P t u z M.H v = some (vs, m) ∧ LR C true ws vs := by
  unfold hSrc at h
  split at h
  · split at h
    · rename_i e; subst e
      simp at h
      obtain ⟨rfl, rfl⟩ := h
      obtain ⟨rfl, -⟩ := h1.c
      exact ⟨_, [], nB_v (by simp), by simp [srcV], .nil⟩
    · simp at h
  · rename_i id off m' cap z0
    split at h
    · rename_i e; subst e
      obtain ⟨rfl, hid⟩ := h1.sl
      split at h
      · rename_i hm
        simp at h
        obtain ⟨rfl, rfl⟩ := h
        exact ⟨_, [], nB_v (by simp), by simp [srcV, hm], .nil⟩
      · rename_i hm
        rw [Option.bind_eq_some_iff] at h
        obtain ⟨b, hb, h⟩ := h
        split at h
        · rename_i hle
          simp at h
          obtain ⟨rfl, rfl⟩ := h
          obtain ⟨-, c, g2, -, g3, -, -⟩ := hS.blk hb
          refine ⟨_, (c.cells.drop off).take (m' * z), nB_v (by simp), ?_, ((g3.cs.up.drop off).take _)⟩
          simp only [srcV, if_true, if_neg hm, readRow, g2, Option.bind_some]
          rw [if_pos (by rw [← g3.cs.1]; exact hle)]
          rfl
        · simp at h
    · simp at h
  · rename_i rows cp
    split at h
    · rename_i hc
      obtain ⟨⟨rfl, hE⟩, hr⟩ := hc
      have hr : ∀ (i : Nat) (r : W), rows[i]? = some r → r.cells.length = z := fun i r hi => of_decide_eq_true (all_get hr hi)
      simp at h
      obtain ⟨rfl, rfl⟩ := h
      rcases h1.l hE with ⟨rfl, rfl, -⟩ | ⟨id, off, cap, b, z', rfl, g1, g2, g3, g4, g5, g6, g7⟩
      · exact ⟨_, [], nB_v (by simp), by simp [srcV], .nil⟩
      · by_cases hm : rows.length = 0
        · have : rows = [] := List.length_eq_zero_iff.1 hm
          subst this
          exact ⟨_, [], nB_v (by simp), by simp [srcV], .nil⟩
        · have ez : z' = z := by
            cases rows with
            | nil => simp at hm
            | cons r rs => exact (g6 0 r rfl).symm.trans (hr 0 r rfl)
          subst ez
          refine ⟨_, (b.cells.drop off).take (rows.length * z'), nB_v (by simp), ?_, (rows_lr hz g4 g6 g7).up⟩
          simp only [srcV, if_true, if_neg hm, readRow, show lookC M.H id = some b from by rw [hS.h]; exact g3, Option.bind_some]
          rw [if_pos g4]
          rfl
    · simp at h
  · rename_i b
    split at h
    · rename_i hu
      split at h
      · rename_i e
        simp at h
        obtain ⟨rfl, rfl⟩ := h
        obtain rfl := h1.s
        refine ⟨_, b.data.toList.map fun c => .int .u8 (.int c.toNat), nB_v (by simp), by simp [srcV, hu, e], by simp, fun i w v a1 a2 => ?_⟩
        rw [List.getElem?_map] at a1 a2
        cases hi : b.data.toList[i]? with
        | none => rw [hi] at a1; simp at a1
        | some c => rw [hi] at a1 a2; simp at a1 a2; subst a1; subst a2; exact .i
      · simp at h
    · simp at h
  · simp at h
theorem news_ok {ws : List W} {vs : List V} (hS : St C N M) (hl : LR C true ws vs) : ∃ D, LeF C D ∧ St D ⟨(hNews ws N.H).2, N.nx⟩ M ∧ LR D false (hNews ws N.H).1 vs := by
  unfold hNews
  cases hp : ws.all W.pu with
  | true => exact ⟨C, LeF.refl C, hS, hl.pu hp⟩
  | false =>
    simp only [cond_false]
    refine ⟨C.less (ws.flatMap (ids 3 N.H)), less_le _, hS.move _, by simp [hl.1], fun i w v a1 a2 => ?_⟩
    rw [List.getElem?_map] at a1
    cases hw : ws[i]? with
    | none => rw [hw] at a1; simp at a1
    | some w0 =>
      rw [hw] at a1; simp at a1; subst a1
      refine pur_ok (D := C.less (ws.flatMap (ids 3 N.H))) hS rfl rfl (fun i h => h.1) 3 w0 v (hl.2 i w0 v hw a2) fun id b hid hb => ?_
      obtain ⟨h1, c, h2, h3, h4, h5⟩ := hS.bl id b hb
      rintro ⟨o1, o2⟩
      cases hr : b.ro with
      | true => exact h5 hr o1
      | false => exact o2 ⟨h4 hr, id, List.mem_flatMap.2 ⟨w0, List.mem_of_getElem? hw, hid⟩, h1, rfl⟩
theorem hApp_ok (hQ : ∀ c, Q c .no) {t u : TypeId} (hS : St C N M) (h1 : RX C w1 x1) (h2 : RX C w2 x2) (hk : HK C M (idX x1) Q KM KN) : Q (vApp P t u x1 x2 M KM) (hApp P t u w1 w2 N KN) := by
  unfold hApp
  refine oW_ok hQ fun q hq => oW_ok hQ fun src hsrc => ?_
  obtain ⟨e, z, y⟩ := q
  obtain ⟨ws, m⟩ := src
  obtain ⟨i, zr, s1, s2, s3, s4, s5, s6, s7⟩ := szI_of hq
  obtain ⟨v2, vs, n2, r2, l2⟩ := src_ok s7 hS h2 hsrc
  simp only at *
  have app : ∀ {v1 : V} {r : MR}, nB x1 = some v1 → appendV P t u v1 v2 M.H M.nx = some r → vApp P t u x1 x2 M KM = KM (V.toX r.1) ⟨r.2.1, r.2.2, M.lw⟩ := by
    intro v1 r e1 e2
    simp only [vApp, e1, n2, Option.bind_some, e2]
    obtain ⟨a, b, c⟩ := r
    simp [oM]
  split
  ·
    rename_i hm
    subst hm
    have emp : ∀ {v1 : V} {w : W}, nB x1 = some v1 → appendV P t u v1 v2 M.H M.nx = some (v1, M.H, M.nx + 1) → RX C w (V.toX v1) → Q (vApp P t u x1 x2 M KM) (KN w ⟨N.H, N.nx + 1⟩) := by
      intro v1 w e1 e2 hw
      rw [app e1 e2]
      obtain ⟨D, d1, d2, d3⟩ := hS.bump M.lw
      exact hk D _ _ _ _ d1 d2 (d1.rx hw) ⟨fun j hj _ => d3.1 j hj (by simp), d3.2⟩
    split
    · obtain ⟨rfl, -⟩ := h1.c
      exact emp (nB_v (by simp)) (by simp [appendV, s1, s2, s3, s5, r2]) ⟨.nils, rfl, .c rfl⟩
    · split
      · rename_i hn
        obtain ⟨rfl, hid⟩ := h1.sl
        exact emp (nB_v (by simp)) (by simp [appendV, s1, s2, s3, s5, r2, hn]) ⟨_, rfl, .sl hid⟩
      · exact hQ _
    · refine oW_ok hQ fun b hb => ?_
      split
      · rename_i hc
        obtain ⟨rfl, hid⟩ := h1.sl
        obtain ⟨-, c, g2, -, g3, -, -⟩ := hS.blk hb
        exact emp (nB_v (by simp)) (by simp [appendV, s1, s2, s3, s5, r2, g2, g3.sp, hc.1, g3.sz, ← g3.cs.1, hc.2]) ⟨_, rfl, .sl hid⟩
      · exact hQ _
    · rcases h1.l (by rfl) with ⟨rfl, rfl, h0⟩ | ⟨id, off, cap, b, z', rfl, g1, g2, g3, g4, g5, g6, g7⟩
      · exact emp (nB_v (by simp)) (by simp [appendV, s1, s2, s3, s5, r2]) ⟨.nils, rfl, .lnil h0⟩
      · unfold CapR at g5
        split at g5
        · exact emp (nB_v (by simp)) (by simp [appendV, s1, s2, s3, s5, r2, g5.1]) ⟨_, rfl, .l g1 g2 g3 g4 (by unfold CapR; exact g5) g6 g7⟩
        · simp at g5
    · rcases h1.l (by rfl) with ⟨rfl, rfl, h0⟩ | ⟨id, off, cap, b, z', rfl, g1, g2, g3, g4, g5, g6, g7⟩
      · exact emp (nB_v (by simp)) (by simp [appendV, s1, s2, s3, s5, r2]) ⟨.nils, rfl, .lnil h0⟩
      · unfold CapR at g5
        split at g5
        · exact emp (nB_v (by simp)) (by simp [appendV, s1, s2, s3, s5, r2, g5.1]) ⟨_, rfl, .l g1 g2 g3 g4 (by unfold CapR; exact g5) g6 g7⟩
        · simp at g5
    · exact hQ _
  rename_i hm
  split
  rotate_left
  · exact hQ _
  rename_i hone
  have h1' := l2.one hone
  have guard : (!(allOne vs) || Nat.beq z 0 || !(Nat.beq zr.cells.size z)) = false := by
    have : Nat.beq z 0 = false := by rw [Bool.eq_false_iff]; intro h; have := Nat.eq_of_beq_eq_true h; omega
    rw [h1', this, s4]; simp
  obtain ⟨E, e1, e2, e3⟩ := news_ok hS l2
  have hlen : (hNews ws N.H).1.length = vs.length := e3.1
  have mp : ∀ {b : Blk}, b.sz = z → b.mp = false := by
    intro b hb
    obtain ⟨a1, a2, a3, a4, a5⟩ := b
    simp only at hb
    subst hb
    cases a2 with
    | zero => omega
    | succ n => rfl
  have fresh : ∀ {v1 : V} {cs : List V} {us : List W} {n : Nat}, nB x1 = some v1 → appendV P t u v1 v2 M.H M.nx = some (.sl M.nx 0 n (.rest 0), (M.nx, ⟨e, z, cs, true, false⟩) :: M.H, M.nx + 1) → LR E false us cs →
      Q (vApp P t u x1 x2 M KM) (KN (.sl N.nx 0 n (.rest 0) z) ⟨(N.nx, ⟨e, z, us, true, false, true⟩) :: (hNews ws N.H).2, N.nx + 1⟩) := by
    intro v1 cs us n a1 a2 a3
    rw [app a1 a2]
    have hb : BR E ⟨e, z, us, true, false, true⟩ ⟨e, z, cs, true, false⟩ := ⟨mp rfl, rfl, rfl, rfl, rfl, a3⟩
    obtain ⟨D, d1, d2, d3, d4, d5⟩ := e2.new hb rfl M.lw
    refine hk D _ _ _ _ (e1.trans d1) d2 ⟨_, rfl, ?_⟩ ⟨fun j hj _ => d5.1 j hj (by simp), d5.2⟩
    rw [← d4]; exact .sl d3
  split
  · split
    · rename_i hc
      obtain ⟨rfl, -⟩ := h1.c
      refine fresh (nB_v (by simp)) ?_ e3
      simp only [appendV, s1, s2, s3, s5, s6, r2, Option.bind_some, if_neg hm, guard, Bool.false_eq_true, if_false, hc, if_true]
      rw [if_pos ⟨trivial, trivial⟩]
    · exact hQ _
  · rename_i id n z0
    refine oW_ok hQ fun b hb => ?_
    split
    · rename_i hc
      obtain ⟨c1, c2, c3, c4, c5, c6, c7, c8⟩ := hc
      obtain ⟨rfl, hid⟩ := h1.sl
      obtain ⟨-, c, g2, -, g3, -, -⟩ := e2.blk hb
      have hcl := g3.cs.1
      have hpu := g3.cs
      rw [c8] at hpu
      rw [e1.ψ id hid] at g2
      have hap : appendV P t u (.sl (C.ψ id) 0 n (.rest 0)) v2 M.H M.nx = some (.sl M.nx 0 (n + m) (.rest 0), (M.nx, ⟨e, z, c.cells ++ vs, true, false⟩) :: Vx.del M.H (C.ψ id), M.nx + 1) := by
        simp only [appendV, s1, s2, s3, s5, s6, r2, Option.bind_some, if_neg hm, guard, Bool.false_eq_true, if_false, g2]
        rw [if_pos ⟨by rw [g3.sp]; exact c1, by rw [g3.ty]; exact c2, by rw [g3.sz]; exact c3, by omega, c5, c6, g3.ro⟩]
        rw [show n * z = c.cells.length by omega, List.take_length]
      rw [app (nB_v (by simp)) hap]
      have hb2 : BR E ⟨e, z, b.cells ++ (hNews ws N.H).1, true, false, true⟩ ⟨e, z, c.cells ++ vs, true, false⟩ := ⟨mp rfl, rfl, rfl, rfl, rfl, hpu.append e3⟩
      obtain ⟨D, d1, d2, d3, d4, d5⟩ := e2.rest hb c7 hb2 rfl M.lw
      rw [e1.ψ id hid] at d2 d5
      refine hk D _ _ _ _ (e1.trans d1) d2 ⟨_, rfl, ?_⟩ d5
      rw [← d4]; exact .sl d3
    · exact hQ _
  · rename_i id off n c0 z0
    refine oW_ok hQ fun b hb => ?_
    obtain ⟨rfl, hid⟩ := h1.sl
    obtain ⟨-, c, g2, -, g3, -, -⟩ := e2.blk hb
    have hcl := g3.cs.1
    rw [e1.ψ id hid] at g2
    split
    · rename_i hnc
      split
      · rename_i hc
        obtain ⟨c1, rfl, c3, c4, c5⟩ := hc
        have hpu := g3.cs
        rw [c5] at hpu
        have hap : appendV P t u (.sl (C.ψ id) 0 n (.is c0)) v2 M.H M.nx = some (.sl (C.ψ id) 0 (n + m) (.is c0), Vx.upd M.H (C.ψ id) { c with cells := put1 c.cells (n * z) vs }, M.nx + 1) := by
          simp only [appendV, s1, s2, s3, s5, s6, r2, Option.bind_some, if_neg hm, guard, Bool.false_eq_true, if_false, g2, if_pos hnc]
          rw [if_pos ⟨by rw [g3.ty]; exact c1, trivial, by rw [← hlen, ← hcl]; exact c3, g3.ro⟩]
        rw [app (nB_v (by simp)) hap]
        obtain ⟨c', k1, k2, k3⟩ := e2.upd hb c4 (ws := putW b.cells (n * z) (hNews ws N.H).1) (vs := put1 c.cells (n * z) vs) (pu := b.pu) (by rw [c5]; exact hpu.put e3 _)
        rw [e1.ψ id hid, g2] at k1
        simp at k1; subst k1
        obtain ⟨D, d1, d2, d3, d4, d5⟩ := k3 M.lw
        obtain ⟨D', f1, f2, f3⟩ := d2.bump M.lw
        rw [e1.ψ id hid] at f2 d3 f3
        have hL := (e1.trans d1).trans f1
        refine hk D' _ _ _ _ hL f2 (hL.rx ⟨_, rfl, .sl hid⟩) ⟨fun j hj hne => (f3.1 j hj (by simp)).trans (d3.1 j hj hne), fun i b h hr => d3.2 i b (f3.2 i b h hr) hr⟩
      · exact hQ _
    · rename_i hnc
      split
      · rename_i hc
        obtain ⟨c1, c2, c3, c4⟩ := hc
        have hpu := g3.cs
        rw [c4] at hpu
        refine fresh (nB_v (by simp)) ?_ (((hpu.drop off).take (n * z)).append e3)
        simp only [appendV, s1, s2, s3, s5, s6, r2, Option.bind_some, if_neg hm, guard, Bool.false_eq_true, if_false, g2, if_neg hnc]
        rw [if_pos ⟨c1, c2, by rw [← hcl]; exact c3⟩]
      · exact hQ _
  · rename_i rows c0
    split
    · rename_i hc
      obtain ⟨rfl, c2, c3, c4⟩ := hc
      have hr : ∀ (i : Nat) (r : W), rows[i]? = some r → r.cells.length = z := fun i r hi => of_decide_eq_true (all_get c2 hi)
      rcases h1.l (by rfl) with ⟨rfl, rfl, -⟩ | ⟨id, off, cap, b, z', rfl, g1, g2, g3, g4, g5, g6, g7⟩
      · simp only [List.length_nil, Nat.zero_add] at c3 c4 ⊢
        refine fresh (nB_v (by simp)) ?_ e3
        simp only [appendV, s1, s2, s3, s5, s6, r2, Option.bind_some, if_neg hm, guard, Bool.false_eq_true, if_false]
        rw [if_pos ⟨c3, c4⟩]
      · have g5' := g5
        unfold CapR at g5
        split at g5
        · have := g5.2 _ rfl
          subst this
          have ez : rows ≠ [] → z' = z := by
            intro hne
            cases rows with
            | nil => exact absurd rfl hne
            | cons r rs => exact (g6 0 r rfl).symm.trans (hr 0 r rfl)
          have hle : off + rows.length * z ≤ b.cells.length := by
            cases rows with
            | nil => simpa using g4
            | cons r rs => rw [← ez (by simp)]; exact g4
          have hcells : LR E false (rows.flatMap W.cells) ((b.cells.drop off).take (rows.length * z)) := by
            cases rows with
            | nil => simpa using LR.nil
            | cons r rs =>
              have := ez (by simp)
              subst this
              exact e1.lr (rows_lr s7 g4 g6 g7)
          refine fresh (nB_v (by simp)) ?_ (hcells.append e3)
          simp only [appendV, s1, s2, s3, s5, s6, r2, Option.bind_some, if_neg hm, guard, Bool.false_eq_true, if_false, show lookC M.H id = some b from by rw [hS.h]; exact g3]
          rw [if_neg (by omega), if_pos ⟨c3, c4, hle⟩]
        · simp at g5
    · exact hQ _
  · exact hQ _
theorem embA_ok {v : V} (h : v ≠ .bad) : R C false (embA v) v := by
  unfold embA
  split <;> first | exact .i | exact .b | exact .s | exact .c rfl | exact .fn rfl rfl (by simp) (by simp) | exact .u h
theorem emb_lr {vs : List V} (h : ∀ v ∈ vs, v ≠ .bad) : LR C false (vs.map embA) vs := ⟨by simp, fun i w v a1 a2 => by
  rw [List.getElem?_map, a2] at a1
  simp at a1
  subst a1
  exact embA_ok (h v (List.mem_of_getElem? a2))⟩
theorem embV_ok {v : V} (h : v ≠ .bad) (h2 : ∀ l, v = .agg l ∨ v = .tup l → ∀ u ∈ l, u ≠ .bad) : R C true (embV v) v := by
  unfold embV
  split
  · exact (emb_lr (h2 _ (.inl rfl))).up.agg
  · have := (emb_lr (C := C) (h2 _ (.inr rfl))).up
    exact .tup this.1 this.2
  · exact (embA_ok h).up
theorem LR.rep {ws : List W} {vs : List V} {f : Bool} (h : LR C f ws vs) : ∀ n, LR C f (List.replicate n ws).flatten (List.replicate n vs).flatten
  | 0 => by simpa using LR.nil
  | n + 1 => by simpa [List.replicate_succ] using h.append (LR.rep h n)
theorem hMake_ok (hQ : ∀ c, Q c .no) {t : TypeId} (hS : St C N M) (h1 : RX C w1 x1) (h2 : RX C w2 x2) (hk : HK C M none Q KM KN) : Q (vMake P t x1 x2 M KM) (hMake P t w1 w2 N KN) := by
  unfold hMake
  split
  · rename_i e k ln k' cp hu
    refine oW_ok hQ fun i hi => oW_ok hQ fun z hz => ?_
    obtain rfl := h1.i
    obtain rfl := h2.i
    split
    · rename_i hc
      obtain ⟨c1, c2, c3, c4, c5, c6, c7⟩ := hc
      obtain ⟨a, rfl⟩ : ∃ a : Nat, ln = a := ⟨ln.toNat, by omega⟩
      obtain ⟨b, rfl⟩ : ∃ b : Nat, cp = b := ⟨cp.toNat, by omega⟩
      simp only [Int.toNat_natCast] at *
      simp only [vMake, hu, nB_i, Option.bind_some, natLit_c, hi, hz]
      rw [if_pos ⟨by omega, c3, c4, c5, c6⟩]
      simp only [oM, Bool.false_eq_true, if_false]
      have hl : LR C false (z.cells.map embA) z.cells := emb_lr fun v hv => by
        have := List.all_eq_true.1 c7 v hv
        intro e; subst e
        simp [embA, W.one] at this
      have hb : BR C ⟨e, i.size, (List.replicate b (z.cells.map embA)).flatten, false, false, true⟩ ⟨e, i.size, (List.replicate b z.cells).flatten, false, false⟩ := ⟨by cases i.size <;> rfl, rfl, rfl, rfl, rfl, hl.rep b⟩
      obtain ⟨D, d1, d2, d3, d4, d5⟩ := hS.new hb rfl M.lw
      refine hk D _ _ _ _ d1 d2 ⟨_, rfl, ?_⟩ d5
      rw [← d4]; exact .sl d3
    · exact hQ _
  · exact hQ _
theorem fillV_ok {s : Nat} : ∀ {ps : List (Nat × W)} {qs : List (Nat × X)} {ws : List W} {vs : List V} {l : List W}, ps.length = qs.length → (∀ (i : Nat) p q, ps[i]? = some p → qs[i]? = some q → p.1 = q.1 ∧ RX C p.2 q.2 ∧ p.2 ≠ .u) → LR C true ws vs → hFillV s ws ps = some l →
    ∃ us m, vParts qs = some us ∧ fillV (fun i => some (i * s, s)) vs us = some m ∧ LR C true l m
  | [], [], ws, vs, l, _, _, hl, h => by simp [hFillV] at h; subst h; exact ⟨[], vs, rfl, rfl, hl⟩
  | [], _ :: _, _, _, _, h, _, _, _ => by simp at h
  | _ :: _, [], _, _, _, h, _, _, _ => by simp at h
  | (i, w) :: ps, (i', x) :: qs, ws, vs, l, hlen, hp, hl, h => by
    obtain ⟨e1, e3, e4⟩ := hp 0 _ _ rfl rfl
    simp only at e1 e3 e4
    subst e1
    simp only [hFillV] at h
    split at h
    · rename_i hc
      have hcl := e3.cells e4
      have hcx : x.cells = x.toV.cells := by
        obtain ⟨v, rfl, hr⟩ := e3
        rw [toX_toV]
        cases hr <;> first | rfl | (rename_i hv; revert hv; cases v <;> simp [nilV] <;> rfl) | exact absurd rfl e4
      rw [hcx] at hcl
      obtain ⟨us, m, k0, k1, k2⟩ := fillV_ok (by simpa using hlen) (fun i p q a b => hp (i + 1) p q a b) (hl.put hcl (i * s)) h
      refine ⟨(i, x.toV) :: us, m, by simp [vParts, nB_of e3, k0], ?_, k2⟩
      simp only [fillV]
      rw [if_pos ⟨by rw [← hcl.1]; exact hc.1, by rw [← hl.1]; exact hc.2⟩]
      exact k1
    · simp at h
theorem hSlit_ok (hQ : ∀ c, Q c .no) {t : TypeId} {len : Nat} {ps : List (Nat × W)} {qs : List (Nat × X)} (hS : St C N M) (hlen : ps.length = qs.length) (hp : ∀ (i : Nat) p q, ps[i]? = some p → qs[i]? = some q → p.1 = q.1 ∧ RX C p.2 q.2 ∧ p.2 ≠ .u) (hz : ∀ e z, P.underlying t = some (.slice e) → zeroV P e = some z → ∀ v ∈ z.cells, v ≠ .bad) (hk : HK C M none Q KM KN) : Q (vSlit P t len qs M KM) (hSlit P t len ps N KN) := by
  unfold hSlit
  split
  · rename_i e hu
    refine oW_ok hQ fun s hs => oW_ok hQ fun z hzz => ?_
    split
    · rename_i hc
      obtain ⟨c1, c2, c3⟩ := hc
      refine oW_ok hQ fun l hl => ?_
      have hlr : LR C true (List.replicate len (z.cells.map embA)).flatten (List.replicate len z.cells).flatten := (emb_lr (hz e z hu hzz)).up.rep len
      obtain ⟨us, m, k0, k1, k2⟩ := fillV_ok hlen hp hlr hl
      simp only [vSlit, hu, hs, Option.bind_some, k0, hzz]
      rw [if_neg (by omega), if_pos c3, k1]
      simp only [Option.bind_some, oM, Bool.false_eq_true, if_false]
      have hb : BR C ⟨e, s, l, false, false, l.all W.pu⟩ ⟨e, s, m, false, false⟩ := ⟨by cases s <;> rfl, rfl, rfl, rfl, rfl, by
        show LR C (!(l.all W.pu)) l m
        cases hp : l.all W.pu with
        | false => exact k2
        | true => exact k2.pu hp⟩
      obtain ⟨D, d1, d2, d3, d4, d5⟩ := hS.new hb rfl M.lw
      refine hk D _ _ _ _ d1 d2 ⟨_, rfl, ?_⟩ d5
      rw [← d4]; exact .sl d3
    · exact hQ _
  · exact hQ _
end
end Go.Proofs.Ytehbfajmileefaa.Hx
namespace Go.Proofs.Ytehbfajmileefaa.Hx
open Go.RowKit Go.Proofs.Ytehbfajmileefaa.Vx Go.Proofs.Ytehbfajmileefaa.Fx Go.Proofs.Ytehbfajmileefaa.Px
inductive HO where
  | move (x : Operand)
  | bin (op : BinOp) (x y : Operand)
  | not (x : Operand)
  | pick (c x y : Operand)
  | conv (kd : IntKind) (x : Operand)
  | load1 (x : Operand)
  | loadN (n : Nat) (x : Operand)
  | fieldAddr (d : Nat) (x : Operand)
  | indexAddr (z : Nat) (x i : Operand)
  | indexArr (m z : Nat) (x i : Operand)
  | lenS (x : Operand)
  | lenT (x : Operand)
  | indexT (x i : Operand)
  | eqT (neg : Bool) (x y : Operand)
  | ext (i : Nat) (x : Operand)
  | store1 (a x : Operand)
  | storeN (n : Nat) (a x : Operand)
  | alloc (t z : Nat) (cells : List V)
  | box (t z : Nat) (x : Operand)
  | build (z : List V) (ps : List (Nat × Nat × Operand))
  | call (f : Nat) (xs : List Operand)
  | callV (g : Operand) (xs : List Operand)
  | fn (f : Nat) (xs ys : List Operand)
  | guard (j : Nat) (want : Bool) (o : HO)
  | app (t u : TypeId) (x y : Operand)
  | slice (t : TypeId) (x : Operand) (lo hi mx : Option Operand)
  | binG (op : BinOp) (t q : TypeId) (x y : Operand)
  | cap (t : TypeId) (x : Operand)
  | mm (mn : Bool) (x y : Operand) (ts : Array TypeId)
  | make (t : TypeId) (x y : Operand)
  | slit (t : TypeId) (len : Nat) (ps : List (Nat × Operand))
noncomputable def HO.vo (P : Program) (N : Nat) : HO → VO
  | .move x => .move (gX x)
  | .bin op x y => .bin op (gX x) (gX y)
  | .not x => .not (gX x)
  | .pick c x y => .pick (gX c) (gX x) (gX y)
  | .conv kd x => .conv kd (gX x)
  | .load1 x => .load1 (gX x)
  | .loadN n x => .loadN n (gX x)
  | .fieldAddr d x => .fieldAddr d (gX x)
  | .indexAddr z x i => .indexAddr z (gX x) (gX i)
  | .indexArr m z x i => .indexArr m z (gX x) (gX i)
  | .lenS x => .lenS (gX x)
  | .lenT x => .lenT (gX x)
  | .indexT x i => .indexT (gX x) (gX i)
  | .eqT n x y => .eqT n (gX x) (gX y)
  | .ext i x => .ext i (gX x)
  | .store1 a x => .store1 (gX a) (gX x)
  | .storeN n a x => .storeN n (gX a) (gX x)
  | .alloc t z c => .alloc t z c
  | .box t z x => .box t z (gX x)
  | .build z ps => .build z (ps.map fun q => (q.1, q.2.1, gX q.2.2))
  | .call f xs => .call f (xs.map gX)
  | .callV g xs => .callV (gX g) (xs.map gX)
  | .fn f xs ys => .fn f (xs.map gX) (ys.map gX)
  | .guard j w o => .guard (gT j) w (o.vo P N)
  | .app t u x y => .app P t u x y N
  | .slice t x lo hi mx => .slice P t x lo hi mx N
  | .binG op t q x y => .binG P op t q x y N
  | .cap t x => .cap P t x N
  | .mm mn x y ts => .mm P mn x y ts N
  | .make t x y => .make P t x y N
  | .slit t len ps => .slit P t len ps N
abbrev FW := Nat → W
def setW (t : Nat) (w : W) (F : FW) : FW := fun i => bif Nat.beq i t then w else F i
def putO : Option Tmp → W → FW → FW
  | some t, w, F => setW t w F
  | none, _, F => F
def wO : Operand → FW → W
  | .tmp t, F => F t
  | .const v, _ => embV ((ofValue v).getD .bad)
  | .func f, _ => .fn f [] []
  | .global _, _ => .u
def isUn : W → Bool
  | .u => true
  | _ => false
def hBuildO (z : List W) (ps : List (Nat × Nat × W)) (k : W → CW) : CW := bif ps.any (fun q => isUn q.2.2) then .no else hBuild z ps k
def hSlitO (P : Program) (t : TypeId) (len : Nat) (ps : List (Nat × W)) (N : Nm) (k : W → Nm → CW) : CW := bif ps.any (fun q => isUn q.2) then .no else hSlit P t len ps N k
def HO.hval (P : Program) (cl : Clh) : HO → FW → Nm → (W → Nm → CW) → CW
  | .move x, F, N, k => k (wO x F) N
  | .bin op x y, F, N, k => hBin op (wO x F) (wO y F) fun w => k w N
  | .not x, F, N, k => hNot (wO x F) fun w => k w N
  | .pick c x y, F, N, k => hPick (wO c F) (wO x F) (wO y F) fun w => k w N
  | .conv kd x, F, N, k => hConv kd (wO x F) fun w => k w N
  | .load1 x, F, N, k => hLoad1 (wO x F) N fun w => k w N
  | .loadN n x, F, N, k => hLoadN n (wO x F) N fun w => k w N
  | .fieldAddr d x, F, N, k => hFieldAddr d (wO x F) fun w => k w N
  | .indexAddr z x i, F, N, k => hIndexAddr z (wO x F) (wO i F) fun w => k w N
  | .indexArr m z x i, F, N, k => hIndexArr m z (wO x F) (wO i F) fun w => k w N
  | .lenS x, F, N, k => hLenS (wO x F) fun w => k w N
  | .lenT x, F, N, k => hLenT (wO x F) fun w => k w N
  | .indexT x i, F, N, k => hIndexT (wO x F) (wO i F) fun w => k w N
  | .eqT n x y, F, N, k => hEqT n (wO x F) (wO y F) fun w => k w N
  | .ext i x, F, N, k => hExt i (wO x F) fun w => k w N
  | .store1 a x, F, N, k => hStore1 (wO a F) (wO x F) N k
  | .storeN n a x, F, N, k => hStoreN n (wO a F) (wO x F) N k
  | .alloc t z c, F, N, k => hNew t z (c.map embA) N k
  | .box t z x, F, N, k => hBox t z (wO x F) N k
  | .build z ps, F, N, k => hBuildO (z.map embA) (ps.map fun q => (q.1, q.2.1, wO q.2.2 F)) fun w => k w N
  | .call f xs, F, N, k => hCall cl f (xs.map fun x => wO x F) N k
  | .callV g xs, F, N, k => hCallV cl (wO g F) (xs.map fun x => wO x F) N k
  | .fn f xs ys, F, N, k => hFn f (xs.map fun x => wO x F) (ys.map fun x => wO x F) fun w => k w N
  | .guard j w o, F, N, k => hGuard (F j) w (fun k' => o.hval P cl F N k') N k
  | .app t u x y, F, N, k => hApp P t u (wO x F) (wO y F) N k
  | .slice t x lo hi mx, F, N, k => hSlice P t (wO x F) (lo.map fun y => wO y F) (hi.map fun y => wO y F) (mx.map fun y => wO y F) N fun w => k w N
  | .binG op t q x y, F, N, k => hBinG P op t (wO x F) (wO y F) fun w => k w N
  | .cap t x, F, N, k => hCap P t (wO x F) fun w => k w N
  | .mm mn x y ts, F, N, k => hMM mn (wO x F) (wO y F) fun w => k w N
  | .make t x y, F, N, k => hMake P t (wO x F) (wO y F) N k
  | .slit t len ps, F, N, k => hSlitO P t len (ps.map fun q => (q.1, wO q.2 F)) N k
def okQ (x : Operand) : Bool := okO 512 x
def okQ? : Option Operand → Bool
  | none => true
  | some x => okQ x
def okV : V → Bool
  | .bad => false
  | _ => true
def HO.ok : HO → Bool
  | .move x | .not x | .conv _ x | .load1 x | .loadN _ x | .fieldAddr _ x | .lenS x | .lenT x | .ext _ x | .box _ _ x | .cap _ x => okQ x
  | .bin _ x y | .indexAddr _ x y | .indexArr _ _ x y | .indexT x y | .eqT _ x y | .store1 x y | .storeN _ x y | .app _ _ x y | .binG _ _ _ x y | .mm _ x y _ | .make _ x y => okQ x && okQ y
  | .pick c x y => okQ c && okQ x && okQ y
  | .alloc _ _ c => c.all okV
  | .build z ps => z.all okV && ps.all fun q => okQ q.2.2
  | .call _ xs => xs.all okQ
  | .callV g xs => okQ g && xs.all okQ
  | .fn _ xs ys => xs.all okQ && ys.all okQ
  | .guard j _ o => Nat.blt j 512 && o.ok
  | .slice _ x lo hi mx => okQ x && okQ? lo && okQ? hi && okQ? mx
  | .slit _ _ ps => ps.all fun q => okQ q.2
def HO.tgt : HO → Option Operand
  | .store1 a _ => some a
  | .storeN _ a _ => some a
  | .app _ _ x _ => some x
  | .guard _ _ o => o.tgt
  | _ => none
structure HD where
  o : HO
  d : Option Tmp
  k : Nat
  ad : Option Operand
  mc : Bool
  ck : Option (List Nat)
  old : Bool
noncomputable def HD.dv (P : Program) (N : Nat) (h : HD) : DV := ⟨h.o.vo P N, dS h.d, h.k, h.d, h.ad.map gX, h.mc, h.ck.map fun un => (h.o.tgt.map gX, un)⟩
inductive HT where
  | ops (l : List (HO × Option Tmp))
  | seq (a b : HT)
  | cond (x : Operand) (a b : HT)
  | block (id : Nat) (a : HT)
  | loop (a : HT)
  | exit (id : Nat)
  | ret
  | skip
  | draw (l : List HD)
  | canon (live : List Nat) (a : HT)
noncomputable def HT.ct (P : Program) (N : Nat) : HT → CT
  | .ops l => .ops (l.map fun o => (o.1.vo P N, dS o.2))
  | .seq a b => .seq (a.ct P N) (b.ct P N)
  | .cond x a b => .cond (gX x) (a.ct P N) (b.ct P N)
  | .block id a => .block id (a.ct P N)
  | .loop a => .loop (a.ct P N)
  | .exit id => .exit id
  | .ret => .ret
  | .skip => .skip
  | .draw l => .draw (l.map (HD.dv P N))
  | .canon _ a => a.ct P N
def okT? : Option Tmp → Bool
  | some t => Nat.blt t 512
  | none => true
def HT.ok : HT → Bool
  | .ops l => l.all fun o => o.1.ok && okT? o.2
  | .seq a b => a.ok && b.ok
  | .cond x a b => okQ x && a.ok && b.ok
  | .block _ a => a.ok
  | .loop a => a.ok
  | .draw l => l.all fun o => o.o.ok && okT? o.d && okQ? o.ad
  | .canon _ a => a.ok
  | _ => true
def opsH (P : Program) (cl : Clh) : List (HO × Option Tmp) → (FW → Nm → CW) → FW → Nm → CW
  | [], k => k
  | o :: l, k => fun F N => o.1.hval P cl F N fun y N => opsH P cl l k (putO o.2 y F) N
def oldO (yg : List Nat) : Operand → Bool
  | .tmp t => !(memN t yg)
  | _ => true
def isP : W → Bool
  | .p _ _ => true
  | _ => false
def oldOp (yg : List Nat) (F : FW) : HO → Bool
  | .move x | .fieldAddr _ x | .indexAddr _ x _ | .indexArr _ _ x _ => oldO yg x
  | .load1 x | .loadN _ x => oldO yg x && isP (wO x F)
  | .guard _ _ o => oldOp yg F o
  | _ => false
def ygO (yg : List Nat) (old : Bool) : Option Tmp → List Nat
  | some t => bif old then yg.filter (fun i => !(Nat.beq i t)) else t :: yg
  | none => yg
def idW : W → Option Nat
  | .ptr id _ => some id
  | .sl id _ _ _ _ => some id
  | _ => none
def immW : W → Bool
  | .l _ _ | .p _ _ | .u => true
  | _ => false
def oldV (n0 : Nat) (b : Bool) : W → Bool
  | .ptr id _ => Nat.blt id n0
  | .sl id _ _ _ _ => Nat.blt id n0
  | .l _ _ => b
  | .p _ _ => b
  | .u => false
  | _ => true
def oldW (n0 : Nat) (yg : List Nat) (F : FW) : Option Operand → Bool
  | none => true
  | some x => oldV n0 (oldO yg x) (wO x F)
def gate (a b c : Bool) (k : CW) : CW := bif a && b && c then k else .no
def isRo : Option BN → Bool
  | some b => b.ro
  | none => true
def adsW (H : List (Nat × BN)) (row : Option W) : List W → Bool
  | [] => true
  | a :: l => (match row with
    | none => true
    | some r => (match idW r, idW a with
      | some i, some j => !(Nat.beq i j)
      | some i, none => !(isUn a) && !(isRo (lookN H i))
      | none, _ => !(immW r))) && adsW H row l
def rdW (rd : List (Nat × W)) (k : Nat) (F : FW) : Option Operand → List (Nat × W)
  | none => rd
  | some x => (k, wO x F) :: rd
def adsO (rd : List (Nat × W)) (un : List Nat) : List W := (rd.filter fun e => un.contains e.1).map (·.2)
def ckW (rd : List (Nat × W)) (F : FW) (H : List (Nat × BN)) (o : HO) : Option (List Nat) → Bool
  | none => true
  | some un => adsW H (o.tgt.map fun x => wO x F) (adsO rd un)
def drawH (P : Program) (cl : Clh) (n0 : Nat) : List HD → List Nat → List (Nat × W) → (FW → Nm → CW) → FW → Nm → CW
  | [], _, _, kn => kn
  | o :: l, yg, rd, kn => fun F N => gate (oldW n0 yg F o.ad) (ckW rd F N.H o.o o.ck) (bif o.old then oldOp yg F o.o else true)
      (o.o.hval P cl F N fun y N1 => drawH P cl n0 l (ygO yg o.old o.d) (rdW rd o.k F o.ad) kn (putO o.d y F) N1)
def posN (i : Nat) : List Nat → Nat → Option Nat
  | [], _ => none
  | j :: l, k => bif Nat.beq j i then some k else posN i l (k + 1)
def ren : Nat → List Nat → W → W
  | _, σ, .ptr id off => match posN id σ 0 with
    | some k => .ptr k off
    | none => .u
  | _, σ, .sl id off len cap z => match posN id σ 0 with
    | some k => .sl k off len cap z
    | none => .u
  | 0, _, .fn _ _ _ => .u
  | 0, _, .agg _ => .u
  | 0, _, .tup l => (match l with
    | [] => .tup []
    | _ => .u)
  | k + 1, σ, .agg l => .agg (l.map (ren k σ))
  | k + 1, σ, .tup l => .tup (l.map (ren k σ))
  | k + 1, σ, .fn f a b => .fn f (a.map (ren k σ)) (b.map (ren k σ))
  | _, _, w => w
def canB (σ : List Nat) (b : BN) : BN := ⟨b.ty, b.sz, bif b.pu then b.cells else b.cells.map (ren 3 σ), b.sp, b.ro, b.pu⟩
def canH (H : List (Nat × BN)) (σ : List Nat) : Nat → List Nat → List (Nat × BN)
  | _, [] => []
  | k, id :: l => match lookN H id with
    | some b => (k, canB σ b) :: canH H σ (k + 1) l
    | none => canH H σ (k + 1) l
def nubN (H : List (Nat × BN)) : List Nat → List Nat → List Nat
  | acc, [] => acc
  | acc, i :: l => nubN H (bif memN i acc || !(lookN H i).isSome then acc else acc ++ [i]) l
def reach (H : List (Nat × BN)) (ws : List W) : List Nat := nubN H [] (ws.flatMap (ids 4 H))
def canF (live σ : List Nat) (F : FW) : FW := fun t => bif memN t live then ren 4 σ (F t) else .u
def exH (id : Nat) (kn : FW → Nm → CW) (ke : Nat → FW → Nm → CW) : Nat → FW → Nm → CW := fun j => bif Nat.beq j id then kn else ke j
def loopH (b : (FW → Nm → CW) → FW → Nm → CW) : Nat → FW → Nm → CW
  | 0 => fun _ _ => .no
  | j + 1 => b (loopH b j)
def hK (P : Program) (cl : Clh) (m : Nat) : HT → (FW → Nm → CW) → (Nat → FW → Nm → CW) → (FW → Nm → CW) → FW → Nm → CW
  | .ops l, kn, ke, kr => opsH P cl l kn
  | .seq a b, kn, ke, kr => hK P cl m a (hK P cl m b kn ke kr) ke kr
  | .cond x a b, kn, ke, kr => fun F N => hIf (wO x F) (hK P cl m a kn ke kr F N) (hK P cl m b kn ke kr F N)
  | .block id a, kn, ke, kr => hK P cl m a kn (exH id kn ke) kr
  | .loop a, kn, ke, kr => loopH (fun q => hK P cl m a q ke kr) m
  | .exit id, kn, ke, kr => ke id
  | .ret, kn, ke, kr => kr
  | .skip, kn, ke, kr => kn
  | .draw l, kn, ke, kr => fun F N => drawH P cl N.nx l [] [] kn F N
  | .canon live a, kn, ke, kr => fun F N => hK P cl m a kn ke kr (canF live (reach N.H (live.map F)) F) ⟨canH N.H (reach N.H (live.map F)) 0 (reach N.H (live.map F)), (reach N.H (live.map F)).length⟩
def partW (P : Program) (t : TypeId) (cs : List W) (off : Nat) : Option W :=
  match aggB P t with
  | some true => (szOf P t).bind fun n => if off + n ≤ cs.length then some (.agg ((cs.drop off).take n)) else none
  | some false => (cs[off]?).bind fun v => if v.one then some v else none
  | none => none
def resH (P : Program) (H : List (Nat × BN)) : List (ResultVar × W) → Option (List W)
  | [] => some []
  | (.tmp _, x) :: l => (resH P H l).map fun vs => x :: vs
  | (.cell _ t, x) :: l => match x with
    | .ptr id off => (lookN H id).bind fun b => (partW P t b.cells off).bind fun v => (resH P H l).map fun vs => v :: vs
    | .p cs off => (partW P t cs off).bind fun v => (resH P H l).map fun vs => v :: vs
    | _ => none
def packW : List W → W
  | [v] => v
  | l => .tup l
def finH (P : Program) (z : W) (rs : List (ResultVar × W)) (N : Nm) : CW := match z with
  | .tup [] => oW (resH P N.H rs) fun ws => .val (pur 4 N.H (packW ws))
  | _ => .no
def rsW (rs : List ResultVar) (F : FW) : List (ResultVar × W) := rs.map fun r => (r, F (slotR r))
structure HF where
  body : HT
  N : Nat
  res : List ResultVar
inductive HB where
  | lf
  | nd (l : HB) (i : Nat) (f : HF) (r : HB)
noncomputable def HB.get (t : HB) (i : Nat) : Option HF := HB.rec (motive := fun _ => Option HF) none (fun l j f r ihl ihr => Bool.rec (motive := fun _ => Option HF) (Bool.rec (motive := fun _ => Option HF) ihr ihl (Nat.blt i j)) (some f) (Nat.beq i j)) t
def fillW : Nat → List W → FW → FW
  | _, [], F => F
  | i, w :: l, F => fillW (i + 1) l (setW i w F)
def knW : List W → CW
  | [] => .val (.b true)
  | _ => .no
noncomputable def callH (P : Program) (t : HB) (kn : Nat → Bool) : Nat → Nat → Clh
  | 0, _ => fun _ _ => .no
  | n + 1, m => fun f ws => bif kn f then knW ws else oW (t.get f) fun hf => bif Nat.ble ws.length (min 24 hf.N) then
        hK P (callH P t kn n m) m hf.body (fun F N => finH P (F 511) (rsW hf.res F) N) (fun _ _ _ => .no) (fun F N => finH P (F 511) (rsW hf.res F) N) (fillW 0 ws fun _ => .un) ⟨[], 0⟩ else .no
end Go.Proofs.Ytehbfajmileefaa.Hx
namespace Go.Proofs.Ytehbfajmileefaa.Hx
open Go.RowKit Go.Proofs.Ytehbfajmileefaa.Vx Go.Proofs.Ytehbfajmileefaa.Fx Go.Proofs.Ytehbfajmileefaa.Px
def FR (C : Ctx) (G : FW) (F : F8) : Prop := ∀ t, t < 512 → RX C (G t) (gT t F)
section
variable {P : Program} {C : Ctx} {N : Nm} {M : Mm} {Q : CX → CW → Prop} {w w1 w2 w3 : W} {x x1 x2 x3 : X} {K : X → CX} {K' : W → CW} {KM : X → Mm → CX} {KN : W → Nm → CW} {G : FW} {F : F8}
theorem FR.set (h : FR C G F) {d : Option Tmp} (hd : okT? d = true) (hw : RX C w x) : FR C (putO d w G) (dS d x F) := by
  cases d with
  | none => exact h
  | some d =>
    simp only [okT?, Nat.blt_eq] at hd
    intro t ht
    show RX C (bif Nat.beq t d then w else G t) (gT t (sT d x F))
    rw [gT_sT hd ht]
    by_cases e : t = d
    · subst e; simpa using hw
    · have : Nat.beq t d = false := by rw [Bool.eq_false_iff]; simpa using e
      rw [this, if_neg (fun q => e q.symm)]; exact h t ht
theorem FR.mono {D : Ctx} (h : FR C G F) (hl : LeF C D) : FR D G F := fun t ht => hl.rx (h t ht)
theorem ofValue_nb {v : Value} {u : V} (h : ofValue v = some u) : u ≠ .bad ∧ ∀ l, (u = .agg l ∨ u = .tup l) → ∀ c ∈ l, c ≠ .bad := by
  have hd := ofValue_den (σ := ⟨fun _ => 0, fun _ => false, fun _ => ByteArray.empty, fun _ => .bool false, fun _ _ => 0, fun _ _ => false, fun _ _ => false⟩) (ρ := fun _ => none) h
  refine ⟨fun e => by subst e; simp [den] at hd, fun l hl c hc e => ?_⟩
  subst e
  have key : ∀ {l : List V} {xs : List Value}, denL (⟨fun _ => 0, fun _ => false, fun _ => ByteArray.empty, fun _ => .bool false, fun _ _ => 0, fun _ _ => false, fun _ _ => false⟩ : Env) (fun _ => none) l = some xs → V.bad ∉ l := by
    intro l
    induction l with
    | nil => intro xs _ h; simp at h
    | cons a l ih =>
      intro xs hx hm
      rw [denL_cons] at hx
      obtain ⟨y, ys, h1, h2, -⟩ := hx
      rcases List.mem_cons.1 hm with e | hm
      · rw [← e] at h1; simp [den] at h1
      · exact ih h2 hm
  rcases hl with rfl | rfl
  · simp only [den, Option.map_eq_some_iff] at hd
    obtain ⟨xs, h1, -⟩ := hd
    exact key h1 hc
  · simp only [den, Option.map_eq_some_iff] at hd
    obtain ⟨xs, h1, -⟩ := hd
    exact key h1 hc
theorem wO_ok (h : FR C G F) {x : Operand} (hx : okQ x = true) : RX C (wO x G) (gX x F) := by
  cases x with
  | tmp t =>
    simp only [okQ, okO, Nat.blt_eq] at hx
    exact h t hx
  | const v =>
    simp only [okQ, okO, Option.isSome_iff_exists] at hx
    obtain ⟨u, hu⟩ := hx
    obtain ⟨n1, n2⟩ := ofValue_nb hu
    simp only [wO, gX, kX, hu, Option.getD_some]
    exact ⟨u, rfl, embV_ok n1 fun l hl c hc => n2 l hl c hc⟩
  | func f => exact ⟨.fn (.func f) [] [], rfl, .fn rfl rfl (by simp) (by simp)⟩
  | global g => simp [okQ, okO] at hx
theorem wO_lx (h : FR C G F) : ∀ {xs : List Operand}, xs.all okQ = true → LX C (xs.map fun x => wO x G) ((xs.map gX).map fun g => g F) := by
  intro xs hx
  refine ⟨by simp, fun i w x a b => ?_⟩
  rw [List.getElem?_map] at a
  rw [List.map_map, List.getElem?_map] at b
  cases hi : xs[i]? with
  | none => rw [hi] at a; simp at a
  | some y =>
    rw [hi] at a b
    simp at a b
    subst a; subst b
    exact wO_ok h (all_get hx hi)
theorem wO_ox (h : FR C G F) {o : Option Operand} (ho : okQ? o = true) : OX C (o.map fun y => wO y G) (o.map fun y => gX y F) := by
  cases o with
  | none => exact .inl ⟨rfl, rfl⟩
  | some y => exact .inr ⟨_, _, rfl, rfl, wO_ok h ho⟩
structure KeepC (M M' : Mm) : Prop where
  nx : M.nx ≤ M'.nx
  fr : Srt M'.H M'.nx
  old : ∀ i, i < M.nx → Vx.look M'.H i = Vx.look M.H i
  ro : ∀ i b, Vx.look M'.H i = some b → b.ro = true → Vx.look M.H i = some b
def LF (C : Ctx) (ws : List W) (xs : List X) : Prop := ws.length = xs.length ∧ ∀ (i : Nat) w x, ws[i]? = some w → xs[i]? = some x → ∃ v, x = V.toX v ∧ R C false w v
def ClR (cl : Cl) (hcl : Clh) : Prop := ∀ (f : Nat) (ws : List W) (w : W), hcl f ws = .val w → ∀ (C : Ctx) (M : Mm) (xs : List X), M.H = C.H → M.nx = C.nx → Srt C.H C.nx → LF C ws xs →
  ∃ x M', cl f xs M = .val x M' ∧ KeepC M M' ∧ ∃ v, x = V.toX v ∧ ∀ D : Ctx, D.H = M'.H → D.nx = M'.nx → (∀ i, D.own i → i < M.nx ∧ C.own i) → R D false w v
theorem St.ext (hS : St C N M) {M' : Mm} (hk : KeepC M M') (lw : Nat) : ∃ D, D.H = M'.H ∧ D.nx = M'.nx ∧ D.own = C.own ∧ LeF C D ∧ St D N ⟨M'.H, M'.nx, lw⟩ ∧ KeepX none M ⟨M'.H, M'.nx, lw⟩ := by
  have hn := hS.x
  let D : Ctx := { C with H := M'.H, nx := M'.nx }
  have hL : LeF C D := ⟨by rw [← hn]; exact hk.nx, Nat.le_refl _, fun _ _ => rfl, rfl, fun i hi hw => ⟨by rw [← hS.h]; exact hk.old i (by rw [hn]; exact hi), hw⟩, fun i _ h => h, fun i _ h _ => h, fun i b h hr => by rw [← hS.h]; exact hk.ro i b h hr⟩
  refine ⟨D, rfl, rfl, rfl, hL, ⟨rfl, rfl, hS.n, hk.fr, hS.inj, fun i hi => ?_, fun id b hb => ?_, hS.wl, ?_, fun i hi => ?_⟩, fun j hj _ => hk.old j hj, hk.ro⟩
  · have := hS.lt i hi
    exact ⟨this.1, by show C.ψ i < M'.nx; have := hk.nx; omega⟩
  · obtain ⟨h1, c, h2, h3, h4, h5⟩ := hS.bl id b hb
    refine ⟨h1, c, ?_, hL.br h3, h4, h5⟩
    show Vx.look M'.H (C.ψ id) = some c
    rw [hk.old _ (by rw [hn]; exact (hS.lt id h1).2), hS.h]; exact h2
  · have := hS.ll; have := hk.nx; show C.lo ≤ M'.nx; omega
  · have := hS.ol i hi; have := hk.nx; show i < M'.nx; omega
theorem ids_pu1 {H : List (Nat × BN)} {w : W} (h : w.pu1 = true) : ∀ k, ids k H w = [] := by
  intro k
  cases k with
  | zero => rfl
  | succ k => cases w <;> first | rfl | (simp [W.pu1] at h; done)
theorem ids_pu {H : List (Nat × BN)} {w : W} (h : w.pu = true) : ∀ k, ids k H w = [] := by
  have all : ∀ {l : List W} (k : Nat), l.all W.pu1 = true → l.flatMap (ids k H) = [] := by
    intro l k hl
    rw [List.flatMap_eq_nil_iff]
    intro w hw
    exact ids_pu1 (List.all_eq_true.1 hl w hw) k
  intro k
  cases k with
  | zero => rfl
  | succ k =>
    cases w with
    | ptr => simp [W.pu] at h
    | sl => simp [W.pu] at h
    | fn f a b => simp only [W.pu, Bool.and_eq_true] at h; simp only [ids, all k h.1, all k h.2, List.append_nil]
    | agg l => exact all k h
    | tup l => exact all k h
    | _ => rfl
theorem hCall_ok (hQ : ∀ c, Q c .no) {cl : Cl} {hcl : Clh} (hcr : ClR cl hcl) {f : Nat} {ws : List W} {xs : List X} (hS : St C N M) (hl : LX C ws xs) (hk : HK C M none Q KM KN) : Q (vCall cl f xs M KM) (hCall hcl f ws N KN) := by
  unfold hCall
  split
  rotate_left
  · exact hQ _
  rename_i w hw
  have call : ∀ (E : Ctx), E.H = C.H → E.nx = C.nx → (∀ i, E.own i → C.own i) → (∀ id b, id ∈ ws.flatMap (ids 4 N.H) → lookN N.H id = some b → ¬ E.own (C.ψ id)) →
      ∃ x M', cl f xs M = .val x M' ∧ KeepC M M' ∧ ∃ v, x = V.toX v ∧ ∀ D : Ctx, D.H = M'.H → D.nx = M'.nx → (∀ i, D.own i → i < M.nx ∧ E.own i) → R D false w v := by
    intro E e1 e2 e3 e4
    refine hcr f _ w hw E M xs (by rw [e1, hS.h]) (by rw [e2, hS.x]) (by rw [e1, e2]; exact hS.fr) ⟨by simp [hl.1], fun i w' x a b => ?_⟩
    rw [List.getElem?_map] at a
    cases hi : ws[i]? with
    | none => rw [hi] at a; simp at a
    | some w0 =>
      rw [hi] at a; simp at a; subst a
      obtain ⟨v, rfl, hr⟩ := hl.2 i w0 x hi b
      exact ⟨v, rfl, pur_ok hS e1 e2 e3 4 w0 v hr fun id b hid hb => e4 id b (List.mem_flatMap.2 ⟨w0, List.mem_of_getElem? hi, hid⟩) hb⟩
  have lessok : ∀ id b, id ∈ ws.flatMap (ids 4 N.H) → lookN N.H id = some b → ¬ (C.less (ws.flatMap (ids 4 N.H))).own (C.ψ id) := by
    intro id b hid hb
    obtain ⟨h1, c, h2, h3, h4, h5⟩ := hS.bl id b hb
    rintro ⟨o1, o2⟩
    cases hr : b.ro with
    | true => exact h5 hr o1
    | false => exact o2 ⟨h4 hr, id, hid, h1, rfl⟩
  cases hc : (w.flat || ws.all W.pu) with
  | true =>
    have hN : frz w ws N = N := by simp only [frz, hc, cond_true]
    rw [hN]
    rw [Bool.or_eq_true] at hc
    rcases hc with hc | hc
    · obtain ⟨x, M', h1, h2, v, rfl, h3⟩ := call (C.less (ws.flatMap (ids 4 N.H))) rfl rfl (fun i h => h.1) lessok
      obtain ⟨D, d1, d2, d3, d4, d5, d6⟩ := hS.ext h2 (minN M'.lw M.lw)
      rw [vCall_of h1]
      refine hk D _ _ _ _ d4 d5 ⟨v, rfl, ?_⟩ d6
      exact (h3 { D with own := fun _ => False, wr := fun _ => False, wo := fun _ h => h } d1 d2 (fun i h => h.elim)).flat hc
    · have e0 : ws.flatMap (ids 4 N.H) = [] := by
        rw [List.flatMap_eq_nil_iff]
        intro w hw
        exact ids_pu (List.all_eq_true.1 hc w hw) 4
      obtain ⟨x, M', h1, h2, v, rfl, h3⟩ := call C rfl rfl (fun i h => h) (fun id b hid => by rw [e0] at hid; simp at hid)
      obtain ⟨D, d1, d2, d3, d4, d5, d6⟩ := hS.ext h2 (minN M'.lw M.lw)
      rw [vCall_of h1]
      exact hk D _ _ _ _ d4 d5 ⟨v, rfl, (h3 D d1 d2 (fun i h => by rw [d3] at h; exact ⟨by have := hS.ol i h; rw [hS.x]; exact this, h⟩)).up⟩ d6
  | false =>
    have hN : frz w ws N = ⟨frzH (ws.flatMap (ids 4 N.H)) N.H, N.nx⟩ := by simp only [frz, hc, cond_false]
    rw [hN]
    obtain ⟨x, M', h1, h2, v, rfl, h3⟩ := call (C.less (ws.flatMap (ids 4 N.H))) rfl rfl (fun i h => h.1) lessok
    obtain ⟨D, d1, d2, d3, d4, d5, d6⟩ := (hS.less (ws.flatMap (ids 4 N.H))).ext h2 (minN M'.lw M.lw)
    rw [vCall_of h1]
    refine hk D _ _ _ _ ((less_le _).trans d4) d5 ⟨v, rfl, (h3 D d1 d2 (fun i h => ?_)).up⟩ d6
    rw [d3] at h
    exact ⟨by have := hS.ol i h.1; rw [hS.x]; exact this, h⟩
theorem hCallV_ok (hQ : ∀ c, Q c .no) {cl : Cl} {hcl : Clh} (hcr : ClR cl hcl) {ws : List W} {xs : List X} (hS : St C N M) (h1 : RX C w1 x1) (hl : LX C ws xs) (hk : HK C M none Q KM KN) : Q (vCallV cl x1 xs M KM) (hCallV hcl w1 ws N KN) := by
  unfold hCallV
  split
  · obtain ⟨vs, us, rfl, l1, l2⟩ := h1.fn
    rw [vCallV_e]
    exact hCall_ok hQ hcr hS (l1.lx.append (hl.append l2.lx)) hk
  · exact hQ _
theorem isUn_no {w : W} (h : isUn w = false) : w ≠ .u := by intro e; subst e; simp [isUn] at h
theorem HO_ok (hQ : ∀ c, Q c .no) {cl : Cl} {hcl : Clh} (hcr : ClR cl hcl) {n : Nat} : ∀ (o : HO), o.ok = true → ∀ {C : Ctx} {N : Nm} {M : Mm} {G : FW} {F : F8} {KM : X → Mm → CX} {KN : W → Nm → CW}, St C N M → FR C G F →
    HK C M (o.tgt.bind fun a => idX (gX a F)) Q KM KN → Q ((o.vo P n).val cl F M KM) (o.hval P hcl G N KN) := by
  intro o
  induction o with
  | guard j want o ih =>
    intro ho C N M G F KM KN hS hF hk
    simp only [HO.ok, Bool.and_eq_true, Nat.blt_eq] at ho
    exact hGuard_ok hQ hS (hF j ho.1) (ih ho.2 hS hF hk) hk
  | build z ps =>
    intro ho C N M G F KM KN hS hF hk
    simp only [HO.ok, Bool.and_eq_true] at ho
    have pure : ∀ w x, RX C w x → Q (KM x M) (KN w N) := fun w x h => hk C w x N M (LeF.refl C) hS h keepSame
    show Q (vBuild z ((ps.map fun q => (q.1, q.2.1, gX q.2.2)).map fun q => (q.1, q.2.1, q.2.2 F)) fun y => KM y M) (hBuildO (z.map embA) (ps.map fun q => (q.1, q.2.1, wO q.2.2 G)) fun w => KN w N)
    unfold hBuildO
    have ea : (ps.map fun q => (q.1, q.2.1, wO q.2.2 G)).any (fun q => isUn q.2.2) = ps.any (fun q => isUn (wO q.2.2 G)) := by rw [List.any_map]; rfl
    rw [ea]
    cases hu : ps.any (fun q => isUn (wO q.2.2 G)) with
    | true => exact hQ _
    | false =>
      simp only [cond_false]
      refine hBuild_ok hQ (emb_lr fun v hv e => by have := List.all_eq_true.1 ho.1 v hv; subst e; simp [okV] at this).up (by simp) (fun i p q a b => ?_) pure
      rw [List.getElem?_map] at a
      rw [List.map_map, List.getElem?_map] at b
      cases hi : ps[i]? with
      | none => rw [hi] at a; simp at a
      | some y =>
        rw [hi] at a b
        simp at a b
        subst a; subst b
        refine ⟨rfl, rfl, wO_ok hF (all_get ho.2 hi), isUn_no ?_⟩
        rw [List.any_eq_false] at hu
        simpa using hu y (List.mem_of_getElem? hi)
  | slit t len ps =>
    intro ho C N M G F KM KN hS hF hk
    simp only [HO.ok, Bool.and_eq_true] at ho
    have pure : ∀ w x, RX C w x → Q (KM x M) (KN w N) := fun w x h => hk C w x N M (LeF.refl C) hS h keepSame
    show Q (vSlit P t len (ps.map fun q => (q.1, gX q.2 F)) M KM) (hSlitO P t len (ps.map fun q => (q.1, wO q.2 G)) N KN)
    unfold hSlitO
    have ea : (ps.map fun q => (q.1, wO q.2 G)).any (fun q => isUn q.2) = ps.any (fun q => isUn (wO q.2 G)) := by rw [List.any_map]; rfl
    rw [ea]
    cases hu : ps.any (fun q => isUn (wO q.2 G)) with
    | true => exact hQ _
    | false =>
      simp only [cond_false]
      refine hSlit_ok hQ hS (by simp) (fun i p q a b => ?_) (fun e z _ hz v hv => ?_) hk
      · rw [List.getElem?_map] at a b
        cases hi : ps[i]? with
        | none => rw [hi] at a; simp at a
        | some y =>
          rw [hi] at a b
          simp at a b
          subst a; subst b
          refine ⟨rfl, wO_ok hF (all_get ho hi), isUn_no ?_⟩
          rw [List.any_eq_false] at hu
          simpa using hu y (List.mem_of_getElem? hi)
      · unfold zeroV at hz
        rw [Option.bind_eq_some_iff] at hz
        obtain ⟨u, -, hz⟩ := hz
        obtain ⟨n1, n2⟩ := ofValue_nb hz
        intro e
        subst e
        cases z with
        | agg l => exact n2 l (.inl rfl) .bad hv rfl
        | bad => exact n1 rfl
        | _ => simp [V.cells] at hv
  | _ =>
    intro ho C N M G F KM KN hS hF hk
    simp only [HO.ok, Bool.and_eq_true] at ho
    have pure : ∀ w x, RX C w x → Q (KM x M) (KN w N) := fun w x h => hk C w x N M (LeF.refl C) hS h keepSame
    first
      | exact pure _ _ (wO_ok hF ho)
      | exact hBin_ok hQ (wO_ok hF ho.1) (wO_ok hF ho.2) pure
      | exact hNot_ok hQ (wO_ok hF ho) pure
      | exact hPick_ok hQ (wO_ok hF ho.1.1) (wO_ok hF ho.1.2) (wO_ok hF ho.2) pure
      | exact hConv_ok hQ (wO_ok hF ho) pure
      | exact hLoad1_ok hQ hS (wO_ok hF ho) pure
      | exact hLoadN_ok hQ hS (wO_ok hF ho) pure
      | exact hFieldAddr_ok hQ (wO_ok hF ho) pure
      | exact hIndexAddr_ok hQ (wO_ok hF ho.1) (wO_ok hF ho.2) pure
      | exact hIndexArr_ok hQ (wO_ok hF ho.1) (wO_ok hF ho.2) pure
      | exact hLenS_ok hQ (wO_ok hF ho) pure
      | exact hLenT_ok hQ (wO_ok hF ho) pure
      | exact hIndexT_ok hQ (wO_ok hF ho.1) (wO_ok hF ho.2) pure
      | exact hEqT_ok hQ (wO_ok hF ho.1) (wO_ok hF ho.2) pure
      | exact hExt_ok hQ (wO_ok hF ho) pure
      | exact hStore1_ok hQ hS (wO_ok hF ho.1) (wO_ok hF ho.2) hk
      | exact hStoreN_ok hQ hS (wO_ok hF ho.1) (wO_ok hF ho.2) hk
      | exact hNew_ok hS (emb_lr fun v hv e => by have := List.all_eq_true.1 ho v hv; subst e; simp [okV] at this).up hk
      | exact hBox_ok hQ hS (wO_ok hF ho) hk
      | exact hCall_ok hQ hcr hS (wO_lx hF ho) hk
      | exact hCallV_ok hQ hcr hS (wO_ok hF ho.1) (wO_lx hF ho.2) hk
      | exact hFn_ok (wO_lx hF ho.1) (wO_lx hF ho.2) pure
      | exact hApp_ok hQ hS (wO_ok hF ho.1) (wO_ok hF ho.2) hk
      | exact hSlice_ok hQ hS (wO_ok hF ho.1.1.1) (wO_ox hF ho.1.1.2) (wO_ox hF ho.1.2) (wO_ox hF ho.2) pure
      | exact hBinG_ok hQ hS (wO_ok hF ho.1) (wO_ok hF ho.2) pure
      | exact hCap_ok hQ hS (wO_ok hF ho) pure
      | exact hMM_ok hQ hS (wO_ok hF ho.1) (wO_ok hF ho.2) pure
      | exact hMake_ok hQ hS (wO_ok hF ho.1) (wO_ok hF ho.2) hk
end
end Go.Proofs.Ytehbfajmileefaa.Hx
namespace Go.Proofs.Ytehbfajmileefaa.Hx
open Go.RowKit Go.Proofs.Ytehbfajmileefaa.Vx Go.Proofs.Ytehbfajmileefaa.Fx Go.Proofs.Ytehbfajmileefaa.Px
def KF (C : Ctx) (Q : CX → CW → Prop) (kn : F8 → Mm → CX) (kn' : FW → Nm → CW) : Prop := ∀ (D : Ctx) (N : Nm) (M : Mm) (G : FW) (F : F8), LeG C D → St D N M → FR D G F → Q (kn F M) (kn' G N)
theorem KF.mono {C D : Ctx} {Q : CX → CW → Prop} {kn : F8 → Mm → CX} {kn' : FW → Nm → CW} (h : KF C Q kn kn') (hl : LeG C D) : KF D Q kn kn' := fun E N M G F h1 => h E N M G F (hl.trans h1)
section
variable {P : Program} {Q : CX → CW → Prop} {cl : Cl} {hcl : Clh} {n m : Nat}
theorem ops_ok (hQ : ∀ c, Q c .no) (hcr : ClR cl hcl) : ∀ (l : List (HO × Option Tmp)), (l.all fun o => o.1.ok && okT? o.2) = true → ∀ {C : Ctx} {N : Nm} {M : Mm} {G : FW} {F : F8} {kn : F8 → Mm → CX} {kn' : FW → Nm → CW}, St C N M → FR C G F → KF C Q kn kn' →
    Q (opsK cl (l.map fun o => (o.1.vo P n, dS o.2)) kn F M) (opsH P hcl l kn' G N)
  | [], _, C, N, M, G, F, kn, kn', hS, hF, hk => hk C N M G F (LeF.refl C).g hS hF
  | o :: l, ho, C, N, M, G, F, kn, kn', hS, hF, hk => by
    simp only [List.all_cons, Bool.and_eq_true] at ho
    refine HO_ok hQ hcr o.1 ho.1.1 hS hF fun D w x N' M' h1 h2 h3 _ => ?_
    exact ops_ok hQ hcr l ho.2 h2 ((hF.mono h1).set ho.1.2 h3) (hk.mono h1.g)
section
variable {C0 C : Ctx} {N : Nm} {M : Mm} {G : FW} {F : F8} {KM : X → Mm → CX} {KN : W → Nm → CW} {yg : List Nat}
def OldF (C0 : Ctx) (yg : List Nat) (G : FW) (F : F8) : Prop := ∀ t, t < 512 → memN t yg = false → RX C0 (G t) (gT t F)
theorem old_op (hO : OldF C0 yg G F) (hF : FR C G F) {x : Operand} (hx : okQ x = true) (ho : oldO yg x = true) : RX C0 (wO x G) (gX x F) := by
  cases x with
  | tmp t =>
    simp only [okQ, okO, Nat.blt_eq] at hx
    simp only [oldO, Bool.not_eq_true'] at ho
    exact hO t hx ho
  | const v =>
    simp only [okQ, okO, Option.isSome_iff_exists] at hx
    obtain ⟨u, hu⟩ := hx
    obtain ⟨n1, n2⟩ := ofValue_nb hu
    simp only [wO, gX, kX, hu, Option.getD_some]
    exact ⟨u, rfl, embV_ok n1 fun l hl c hc => n2 l hl c hc⟩
  | func f => exact ⟨.fn (.func f) [] [], rfl, .fn rfl rfl (by simp) (by simp)⟩
  | global g => simp [okQ, okO] at hx
theorem int_or {w : W} : (∃ k n, w = .i k n) ∨ ∀ k n, w ≠ .i k n := by
  cases w with
  | i k n => exact .inl ⟨k, n, rfl⟩
  | _ => exact .inr (by intro k n; simp)
theorem rx_int {w : W} {x : X} (h : RX C w x) (hw : ∃ k n, w = .i k n) : RX C0 w x := by
  obtain ⟨k, n, rfl⟩ := hw
  rw [h.i]; exact .mk_i
theorem old_ok (hQ : ∀ c, Q c .no) (hL : LeF C0 C) (hS : St C N M) (hO : OldF C0 yg G F) : ∀ (o : HO), o.ok = true → oldOp yg G o = true → FR C G F → ∀ {KM : X → Mm → CX} {KN : W → Nm → CW}, (∀ w x, RX C0 w x → Q (KM x M) (KN w N)) → Q ((o.vo P n).val cl F M KM) (o.hval P hcl G N KN) := by
  intro o
  induction o with
  | move x => intro ho hold hF KM KN hk; exact hk _ _ (old_op hO hF ho hold)
  | fieldAddr d x => intro ho hold hF KM KN hk; exact hFieldAddr_ok hQ (old_op hO hF ho hold) hk
  | indexAddr z x i =>
    intro ho hold hF KM KN hk
    simp only [HO.ok, Bool.and_eq_true] at ho
    rcases int_or (w := wO i G) with h | h
    · exact hIndexAddr_ok hQ (old_op hO hF ho.1 hold) (rx_int (wO_ok hF ho.2) h) hk
    · show Q _ (hIndexAddr z (wO x G) (wO i G) fun w => KN w N)
      have : hIndexAddr z (wO x G) (wO i G) (fun w => KN w N) = .no := by
        unfold hIndexAddr
        split <;> first | rfl | exact absurd ‹_› (h _ _)
      rw [this]; exact hQ _
  | indexArr m z x i =>
    intro ho hold hF KM KN hk
    simp only [HO.ok, Bool.and_eq_true] at ho
    rcases int_or (w := wO i G) with h | h
    · exact hIndexArr_ok hQ (old_op hO hF ho.1 hold) (rx_int (wO_ok hF ho.2) h) hk
    · show Q _ (hIndexArr m z (wO x G) (wO i G) fun w => KN w N)
      have : hIndexArr m z (wO x G) (wO i G) (fun w => KN w N) = .no := by
        unfold hIndexArr
        split <;> first | rfl | exact absurd ‹_› (h _ _)
      rw [this]; exact hQ _
  | load1 x =>
    intro ho hold hF KM KN hk
    simp only [oldOp, Bool.and_eq_true] at hold
    have hx := old_op hO hF ho hold.1
    show Q (vLoad1 (gX x F) M fun y => KM y M) (hLoad1 (wO x G) N fun w => KN w N)
    cases hw : wO x G with
    | p cs d =>
      rw [hw] at hx
      obtain ⟨id, off, b, e, h2, h3, h4, h5, h6⟩ := hx.p
      rw [e]
      unfold hLoad1
      refine oW_ok hQ fun u hu => ?_
      split
      · rename_i h1
        obtain ⟨v, h7, h8⟩ := h6.get hu
        rw [List.getElem?_take] at h7
        split at h7
        · rw [List.getElem?_drop] at h7
          have hm : lookC M.H id = some b := by
            rw [hS.h, hL.le.lookC h2 h3]; exact h4
          rw [vLoad1_p, hm]
          simp only [oC_some, h7, h8.one h1, if_true]
          exact hk _ _ (.of h8)
        · simp at h7
      · exact hQ _
    | _ => rw [hw] at hold; simp [isP] at hold
  | loadN k x =>
    intro ho hold hF KM KN hk
    simp only [oldOp, Bool.and_eq_true] at hold
    have hx := old_op hO hF ho hold.1
    show Q (vLoadN k (gX x F) M fun y => KM y M) (hLoadN k (wO x G) N fun w => KN w N)
    cases hw : wO x G with
    | p cs d =>
      rw [hw] at hx
      obtain ⟨id, off, b, e, h2, h3, h4, h5, h6⟩ := hx.p
      rw [e]
      unfold hLoadN
      simp only
      split
      · rename_i h1
        have e := ((h6.drop d).take k)
        have e2 : ((((b.cells.drop off).take cs.length).drop d).take k) = (b.cells.drop (off + d)).take k := by
          rw [List.drop_take, List.drop_drop, List.take_take, Nat.min_eq_left (by simpa using h1)]
        rw [e2] at e
        have hm : lookC M.H id = some b := by
          rw [hS.h, hL.le.lookC h2 h3]; exact h4
        rw [vLoadN_p, hm]
        simp only [oC_some]
        rw [if_pos (by simp at h1 ⊢; omega)]
        exact hk _ _ (RX.of e.agg)
      · exact hQ _
    | _ => rw [hw] at hold; simp [isP] at hold
  | guard j want o ih =>
    intro ho hold hF KM KN hk
    simp only [HO.ok, Bool.and_eq_true, Nat.blt_eq] at ho
    show Q (vGuard (gT j F) want (fun k' => (o.vo P n).val cl F M k') M KM) (hGuard (G j) want (fun k' => o.hval P hcl G N k') N KN)
    have h1 := hF j ho.1
    unfold hGuard
    split
    · rename_i t ht
      rw [ht] at h1
      rw [h1.b, vGuard_b]
      split
      · exact ih ho.2 hold hF hk
      · exact hk _ _ .mk_un
    · rename_i ht
      rw [ht] at h1
      obtain ⟨vs, e, hl⟩ := h1.tup
      have : vs = [] := List.length_eq_zero_iff.1 (by rw [← hl.1]; rfl)
      subst this
      rw [e]
      exact hk _ _ .mk_un
    · exact hQ _
  | _ => intro ho hold; simp [oldOp] at hold
theorem mem_filter_ne {yg : List Nat} {t t' : Nat} (h : memN t' (yg.filter fun i => !(Nat.beq i t)) = false) (hne : t' ≠ t) : memN t' yg = false := by
  rw [Bool.eq_false_iff] at h ⊢
  intro hm
  refine h (memN_iff.2 (List.mem_filter.2 ⟨memN_iff.1 hm, ?_⟩))
  have : Nat.beq t' t = false := by rw [Bool.eq_false_iff]; simpa using hne
  rw [this]; rfl
def RD (C : Ctx) (rw_ : List (Nat × W)) (rx : List (Nat × X)) : Prop := rw_.length = rx.length ∧ ∀ (i : Nat) p q, rw_[i]? = some p → rx[i]? = some q → p.1 = q.1 ∧ RX C p.2 q.2
theorem RD.cons {C : Ctx} {rw_ : List (Nat × W)} {rx : List (Nat × X)} (h : RD C rw_ rx) {k : Nat} {w : W} {x : X} (hx : RX C w x) : RD C ((k, w) :: rw_) ((k, x) :: rx) := ⟨by simp [h.1], fun i p q a b => by
  cases i with
  | zero => simp at a b; subst a; subst b; exact ⟨rfl, hx⟩
  | succ i => simp at a b; exact h.2 i p q a b⟩
theorem RD.mono {C D : Ctx} {rw_ : List (Nat × W)} {rx : List (Nat × X)} (h : RD C rw_ rx) (hl : LeF C D) : RD D rw_ rx := ⟨h.1, fun i p q a b => by obtain ⟨e, r⟩ := h.2 i p q a b; exact ⟨e, hl.rx r⟩⟩
theorem RD.ads {C : Ctx} {un : List Nat} : ∀ {rw_ : List (Nat × W)} {rx : List (Nat × X)}, RD C rw_ rx → ∀ a ∈ adsOf rx un, ∃ w ∈ adsO rw_ un, RX C w a
  | [], [], _, a, ha => by simp [adsOf] at ha
  | [], _ :: _, h, _, _ => by simp [RD] at h
  | _ :: _, [], h, _, _ => by simp [RD] at h
  | (k, w) :: rw_, (k', x) :: rx, h, a, ha => by
    obtain ⟨e, r⟩ := h.2 0 _ _ rfl rfl
    simp only at e r
    subst e
    have ht : RD C rw_ rx := ⟨by simpa using h.1, fun i p q a b => h.2 (i + 1) p q a b⟩
    simp only [adsOf, adsO, List.filter_cons] at ha ⊢
    cases hc : un.contains k with
    | true =>
      rw [hc] at ha
      simp only [if_true, List.map_cons, List.mem_cons] at ha ⊢
      rcases ha with rfl | ha
      · exact ⟨w, .inl rfl, r⟩
      · obtain ⟨w', h1, h2⟩ := RD.ads ht a ha
        exact ⟨w', .inr h1, h2⟩
    | false =>
      rw [hc] at ha
      simp only [Bool.false_eq_true, if_false] at ha ⊢
      exact RD.ads ht a ha
theorem adsW_mem {H : List (Nat × BN)} {row : Option W} {w : W} : ∀ {l : List W}, adsW H row l = true → w ∈ l → adsW H row [w] = true
  | [], _, h => by simp at h
  | a :: l, h, hm => by
    simp only [adsW, Bool.and_eq_true] at h
    rcases List.mem_cons.1 hm with rfl | hm
    · simp only [adsW, Bool.and_true]; exact h.1
    · exact adsW_mem h.2 hm
theorem idX_own {w : W} {x : X} {i : Nat} (h : RX C w x) (hi : idW w = some i) : idX x = some (C.ψ i) ∧ i < C.n := by
  unfold idW at hi
  split at hi
  · simp at hi; subst hi; obtain ⟨rfl, h1⟩ := h.ptr; exact ⟨rfl, h1⟩
  · simp at hi; subst hi; obtain ⟨rfl, h1⟩ := h.sl; exact ⟨rfl, h1⟩
  · simp at hi
theorem idX_imm {w : W} {x : X} {id : Nat} (h : RX C w x) (hw : idW w = none) (hu : isUn w = false) (hi : idX x = some id) : ¬ C.own id ∧ immW w = true := by
  obtain ⟨v, rfl, hr⟩ := h
  unfold idX at hi
  rw [toX_toV] at hi
  cases hr with
  | l h1 h2 => simp [idV] at hi; subst hi; exact ⟨h2, rfl⟩
  | p h1 h2 => simp [idV] at hi; subst hi; exact ⟨h2, rfl⟩
  | ptr => simp [idW] at hw
  | sl => simp [idW] at hw
  | u => simp [isUn] at hu
  | c h => revert h; cases v <;> simp [nilV, idV] at hi ⊢
  | _ => simp [idV] at hi
theorem ads_ok (hS : St C N M) {row : Option W} {rowx : Option X} (hrow : (row = none ∧ rowx = none) ∨ ∃ w x, row = some w ∧ rowx = some x ∧ RX C w x) {w : W} {a : X} (ha : RX C w a) (h : adsW N.H row [w] = true) : idX a = none ∨ idX a ≠ rowx.bind idX := by
  cases hid : idX a with
  | none => exact .inl rfl
  | some j =>
    right
    rcases hrow with ⟨rfl, rfl⟩ | ⟨r, y, rfl, rfl, hr⟩
    · simp
    · simp only [adsW, Bool.and_true] at h
      simp only [Option.bind_some]
      cases hri : idW r with
      | some i =>
        obtain ⟨k1, k2⟩ := idX_own hr hri
        rw [k1]
        rw [hri] at h
        cases hwi : idW w with
        | some i' =>
          obtain ⟨l1, l2⟩ := idX_own ha hwi
          rw [hwi] at h
          simp only [Bool.not_eq_true'] at h
          rw [← hid, l1]
          intro e
          have := hS.inj _ _ l2 k2 (Option.some.inj e)
          subst this
          simp at h
        | none =>
          rw [hwi] at h
          simp only [Bool.and_eq_true, Bool.not_eq_true'] at h
          obtain ⟨o1, -⟩ := idX_imm ha hwi h.1 hid
          intro e
          have e := Option.some.inj e
          subst e
          have h2 := h.2
          unfold isRo at h2
          split at h2
          · rename_i b hb
            obtain ⟨-, c, -, -, h5, -⟩ := hS.bl _ _ hb
            exact o1 (C.wo _ (h5 h2))
          · simp at h2
      | none =>
        rw [hri] at h
        simp only [Bool.not_eq_true'] at h
        intro e
        cases hu : isUn r with
        | true => cases r <;> simp [isUn] at hu; simp [immW] at h
        | false =>
          obtain ⟨-, o2⟩ := idX_imm hr hri hu (by rw [← e])
          rw [h] at o2; simp at o2
theorem oldX_ok (hL : LeF C0 C) {n0 : Nat} {M0x : Nat} (hn : n0 = C0.n) (hm : M0x = C0.nx) (hlt : ∀ i, i < C0.n → C0.ψ i < C0.nx) (hF : FR C G F) (hO : OldF C0 yg G F) {ad : Option Operand} (hok : okQ? ad = true) (h : oldW n0 yg G ad = true) : oldX M0x F (ad.map gX) := by
  cases ad with
  | none => trivial
  | some x =>
    show Old M0x (gX x F)
    intro id hid
    have hx := wO_ok hF hok
    simp only [oldW] at h
    unfold oldV at h
    cases hw : wO x G with
    | ptr i off =>
      rw [hw] at h hx
      simp only [Nat.blt_eq] at h
      obtain ⟨e, h1⟩ := hx.ptr
      rw [e] at hid
      simp [idX, X.toV, idV] at hid
      have := hlt i (by omega)
      rw [hL.ψ i (by omega)] at hid
      omega
    | sl i off len cap z =>
      rw [hw] at h hx
      simp only [Nat.blt_eq] at h
      obtain ⟨e, h1⟩ := hx.sl
      rw [e] at hid
      simp [idX, X.toV, idV] at hid
      have := hlt i (by omega)
      rw [hL.ψ i (by omega)] at hid
      omega
    | l rows cp =>
      rw [hw] at h
      have hx0 := old_op hO hF hok h
      rw [hw] at hx0
      cases hE : (cp.isE && rows.isEmpty) with
      | true =>
        obtain ⟨v, e, hr⟩ := hx0
        rw [e] at hid
        cases hr with
        | lnil _ => simp [idX, X.toV, V.toX, idV] at hid
        | emp _ => simp [idX, X.toV, V.toX, idV] at hid
        | l g1 => simp [Cp.isE] at hE; have hid : some _ = some _ := hid; simp at hid; omega
      | false =>
      rcases hx0.l hE with ⟨e, -⟩ | ⟨id', off, cap, b, z', e, g1, -⟩
      · rw [e] at hid; simp [idX, X.toV, idV] at hid
      · rw [e] at hid; simp [idX, X.toV, idV] at hid; omega
    | p cs d =>
      rw [hw] at h
      have hx0 := old_op hO hF hok h
      rw [hw] at hx0
      obtain ⟨id', off, b, e, h2, -⟩ := hx0.p
      rw [e] at hid; simp [idX, X.toV, idV] at hid; omega
    | u => rw [hw] at h; simp at h
    | c v0 =>
      rw [hw] at hx
      obtain ⟨e, hv⟩ := hx.c
      rw [e] at hid
      cases v0 <;> simp [nilV] at hv <;> simp [idX, X.toV, idV] at hid
    | _ =>
      rw [hw] at hx
      obtain ⟨v, e, hr⟩ := hx
      rw [e] at hid
      unfold idX at hid
      rw [toX_toV] at hid
      cases hr <;> (simp [idV] at hid; done)
end
theorem draw_ok (hQ : ∀ c, Q c .no) (hcr : ClR cl hcl) {C0 : Ctx} {n0 m0 : Nat} (hn : n0 = C0.n) (hm : m0 = C0.nx) (hlt : ∀ i, i < C0.n → C0.ψ i < C0.nx) : ∀ (l : List HD), (l.all fun o => o.o.ok && okT? o.d && okQ? o.ad) = true → ∀ {C : Ctx} {N : Nm} {M : Mm} {G : FW} {F : F8} {yg : List Nat} {rdw : List (Nat × W)} {rdx : List (Nat × X)} {kn : F8 → Mm → CX} {kn' : FW → Nm → CW},
    LeF C0 C → St C N M → FR C G F → OldF C0 yg G F → RD C rdw rdx → KF C Q kn kn' → Q (drawK cl m0 (l.map (HD.dv P n)) rdx kn F M) (drawH P hcl n0 l yg rdw kn' G N)
  | [], _, C, N, M, G, F, yg, rdw, rdx, kn, kn', hL, hS, hF, hO, hR, hk => hk C N M G F (LeF.refl C).g hS hF
  | o :: l, hok, C, N, M, G, F, yg, rdw, rdx, kn, kn', hL, hS, hF, hO, hR, hk => by
    simp only [List.all_cons, Bool.and_eq_true] at hok
    obtain ⟨⟨⟨k1, k2⟩, k3⟩, k4⟩ := hok
    simp only [List.map_cons, drawK, drawH, HD.dv]
    unfold gate
    cases hc : (oldW n0 yg G o.ad && ckW rdw G N.H o.o o.ck && (bif o.old then oldOp yg G o.o else true)) with
    | false => exact hQ _
    | true =>
    simp only [cond_true]
    simp only [Bool.and_eq_true] at hc
    obtain ⟨hc, hcold⟩ := hc
    rw [chk_of (oldX_ok hL hn hm hlt hF hO k3 hc.1)]
    have pst : ∀ (D : Ctx) (x : X) (w : W) (N' : Nm) (M' : Mm), LeF C D → St D N' M' → RX D w x → KeepX (o.o.tgt.bind fun a => idX (gX a F)) M M' →
        Pst o.d.isSome o.mc (valX o.d (dS o.d x F)) M M' (ckX rdx F (o.ck.map fun un => (o.o.tgt.map gX, un))) := by
      intro D x w N' M' h1 h2 h3 h4
      refine ⟨fun hd => ?_, fun _ => by rw [hS.x, h2.x]; exact h1.nx, ?_⟩
      · cases hod : o.d with
        | none => rw [hod] at hd; simp at hd
        | some t =>
          rw [hod] at k2
          simp only [okT?, Nat.blt_eq] at k2
          show (gT t (sT t x F)).toV ≠ .bad
          rw [gT_sT k2 k2, if_pos rfl]
          exact h3.toV.nb
      · cases hck : o.ck with
        | none => trivial
        | some un =>
          simp only [Option.map_some, ckX]
          have hb : (Option.map (fun g => g F) (Option.map gX o.o.tgt)).bind idX = o.o.tgt.bind fun a => idX (gX a F) := by
            cases o.o.tgt <;> rfl
          refine ⟨by rw [hb]; exact h4, fun a ha => ?_⟩
          obtain ⟨w', m1, m2⟩ := RD.ads hR a ha
          have h5 := hc.2
          rw [hck] at h5
          simp only [ckW] at h5
          have h6 := adsW_mem h5 m1
          refine ads_ok hS (row := o.o.tgt.map fun x => wO x G) (rowx := Option.map (fun g => g F) (Option.map gX o.o.tgt)) ?_ m2 h6
          cases ht : o.o.tgt with
          | none => exact .inl ⟨rfl, rfl⟩
          | some y =>
            refine .inr ⟨_, _, rfl, rfl, wO_ok hF ?_⟩
            have : ∀ (o : HO) (y : Operand), o.ok = true → o.tgt = some y → okQ y = true := by
              intro o
              induction o with
              | guard j want o ih => intro y h1 h2; simp only [HO.ok, Bool.and_eq_true] at h1; exact ih y h1.2 h2
              | store1 a x => intro y h1 h2; simp only [HO.ok, Bool.and_eq_true] at h1; simp [HO.tgt] at h2; subst h2; exact h1.1
              | storeN k a x => intro y h1 h2; simp only [HO.ok, Bool.and_eq_true] at h1; simp [HO.tgt] at h2; subst h2; exact h1.1
              | app t u a x => intro y h1 h2; simp only [HO.ok, Bool.and_eq_true] at h1; simp [HO.tgt] at h2; subst h2; exact h1.1
              | _ => intro y h1 h2; simp [HO.tgt] at h2
            exact this o.o y k1 ht
    have rdok : ∀ D, LeF C D → RD D (rdW rdw o.k G o.ad) (rdX rdx o.k F (o.ad.map gX)) := by
      intro D h1
      cases had : o.ad with
      | none => exact hR.mono h1
      | some x => rw [had] at k3; exact (hR.mono h1).cons (h1.rx (wO_ok hF k3))
    cases hold : o.old with
    | true =>
      rw [hold] at hcold
      have hcold : oldOp yg G o.o = true := hcold
      refine old_ok hQ hL hS hO o.o k1 hcold hF fun w x h0 => ?_
      have hw : RX C w x := hL.rx h0
      rw [chk_of (pst C x w N M (LeF.refl C) hS hw keepSame)]
      refine draw_ok hQ hcr hn hm hlt l k4 hL hS (hF.set k2 hw) ?_ (rdok C (LeF.refl C)) hk
      cases hod : o.d with
      | none => exact hO
      | some t =>
        rw [hod] at k2
        simp only [okT?, Nat.blt_eq] at k2
        intro t' ht' hm'
        simp only [ygO, cond_true] at hm'
        show RX C0 (bif Nat.beq t' t then w else G t') (gT t' (sT t x F))
        rw [gT_sT k2 ht']
        by_cases e : t' = t
        · subst e; simpa using h0
        · have : Nat.beq t' t = false := by rw [Bool.eq_false_iff]; simpa using e
          rw [this, if_neg (fun q => e q.symm)]
          exact hO t' ht' (mem_filter_ne hm' e)
    | false =>
      refine HO_ok hQ hcr o.o k1 hS hF fun D w x N' M' h1 h2 h3 h4 => ?_
      rw [chk_of (pst D x w N' M' h1 h2 h3 h4)]
      refine draw_ok hQ hcr hn hm hlt l k4 (hL.trans h1) h2 ((hF.mono h1).set k2 h3) ?_ (rdok D h1) (hk.mono h1.g)
      cases hod : o.d with
      | none => exact hO
      | some t =>
        rw [hod] at k2
        simp only [okT?, Nat.blt_eq] at k2
        intro t' ht' hm'
        simp only [ygO, cond_false, memN, Bool.or_eq_false_iff] at hm'
        show RX C0 (bif Nat.beq t' t then w else G t') (gT t' (sT t x F))
        rw [gT_sT k2 ht']
        have e : t' ≠ t := by intro e; subst e; simp at hm'
        have : Nat.beq t' t = false := by rw [Bool.eq_false_iff]; simpa using e
        rw [this, if_neg (fun q => e q.symm)]
        exact hO t' ht' hm'.2
theorem posN_get {i : Nat} : ∀ {l : List Nat} {k p : Nat}, posN i l k = some p → ∃ j, p = k + j ∧ l[j]? = some i
  | [], k, p, h => by simp [posN] at h
  | j :: l, k, p, h => by
    simp only [posN] at h
    cases hb : Nat.beq j i with
    | true => rw [hb] at h; simp at h; exact ⟨0, by omega, by simp [Nat.eq_of_beq_eq_true hb]⟩
    | false =>
      rw [hb] at h
      obtain ⟨q, h1, h2⟩ := posN_get (l := l) h
      exact ⟨q + 1, by omega, by simpa using h2⟩
theorem nub_ok {H : List (Nat × BN)} : ∀ (l acc : List Nat), acc.Nodup → (∀ i ∈ acc, (lookN H i).isSome = true) → (nubN H acc l).Nodup ∧ ∀ i ∈ nubN H acc l, (lookN H i).isSome = true
  | [], acc, h1, h2 => ⟨h1, h2⟩
  | i :: l, acc, h1, h2 => by
    simp only [nubN]
    cases hc : (memN i acc || !(lookN H i).isSome) with
    | true => exact nub_ok l acc h1 h2
    | false =>
      simp only [Bool.or_eq_false_iff, Bool.not_eq_false'] at hc
      have hm : i ∉ acc := fun h => by rw [memN_iff.2 h] at hc; simp at hc
      refine nub_ok l (acc ++ [i]) ?_ ?_
      · rw [List.nodup_append]
        exact ⟨h1, by simp, fun a ha b hb e => by simp at hb; subst hb; subst e; exact hm ha⟩
      · intro j hj
        simp at hj
        rcases hj with hj | rfl
        · exact h2 j hj
        · exact hc.2
theorem canH_get {H : List (Nat × BN)} {σ : List Nat} {p : Nat} {b : BN} : ∀ {l : List Nat} {k : Nat}, lookN (canH H σ k l) p = some b → ∃ j id b0, p = k + j ∧ l[j]? = some id ∧ lookN H id = some b0 ∧ b = canB σ b0
  | [], k, h => by simp [canH, lookN] at h
  | id :: l, k, h => by
    simp only [canH] at h
    split at h
    · rename_i b0 hb
      rw [lookN_cons] at h
      split at h
      · simp at h; exact ⟨0, id, b0, by omega, rfl, hb, h.symm⟩
      · obtain ⟨j, i, b1, h1, h2, h3, h4⟩ := canH_get (l := l) h
        exact ⟨j + 1, i, b1, by omega, by simpa using h2, h3, h4⟩
    · obtain ⟨j, i, b1, h1, h2, h3, h4⟩ := canH_get (l := l) h
      exact ⟨j + 1, i, b1, by omega, by simpa using h2, h3, h4⟩
def Ctx.re (C : Ctx) (σ : List Nat) : Ctx := { C with ψ := fun k => C.ψ (σ.getD k 0), n := σ.length }
theorem ren_ok {C : Ctx} {σ : List Nat} : ∀ (k : Nat) (w : W) (v : V), R C true w v → R (C.re σ) true (ren k σ w) v := by
  have hle : Le C (C.re σ) := ⟨Nat.le_refl _, fun i hi ho => ⟨rfl, ho⟩⟩
  have base : ∀ {w : W} {v : V}, R C true w v → w.pu1 = true → R (C.re σ) true w v := fun h hp => ((h.pu1 hp).mono hle (by simp)).up
  have own : ∀ {id p : Nat}, posN id σ 0 = some p → p < (C.re σ).n ∧ (C.re σ).ψ p = C.ψ id := by
    intro id p h
    obtain ⟨j, h1, h2⟩ := posN_get h
    have : p = j := by omega
    subst this
    refine ⟨(List.getElem?_eq_some_iff.1 h2).1, ?_⟩
    show C.ψ (σ.getD p 0) = C.ψ id
    rw [List.getD_eq_getElem?_getD, h2]; rfl
  intro k
  induction k with
  | zero =>
    intro w v h
    have hnb := h.nb
    cases h with
    | ptr hid =>
      simp only [ren]
      split
      · rename_i p hp; obtain ⟨a, b⟩ := own hp; rw [← b]; exact .ptr a
      · exact .u hnb
    | sl hid =>
      simp only [ren]
      split
      · rename_i p hp; obtain ⟨a, b⟩ := own hp; rw [← b]; exact .sl a
      · exact .u hnb
    | tup h1 h2 =>
      rename_i xs xs'
      cases xs with
      | nil =>
        have : xs' = [] := List.length_eq_zero_iff.1 h1.symm
        subst this; exact .tup rfl (by simp)
      | cons a l => exact .u hnb
    | fn => exact .u hnb
    | agg => exact .u hnb
    | _ => exact base (by first | exact .i | exact .b | exact .s | exact .c ‹_› | exact .lnil ‹_› | exact .emp ‹_› | exact .l ‹_› ‹_› ‹_› ‹_› ‹_› ‹_› ‹_› | exact .p ‹_› ‹_› ‹_› ‹_› ‹_› | exact .u ‹_›) rfl
  | succ k ih =>
    intro w v h
    have hnb := h.nb
    have lists : ∀ {ws : List W} {vs : List V}, LR C true ws vs → LR (C.re σ) true (ws.map (ren k σ)) vs := by
      intro ws vs hl
      refine ⟨by simp [hl.1], fun i w v a1 a2 => ?_⟩
      rw [List.getElem?_map] at a1
      cases hw : ws[i]? with
      | none => rw [hw] at a1; simp at a1
      | some w0 => rw [hw] at a1; simp at a1; subst a1; exact ih w0 v (hl.2 i w0 v hw a2)
    cases h with
    | ptr hid =>
      simp only [ren]
      split
      · rename_i p hp; obtain ⟨a, b⟩ := own hp; rw [← b]; exact .ptr a
      · exact .u hnb
    | sl hid =>
      simp only [ren]
      split
      · rename_i p hp; obtain ⟨a, b⟩ := own hp; rw [← b]; exact .sl a
      · exact .u hnb
    | fn h1 h2 h3 h4 => have l1 := lists ⟨h1, h3⟩; have l2 := lists ⟨h2, h4⟩; exact .fn l1.1 l2.1 l1.2 l2.2
    | agg h1 h2 => exact (lists ⟨h1, h2⟩).agg
    | tup h1 h2 => have l1 := lists ⟨h1, h2⟩; exact .tup l1.1 l1.2
    | _ => exact base (by first | exact .i | exact .b | exact .s | exact .c ‹_› | exact .lnil ‹_› | exact .emp ‹_› | exact .l ‹_› ‹_› ‹_› ‹_› ‹_› ‹_› ‹_› | exact .p ‹_› ‹_› ‹_› ‹_› ‹_› | exact .u ‹_›) rfl
theorem canon_ok {C : Ctx} {N : Nm} {M : Mm} {G : FW} {F : F8} (hS : St C N M) (hF : FR C G F) (live : List Nat) (ws : List W) :
    ∃ D, LeG C D ∧ St D ⟨canH N.H (reach N.H ws) 0 (reach N.H ws), (reach N.H ws).length⟩ M ∧ FR D (canF live (reach N.H ws) G) F := by
  obtain ⟨n1, n2⟩ := nub_ok (H := N.H) (ws.flatMap (ids 4 N.H)) [] (by simp) (by simp)
  have hle : Le C (C.re (reach N.H ws)) := ⟨Nat.le_refl _, fun i hi ho => ⟨rfl, ho⟩⟩
  have gd : ∀ k, (h : k < (reach N.H ws).length) → (reach N.H ws).getD k 0 = (reach N.H ws)[k] := fun k h => by
    rw [List.getD_eq_getElem?_getD, List.getElem?_eq_getElem h]; rfl
  have lt : ∀ k, (h : k < (reach N.H ws).length) → (reach N.H ws)[k] < C.n := fun k h => by
    obtain ⟨b, hb⟩ := Option.isSome_iff_exists.1 (n2 _ (List.getElem_mem h))
    exact (hS.bl _ b hb).1
  refine ⟨C.re (reach N.H ws), ⟨Nat.le_refl _, rfl, fun i _ h => ⟨rfl, h⟩, fun i _ h => h, fun i _ h _ => h, fun i b h _ => h⟩, ⟨hS.h, hS.x, rfl, hS.fr, fun i j hi hj e => ?_, fun i hi => ?_, fun p b hb => ?_, hS.wl, hS.ll, hS.ol⟩, fun t ht => ?_⟩
  · have hi : i < (reach N.H ws).length := hi
    have hj : j < (reach N.H ws).length := hj
    have e : C.ψ ((reach N.H ws).getD i 0) = C.ψ ((reach N.H ws).getD j 0) := e
    rw [gd i hi, gd j hj] at e
    have := hS.inj _ _ (lt i hi) (lt j hj) e
    have n1' : List.Pairwise (· ≠ ·) (reach N.H ws) := n1
    rw [List.pairwise_iff_getElem] at n1'
    rcases Nat.lt_trichotomy i j with h | h | h
    · exact absurd this (n1' i j hi hj h)
    · exact h
    · exact absurd this.symm (n1' j i hj hi h)
  · have hi : i < (reach N.H ws).length := hi
    show C.lo ≤ C.ψ ((reach N.H ws).getD i 0) ∧ C.ψ ((reach N.H ws).getD i 0) < C.nx
    rw [gd i hi]
    exact hS.lt _ (lt i hi)
  · obtain ⟨j, id, b0, h1, h2, h3, h4⟩ := canH_get hb
    have : p = j := by omega
    subst this
    obtain ⟨hlt, he⟩ := List.getElem?_eq_some_iff.1 h2
    obtain ⟨k1, c, k2, k3, k4, k5⟩ := hS.bl id b0 h3
    have e : (C.re (reach N.H ws)).ψ p = C.ψ id := by
      show C.ψ ((reach N.H ws).getD p 0) = _
      rw [gd p hlt, he]
    refine ⟨hlt, c, by rw [e]; exact k2, ?_, by rw [e, h4]; exact k4, by rw [e, h4]; exact k5⟩
    subst h4
    refine ⟨k3.mp, k3.ty, k3.sz, k3.sp, k3.ro, ?_⟩
    show LR _ (!b0.pu) (bif b0.pu then b0.cells else b0.cells.map (ren 3 (reach N.H ws))) c.cells
    have hc := k3.cs
    cases hp : b0.pu with
    | true => rw [hp] at hc; exact hc.mono hle (by simp)
    | false =>
      rw [hp] at hc
      refine ⟨by simp [hc.1], fun i w v a1 a2 => ?_⟩
      simp only [cond_false, List.getElem?_map] at a1
      cases hw : b0.cells[i]? with
      | none => rw [hw] at a1; simp at a1
      | some w0 => rw [hw] at a1; simp at a1; subst a1; exact ren_ok 3 w0 v (hc.2 i w0 v hw a2)
  · show RX _ (bif memN t live then ren 4 (reach N.H ws) (G t) else .u) (gT t F)
    obtain ⟨v, e, hr⟩ := hF t ht
    rw [e]
    cases memN t live with
    | true => exact ⟨v, rfl, ren_ok 4 _ v hr⟩
    | false => exact ⟨v, rfl, .u hr.nb⟩
theorem sem_ok (hQ : ∀ c, Q c .no) (hcr : ClR cl hcl) : ∀ (t : HT), t.ok = true → ∀ {C : Ctx} {N : Nm} {M : Mm} {G : FW} {F : F8} {kn kr : F8 → Mm → CX} {kn' kr' : FW → Nm → CW} {ke : Nat → F8 → Mm → CX} {ke' : Nat → FW → Nm → CW},
    St C N M → FR C G F → KF C Q kn kn' → (∀ j, KF C Q (ke j) (ke' j)) → KF C Q kr kr' → Q (semK cl m (t.ct P n) kn ke kr F M) (hK P hcl m t kn' ke' kr' G N)
  | .ops l, hok, C, N, M, G, F, kn, kr, kn', kr', ke, ke', hS, hF, hn, he, hr => ops_ok hQ hcr l hok hS hF hn
  | .seq a b, hok, C, N, M, G, F, kn, kr, kn', kr', ke, ke', hS, hF, hn, he, hr => by
    simp only [HT.ok, Bool.and_eq_true] at hok
    exact sem_ok hQ hcr a hok.1 hS hF (fun D N' M' G' F' h1 h2 h3 => sem_ok hQ hcr b hok.2 h2 h3 (hn.mono h1) (fun j => (he j).mono h1) (hr.mono h1)) he hr
  | .cond x a b, hok, C, N, M, G, F, kn, kr, kn', kr', ke, ke', hS, hF, hn, he, hr => by
    simp only [HT.ok, Bool.and_eq_true] at hok
    exact hIf_ok hQ (wO_ok hF hok.1.1) (sem_ok hQ hcr a hok.1.2 hS hF hn he hr) (sem_ok hQ hcr b hok.2 hS hF hn he hr)
  | .block id a, hok, C, N, M, G, F, kn, kr, kn', kr', ke, ke', hS, hF, hn, he, hr => by
    refine sem_ok hQ hcr a hok hS hF hn (fun j => ?_) hr
    show KF C Q (Bool.rec (motive := fun _ => F8 → Mm → CX) (ke j) kn (Nat.beq j id)) (bif Nat.beq j id then kn' else ke' j)
    cases Nat.beq j id
    · exact he j
    · exact hn
  | .loop a, hok, C, N, M, G, F, kn, kr, kn', kr', ke, ke', hS, hF, hn, he, hr => by
    show Q (loopK (fun q => semK cl m (a.ct P n) q ke kr) m F M) (loopH (fun q => hK P hcl m a q ke' kr') m G N)
    have key : ∀ (j : Nat), KF C Q (loopK (fun q => semK cl m (a.ct P n) q ke kr) j) (loopH (fun q => hK P hcl m a q ke' kr') j) := by
      intro j
      induction j with
      | zero => intro D N' M' G' F' h1 h2 h3; exact hQ _
      | succ j ih =>
        intro D N' M' G' F' h1 h2 h3
        exact sem_ok hQ hcr a hok h2 h3 (ih.mono h1) (fun j => (he j).mono h1) (hr.mono h1)
    exact key m C N M G F (LeF.refl C).g hS hF
  | .exit id, hok, C, N, M, G, F, kn, kr, kn', kr', ke, ke', hS, hF, hn, he, hr => he id C N M G F (LeF.refl C).g hS hF
  | .ret, hok, C, N, M, G, F, kn, kr, kn', kr', ke, ke', hS, hF, hn, he, hr => hr C N M G F (LeF.refl C).g hS hF
  | .skip, hok, C, N, M, G, F, kn, kr, kn', kr', ke, ke', hS, hF, hn, he, hr => hn C N M G F (LeF.refl C).g hS hF
  | .canon live a, hok, C, N, M, G, F, kn, kr, kn', kr', ke, ke', hS, hF, hn, he, hr => by
    obtain ⟨D, d1, d2, d3⟩ := canon_ok hS hF live (live.map G)
    exact sem_ok hQ hcr a hok d2 d3 (hn.mono d1) (fun j => (he j).mono d1) (hr.mono d1)
  | .draw l, hok, C, N, M, G, F, kn, kr, kn', kr', ke, ke', hS, hF, hn, he, hr =>
    draw_ok hQ hcr hS.n hS.x (fun i hi => (hS.lt i hi).2) l hok (LeF.refl C) hS hF (fun t ht _ => hF t ht) ⟨rfl, by simp⟩ hn
end
end Go.Proofs.Ytehbfajmileefaa.Hx
namespace Go.Proofs.Ytehbfajmileefaa.Hx
open Go.RowKit Go.Proofs.Ytehbfajmileefaa.Vx Go.Proofs.Ytehbfajmileefaa.Fx Go.Proofs.Ytehbfajmileefaa.Px
section
variable {P : Program} {cl : Cl} {hcl : Clh} {n m : Nat} {C : Ctx} {N : Nm} {M : Mm} {G : FW} {F : F8}
theorem part_ok {f : Bool} {t : TypeId} {cs : List W} {vs : List V} {off : Nat} {w : W} (hl : LR C f cs vs) (h : partW P t cs off = some w) : ∃ v, partV P t vs off = some v ∧ R C f w v := by
  unfold partW at h
  unfold partV
  split at h
  · rename_i ha
    rw [ha]
    simp only [Option.bind_eq_some_iff] at h
    obtain ⟨k, h1, h2⟩ := h
    split at h2
    · rename_i hle
      simp at h2; subst h2
      refine ⟨.agg ((vs.drop off).take k), ?_, ((hl.drop off).take k).agg⟩
      simp only [h1, Option.bind_some]
      rw [if_pos (by rw [← hl.1]; exact hle)]
    · simp at h2
  · rename_i ha
    rw [ha]
    simp only [Option.bind_eq_some_iff] at h
    obtain ⟨u, h1, h2⟩ := h
    split at h2
    · rename_i h3
      simp at h2; subst h2
      obtain ⟨v, h4, h5⟩ := hl.get h1
      refine ⟨v, ?_, h5⟩
      simp only [h4, Option.bind_some]
      rw [if_pos (h5.one h3)]
    · simp at h2
  · simp at h
def okR (r : ResultVar) : Bool := Nat.blt (slotR r) 512
theorem res_ok (hS : St C N M) (hF : FR C G F) : ∀ (rs : List ResultVar), rs.all okR = true → ∀ {ws : List W}, resH P N.H (rsW rs G) = some ws → ∃ vs, resD P M.H (rsX rs F) = some vs ∧ LR C true ws vs
  | [], _, ws, h => by simp [rsW, resH] at h; subst h; exact ⟨[], rfl, .nil⟩
  | .tmp t :: rs, hok, ws, h => by
    simp only [List.all_cons, Bool.and_eq_true, okR, slotR, Nat.blt_eq] at hok
    rw [show rsW (.tmp t :: rs) G = (.tmp t, G t) :: rsW rs G from rfl] at h
    simp only [resH, Option.map_eq_some_iff] at h
    obtain ⟨us, h1, rfl⟩ := h
    obtain ⟨vs, h2, h3⟩ := res_ok hS hF rs (by simpa [okR] using hok.2) h1
    refine ⟨(gT t F).toV :: vs, ?_, .cons (hF t hok.1).toV h3⟩
    rw [show rsX (.tmp t :: rs) F = (.tmp t, gT t F) :: rsX rs F from rfl]
    simp only [Px.resD, h2, Option.map_some]
  | .cell a t :: rs, hok, ws, h => by
    simp only [List.all_cons, Bool.and_eq_true, okR, slotR, Nat.blt_eq] at hok
    rw [show rsW (.cell a t :: rs) G = (.cell a t, G a) :: rsW rs G from rfl] at h
    simp only [resH] at h
    have ha := hF a hok.1
    split at h
    · rename_i id off he
      rw [he] at ha
      obtain ⟨e, hid⟩ := ha.ptr
      simp only [Option.bind_eq_some_iff, Option.map_eq_some_iff] at h
      obtain ⟨b, hb, u, hu, us, h1, rfl⟩ := h
      obtain ⟨vs, h2, h3⟩ := res_ok hS hF rs (by simpa [okR] using hok.2) h1
      obtain ⟨-, c, g2, -, g3, -⟩ := hS.blk hb
      obtain ⟨v, p1, p2⟩ := part_ok (P := P) g3.cs hu
      refine ⟨v :: vs, ?_, .cons p2.up h3⟩
      rw [show rsX (.cell a t :: rs) F = (.cell a t, gT a F) :: rsX rs F from rfl]
      simp only [Px.resD, e, toV_v, g2, Option.bind_some, p1, h2, Option.map_some]
    · rename_i cs off he
      rw [he] at ha
      obtain ⟨id, off', b, e, g1, g2, g3, g4, g5⟩ := ha.p
      simp only [Option.bind_eq_some_iff, Option.map_eq_some_iff] at h
      obtain ⟨u, hu, us, h1, rfl⟩ := h
      obtain ⟨vs, h2, h3⟩ := res_ok hS hF rs (by simpa [okR] using hok.2) h1
      obtain ⟨v, p1, p2⟩ := part_ok (P := P) g5 hu
      have p1' : partV P t b.cells (off' + off) = some v := by
        unfold partV at p1 ⊢
        split at p1
        · rename_i ha
          simp only [Option.bind_eq_some_iff] at p1 ⊢
          obtain ⟨k, q1, q2⟩ := p1
          split at q2
          · rename_i hle
            simp at q2; subst q2
            refine ⟨k, q1, ?_⟩
            simp at hle
            rw [if_pos (by omega)]
            congr 2
            rw [List.drop_take, List.drop_drop, List.take_take, Nat.min_eq_left (by omega)]
          · simp at q2
        · rename_i ha
          simp only [Option.bind_eq_some_iff] at p1 ⊢
          obtain ⟨u', q1, q2⟩ := p1
          rw [List.getElem?_take] at q1
          split at q1
          · rw [List.getElem?_drop] at q1; exact ⟨u', q1, q2⟩
          · simp at q1
        · simp at p1
      refine ⟨v :: vs, ?_, .cons p2.up h3⟩
      rw [show rsX (.cell a t :: rs) F = (.cell a t, gT a F) :: rsX rs F from rfl]
      rw [hS.h] at h2
      simp only [Px.resD, e, toV_v, hS.h, g3, Option.bind_some, p1', h2, Option.map_some]
    · simp at h
theorem pack_ok {ws : List W} {vs : List V} (h : LR C true ws vs) : R C true (packW ws) (packV vs) := by
  cases ws with
  | nil =>
    cases vs with
    | nil => exact .tup rfl (by simp)
    | cons v vs => simp [LR] at h
  | cons w ws =>
    cases vs with
    | nil => simp [LR] at h
    | cons v vs =>
      cases ws with
      | nil =>
        cases vs with
        | nil => exact h.2 0 w v rfl rfl
        | cons v' vs => simp [LR] at h
      | cons w' ws =>
        cases vs with
        | nil => simp [LR] at h
        | cons v' vs => exact .tup h.1 h.2
theorem pack_plain {vs : List V} (h : V.plainL vs = true) : V.plain (packV vs) = true := by
  cases vs with
  | nil => rfl
  | cons v vs =>
    cases vs with
    | nil => simpa [V.plainL, packV] using h
    | cons v' vs => simpa [V.plain, packV] using h
theorem fill_fr : ∀ (ws : List W) (xs : List X) (j k : Nat) (G : FW) (F : F8), LX C ws xs → ws.length ≤ k → j + k ≤ 512 → FR C G F → ∃ F', fillG xs ((List.range' j k).map sT) F = some F' ∧ FR C (fillW j ws G) F'
  | [], [], j, k, G, F, _, _, _, hF => ⟨F, rfl, hF⟩
  | [], _ :: _, j, k, G, F, h, _, _, _ => by simp [LX] at h
  | _ :: _, [], j, k, G, F, h, _, _, _ => by simp [LX] at h
  | w :: ws, x :: xs, j, 0, G, F, h, hl, _, _ => by simp at hl
  | w :: ws, x :: xs, j, k + 1, G, F, h, hl, hj, hF => by
    have ht : LX C ws xs := ⟨by simpa using h.1, fun i p q a b => h.2 (i + 1) p q a b⟩
    have := fill_fr ws xs (j + 1) k (setW j w G) (sT j x F) ht (by simpa using hl) (by omega) (FR.set (d := some j) hF (by simp [okT?]; omega) (h.2 0 w x rfl rfl))
    obtain ⟨F', h1, h2⟩ := this
    exact ⟨F', by rw [List.range'_succ, List.map_cons]; exact h1, h2⟩
noncomputable def fpOf (P : Program) (h : HF) : FF := ⟨(h.body.ct P h.N).den, entN h.N, h.res⟩
noncomputable def HB.tt (P : Program) : HB → TT
  | .lf => .lf
  | .nd l i f r => .nd (l.tt P) i (fpOf P f) (r.tt P)
noncomputable def HF.okF (P : Program) (h : HF) : Bool := h.body.ok && (h.body.ct P h.N).ok && h.res.all okR && Nat.ble h.N 511
def HB.Ok (P : Program) : HB → Prop
  | .lf => True
  | .nd l _ f r => HB.Ok P l ∧ f.okF P = true ∧ HB.Ok P r
theorem hb_get {i : Nat} {h : HF} : ∀ {t : HB}, HB.Ok P t → t.get i = some h → (t.tt P).get i = some (fpOf P h) ∧ h.okF P = true
  | .lf, _, hg => by simp [HB.get] at hg
  | .nd l j f r, hok, hg => by
    have e : (HB.nd l j f r).get i = (Bool.rec (motive := fun _ => Option HF) (Bool.rec (motive := fun _ => Option HF) (r.get i) (l.get i) (Nat.blt i j)) (some f) (Nat.beq i j)) := rfl
    have e2 : ((HB.nd l j f r).tt P).get i = (Bool.rec (motive := fun _ => Option FF) (Bool.rec (motive := fun _ => Option FF) ((r.tt P).get i) ((l.tt P).get i) (Nat.blt i j)) (some (fpOf P f)) (Nat.beq i j)) := rfl
    rw [e] at hg
    rw [e2]
    cases hb : Nat.beq i j with
    | true =>
      rw [hb] at hg
      simp at hg
      subst hg
      exact ⟨rfl, hok.2.1⟩
    | false =>
      rw [hb] at hg
      cases hl : Nat.blt i j with
      | true => rw [hl] at hg; exact hb_get hok.1 hg
      | false => rw [hl] at hg; exact hb_get hok.2.2 hg
theorem callH_ok {t : HB} (ht : HB.Ok P t) (kn : Nat → Bool) (m : Nat) : ∀ n, ClR (callX P (t.tt P) kn n m) (callH P t kn n m) := by
  intro n
  induction n with
  | zero => intro f ws w h; simp [callH] at h
  | succ n ih =>
    intro f ws w h C M xs hH hx hs hl
    have h : (bif kn f then knW ws else oW (t.get f) fun hf => bif Nat.ble ws.length (min 24 hf.N) then
        hK P (callH P t kn n m) m hf.body (fun F N => finH P (F 511) (rsW hf.res F) N) (fun _ _ _ => .no) (fun F N => finH P (F 511) (rsW hf.res F) N) (fillW 0 ws fun _ => .un) ⟨[], 0⟩ else .no) = CW.val w := h
    cases hk : kn f with
    | true =>
      rw [hk] at h
      simp only [cond_true] at h
      unfold knW at h
      split at h
      · simp at h; subst h
        have : xs = [] := List.length_eq_zero_iff.1 (by rw [← hl.1]; rfl)
        subst this
        refine ⟨.b true, M, ?_, ⟨Nat.le_refl _, by rw [hH, hx]; exact hs, fun _ _ => rfl, fun _ _ h _ => h⟩, .bool (.bool true), rfl, fun D _ _ _ => .b⟩
        show (Bool.rec (motive := fun _ => CX) _ (List.rec (motive := fun _ => CX) (.val (.b true) M) (fun _ _ _ => .no) ([] : List X)) (kn f) : CX) = _
        rw [hk]
      · simp at h
    | false =>
      rw [hk] at h
      simp only [cond_false] at h
      cases hg : t.get f with
      | none => rw [hg] at h; simp [oW] at h
      | some hf =>
      rw [hg] at h
      simp only [oW] at h
      obtain ⟨g1, g2⟩ := hb_get ht hg
      simp only [HF.okF, Bool.and_eq_true, Nat.ble_eq] at g2
      obtain ⟨⟨⟨o1, o2⟩, o3⟩, o4⟩ := g2
      cases hlen : Nat.ble ws.length (min 24 hf.N) with
      | false => rw [hlen] at h; simp at h
      | true =>
      rw [hlen] at h
      simp only [cond_true] at h
      have hlen := Nat.le_of_ble_eq_true hlen
      let E : Ctx := { H := C.H, nx := C.nx, own := fun i => C.own i ∧ i < C.nx, wr := fun _ => False, ψ := id, n := 0, lo := C.nx, wo := fun _ h => h.elim }
      have hE : Le C E := ⟨Nat.le_refl _, fun i hi ho => ⟨rfl, fun h => ho h.1⟩⟩
      have sE : St E ⟨[], 0⟩ ⟨M.H, M.nx, M.nx⟩ := ⟨hH, hx, rfl, hs, fun i j hi => absurd hi (Nat.not_lt_zero _), fun i hi => absurd hi (Nat.not_lt_zero _), fun id b hb => by simp [lookN] at hb, fun i hi => hi.elim, Nat.le_refl _, fun i hi => hi.2⟩
      have hX : LX E ws xs := ⟨hl.1, fun i w x a b => by obtain ⟨v, e, r⟩ := hl.2 i w x a b; exact ⟨v, e, (r.mono hE (by simp)).up⟩⟩
      obtain ⟨F0, f1, f2⟩ := fill_fr ws xs 0 (min 24 hf.N) (fun _ => .un) F8.none hX hlen (by omega) (fun t ht => by rw [gT_none ht]; exact .mk_un)
      have f3 : fillX (fpOf P hf).ent xs = some F0 := by
        rw [fillX_eq]; exact f1
      rw [call_sem P (t.tt P) kn n m f xs M (ff := fpOf P hf) (ct := hf.body.ct P hf.N) hk g1 rfl o2 f3]
      let Q : CX → CW → Prop := fun c c' => ∀ w, c' = .val w → ∃ x M', c = .val x M' ∧ KeepC M M' ∧ ∃ v, x = V.toX v ∧ ∀ D : Ctx, D.H = M'.H → D.nx = M'.nx → (∀ i, D.own i → i < M.nx ∧ C.own i) → R D false w v
      have hQ : ∀ c, Q c .no := fun c w h => by simp at h
      have fin : KF E Q (fun F M' => finD P (t.tt P) m (callX P (t.tt P) kn n m) M.nx (gT 511 F) (rsX hf.res F) M') (fun F N => finH P (F 511) (rsW hf.res F) N) := by
        intro D N' M' G F hL hS hF
        show Q (finD P (t.tt P) m (callX P (t.tt P) kn n m) M.nx (gT 511 F) (rsX hf.res F) M') (finH P (G 511) (rsW hf.res G) N')
        unfold finH
        have h511 := hF 511 (by omega)
        split
        · rename_i he
          rw [he] at h511
          obtain ⟨us, e, hl0⟩ := h511.tup
          have : us = [] := List.length_eq_zero_iff.1 (by rw [← hl0.1]; rfl)
          subst this
          refine oW_ok hQ fun ws' hws => ?_
          obtain ⟨vs, r1, r2⟩ := res_ok hS hF hf.res o3 hws
          rw [e, finD_u]
          intro w0 hw0
          simp at hw0
          subst hw0
          simp only [outD, r1]
          have hr := pack_ok r2
          have keep : ∀ p lw, KeepC M ⟨dropX p M.nx lw M'.H, M'.nx, M'.lw⟩ := by
            intro p lw
            have k1 : M.nx ≤ M'.nx := by rw [hx, hS.x]; exact hL.nx
            have k2 : Srt M'.H M'.nx := by rw [hS.h, hS.x]; exact hS.fr
            have k3 : ∀ i, i < M.nx → Vx.look M'.H i = Vx.look M.H i := fun i hi => by
              rw [hS.h, hH]; exact (hL.keep i (by rw [← hx]; exact hi) (fun h => h)).1
            have k4 : ∀ i b, Vx.look M'.H i = some b → b.ro = true → Vx.look M.H i = some b := fun i b hb hr => by
              rw [hH]; exact hL.ro i b (by rw [← hS.h]; exact hb) hr
            cases p with
            | false => exact ⟨k1, k2, k3, k4⟩
            | true =>
              show KeepC M ⟨Bool.rec (motive := fun _ => Hp) (young M.nx M'.H) M'.H (Nat.blt lw M.nx), M'.nx, M'.lw⟩
              cases Nat.blt lw M.nx with
              | true => exact ⟨k1, k2, k3, k4⟩
              | false => exact ⟨k1, Srt.sub k2 (young_sub _ _), fun i hi => (look_young _ _ _ hi).trans (k3 i hi), fun i b hb hr => k4 i b (look_young_of hb k2.nd) hr⟩
          refine ⟨_, _, rfl, keep _ _, packV vs, rfl, fun D' d1 d2 d3 => ?_⟩
          cases hp : V.plainL vs with
          | true => exact pur_plain 4 _ _ hr (pack_plain hp)
          | false =>
            rw [hp] at d1
            have d1 : D'.H = M'.H := d1
            refine pur_ok hS (by rw [d1, hS.h]) (by rw [d2]; exact hS.x) (fun i hi => ?_) 4 _ _ hr (fun id b _ hb ho => ?_)
            · obtain ⟨h1, h2⟩ := d3 i hi
              exact hL.frn i (by rw [← hx]; exact h1) ⟨h2, by rw [← hx]; exact h1⟩ (fun h => h)
            · have h1 := (d3 _ ho).1
              have h2 := (hS.lt id (hS.bl id b hb).1).1
              rw [hL.lo] at h2
              have h2 : C.nx ≤ D.ψ id := h2
              omega
        · exact hQ _
      exact sem_ok hQ ih hf.body o1 sE f2 fin (fun j => fun _ _ _ _ _ _ _ _ => hQ _) fin w h
end
end Go.Proofs.Ytehbfajmileefaa.Hx
namespace Go.Proofs.Ytehbfajmileefaa.Hx
open Go.RowKit Go.Proofs.Ytehbfajmileefaa.Vx Go.Proofs.Ytehbfajmileefaa.Fx Go.Proofs.Ytehbfajmileefaa.Px
theorem call_hk {P : Program} {t : HB} {kn : Nat → Bool} {n m f : Nat} {ws : List W} {hf : HF} (hk : kn f = false) (h1 : t.get f = some hf) (h2 : Nat.ble ws.length (min 24 hf.N) = true) :
    callH P t kn (n + 1) m f ws = hK P (callH P t kn n m) m hf.body (fun F N => finH P (F 511) (rsW hf.res F) N) (fun _ _ _ => .no) (fun F N => finH P (F 511) (rsW hf.res F) N) (fillW 0 ws fun _ => .un) ⟨[], 0⟩ := by
  show (bif kn f then knW ws else oW (t.get f) fun hf => bif Nat.ble ws.length (min 24 hf.N) then _ else .no) = _
  rw [hk, h1]
  simp only [cond_false, oW, h2, cond_true]
end Go.Proofs.Ytehbfajmileefaa.Hx
namespace Go.Proofs.Ytehbfajmileefaa.Hx
open Go.RowKit Go.Proofs.Ytehbfajmileefaa.Vx Go.Proofs.Ytehbfajmileefaa.Fx Go.Proofs.Ytehbfajmileefaa.Px
section
variable {K : W → CW} {KN : W → Nm → CW} {N : Nm} {H : List (Nat × BN)} {nx : Nat}
theorem oW_some {α : Type} (a : α) (k : α → CW) : oW (some a) k = k a := (rfl)
theorem oW_none {α : Type} (k : α → CW) : oW none k = .no := (rfl)
theorem hBin_i (op : BinOp) (k : IntKind) (m n : Int) : hBin op (.i k m) (.i k n) K = oW (hb op k m n) K := by simp [hBin]
theorem hb_add (k : IntKind) (m n : Int) : hb .add k m n = some (.i k (k.wrap (m + n))) := (rfl)
theorem hb_sub (k : IntKind) (m n : Int) : hb .sub k m n = some (.i k (k.wrap (m - n))) := (rfl)
theorem hb_mul (k : IntKind) (m n : Int) : hb .mul k m n = some (.i k (k.wrap (m * n))) := (rfl)
theorem hb_eql (k : IntKind) (m n : Int) : hb .eql k m n = some (.b (decide (m = n))) := (rfl)
theorem hb_neq (k : IntKind) (m n : Int) : hb .neq k m n = some (.b (!decide (m = n))) := (rfl)
theorem hb_lss (k : IntKind) (m n : Int) : hb .lss k m n = some (.b (decide (m < n))) := (rfl)
theorem hb_leq (k : IntKind) (m n : Int) : hb .leq k m n = some (.b (decide (m ≤ n))) := (rfl)
theorem hb_gtr (k : IntKind) (m n : Int) : hb .gtr k m n = some (.b (decide (n < m))) := (rfl)
theorem hb_geq (k : IntKind) (m n : Int) : hb .geq k m n = some (.b (decide (n ≤ m))) := (rfl)
theorem hNot_b (t : Bool) : hNot (.b t) K = K (.b (!t)) := (rfl)
theorem hIf_b (t : Bool) (a b : CW) : hIf (.b t) a b = if t = true then a else b := (rfl)
theorem hPick_b (t : Bool) (x y : W) : hPick (.b t) x y K = K (if t = true then x else y) := (rfl)
theorem hConv_i (k kd : IntKind) (n : Int) : hConv kd (.i k n) K = K (.i kd (kd.wrap n)) := (rfl)
theorem hLoad1_ptr (id off : Nat) : hLoad1 (.ptr id off) N K = oW (lookN N.H id) fun b => oW b.cells[off]? fun u => if u.one = true then K u else .no := (rfl)
theorem hLoad1_p (cs : List W) (off : Nat) : hLoad1 (.p cs off) N K = oW cs[off]? fun u => if u.one = true then K u else .no := (rfl)
theorem hLoadN_ptr (n id off : Nat) : hLoadN n (.ptr id off) N K = oW (lookN N.H id) fun b => if n ≤ (b.cells.drop off).length then K (.agg ((b.cells.drop off).take n)) else .no := (rfl)
theorem hLoadN_p (n : Nat) (cs : List W) (off : Nat) : hLoadN n (.p cs off) N K = if n ≤ (cs.drop off).length then K (.agg ((cs.drop off).take n)) else .no := (rfl)
theorem hFieldAddr_ptr (d id off : Nat) : hFieldAddr d (.ptr id off) K = K (.ptr id (off + d)) := (rfl)
theorem hFieldAddr_p (d : Nat) (cs : List W) (off : Nat) : hFieldAddr d (.p cs off) K = K (.p cs (off + d)) := (rfl)
theorem hIndexAddr_sl (z id off len z0 : Nat) (c : Cap) (k : IntKind) (n : Int) : hIndexAddr z (.sl id off len c z0) (.i k n) K = if 0 ≤ n ∧ n < len then K (.ptr id (off + n.toNat * z)) else .no := (rfl)
theorem hIndexAddr_l (z : Nat) (rows : List W) (cp : Cp) (k : IntKind) (n : Int) : hIndexAddr z (.l rows cp) (.i k n) K = if 0 ≤ n then oW rows[n.toNat]? fun r => if r.cells.length = z then K (.p r.cells 0) else .no else .no := (rfl)
theorem hIndexArr_ptr (m z id off : Nat) (k : IntKind) (n : Int) : hIndexArr m z (.ptr id off) (.i k n) K = if 0 ≤ n ∧ n < m then K (.ptr id (off + n.toNat * z)) else .no := (rfl)
theorem hLenS_n : hLenS (.c .nils) K = K (.i .i64 0) := (rfl)
theorem hLenS_sl (id off n z : Nat) (c : Cap) : hLenS (.sl id off n c z) K = K (.i .i64 n) := (rfl)
theorem hLenS_l (rows : List W) (cp : Cp) : hLenS (.l rows cp) K = K (.i .i64 rows.length) := (rfl)
theorem hLenT_s (b : ByteArray) : hLenT (.s b) K = K (.i .i64 b.data.toList.length) := (rfl)
theorem hEqT_s (neg : Bool) (a b : ByteArray) : hEqT neg (.s a) (.s b) K = K (.b (if neg = true then !decide (a.data.toList = b.data.toList) else decide (a.data.toList = b.data.toList))) := (rfl)
theorem hExt_t (i : Nat) (l : List W) : hExt i (.tup l) K = oW l[i]? K := (rfl)
theorem hStore1_ptr (id off : Nat) (u : W) : hStore1 (.ptr id off) u N KN = oW (lookN N.H id) fun b => if b.ro = false ∧ u.one = true ∧ off < b.cells.length then KN (.tup []) ⟨updN N.H id { b with cells := b.cells.set off u, pu := b.pu && u.pu }, N.nx⟩ else .no := (rfl)
theorem hStoreN_ptr (n id off : Nat) (l : List W) : hStoreN n (.ptr id off) (.agg l) N KN = oW (lookN N.H id) fun b => if b.ro = false ∧ l.length = n ∧ l.all W.one = true ∧ off + n ≤ b.cells.length then KN (.tup []) ⟨updN N.H id { b with cells := putW b.cells off l, pu := b.pu && l.all W.pu }, N.nx⟩ else .no := (rfl)
theorem hNew_e (t z : Nat) (cells : List W) : hNew t z cells N KN = KN (.ptr N.nx 0) ⟨(N.nx, ⟨t, z, cells, false, false, cells.all W.pu⟩) :: N.H, N.nx + 1⟩ := (rfl)
theorem hBox_agg (t z : Nat) (l : List W) : hBox t z (.agg l) N KN = hNew t z l N KN := (rfl)
theorem hGuard_b (t want : Bool) (o : (W → Nm → CW) → CW) : hGuard (.b t) want o N KN = if t = want then o KN else KN (.tup []) N := (rfl)
theorem hGuard_u (want : Bool) (o : (W → Nm → CW) → CW) : hGuard (.tup []) want o N KN = KN (.tup []) N := (rfl)
theorem hCallV_fn (cl : Clh) (f : Nat) (a b xs : List W) : hCallV cl (.fn f a b) xs N KN = hCall cl f (a ++ (xs ++ b)) N KN := (rfl)
theorem hFn_e (f : Nat) (a b : List W) : hFn f a b K = K (.fn f a b) := (rfl)
theorem hCall_of {cl : Clh} {f : Nat} {xs : List W} {w : W} (h : cl f (xs.map (pur 4 N.H)) = .val w) : hCall cl f xs N KN = KN w (frz w xs N) := by simp only [hCall, h]
theorem gate_t (k : CW) : gate true true true k = k := (rfl)
theorem finH_u {P : Program} (rs : List (ResultVar × W)) : finH P (.tup []) rs N = oW (resH P N.H rs) fun ws => .val (pur 4 N.H (packW ws)) := (rfl)
theorem resH_nil {P : Program} : resH P H [] = some [] := (rfl)
theorem resH_tmp {P : Program} (t : Nat) (x : W) (l : List (ResultVar × W)) : resH P H ((.tmp t, x) :: l) = (resH P H l).map fun vs => x :: vs := (rfl)
theorem resH_cell {P : Program} (a t : Nat) (id off : Nat) (l : List (ResultVar × W)) : resH P H ((.cell a t, .ptr id off) :: l) = (lookN H id).bind fun b => (partW P t b.cells off).bind fun v => (resH P H l).map fun vs => v :: vs := (rfl)
theorem partW_agg {P : Program} {t k : Nat} (h1 : aggB P t = some true) (h2 : szOf P t = some k) (cs : List W) (off : Nat) : partW P t cs off = if off + k ≤ cs.length then some (.agg ((cs.drop off).take k)) else none := by
  unfold partW; rw [h1]; simp only [h2, Option.bind_some]
theorem partW_one {P : Program} {t : Nat} (h1 : aggB P t = some false) (cs : List W) (off : Nat) : partW P t cs off = (cs[off]?).bind fun v => if v.one then some v else none := by
  unfold partW; rw [h1]
theorem lookN_hit (i : Nat) (b : BN) : lookN ((i, b) :: H) i = some b := by rw [lookN_cons, if_pos rfl]
theorem lookN_miss {i j : Nat} (b : BN) (h : j ≠ i) : lookN ((j, b) :: H) i = lookN H i := by rw [lookN_cons, if_neg h]
theorem updN_hit (i : Nat) (b c : BN) : updN ((i, b) :: H) i c = (i, c) :: H := by simp [updN]
theorem updN_miss {i j : Nat} (b c : BN) (h : j ≠ i) : updN ((j, b) :: H) i c = (j, b) :: updN H i c := by
  have : Nat.beq j i = false := by rw [Bool.eq_false_iff]; simpa using h
  simp [updN, this]
theorem delN_hit (i : Nat) (b : BN) : delN ((i, b) :: H) i = delN H i := by simp [delN]
theorem delN_miss {i j : Nat} (b : BN) (h : j ≠ i) : delN ((j, b) :: H) i = (j, b) :: delN H i := by
  have : Nat.beq j i = false := by rw [Bool.eq_false_iff]; simpa using h
  simp [delN, this]
theorem delN_nil (i : Nat) : delN [] i = [] := (rfl)
theorem updN_cons (j i : Nat) (b c : BN) : updN ((j, b) :: H) i c = if j = i then (j, c) :: H else (j, b) :: updN H i c := by
  by_cases h : j = i
  · subst h; rw [updN_hit, if_pos rfl]
  · rw [updN_miss _ _ h, if_neg h]
theorem delN_cons (j i : Nat) (b : BN) : delN ((j, b) :: H) i = if j = i then delN H i else (j, b) :: delN H i := by
  by_cases h : j = i
  · subst h; rw [delN_hit, if_pos rfl]
  · rw [delN_miss _ h, if_neg h]
theorem pur_i (k : Nat) (H : List (Nat × BN)) (kd : IntKind) (n : Int) : pur k H (.i kd n) = .i kd n := by cases k <;> exact (rfl)
theorem pur_b (k : Nat) (H : List (Nat × BN)) (t : Bool) : pur k H (.b t) = .b t := by cases k <;> exact (rfl)
theorem pur_s (k : Nat) (H : List (Nat × BN)) (t : ByteArray) : pur k H (.s t) = .s t := by cases k <;> exact (rfl)
theorem pur_c (k : Nat) (H : List (Nat × BN)) (v : V) : pur k H (.c v) = .c v := by cases k <;> exact (rfl)
theorem pur_l (k : Nat) (H : List (Nat × BN)) (r : List W) (cp : Cp) : pur k H (.l r cp) = .l r cp := by cases k <;> exact (rfl)
theorem pur_p (k : Nat) (H : List (Nat × BN)) (r : List W) (d : Nat) : pur k H (.p r d) = .p r d := by cases k <;> exact (rfl)
theorem pur_u (k : Nat) (H : List (Nat × BN)) : pur k H .u = .u := by cases k <;> exact (rfl)
theorem pur_agg (k : Nat) (H : List (Nat × BN)) (l : List W) : pur (k + 1) H (.agg l) = .agg (l.map (pur k H)) := (rfl)
theorem pur_tup (k : Nat) (H : List (Nat × BN)) (l : List W) : pur (k + 1) H (.tup l) = .tup (l.map (pur k H)) := (rfl)
theorem pur_fn (k : Nat) (H : List (Nat × BN)) (f : Nat) (a b : List W) : pur (k + 1) H (.fn f a b) = .fn f (a.map (pur k H)) (b.map (pur k H)) := (rfl)
theorem pur_sl {k id off len z : Nat} {cap : Cap} {b : BN} (hb : lookN H id = some b) (h1 : off + len * z ≤ b.cells.length) (h2 : capFits cap len z b = true) (h3 : 0 < z) (hp : b.pu = true) : pur (k + 1) H (.sl id off len cap z) = .l (chunk len z (b.cells.drop off)) (cpOf cap) := by
  simp only [pur, hb, hp, cond_true, h2, Nat.ble_eq_true_of_le h1, Bool.and_true, Bool.true_and]
  have : Nat.blt 0 z = true := by simpa using h3
  rw [this]; rfl
theorem chunk_one : ∀ (l : List W), (∀ w ∈ l, mkRow 1 [w] = w) → chunk l.length 1 l = l
  | [], _ => rfl
  | w :: l, h => by
    show mkRow 1 [w] :: chunk l.length 1 l = w :: l
    rw [h w (by simp), chunk_one l fun u hu => h u (List.mem_cons_of_mem _ hu)]
def iW (n : Int) : W := .i .i64 n
def bW (t : Bool) : W := .b t
theorem chunk_map {α : Type} (f : α → W) (hf : ∀ a, mkRow 1 [f a] = f a) (l : List α) : chunk l.length 1 (l.map f) = l.map f := by
  have := chunk_one (l.map f) (by simp [hf])
  simpa using this
theorem all_map {α : Type} {f : α → W} {p : W → Bool} (hf : ∀ a, p (f a) = true) (l : List α) : (l.map f).all p = true := by
  rw [List.all_eq_true]; intro w hw
  obtain ⟨a, -, rfl⟩ := List.mem_map.1 hw
  exact hf a
theorem frz_of {w : W} {xs : List W} (h : (w.flat || xs.all W.pu) = true) (N : Nm) : frz w xs N = N := by simp only [frz, h, cond_true]
end
end Go.Proofs.Ytehbfajmileefaa.Hx
namespace Go.Proofs.Ytehbfajmileefaa.Hx
open Go.RowKit Go.Proofs.Ytehbfajmileefaa.Vx Go.Proofs.Ytehbfajmileefaa.Fx Go.Proofs.Ytehbfajmileefaa.Px
section
variable {H : List (Nat × BN)}
theorem ids_i (k : Nat) (kd : IntKind) (n : Int) : ids k H (.i kd n) = [] := by cases k <;> exact (rfl)
theorem ids_b (k : Nat) (t : Bool) : ids k H (.b t) = [] := by cases k <;> exact (rfl)
theorem ids_s (k : Nat) (t : ByteArray) : ids k H (.s t) = [] := by cases k <;> exact (rfl)
theorem ids_c (k : Nat) (v : V) : ids k H (.c v) = [] := by cases k <;> exact (rfl)
theorem ids_l (k : Nat) (r : List W) (cp : Cp) : ids k H (.l r cp) = [] := by cases k <;> exact (rfl)
theorem ids_p (k : Nat) (r : List W) (d : Nat) : ids k H (.p r d) = [] := by cases k <;> exact (rfl)
theorem ids_u (k : Nat) : ids k H .u = [] := by cases k <;> exact (rfl)
theorem ids_ptr (k id off : Nat) : ids (k + 1) H (.ptr id off) = id :: (match lookN H id with
    | some b => bif b.pu then [] else b.cells.flatMap (ids k H)
    | none => []) := (rfl)
theorem ids_sl (k id off len z : Nat) (c : Cap) : ids (k + 1) H (.sl id off len c z) = id :: (match lookN H id with
    | some b => bif b.pu then [] else b.cells.flatMap (ids k H)
    | none => []) := (rfl)
theorem ids_agg (k : Nat) (l : List W) : ids (k + 1) H (.agg l) = l.flatMap (ids k H) := (rfl)
theorem ids_tup (k : Nat) (l : List W) : ids (k + 1) H (.tup l) = l.flatMap (ids k H) := (rfl)
theorem ids_fn (k f : Nat) (a b : List W) : ids (k + 1) H (.fn f a b) = a.flatMap (ids k H) ++ b.flatMap (ids k H) := (rfl)
variable {σ : List Nat}
theorem ren_i (k : Nat) (kd : IntKind) (n : Int) : ren k σ (.i kd n) = .i kd n := by cases k <;> exact (rfl)
theorem ren_b (k : Nat) (t : Bool) : ren k σ (.b t) = .b t := by cases k <;> exact (rfl)
theorem ren_s (k : Nat) (t : ByteArray) : ren k σ (.s t) = .s t := by cases k <;> exact (rfl)
theorem ren_c (k : Nat) (v : V) : ren k σ (.c v) = .c v := by cases k <;> exact (rfl)
theorem ren_l (k : Nat) (r : List W) (cp : Cp) : ren k σ (.l r cp) = .l r cp := by cases k <;> exact (rfl)
theorem ren_p (k : Nat) (r : List W) (d : Nat) : ren k σ (.p r d) = .p r d := by cases k <;> exact (rfl)
theorem ren_u (k : Nat) : ren k σ .u = .u := by cases k <;> exact (rfl)
theorem ren_un (k : Nat) : ren k σ (.tup []) = .tup [] := by cases k <;> exact (rfl)
theorem ren_agg (k : Nat) (l : List W) : ren (k + 1) σ (.agg l) = .agg (l.map (ren k σ)) := (rfl)
theorem ren_tup (k : Nat) (l : List W) : ren (k + 1) σ (.tup l) = .tup (l.map (ren k σ)) := (rfl)
theorem ren_fn (k f : Nat) (a b : List W) : ren (k + 1) σ (.fn f a b) = .fn f (a.map (ren k σ)) (b.map (ren k σ)) := (rfl)
theorem ren_ptr (k id off : Nat) : ren k σ (.ptr id off) = match posN id σ 0 with
  | some j => .ptr j off
  | none => .u := by cases k <;> exact (rfl)
theorem ren_sl (k id off len z : Nat) (c : Cap) : ren k σ (.sl id off len c z) = match posN id σ 0 with
  | some j => .sl j off len c z
  | none => .u := by cases k <;> exact (rfl)
theorem posN_cons (i j : Nat) (l : List Nat) (k : Nat) : posN i (j :: l) k = if j = i then some k else posN i l (k + 1) := by
  by_cases h : j = i
  · subst h; simp [posN]
  · have : Nat.beq j i = false := by rw [Bool.eq_false_iff]; simpa using h
    simp [posN, this, h]
theorem memN_cons (i j : Nat) (l : List Nat) : memN i (j :: l) = (decide (j = i) || memN i l) := by
  by_cases h : j = i
  · subst h; simp [memN]
  · have : Nat.beq j i = false := by rw [Bool.eq_false_iff]; simpa using h
    simp [memN, this, h]
theorem memN_nil (i : Nat) : memN i [] = false := (rfl)
theorem nubN_nil (acc : List Nat) : nubN H acc [] = acc := (rfl)
theorem nubN_cons (acc : List Nat) (i : Nat) (l : List Nat) : nubN H acc (i :: l) = nubN H (bif memN i acc || !(lookN H i).isSome then acc else acc ++ [i]) l := (rfl)
theorem canH_nil (k : Nat) : canH H σ k [] = [] := (rfl)
theorem canH_cons (k id : Nat) (l : List Nat) : canH H σ k (id :: l) = match lookN H id with
  | some b => (k, canB σ b) :: canH H σ (k + 1) l
  | none => canH H σ (k + 1) l := (rfl)
theorem canB_e (t z : Nat) (cs : List W) (sp ro pu : Bool) : canB σ ⟨t, z, cs, sp, ro, pu⟩ = ⟨t, z, bif pu then cs else cs.map (ren 3 σ), sp, ro, pu⟩ := (rfl)
end
end Go.Proofs.Ytehbfajmileefaa.Hx
namespace Go.Proofs.Ytehbfajmileefaa.Hx
open Go.RowKit Go.Proofs.Ytehbfajmileefaa.Vx Go.Proofs.Ytehbfajmileefaa.Fx Go.Proofs.Ytehbfajmileefaa.Px
section
variable {H : List (Nat × BN)} {K : W → CW}
theorem jn_cut {α β : Type} {f : α → β} {k : α} {r : β} (p : α → Prop) (hk : p k) (h : ∀ k', p k' → f k' = r) : jn f k = r := h k hk
theorem oldV_ptr (n : Nat) (b : Bool) (i o : Nat) : oldV n b (.ptr i o) = decide (i < n) := by
  show Nat.blt i n = _
  rw [Bool.eq_iff_iff, Nat.blt_eq, decide_eq_true_iff]
theorem oldV_sl (n : Nat) (b : Bool) (i o l z : Nat) (c : Cap) : oldV n b (.sl i o l c z) = decide (i < n) := by
  show Nat.blt i n = _
  rw [Bool.eq_iff_iff, Nat.blt_eq, decide_eq_true_iff]
theorem oldV_p (n : Nat) (b : Bool) (cs : List W) (o : Nat) : oldV n b (.p cs o) = b := (rfl)
theorem oldV_l (n : Nat) (b : Bool) (r : List W) (cp : Cp) : oldV n b (.l r cp) = b := (rfl)
theorem oldV_c (n : Nat) (b : Bool) (v : V) : oldV n b (.c v) = true := (rfl)
theorem adsW_none (l : List W) : adsW H none l = true := by
  induction l with
  | nil => rfl
  | cons a l ih => simp only [adsW, ih, Bool.and_true]
theorem adsW_nil (r : Option W) : adsW H r [] = true := (rfl)
theorem adsW_pp (i o j p : Nat) (l : List W) : adsW H (some (.ptr i o)) (.ptr j p :: l) = (!(decide (i = j)) && adsW H (some (.ptr i o)) l) := by
  have : Nat.beq i j = decide (i = j) := by rw [Bool.eq_iff_iff]; simp
  simp only [adsW, idW, this]
theorem adsW_sp (i o n z : Nat) (c : Cap) (j p : Nat) (l : List W) : adsW H (some (.sl i o n c z)) (.ptr j p :: l) = (!(decide (i = j)) && adsW H (some (.sl i o n c z)) l) := by
  have : Nat.beq i j = decide (i = j) := by rw [Bool.eq_iff_iff]; simp
  simp only [adsW, idW, this]
theorem adsW_pi (i o : Nat) (cs : List W) (d : Nat) (l : List W) : adsW H (some (.ptr i o)) (.p cs d :: l) = (!(isRo (lookN H i)) && adsW H (some (.ptr i o)) l) := by
  simp only [adsW, idW, isUn, Bool.not_false, Bool.true_and]
theorem adsW_c (v : V) (a : W) (l : List W) : adsW H (some (.c v)) (a :: l) = adsW H (some (.c v)) l := by
  simp only [adsW, idW, immW, Bool.not_false, Bool.true_and]
theorem hBuildO_0 (z : List W) : hBuildO z [] K = K (.agg z) := (rfl)
theorem rem64 {P : Program} {t : Nat} (a b : Int) (h : b ≠ 0) : hBinG P .rem t (.i .i64 a) (.i .i64 b) K = K (.i .i64 (Int.tmod a b)) := by
  simp [hBinG, nilB, W.sv, W.sv1, oW, hSc, binV, mkRem, h, V.sw]
theorem max64 (a b : Int) : hMM false (.i .i64 a) (.i .i64 b) K = K (.i .i64 (max a b)) := by
  simp only [hMM, if_true, Bool.false_eq_true, if_false]
  congr 2
  simp only [Int.max_def]
  split <;> split <;> omega
end
end Go.Proofs.Ytehbfajmileefaa.Hx
namespace Go.Proofs.Ytehbfajmileefaa.Hx
open Go.RowKit Go.Proofs.Ytehbfajmileefaa.Vx Go.Proofs.Ytehbfajmileefaa.Fx Go.Proofs.Ytehbfajmileefaa.Px
section
variable {P : Program} {H : List (Nat × BN)} {KN : W → Nm → CW} {t e z y nx m : Nat} {x : W} {src : List W}
theorem frzH_cons (l : List Nat) (j : Nat) (b : BN) : frzH l ((j, b) :: H) = (j, bif memN j l then { b with ro := true } else b) :: frzH l H := (rfl)
theorem frzH_nil (l : List Nat) : frzH l [] = [] := (rfl)
theorem app_nil (hs : szI P t = some (e, z, y)) (hsrc : hSrc P t t z H x = some (src, m)) (hm : m ≠ 0) (h1 : src.all W.one = true) (hp : src.all W.pu = true) (hb : m * y ≤ maxBytes) (hb2 : m ≤ maxBytes) :
    hApp P t t (.c .nils) x ⟨H, nx⟩ KN = KN (.sl nx 0 m (.rest 0) z) ⟨(nx, ⟨e, z, src, true, false, true⟩) :: H, nx + 1⟩ := by
  unfold hApp
  simp only [hs, oW_some, hsrc, if_neg hm, h1, if_true, hNews, hp, cond_true, hb, hb2, and_self]
theorem app_own (hs : szI P t = some (e, z, y)) (hsrc : hSrc P t t z H x = some (src, m)) (hm : m ≠ 0) (h1 : src.all W.one = true) (hp : src.all W.pu = true) {d k z0 : Nat} {cs : List W} (hd : lookN H d = some ⟨e, z, cs, true, false, true⟩) (hk : k * z = cs.length)
    (hb : (k + m) * y ≤ maxBytes) (hb2 : k + m ≤ maxBytes) :
    hApp P t t (.sl d 0 k (.rest 0) z0) x ⟨H, nx⟩ KN = KN (.sl nx 0 (k + m) (.rest 0) z) ⟨(nx, ⟨e, z, cs ++ src, true, false, true⟩) :: delN H d, nx + 1⟩ := by
  unfold hApp
  simp only [hs, oW_some, hsrc, if_neg hm, h1, if_true, hNews, hp, cond_true, hd, hk, hb, hb2, and_self]
theorem src_sl {id k z0 : Nat} {c : Cap} {b : BN} (hb : lookN H id = some b) (hk : k ≠ 0) (hl : k * z = b.cells.length) : hSrc P t t z H (.sl id 0 k c z0) = some (b.cells, k) := by
  simp only [hSrc, if_true, if_neg hk, hb, Option.bind_some, Nat.zero_add, List.drop_zero, hl, Nat.le_refl, List.take_length]
end
end Go.Proofs.Ytehbfajmileefaa.Hx
namespace Go.Proofs.Ytehbfajmileefaa.Hx
open Go.RowKit Go.Proofs.Ytehbfajmileefaa.Vx Go.Proofs.Ytehbfajmileefaa.Fx Go.Proofs.Ytehbfajmileefaa.Px
theorem row_le {P : Program} {fits : TypeId → Bool} : ∀ {d : Nat} {e : TypeId} {count off n : Nat}, rowAt P fits d e count off n = true → off ≤ count * P.cellsOf e
  | 0, e, count, off, n, h => by simp [rowAt] at h
  | d + 1, e, count, off, n, h => by
    unfold rowAt at h
    by_cases hs : P.cellsOf e = 0
    · simp [hs] at h
    simp only [hs, if_false] at h
    have hdm := Nat.div_add_mod off (P.cellsOf e)
    rw [Bool.or_eq_true] at h
    rcases h with h | h
    · simp only [Bool.and_eq_true, beq_iff_eq, decide_eq_true_eq] at h
      obtain ⟨⟨h1, h2⟩, -⟩ := h
      rw [h1, Nat.add_zero] at hdm
      rw [← hdm, Nat.mul_comm]
      exact Nat.mul_le_mul_right _ (by omega)
    · rw [Bool.and_eq_true, decide_eq_true_eq] at h
      have h1 := h.1
      have hlt := Nat.mod_lt off (Nat.pos_of_ne_zero hs)
      have : (off / P.cellsOf e + 1) * P.cellsOf e ≤ count * P.cellsOf e := Nat.mul_le_mul_right _ h1
      rw [Nat.add_mul, Nat.one_mul, Nat.mul_comm] at this
      omega
theorem lies_le {P : Program} : ∀ {d : Nat} {e u : TypeId} {count off n : Nat}, liesAt P d e count off u n = true → off ≤ count * P.cellsOf e
  | 0, e, u, count, off, n, h => by simp [liesAt] at h
  | d + 1, e, u, count, off, n, h => by
    unfold liesAt at h
    rw [Bool.or_eq_true] at h
    rcases h with h | h
    · exact row_le h
    · split at h
      · exact lies_le h
      · simp at h
def SlIn (w : World) (q : Option Addr) (len cap : Nat) : Prop := (q = none ∧ len = 0 ∧ cap = 0) ∨ ∃ b o row n, q = some ⟨b, o, none⟩ ∧ w.shape? b = some (row, n) ∧ o ≤ n ∧ len ≤ cap
theorem slIn_of {P : Program} {w : World} {r : Reach} {base : Nat} {t e : TypeId} {q : Option Addr} {len cap : Nat} (hu : P.underlying t = some (.slice e)) (h : Cell.okWide P w r base t (.slice q len cap)) : SlIn w q len cap := by
  unfold Cell.okWide at h
  rw [hu] at h
  simp only [Cell.ok, hu] at h
  cases q with
  | none =>
    left
    split at h <;> simp_all
  | some a =>
    right
    have h : len ≤ cap ∧ w.has P r base a e cap := by
      split at h <;> simp_all
    obtain ⟨hlc, -, h1, row, cells, h2, h3⟩ := h
    obtain ⟨b, o, s⟩ := a
    simp only at h1
    subst h1
    exact ⟨b, o, row, cells, rfl, h2, Nat.le_trans (lies_le h3) (Nat.div_mul_le_self _ _), hlc⟩
theorem slIn_val {P : Program} {w : World} {r : Reach} {base : Nat} {t e : TypeId} {q : Option Addr} {len cap : Nat} (hu : P.underlying t = some (.slice e)) (h : Value.okWide P w r base t (.slice q len cap)) : SlIn w q len cap := by
  unfold Value.okWide at h
  rw [hu] at h
  exact slIn_of hu h
theorem len_met {σ : Env} {w : World} {base : Nat → Prop} {H : Hp} {nx : Nat} (hM : Vx.M σ (rhoW w) base H nx w) {i k : Nat} {row : TypeId} {b : Blk} (hb : lookC H i = some b) (hs : w.shape? i = some (row, k)) : b.cells.length = k := by
  obtain ⟨h1, h2⟩ := lookC_look hb
  obtain ⟨r, c, cs, sp, e1, -, e2, ⟨fz, -, e3⟩, e4, e5, -⟩ := hM.blk i b h1
  unfold rhoW at e1
  split at e1 <;> simp at e1
  obtain ⟨rfl, rfl⟩ := e1
  have hsp : sp = [] := by
    cases hsp : b.spare with
    | false => exact e4 hsp
    | true =>
      have := (e5 h2 hsp).1
      simp at this
      exact this.2
  subst hsp
  simp only [Blk.obj, h2, List.append_nil] at e3
  simp only [World.shape?, e3] at hs
  have := denL_len e2
  simp at hs
  omega
structure Met (w : World) (H : Hp) (C : Ctx) : Prop where
  h : C.H = H
  nx : C.nx = w.heap.size
  own : ∀ i, ¬ C.own i
section
variable {w : World} {σ0 : Env} {base : Nat → Prop} {H : Hp}
theorem met_rowG {α : Type} (hM : Vx.M σ0 (rhoW w) base H w.heap.size w) (hS : ∀ b, (w.shape? b).isSome = true → b < w.heap.size ∧ (lookC H b).isSome = true)
    (fw : α → W) (h1 : ∀ x, (fw x).cells = [fw x]) (cp : Cp) (hcp : ∀ k, cp ≠ .n k)
    {q : Option Addr} {L : List α} {cap sb so : Nat} (hok : SlIn w q L.length cap) (hq : 0 < L.length → q = some ⟨sb, so, none⟩)
    (hc : ∀ i (h : i < L.length) blk, lookC H sb = some blk → ∃ v, blk.cells[so + i]? = some v ∧ ∀ C, Met w H C → R C false (fw L[i]) v) :
    ∃ v, (V.toX v : X) = X.v v ∧ (∀ b o, q = some ⟨b, o, none⟩ → v = .sl b o L.length (.is cap)) ∧ (∀ C : Ctx, Met w H C → R C false (.l (L.map fw) cp) v) ∧ ∀ σ, den σ (rhoW w) v = some (.slice q L.length cap) := by
  rcases hok with ⟨rfl, h4, rfl⟩ | ⟨b, o, row, n, rfl, h4, h5, h6⟩
  · have : L = [] := List.length_eq_zero_iff.1 h4
    subst this
    exact ⟨.nils, rfl, by simp, fun C _ => .lnil (fun k hk => absurd hk (hcp k)), fun σ => by simp [den]⟩
  · obtain ⟨h7, h8⟩ := hS b (by rw [h4]; rfl)
    obtain ⟨blk, hb⟩ := Option.isSome_iff_exists.1 h8
    have hlen := len_met hM hb h4
    have hcell : ∀ i (h : i < L.length), ∃ v, blk.cells[o + i]? = some v ∧ ∀ C, Met w H C → R C false (fw L[i]) v := by
      intro i hi
      have e := hq (by omega)
      simp at e
      obtain ⟨rfl, rfl⟩ := e
      exact hc i hi blk hb
    have hle : o + L.length ≤ blk.cells.length := by
      cases hl : L.length with
      | zero => omega
      | succ k =>
        obtain ⟨v, hv, -⟩ := hcell k (by omega)
        have := (List.getElem?_eq_some_iff.1 hv).1
        omega
    refine ⟨.sl b o L.length (.is cap), rfl, by intro b' o' e; simp at e; obtain ⟨rfl, rfl⟩ := e; rfl, fun C hC => ?_, fun σ => by simp [den, rhoW, h7, Cap.cap]⟩
    have := R.l (C := C) (f := false) (rows := L.map fw) (cp := cp) (id := b) (off := o) (cap := .is cap) (b := blk) (z := 1) (by rw [hC.nx]; omega) (hC.own b) (by rw [hC.h]; exact hb) (by simpa using hle) ⟨by simpa using h6, fun k hk => absurd hk (hcp k)⟩
      (by
        intro i r hr
        rw [List.getElem?_map] at hr
        obtain ⟨x, -, rfl⟩ := Option.map_eq_some_iff.1 hr
        rw [h1]; rfl)
      (by
        intro i d r w2 v hr hd hv
        rw [List.getElem?_map] at hr
        obtain ⟨x, hx, rfl⟩ := Option.map_eq_some_iff.1 hr
        rw [h1] at hd
        obtain ⟨hi, rfl⟩ := List.getElem?_eq_some_iff.1 hx
        cases d with
        | zero =>
          simp at hd
          subst hd
          obtain ⟨v', hv', hr'⟩ := hcell i hi
          rw [Nat.mul_one, Nat.add_zero, hv'] at hv
          simp at hv
          subst hv
          exact hr' C hC
        | succ d => simp at hd)
    simpa using this
theorem met_row {α : Type} (hM : Vx.M σ0 (rhoW w) base H w.heap.size w)
    (hE : ∀ (b o : Nat) (x : Value) (v : V), w.cell? ⟨b, o, none⟩ = some x → scV w.heap.size x = some v → ∃ blk, lookC H b = some blk ∧ blk.cells[o]? = some v) (hS : ∀ b, (w.shape? b).isSome = true → b < w.heap.size ∧ (lookC H b).isSome = true)
    (fw : α → W) (fv : α → V) (fx : α → Value) (h1 : ∀ x, (fw x).cells = [fw x]) (h2 : ∀ x C, R C false (fw x) (fv x)) (h3 : ∀ x, scV w.heap.size (fx x) = some (fv x)) (cp : Cp) (hcp : ∀ k, cp ≠ .n k)
    {q : Option Addr} {L : List α} {cap sb so : Nat} (hok : SlIn w q L.length cap) (hq : 0 < L.length → q = some ⟨sb, so, none⟩) (hc : ∀ i (h : i < L.length), w.cell? ⟨sb, so + i, none⟩ = some (fx L[i])) :
    ∃ v, (V.toX v : X) = X.v v ∧ (∀ b o, q = some ⟨b, o, none⟩ → v = .sl b o L.length (.is cap)) ∧ (∀ C : Ctx, Met w H C → R C false (.l (L.map fw) cp) v) ∧ ∀ σ, den σ (rhoW w) v = some (.slice q L.length cap) := by
  obtain ⟨v, e1, e2, e3, e4⟩ := met_rowG hM hS fw h1 cp hcp (q := q) (L := L) (cap := cap) (sb := sb) (so := so) hok hq (fun i hi blk hb => by
    obtain ⟨blk', k3, k4⟩ := hE _ _ _ _ (hc i hi) (h3 _)
    rw [hb] at k3
    simp at k3
    subst k3
    exact ⟨_, k4, fun C _ => h2 _ _⟩)
  exact ⟨v, e1, e2, e3, e4⟩
def InL {α : Type} (w : World) (fx : α → Value) (x : Value) (L : List α) : Prop :=
  (x = .slice none 0 0 ∧ L = []) ∨ (empS x = true ∧ scV w.heap.size x = none ∧ L = []) ∨ ∃ b o cap row n, x = .slice (some ⟨b, o, none⟩) L.length cap ∧ 0 < cap ∧ L.length ≤ cap ∧ w.shape? b = some (row, n) ∧ o ≤ n ∧ ∀ i (h : i < L.length), w.cell? ⟨b, o + i, none⟩ = some (fx L[i])
def cpE {α : Type} (L : List α) : Cp := if L = [] then .emp else .any
theorem inner {α : Type} (hM : Vx.M σ0 (rhoW w) base H w.heap.size w)
    (hE : ∀ (b o : Nat) (x : Value) (v : V), w.cell? ⟨b, o, none⟩ = some x → scV w.heap.size x = some v → ∃ blk, lookC H b = some blk ∧ blk.cells[o]? = some v)
    (hE2 : ∀ (b o : Nat) (x : Value), w.cell? ⟨b, o, none⟩ = some x → scV w.heap.size x = none → empS x = true → ∃ blk k, lookC H b = some blk ∧ Nat.beq (k % 2) 1 = true ∧ blk.cells[o]? = some (.val k))
    (hS : ∀ b, (w.shape? b).isSome = true → b < w.heap.size ∧ (lookC H b).isSome = true)
    (fw : α → W) (fv : α → V) (fx : α → Value) (h1 : ∀ x, (fw x).cells = [fw x]) (h2 : ∀ x C, R C false (fw x) (fv x)) (h3 : ∀ x, scV w.heap.size (fx x) = some (fv x))
    {x : Value} {L : List α} (hx : InL w fx x L) {b o : Nat} (hc : w.cell? ⟨b, o, none⟩ = some x) {blk : Blk} (hb : lookC H b = some blk) :
    ∃ v, blk.cells[o]? = some v ∧ ∀ C, Met w H C → R C false (.l (L.map fw) (cpE L)) v := by
  have same : ∀ {blk' : Blk}, lookC H b = some blk' → blk' = blk := fun h => by rw [hb] at h; simpa using h.symm
  rcases hx with ⟨rfl, rfl⟩ | ⟨e1, e2, rfl⟩ | ⟨b', o', cap, row, n, rfl, c1, c2, c3, c4, c5⟩
  · obtain ⟨blk', k1, k2⟩ := hE b o _ .nils hc rfl
    obtain rfl := same k1
    exact ⟨_, k2, fun C _ => .lnil (by simp [cpE])⟩
  · obtain ⟨blk', k, k1, k2, k3⟩ := hE2 b o x hc e2 e1
    obtain rfl := same k1
    exact ⟨_, k3, fun C _ => .emp k2⟩
  · obtain ⟨v, -, g1, g2, -⟩ := met_row hM hE hS fw fv fx h1 h2 h3 (cpE L) (by intro k; unfold cpE; split <;> simp) (q := some ⟨b', o', none⟩) (L := L) (cap := cap) (sb := b') (so := o') (.inr ⟨b', o', row, n, rfl, c3, c4, c2⟩) (fun _ => rfl) c5
    obtain ⟨h7, -⟩ := hS b' (by rw [c3]; rfl)
    have hv : scV w.heap.size (.slice (some ⟨b', o', none⟩) L.length cap) = some (.sl b' o' L.length (.is cap)) := by
      have : L.length = 0 → cap = 0 → False := by omega
      simp only [scV]
      rw [if_pos ⟨h7, by omega⟩]
    obtain ⟨blk', k1, k2⟩ := hE b o _ _ hc hv
    obtain rfl := same k1
    refine ⟨_, k2, fun C hC => ?_⟩
    have h := g2 C hC
    rw [g1 _ _ rfl] at h
    exact h
end
section
open Go.ChangeShapes Go.WideShapes Go.ChangeAt Go.Deep
variable {HH : Type} {enc : TypeId × Value → HH} {P : Program} {w : World} {base : Nat} {held : Bool}
theorem cell_shape {a : Addr} {v : Value} (h : w.cell? a = some v) : a.spot = none ∧ ∃ row n, w.shape? a.block = some (row, n) ∧ a.off < n := by
  unfold World.cell? at h
  split at h
  · rename_i c ty fz heq
    split at h
    · simp at h
    · rename_i hs
      refine ⟨by simpa using hs, ty, c.size, by simp [World.shape?, heq], ?_⟩
      exact (Array.getElem?_eq_some_iff.1 h).1
  · simp at h
theorem inL_of {α : Type} [Inhabited α] (fx : α → Value) {t e : TypeId} {fuel : Nat} {x : Value} {y : DataW HH × List MemPlace} (ht : P.underlying t = some (.slice e)) (hc : P.cellsOf e = 1)
    (he : ∀ {n : Nat} {c : Value} {z : DataW HH × List MemPlace}, DataW.trod enc P w base (fun _ => true) held n e [c] = some z → ∃ u, c = fx u)
    (h : DataW.trod enc P w base (fun _ => true) held fuel t [x] = some y) : ∃ L : List α, InL w fx x L ∧ L.length ≤ 9223372036854775807 := by
  rcases open_slice1 ht hc h with ⟨e1, -⟩ | ⟨a, len, cap, m, n, U, D, Pl, e1, hb, hl, hm, hmm, -, hx⟩
  · simp at e1
    subst e1
    exact ⟨[], .inl ⟨rfl, rfl⟩, by simp⟩
  · simp at e1
    subst e1
    simp only [if_true] at hmm
    subst hmm
    by_cases h0 : m = 0
    · subst h0
      obtain rfl : len = 0 := by omega
      refine ⟨[], .inr (.inl ⟨rfl, ?_, rfl⟩), by simp⟩
      obtain ⟨b, o, s⟩ := a
      cases s with
      | none => simp [scV]
      | some s => rfl
    · obtain ⟨k1, row, k, k2, k3⟩ := cell_shape (hx 0 (by omega)).1
      have ha : a.spot = none ∧ a.block < w.heap.size := cell_spot (a := a) (hx 0 (by omega)).1
      obtain ⟨b, o, s⟩ := a
      obtain rfl : s = none := ha.1
      have each : ∀ i, i < len → ∃ u : α, U i = fx u := fun i hi => he (hx i (by omega)).2
      obtain ⟨u, hu⟩ := choose_lt each
      refine ⟨(List.range len).map u, .inr (.inr ⟨b, o, m, row, k, by simp, by omega, by simpa using hl, k2, Nat.le_of_lt k3, fun i hi => ?_⟩), by unfold maxLen at hm; simp; omega⟩
      have hi' : i < len := by simpa using hi
      have := (hx i (by omega)).1
      rw [adds_none rfl, hu i hi'] at this
      simpa using this
end
end Go.Proofs.Ytehbfajmileefaa.Hx
namespace Go.Proofs.Ytehbfajmileefaa.Hx
open Go.RowKit Go.Proofs.Ytehbfajmileefaa.Vx Go.Proofs.Ytehbfajmileefaa.Fx Go.Proofs.Ytehbfajmileefaa.Px
theorem bH0 : type_of% (And.intro @oldV_ptr <| And.intro @oldV_sl <| And.intro @oldV_p <| And.intro @oldV_l <| And.intro @oldV_c <| And.intro @adsW_none <| And.intro @adsW_nil <| And.intro @adsW_pp <| And.intro @adsW_sp <| And.intro @adsW_pi <| And.intro @adsW_c <| And.intro @hBuildO_0 <| And.intro @List.append_assoc.{0} <| And.intro @oW_some <| And.intro @oW_none <| And.intro @hBin_i <| And.intro @hb_add <| And.intro @hb_sub <| And.intro @hb_mul <| And.intro @hb_eql <| And.intro @hb_neq <| And.intro @hb_lss <| And.intro @hb_leq <| And.intro @hb_gtr <| And.intro @hb_geq <| And.intro @hNot_b <| And.intro @hIf_b <| And.intro @hPick_b <| And.intro @hConv_i <| And.intro @hLoad1_ptr <| And.intro @hLoad1_p <| And.intro @hLoadN_ptr <| And.intro @hLoadN_p <| And.intro @hFieldAddr_ptr <| And.intro @hFieldAddr_p <| And.intro @hLenS_n <| And.intro @hLenS_sl <| And.intro @hLenS_l <| And.intro @hLenT_s <| And.intro @hEqT_s <| And.intro @hExt_t <| And.intro @hStore1_ptr <| And.intro @hStoreN_ptr <| And.intro @hNew_e <| And.intro @hBox_agg <| And.intro @hGuard_b <| And.intro @hGuard_u <| And.intro @hCallV_fn <| And.intro @hFn_e <| And.intro @gate_t <| And.intro @List.getElem?_cons_zero.{0} <| And.intro @List.getElem?_cons_succ.{0} <| And.intro @List.all_cons.{0} <| And.intro @List.all_nil.{0} <| And.intro @Bool.and_true <| And.intro @Bool.true_and <| And.intro @Bool.and_self <| And.intro @lookN_cons <| And.intro @updN_cons <| And.intro @delN_cons <| And.intro @delN_nil <| And.intro @if_true.{1} <| And.intro @if_false.{1} <| And.intro @decide_true <| And.intro @decide_false <| And.intro @Bool.false_eq_true <| And.intro @Bool.true_eq_false <| And.intro @Bool.not_true <| And.intro @Bool.not_false <| And.intro @cond_true.{1} <| And.intro @cond_false.{1} <| And.intro @List.length_cons.{0} <| And.intro @List.length_nil.{0} <| And.intro @List.set_cons_zero.{0} <| And.intro @List.set_cons_succ.{0} <| And.intro @Nat.zero_add <| And.intro @Nat.add_zero <| And.intro @and_true <| And.intro @true_and <| And.intro @and_self <| And.intro @List.drop_zero.{0} <| And.intro @List.drop_succ_cons.{0} <| And.intro @List.take_succ_cons.{0} <| And.intro @List.take_zero.{0} <| And.intro @List.nil_append.{0} <| And.intro @List.append_nil.{0} <| @List.cons_append.{0}) := And.intro @oldV_ptr <| And.intro @oldV_sl <| And.intro @oldV_p <| And.intro @oldV_l <| And.intro @oldV_c <| And.intro @adsW_none <| And.intro @adsW_nil <| And.intro @adsW_pp <| And.intro @adsW_sp <| And.intro @adsW_pi <| And.intro @adsW_c <| And.intro @hBuildO_0 <| And.intro @List.append_assoc.{0} <| And.intro @oW_some <| And.intro @oW_none <| And.intro @hBin_i <| And.intro @hb_add <| And.intro @hb_sub <| And.intro @hb_mul <| And.intro @hb_eql <| And.intro @hb_neq <| And.intro @hb_lss <| And.intro @hb_leq <| And.intro @hb_gtr <| And.intro @hb_geq <| And.intro @hNot_b <| And.intro @hIf_b <| And.intro @hPick_b <| And.intro @hConv_i <| And.intro @hLoad1_ptr <| And.intro @hLoad1_p <| And.intro @hLoadN_ptr <| And.intro @hLoadN_p <| And.intro @hFieldAddr_ptr <| And.intro @hFieldAddr_p <| And.intro @hLenS_n <| And.intro @hLenS_sl <| And.intro @hLenS_l <| And.intro @hLenT_s <| And.intro @hEqT_s <| And.intro @hExt_t <| And.intro @hStore1_ptr <| And.intro @hStoreN_ptr <| And.intro @hNew_e <| And.intro @hBox_agg <| And.intro @hGuard_b <| And.intro @hGuard_u <| And.intro @hCallV_fn <| And.intro @hFn_e <| And.intro @gate_t <| And.intro @List.getElem?_cons_zero.{0} <| And.intro @List.getElem?_cons_succ.{0} <| And.intro @List.all_cons.{0} <| And.intro @List.all_nil.{0} <| And.intro @Bool.and_true <| And.intro @Bool.true_and <| And.intro @Bool.and_self <| And.intro @lookN_cons <| And.intro @updN_cons <| And.intro @delN_cons <| And.intro @delN_nil <| And.intro @if_true.{1} <| And.intro @if_false.{1} <| And.intro @decide_true <| And.intro @decide_false <| And.intro @Bool.false_eq_true <| And.intro @Bool.true_eq_false <| And.intro @Bool.not_true <| And.intro @Bool.not_false <| And.intro @cond_true.{1} <| And.intro @cond_false.{1} <| And.intro @List.length_cons.{0} <| And.intro @List.length_nil.{0} <| And.intro @List.set_cons_zero.{0} <| And.intro @List.set_cons_succ.{0} <| And.intro @Nat.zero_add <| And.intro @Nat.add_zero <| And.intro @and_true <| And.intro @true_and <| And.intro @and_self <| And.intro @List.drop_zero.{0} <| And.intro @List.drop_succ_cons.{0} <| And.intro @List.take_succ_cons.{0} <| And.intro @List.take_zero.{0} <| And.intro @List.nil_append.{0} <| And.intro @List.append_nil.{0} <| @List.cons_append.{0}
theorem bC : type_of% (And.intro @ids_i <| And.intro @ids_b <| And.intro @ids_s <| And.intro @ids_c <| And.intro @ids_l <| And.intro @ids_p <| And.intro @ids_u <| And.intro @ids_ptr <| And.intro @ids_sl <| And.intro @ids_agg <| And.intro @ids_tup <| And.intro @ids_fn <| And.intro @List.flatMap_cons.{0, 0} <| And.intro @List.flatMap_nil.{0, 0} <| And.intro @ren_i <| And.intro @ren_b <| And.intro @ren_s <| And.intro @ren_c <| And.intro @ren_l <| And.intro @ren_p <| And.intro @ren_u <| And.intro @ren_un <| And.intro @ren_agg <| And.intro @ren_tup <| And.intro @ren_fn <| And.intro @ren_ptr <| And.intro @ren_sl <| And.intro @posN_cons <| And.intro @memN_cons <| And.intro @memN_nil <| And.intro @nubN_nil <| And.intro @nubN_cons <| And.intro @canH_nil <| And.intro @canH_cons <| And.intro @canB_e <| And.intro @List.map_cons.{0, 0} <| And.intro @List.map_nil.{0, 0} <| And.intro @Option.isSome_some.{0} <| And.intro @Option.isSome_none.{0} <| And.intro @Bool.or_false <| And.intro @Bool.false_or <| And.intro @Bool.or_true <| @Bool.true_or) := And.intro @ids_i <| And.intro @ids_b <| And.intro @ids_s <| And.intro @ids_c <| And.intro @ids_l <| And.intro @ids_p <| And.intro @ids_u <| And.intro @ids_ptr <| And.intro @ids_sl <| And.intro @ids_agg <| And.intro @ids_tup <| And.intro @ids_fn <| And.intro @List.flatMap_cons.{0, 0} <| And.intro @List.flatMap_nil.{0, 0} <| And.intro @ren_i <| And.intro @ren_b <| And.intro @ren_s <| And.intro @ren_c <| And.intro @ren_l <| And.intro @ren_p <| And.intro @ren_u <| And.intro @ren_un <| And.intro @ren_agg <| And.intro @ren_tup <| And.intro @ren_fn <| And.intro @ren_ptr <| And.intro @ren_sl <| And.intro @posN_cons <| And.intro @memN_cons <| And.intro @memN_nil <| And.intro @nubN_nil <| And.intro @nubN_cons <| And.intro @canH_nil <| And.intro @canH_cons <| And.intro @canB_e <| And.intro @List.map_cons.{0, 0} <| And.intro @List.map_nil.{0, 0} <| And.intro @Option.isSome_some.{0} <| And.intro @Option.isSome_none.{0} <| And.intro @Bool.or_false <| And.intro @Bool.false_or <| And.intro @Bool.or_true <| @Bool.true_or
theorem bR : type_of% (And.intro @finH_u <| And.intro @resH_cell <| And.intro @Option.bind_some.{0, 0} <| And.intro @pur_tup <| And.intro @pur_agg <| And.intro @List.map_cons.{0, 0} <| And.intro @List.map_nil.{0, 0} <| And.intro @resH_tmp <| And.intro @resH_nil <| And.intro @Option.map_some.{0, 0} <| And.intro @pur_i <| And.intro @pur_b <| And.intro @pur_s <| And.intro @pur_c <| And.intro @pur_l <| And.intro @pur_p <| @pur_u) := And.intro @finH_u <| And.intro @resH_cell <| And.intro @Option.bind_some.{0, 0} <| And.intro @pur_tup <| And.intro @pur_agg <| And.intro @List.map_cons.{0, 0} <| And.intro @List.map_nil.{0, 0} <| And.intro @resH_tmp <| And.intro @resH_nil <| And.intro @Option.map_some.{0, 0} <| And.intro @pur_i <| And.intro @pur_b <| And.intro @pur_s <| And.intro @pur_c <| And.intro @pur_l <| And.intro @pur_p <| @pur_u
theorem bK : type_of% (And.intro @lookN_cons <| And.intro @if_true.{1} <| And.intro @if_false.{1} <| And.intro @Nat.zero_add <| And.intro @cond_true.{1} <| And.intro @cond_false.{1} <| And.intro @decide_true <| And.intro @decide_false <| And.intro @Bool.not_true <| And.intro @Bool.not_false <| And.intro @List.nil_append.{0} <| And.intro @List.cons_append.{0} <| And.intro @List.append_nil.{0} <| And.intro @List.length_cons.{0} <| And.intro @List.length_nil.{0} <| And.intro @Nat.zero_ne_one <| And.intro @Nat.one_ne_zero <| And.intro @Bool.or_self <| @Bool.not_eq_true) := And.intro @lookN_cons <| And.intro @if_true.{1} <| And.intro @if_false.{1} <| And.intro @Nat.zero_add <| And.intro @cond_true.{1} <| And.intro @cond_false.{1} <| And.intro @decide_true <| And.intro @decide_false <| And.intro @Bool.not_true <| And.intro @Bool.not_false <| And.intro @List.nil_append.{0} <| And.intro @List.cons_append.{0} <| And.intro @List.append_nil.{0} <| And.intro @List.length_cons.{0} <| And.intro @List.length_nil.{0} <| And.intro @Nat.zero_ne_one <| And.intro @Nat.one_ne_zero <| And.intro @Bool.or_self <| @Bool.not_eq_true
theorem bQ : (∀ a b, (W.i a b).one = true) ∧ (∀ a b, (W.i a b).pu1 = true) ∧ (∀ a b, (W.i a b).pu = true) ∧ (∀ a b, (W.i a b).cells = [W.i a b]) ∧ (∀ a, (W.b a).one = true) ∧ (∀ a, (W.b a).pu1 = true) ∧ (∀ a, (W.b a).pu = true) ∧ (∀ a, (W.b a).cells = [W.b a]) ∧ (∀ a, (W.s a).one = true) ∧ (∀ a, (W.s a).pu1 = true) ∧ (∀ a, (W.s a).pu = true) ∧ (∀ a, (W.s a).cells = [W.s a]) ∧ (∀ a, (W.c a).one = true) ∧ (∀ a, (W.c a).pu1 = true) ∧ (∀ a, (W.c a).pu = true) ∧ (∀ a, (W.c a).cells = [W.c a]) ∧ (∀ a b, (W.ptr a b).one = true) ∧ (∀ a b, (W.ptr a b).pu1 = false) ∧ (∀ a b, (W.ptr a b).pu = false) ∧ (∀ a b, (W.ptr a b).cells = [W.ptr a b]) ∧ (∀ a b c d e, (W.sl a b c d e).one = true) ∧ (∀ a b c d e, (W.sl a b c d e).pu1 = false) ∧ (∀ a b c d e, (W.sl a b c d e).pu = false) ∧ (∀ a b c d e, (W.sl a b c d e).cells = [W.sl a b c d e]) ∧ (∀ a b, (W.l a b).one = true) ∧ (∀ a b, (W.l a b).pu1 = true) ∧ (∀ a b, (W.l a b).pu = true) ∧ (∀ a b, (W.l a b).cells = [W.l a b]) ∧ (∀ a b, (W.p a b).one = true) ∧ (∀ a b, (W.p a b).pu1 = true) ∧ (∀ a b, (W.p a b).pu = true) ∧ (∀ a b, (W.p a b).cells = [W.p a b]) ∧ (∀ a b c, (W.fn a b c).one = true) ∧ (∀ a b c, (W.fn a b c).pu1 = false) ∧ (∀ a b c, (W.fn a b c).cells = [W.fn a b c]) ∧ (∀ a, (W.agg a).one = false) ∧ (∀ a, (W.agg a).pu1 = false) ∧ (∀ a, (W.tup a).one = false) ∧ (∀ a, (W.tup a).pu1 = false) ∧ (∀ a, (W.tup a).cells = [W.tup a]) ∧ (∀ a, (W.agg a).cells = a) ∧ (∀ a, (W.agg a).pu = a.all W.pu1) ∧ (∀ a, (W.tup a).pu = a.all W.pu1) ∧ (∀ a b c, (W.fn a b c).pu = (b.all W.pu1 && c.all W.pu1)) := by
  and_intros <;> (intros; rfl)
end Go.Proofs.Ytehbfajmileefaa.Hx
