/-
  The symbolic executor: operations, regions, code, calls.
-/
import Derived.Test.YtfjlhplaifkenaaVa
import Derived.CheckFast
namespace Go.Proofs.Ytfjlhplaifkenaa.Vx
open Go.RowKit
set_option linter.unusedVariables false

/-! frames: the temporaries, as a tree -/
inductive Tr where
  | lf
  | nd (l : Tr) (v : V) (r : Tr)
def Tr.left : Tr → Tr
  | .lf => .lf
  | .nd l _ _ => l
def Tr.right : Tr → Tr
  | .lf => .lf
  | .nd _ _ r => r
def Tr.val : Tr → V
  | .lf => .undef
  | .nd _ v _ => v
def Tr.get : Tr → Nat → V
  | .lf, _ => .undef
  | .nd l v r, i => match i with
    | 0 => v
    | j + 1 => match Nat.beq (j % 2) 0 with
      | true => l.get (j / 2)
      | false => r.get (j / 2)
def Tr.set : Nat → Tr → Nat → V → Tr
  | 0, t, _, _ => t
  | f + 1, t, i, v => match i with
    | 0 => .nd t.left v t.right
    | j + 1 => match Nat.beq (j % 2) 0 with
      | true => .nd (Tr.set f t.left (j / 2) v) t.val t.right
      | false => .nd t.left t.val (Tr.set f t.right (j / 2) v)
structure Fr where
  n : Nat
  t : Tr
def Fr.get (F : Fr) (i : Nat) : Option V := match Nat.blt i F.n with
  | true => some (F.t.get i)
  | false => none
def Fr.set (F : Fr) (i : Nat) (v : V) : Fr := match Nat.blt i F.n with
  | true => ⟨F.n, Tr.set F.n F.t i v⟩
  | false => F
def Fr.fill : List V → Nat → Fr → Fr
  | [], _, F => F
  | v :: l, i, F => Fr.fill l (i + 1) (F.set i v)
def Fr.list (F : Fr) : List V := (List.range F.n).map F.t.get
def opv (F : Fr) : Operand → Option V
  | .tmp t => match F.get t with | some .bad => none | r => r
  | .const v => ofValue v
  | .global _ => none
  | .func f => some (.fn (.func f) [] [])

def bitI (op : BinOp) (k : IntKind) (m n : Int) : Option Int :=
  let a := BitVec.ofInt k.bits m
  let b := BitVec.ofInt k.bits n
  match op with
  | .and => some (k.wrap (a &&& b).toNat)
  | .or => some (k.wrap (a ||| b).toNat)
  | .xor => some (k.wrap (a ^^^ b).toNat)
  | .andNot => some (k.wrap (a &&& ~~~b).toNat)
  | _ => none
def shiftI (op : BinOp) (k : IntKind) (m n : Int) : Option Int :=
  if n < 0 then none else
  let c := min n.toNat k.bits
  match op with
  | .shl => some (k.wrap (m * 2 ^ c))
  | .shr => some (m.fdiv (2 ^ c))
  | _ => none
def binV (P : Program) (op : BinOp) (t : TypeId) (x y : V) : Option (V × List T) :=
  match op, x, y with
  | .add, .int k a, .int k' b => if k = k' then some (.int k (mkAdd k a b).1, (mkAdd k a b).2) else none
  | .sub, .int k a, .int k' b => if k = k' then some (.int k (mkSub k a b).1, (mkSub k a b).2) else none
  | .mul, .int k a, .int k' b => if k = k' then some (.int k (mkMul k a b).1, (mkMul k a b).2) else none
  | .quo, .int k a, .int k' b => if k = k' then (mkQuo k a b).map fun r => (.int k r.1, r.2) else none
  | .rem, .int k a, .int k' b => if k = k' then (mkRem a b).map fun r => (.int k r.1, r.2) else none
  | .eql, .int k a, .int k' b => if k = k' then some (.bool (mkEq a b), []) else none
  | .neq, .int k a, .int k' b => if k = k' then some (.bool (mkNot (mkEq a b)), []) else none
  | .lss, .int k a, .int k' b => if k = k' then some (.bool (mkLt a b), []) else none
  | .leq, .int k a, .int k' b => if k = k' then some (.bool (mkLe a b), []) else none
  | .gtr, .int k a, .int k' b => if k = k' then some (.bool (mkLt b a), []) else none
  | .geq, .int k a, .int k' b => if k = k' then some (.bool (mkLe b a), []) else none
  | .and, .int k (.int a), .int k' (.int b) => if k = k' then (bitI .and k a b).map fun r => (.int k (.int r), []) else none
  | .or, .int k (.int a), .int k' (.int b) => if k = k' then (bitI .or k a b).map fun r => (.int k (.int r), []) else none
  | .xor, .int k (.int a), .int k' (.int b) => if k = k' then (bitI .xor k a b).map fun r => (.int k (.int r), []) else none
  | .andNot, .int k (.int a), .int k' (.int b) => if k = k' then (bitI .andNot k a b).map fun r => (.int k (.int r), []) else none
  | .shl, .int k (.int a), .int k' (.int b) => (shiftI .shl k a b).map fun r => (.int k (.int r), [])
  | .shr, .int k (.int a), .int k' (.int b) => (shiftI .shr k a b).map fun r => (.int k (.int r), [])
  | .eql, .str a, .str b => some (.bool (mkSeq a b), [])
  | .neq, .str a, .str b => some (.bool (mkNot (mkSeq a b)), [])
  | .lss, .str a, .str b => some (.bool (mkSlt a b), [])
  | .leq, .str a, .str b => some (.bool (mkOr (mkSlt a b) (mkSeq a b)), [])
  | .gtr, .str a, .str b => some (.bool (mkNot (mkOr (mkSlt a b) (mkSeq a b))), [])
  | .geq, .str a, .str b => some (.bool (mkNot (mkSlt a b)), [])
  | .add, .str a, .str b => some (.str (mkCat a b).1, (mkCat a b).2)
  | .eql, .agg l, .agg m => if P.eqGuardType P.depth t then none else (eqV P 10000 t (.agg l) (.agg m)).map fun r => (.bool r, [])
  | .neq, .agg l, .agg m => if P.eqGuardType P.depth t then none else (eqV P 10000 t (.agg l) (.agg m)).map fun r => (.bool (mkNot r), [])
  | .eql, .bool a, .bool b => (eqV P 10000 t (.bool a) (.bool b)).map fun r => (.bool r, [])
  | .neq, .bool a, .bool b => (eqV P 10000 t (.bool a) (.bool b)).map fun r => (.bool (mkNot r), [])
  | .eql, .nilp, .nilp => (eqV P 10000 t .nilp .nilp).map fun r => (.bool r, [])
  | .neq, .nilp, .nilp => (eqV P 10000 t .nilp .nilp).map fun r => (.bool (mkNot r), [])
  | .eql, .ptr i j, .nilp => (eqV P 10000 t (.ptr i j) .nilp).map fun r => (.bool r, [])
  | .neq, .ptr i j, .nilp => (eqV P 10000 t (.ptr i j) .nilp).map fun r => (.bool (mkNot r), [])
  | .eql, .nils, .nils => (eqV P 10000 t .nils .nils).map fun r => (.bool r, [])
  | .neq, .nils, .nils => (eqV P 10000 t .nils .nils).map fun r => (.bool (mkNot r), [])
  | .eql, .sl i j n c, .nils => (eqV P 10000 t (.sl i j n c) .nils).map fun r => (.bool r, [])
  | .neq, .sl i j n c, .nils => (eqV P 10000 t (.sl i j n c) .nils).map fun r => (.bool (mkNot r), [])
  | .eql, .nilf, .nilf => (eqV P 10000 t .nilf .nilf).map fun r => (.bool r, [])
  | .neq, .nilf, .nilf => (eqV P 10000 t .nilf .nilf).map fun r => (.bool (mkNot r), [])
  | .eql, .fn f a b, .nilf => (eqV P 10000 t (.fn f a b) .nilf).map fun r => (.bool r, [])
  | .neq, .fn f a b, .nilf => (eqV P 10000 t (.fn f a b) .nilf).map fun r => (.bool (mkNot r), [])
  | _, _, _ => none

def boundV (x : Option V) (d y : Nat) : Option Nat :=
  match x with
  | none => some d
  | some v => (natLit v).bind fun n => if n ≤ y then some n else none

def sliceV (P : Program) (H : Hp) (t : TypeId) (x : V) (lo hi mx : Option V) : Option V :=
  match P.underlying t, x with
  | some (.slice e), .nils =>
    (szOf P e).bind fun z =>
    if mx.isSome && !hi.isSome then none else
    (boundV mx 0 0).bind fun m => (boundV hi 0 m).bind fun h => (boundV lo 0 h).map fun l => .nils
  | some (.slice e), .sl id off len (.is c) =>
    (szOf P e).bind fun z =>
    if mx.isSome && !hi.isSome then none else
    (boundV mx c c).bind fun m => (boundV hi len m).bind fun h => (boundV lo 0 h).map fun l =>
      .sl id (if m = l then off else off + l * z) (h - l) (.is (m - l))
  | some (.slice e), .sl id off len (.rest q) =>
    (szOf P e).bind fun z => (look H id).bind fun b =>
    if !b.spare || !(Nat.ble ((q + len) * b.sz) b.cells.length) then none else
    match mx, hi with
    | some m', some h' => (boundV (some m') len len).bind fun m => (boundV (some h') len m).bind fun h => (boundV lo 0 h).map fun l =>
      .sl id (if m = l then off else off + l * z) (h - l) (.is (m - l))
    | some _, none => none
    | none, hi => (boundV hi len len).bind fun h => (boundV lo 0 h).bind fun l =>
      if l = 0 then some (.sl id off h (.rest q))
      else if l < len then some (.sl id (off + l * z) (h - l) (.rest (q + l))) else none
  | some (.array n e), .ptr id off =>
    (szOf P e).bind fun z =>
    if mx.isSome && !hi.isSome then none else
    (boundV mx n n).bind fun m => (boundV hi n m).bind fun h => (boundV lo 0 h).map fun l =>
      .sl id (if m = l then off else off + l * z) (h - l) (.is (m - l))
  | some .string, .str (.str s) =>
    match mx with
    | some _ => none
    | none => (boundV hi s.size s.size).bind fun h => (boundV lo 0 h).map fun l => .str (.str (s.extract l h))
  | _, _ => none

def readRow (H : Hp) (id off n : Nat) : Option (List V) :=
  (look H id).bind fun b => if off + n ≤ b.cells.length then some ((b.cells.drop off).take n) else none
/-- a bound of a piece -/
def boundT (x : Option V) (d : T) : Option T :=
  match x with
  | none => some d
  | some (.int _ t) => some t
  | _ => none
def sliceS (P : Program) (t : TypeId) (x : V) (lo hi mx : Option V) : Option (V × List T) :=
  match P.underlying t, x, mx with
  | some .string, .str s, none =>
    (boundT hi (mkLen s)).bind fun h => (boundT lo (.int 0)).map fun l => (.str (.ext s l h), [mkLe (.int 0) l, mkLe l h, mkLe h (mkLen s)])
  | _, _, _ => none
def byteOf : V → Option UInt8
  | .int .u8 (.int (.ofNat n)) => if n < 256 then some (UInt8.ofNat n) else none
  | _ => none
/-- the string of some bytes -/
def bytesV (H : Hp) : V → Option T
  | .nils => some (.str ByteArray.empty)
  | .sl id off len _ => (readRow H id off len).bind fun l => (mapO byteOf l).map fun bs => .str ⟨bs.toArray⟩
  | _ => none
def lenV (P : Program) (t : TypeId) (x : V) : Option T :=
  match P.underlying t, x with
  | some .string, .str s => some (mkLen s)
  | some (.array n _), _ => some (.int n)
  | some (.slice _), .nils => some (.int 0)
  | some (.slice _), .sl _ _ n _ => some (.int n)
  | some (.map ..), .nilm => some (.int 0)
  | some (.pointer a), _ => match P.underlying a with | some (.array n _) => some (.int n) | _ => none
  | _, _ => none
def capV (P : Program) (t : TypeId) (x : V) : Option T :=
  match P.underlying t, x with
  | some (.array n _), _ => some (.int n)
  | some (.slice _), .nils => some (.int 0)
  | some (.slice _), .sl _ _ _ (.is n) => some (.int n)
  | _, _ => none
def allOne (l : List V) : Bool := l.all V.one
def zeroCellsV (P : Program) (e : TypeId) (n : Nat) : Option (List V) :=
  (zeroV P e).bind fun z => if z.cells.length = 0 then none else some (List.replicate n z.cells).flatten
def maxBytes : Nat := 1099511627776
def minmaxV (mn : Bool) (x y : V) : Option V :=
  match x, y with
  | .int k a, .int k' b => if k = k' then some (.int k (if mn then mkIte (mkLt b a) b a else mkIte (mkLt a b) b a)) else none
  | _, _ => none
/-! bounds, as far as they can be read off the facts -/
def minO : Option Int → Option Int → Option Int
  | some a, some b => some (if a ≤ b then a else b)
  | some a, none => some a
  | none, b => b
def maxO : Option Int → Option Int → Option Int
  | some a, some b => some (if a ≤ b then b else a)
  | some a, none => some a
  | none, b => b
def hiF (f : T → Option Int) (t : T) : List T → Option Int
  | [] => none
  | p :: pc =>
    let r := hiF f t pc
    match p with
    | .le x (.int n) => if x = t then minO (some n) r else r
    | .le x y => if x = t then minO (f y) r else r
    | .not (.le (.int n) x) => if x = t then minO (some (n - 1)) r else r
    | .not (.le y x) => if x = t then minO ((f y).map (· - 1)) r else r
    | .eq x (.int n) => if x = t then minO (some n) r else r
    | .not (.eq x (.int n)) => if x = t then (if r = some n then some (n - 1) else r) else r
    | _ => r
def loF (f : T → Option Int) (t : T) : List T → Option Int
  | [] => none
  | p :: pc =>
    let r := loF f t pc
    match p with
    | .le (.int n) x => if x = t then maxO (some n) r else r
    | .le y x => if x = t then maxO (f y) r else r
    | .not (.le x (.int n)) => if x = t then maxO (some (n + 1)) r else r
    | .not (.le x y) => if x = t then maxO ((f y).map (· + 1)) r else r
    | .eq x (.int n) => if x = t then maxO (some n) r else r
    | .not (.eq x (.int n)) => if x = t then (if r = some n then some (n + 1) else r) else r
    | _ => r
def add2 : Option Int → Option Int → Option Int
  | some a, some b => some (a + b)
  | _, _ => none
def sub2 : Option Int → Option Int → Option Int
  | some a, some b => some (a - b)
  | _, _ => none
def min2 : Option Int → Option Int → Option Int
  | some a, some b => some (if a ≤ b then a else b)
  | _, _ => none
def max2 : Option Int → Option Int → Option Int
  | some a, some b => some (if a ≤ b then b else a)
  | _, _ => none
/-- the product of two numbers that are not negative -/
def mulHi : Option Int → Option Int → Option Int → Option Int → Option Int
  | some x, some y, some u, some v => if 0 ≤ u ∧ 0 ≤ v then some (x * y) else none
  | _, _, _, _ => none
def mulLo : Option Int → Option Int → Option Int
  | some u, some v => if 0 ≤ u ∧ 0 ≤ v then some (u * v) else none
  | _, _ => none
def remHi : T → Option Int
  | .int n => if 0 < n then some (n - 1) else none
  | _ => none
def remLo (o : Option Int) : T → Option Int
  | .int n => if 0 < n then (match o with | some x => if 0 ≤ x then some 0 else some (1 - n) | none => some (1 - n)) else none
  | _ => none
def quoB (o : Option Int) : T → Option Int
  | .int n => if 0 < n then o.map (·.tdiv n) else none
  | _ => none
def relLo (pc : List T) (a b : T) : Option Int := if pc.contains (.le b a) then some 0 else none
mutual
def hiB (pc : List T) : Nat → T → Option Int
  | _, .int n => some n
  | 0, _ => none
  | k + 1, .add a b => minO (add2 (hiB pc k a) (hiB pc k b)) (hiF (hiB pc k) (.add a b) pc)
  | k + 1, .sub a b => minO (sub2 (hiB pc k a) (loB pc k b)) (hiF (hiB pc k) (.sub a b) pc)
  | k + 1, .ite c a b => minO (max2 (hiB pc k a) (hiB pc k b)) (hiF (hiB pc k) (.ite c a b) pc)
  | k + 1, .mul a b => minO (mulHi (hiB pc k a) (hiB pc k b) (loB pc k a) (loB pc k b)) (hiF (hiB pc k) (.mul a b) pc)
  | k + 1, .rem a b => minO (remHi b) (hiF (hiB pc k) (.rem a b) pc)
  | k + 1, .quo a b => minO (quoB (hiB pc k a) b) (hiF (hiB pc k) (.quo a b) pc)
  | k + 1, .byte s i => minO (some 255) (hiF (hiB pc k) (.byte s i) pc)
  | k + 1, t => hiF (hiB pc k) t pc
def loB (pc : List T) : Nat → T → Option Int
  | _, .int n => some n
  | 0, _ => none
  | k + 1, .add a b => maxO (add2 (loB pc k a) (loB pc k b)) (loF (loB pc k) (.add a b) pc)
  | k + 1, .sub a b => maxO (relLo pc a b) (maxO (sub2 (loB pc k a) (hiB pc k b)) (loF (loB pc k) (.sub a b) pc))
  | k + 1, .len s => maxO (some 0) (loF (loB pc k) (.len s) pc)
  | k + 1, .ite c a b => maxO (min2 (loB pc k a) (loB pc k b)) (loF (loB pc k) (.ite c a b) pc)
  | k + 1, .mul a b => maxO (mulLo (loB pc k a) (loB pc k b)) (loF (loB pc k) (.mul a b) pc)
  | k + 1, .rem a b => maxO (remLo (loB pc k a) b) (loF (loB pc k) (.rem a b) pc)
  | k + 1, .quo a b => maxO (quoB (loB pc k a) b) (loF (loB pc k) (.quo a b) pc)
  | k + 1, .byte s i => maxO (some 0) (loF (loB pc k) (.byte s i) pc)
  | k + 1, t => loF (loB pc k) t pc
end
def leBnd (pc : List T) (a b : T) : Option Bool :=
  match sub2 (hiB pc 4 a) (loB pc 4 b) with
  | some d => if d ≤ 0 then some true else (match sub2 (loB pc 4 a) (hiB pc 4 b) with | some d => if 0 < d then some false else none | none => none)
  | none => match sub2 (loB pc 4 a) (hiB pc 4 b) with | some d => if 0 < d then some false else none | none => none
def eqBnd (pc : List T) (a b : T) : Option Bool :=
  match leBnd pc a b, leBnd pc b a with
  | some true, some true => some true
  | some false, _ => some false
  | _, some false => some false
  | _, _ => none
/-- what one fact tells of a condition -/
def fact1 (p t : T) : Option Bool :=
  match t with
  | .le (.int m) x =>
    match p with
    | .le (.int m') x' => if x' = x ∧ m ≤ m' then some true else none
    | .le x' (.int n) => if x' = x ∧ n < m then some false else none
    | .not (.le (.int m') x') => if x' = x ∧ m' ≤ m then some false else none
    | .not (.le x' (.int n)) => if x' = x ∧ m ≤ n + 1 then some true else none
    | .eq x' (.int n) => if x' = x then some (leB m n) else none
    | _ => none
  | .le x (.int n) =>
    match p with
    | .le (.int m) x' => if x' = x ∧ n < m then some false else none
    | .le x' (.int n') => if x' = x ∧ n' ≤ n then some true else none
    | .not (.le (.int m) x') => if x' = x ∧ m ≤ n + 1 then some true else none
    | .not (.le x' (.int n')) => if x' = x ∧ n ≤ n' then some false else none
    | .eq x' (.int m) => if x' = x then some (leB m n) else none
    | _ => none
  | .eq x (.int n) =>
    match p with
    | .le (.int m) x' => if x' = x ∧ n < m then some false else none
    | .le x' (.int m) => if x' = x ∧ m < n then some false else none
    | .not (.le (.int m) x') => if x' = x ∧ m ≤ n then some false else none
    | .not (.le x' (.int m)) => if x' = x ∧ n ≤ m then some false else none
    | .eq x' (.int m) => if x' = x then some (eqB m n) else none
    | _ => none
  | _ => none
def facts (t : T) : List T → Option Bool
  | [] => none
  | p :: pc => match fact1 p t with | some b => some b | none => facts t pc
def pcDec (pc : List T) (t : T) : Option Bool :=
  match t with
  | .bool b => some b
  | .not u => if pc.contains (.not u) then some true else if pc.contains u then some false else (facts u pc).map (!·)
  | t => if pc.contains t then some true else if pc.contains (.not t) then some false else facts t pc
/-- what the facts tell of a condition that is put together -/
def decT (pc : List T) : T → Option Bool
  | .and a b => match decT pc a, decT pc b with
    | some false, _ => some false
    | _, some false => some false
    | some true, some true => some true
    | _, _ => pcDec pc (.and a b)
  | .or a b => match decT pc a, decT pc b with
    | some true, _ => some true
    | _, some true => some true
    | some false, some false => some false
    | _, _ => pcDec pc (.or a b)
  | .not a => match decT pc a with
    | some b => some (!b)
    | none => pcDec pc (.not a)
  | .le a b => match pcDec pc (.le a b) with
    | some r => some r
    | none => leBnd pc a b
  | .eq a b => match pcDec pc (.eq a b) with
    | some r => some r
    | none => eqBnd pc a b
  | t => pcDec pc t
def againT (pc : List T) (t : T) : T := match decT pc t with
  | some b => .bool b
  | none => t
mutual
def simI (pc : List T) : T → T
  | .ite c a b => match decT pc c with
    | some true => simI pc a
    | some false => simI pc b
    | none => mkIte (simB pc c) (simI pc a) (simI pc b)
  | .add a b => .add (simI pc a) (simI pc b)
  | .sub a b => .sub (simI pc a) (simI pc b)
  | .fni f as => .fni f (simA pc as)
  | t => t
def simB (pc : List T) : T → T
  | .ite c a b => match decT pc c with
    | some true => simB pc a
    | some false => simB pc b
    | none => againT pc (mkIteB (simB pc c) (simB pc a) (simB pc b))
  | .le a b => match decT pc (.le a b) with
    | some r => .bool r
    | none => againT pc (mkLe (simI pc a) (simI pc b))
  | .eq a b => match decT pc (.eq a b) with
    | some r => .bool r
    | none => againT pc (mkEq (simI pc a) (simI pc b))
  | .and a b => match decT pc (.and a b) with
    | some r => .bool r
    | none => againT pc (mkAnd (simB pc a) (simB pc b))
  | .or a b => match decT pc (.or a b) with
    | some r => .bool r
    | none => againT pc (mkOr (simB pc a) (simB pc b))
  | .not a => match decT pc (.not a) with
    | some r => .bool r
    | none => againT pc (mkNot (simB pc a))
  | t => againT pc t
def simA (pc : List T) : T → T
  | .cons a as => .cons (simI pc a) (simA pc as)
  | t => t
end
def decG (pc : List T) (t : T) : Option Bool := match simB pc t with
  | .bool b => some b
  | _ => none
/-- the conditions that a condition is put together of -/
def leaves : T → List T
  | .and a b => leaves a ++ leaves b
  | t => [t]
def parts : T → List T
  | .and a b => leaves a ++ leaves b
  | .not (.or a b) => [mkNot a, mkNot b]
  | _ => []
mutual
def simV (pc : List T) : V → V
  | .int k t => .int k (simI pc t)
  | .bool t => .bool (simB pc t)
  | .agg l => .agg (simL pc l)
  | .tup l => .tup (simL pc l)
  | v => v
def simL (pc : List T) : List V → List V
  | [] => []
  | v :: l => simV pc v :: simL pc l
end
def pickV (pc : List T) (t : T) (x y : Option V) : Option V :=
  match decG pc t with
  | some true => x
  | some false => y
  | none =>
    match x, y with
    | some (.bool x), some (.bool y) => some (.bool (.ite t x y))
    | some (.int k x), some (.int k' y) => if k = k' then some (.int k (.ite t x y)) else none
    | _, _ => none
def partsV (F : Fr) (parts : Array (Nat × Operand)) : Option (List (Nat × V)) :=
  mapO (fun (q : Nat × Operand) => (opv F q.2).map fun v => (q.1, v)) parts.toList
def buildV (P : Program) (F : Fr) (t : TypeId) (parts : Array (Nat × Operand)) : Option V :=
  (zeroV P t).bind fun z => (partsV F parts).bind fun ps =>
  match P.underlying t with
  | some (.struct fs) => (mapO (fun (f : Field) => (szOf P f.type).map fun s => (f.offset, s)) fs.toList).bind fun pl => (fillV (fun i => pl[i]?) z.cells ps).map .agg
  | some (.array _ e) => (szOf P e).bind fun s => (fillV (fun i => some (i * s, s)) z.cells ps).map .agg
  | _ => none
def optV (F : Fr) : Option Operand → Option (Option V)
  | none => some none
  | some a => (opv F a).map some

/-- a function of the library without a body -/
def extV (P : Program) (g : FuncId) (as : List V) : Option V :=
  match P.funcs[g]? with
  | some fn =>
    if fn.body.isNone && fn.origin == "" then
      match as with
      | [.str s, .int .u8 c] =>
        if fn.name == "internal/bytealg.CountString" then some (.int .i64 (mkCnt s c))
        else if fn.name == "internal/bytealg.IndexByteString" then some (.int .i64 (mkIdx s c)) else none
      | [.str s, .str t] => if fn.name == "internal/bytealg.abigen_runtime_cmpstring" then some (.int .i64 (mkCmp s t)) else none
      | _ => none
    else none
  | none => none
/-- operations that leave memory as it is -/
def evp (P : Program) (pc : List T) (F : Fr) (H : Hp) : Op → Option (V × List T)
  | .move x | .assign x => (opv F x).map fun v => (v, [])
  | .pick c a b =>
    match opv F c with
    | some (.bool t) => (pickV pc t (opv F a) (opv F b)).map fun v => (v, [])
    | _ => none
  | .build t parts => (buildV P F t parts).map fun v => (v, [])
  | .load t a =>
    match opv F a with
    | some (.ptr id off) => (look H id).bind fun b => (partV P t b.cells off).map fun v => (v, [])
    | _ => none
  | .nilCheck x =>
    match opv F x with
    | some (.ptr i o) => some (.ptr i o, [])
    | some (.fn (.func f) a b) => some (.fn (.func f) a b, [])
    | _ => none
  | .binOp op t x y _ => (opv F x).bind fun a => (opv F y).bind fun b => binV P op t a b
  | .unOp op _ x =>
    match op, opv F x with
    | .not, some (.bool t) => some (.bool (mkNot t), [])
    | .neg, some (.int k a) => some (.int k (mkSub k (.int 0) a).1, (mkSub k (.int 0) a).2)
    | _, _ => none
  | .convert s d x =>
    match P.underlying s, P.underlying d, opv F x with
    | some (.int _), some (.int k), some (.int _ a) => some (.int k (mkWrap k a).1, (mkWrap k a).2)
    | some .string, some .string, some (.str a) => some (.str a, [])
    | some (.slice e), some .string, some v => match P.underlying e with
      | some (.int .u8) => (bytesV H v).map fun t => (.str t, [])
      | _ => none
    | _, _, _ => none
  | .makeFunc f first cap => (mapO (opv F) first.toList).bind fun a => (mapO (opv F) cap.toList).map fun b => (.fn f a b, [])
  | .slice t x lo hi mx =>
    (opv F x).bind fun v => (optV F lo).bind fun l => (optV F hi).bind fun h => (optV F mx).bind fun m => match sliceV P H t v l h m with | some v => some (v, []) | none => sliceS P t v l h m
  | .fieldAddr s x f =>
    match P.underlying s, opv F x with
    | some (.struct fs), some (.ptr id off) => (fs[f]?).bind fun fd => (szOf P fd.type).bind fun z => if z = 0 then none else some (.ptr id (off + fd.offset), [])
    | _, _ => none
  | .field t x f =>
    match P.underlying t, opv F x with
    | some (.struct fs), some (.agg l) => (fs[f]?).bind fun fd => (partV P fd.type l fd.offset).map fun v => (v, [])
    | _, _ => none
  | .indexAddr t x ix =>
    match P.underlying t, opv F x, (opv F ix).bind natLit with
    | some (.slice e), some (.sl id off len _), some i => (szOf P e).bind fun z => if i < len then some (.ptr id (off + i * z), []) else none
    | some (.array n e), some (.ptr id off), some i => (szOf P e).bind fun z => if i < n then some (.ptr id (off + i * z), []) else none
    | _, _, _ => none
  | .index t x ix =>
    match P.underlying t, opv F x, opv F ix with
    | some (.array n e), some (.agg l), some j => (natLit j).bind fun i => (szOf P e).bind fun z => if i < n then (partV P e l (i * z)).map fun v => (v, []) else none
    | some .string, some (.str (.str s)), some (.int _ (.int (.ofNat i))) => (s.data.toList[i]?).map fun b => (.int .u8 (.int b.toNat), [])
    | some .string, some (.str s), some (.int _ i) => some (.int .u8 (.byte s i), [mkLe (.int 0) i, mkNot (mkLe (mkLen s) i)])
    | _, _, _ => none
  | .extract x i =>
    match opv F x with
    | some (.tup l) => (l[i]?).map fun v => (v, [])
    | _ => none
  | .call { callee := .builtin b, args, argTypes } =>
    match b, args.toList, argTypes.toList with
    | .len, [x], [t] => (opv F x).bind fun v => (lenV P t v).map fun n => (.int .i64 n, [])
    | .cap, [x], [t] => (opv F x).bind fun v => (capV P t v).map fun n => (.int .i64 n, [])
    | .min, [x, y], _ => (opv F x).bind fun a => (opv F y).bind fun b => (minmaxV true a b).map fun v => (v, [])
    | .max, [x, y], _ => (opv F x).bind fun a => (opv F y).bind fun b => (minmaxV false a b).map fun v => (v, [])
    | _, _, _ => none
  | .call { callee := .value f, args, argTypes := _ } =>
    match opv F f with
    | some (.fn (.func g) [] []) => (mapO (opv F) args.toList).bind fun as => (extV P g as).map fun v => (v, [])
    | _ => none
  | _ => none

abbrev MR := V × Hp × Nat
/-- what is appended -/
def srcV (P : Program) (t u : TypeId) (z : Nat) (H : Hp) : V → Option (List V × Nat)
  | .nils => if t = u then some ([], 0) else none
  | .sl xid xoff m _ => if t = u then (readRow H xid xoff (m * z)).map fun l => (l, m) else none
  | .str (.str s) => match P.underlying u with
    | some .string => if z = 1 then some (s.data.toList.map fun c => .int .u8 (.int c.toNat), s.data.toList.length) else none
    | _ => none
  | _ => none
/-- append: nothing; to nothing; to a row that ends; to one that is full; to one of which nobody knows -/
def appendV (P : Program) (t u : TypeId) (s x : V) (H : Hp) (nx : Nat) : Option MR :=
  match P.underlying t with
  | some (.slice e) =>
    (P.info? e).bind fun i => i.zero.bind fun zr =>
    let z := i.size
    (srcV P t u z H x).bind fun src =>
    let news := src.1
    let m := src.2
    if m = 0 then
      match s with
      | .nils => some (.nils, H, nx)
      | .sl id off n (.is c) => if n ≤ c then some (.sl id off n (.is c), H, nx) else none
      | .sl id off n (.rest 0) => (look H id).bind fun b => if b.spare = true ∧ n * b.sz ≤ b.cells.length then some (.sl id off n (.rest 0), H, nx) else none
      | _ => none
    else
      if !(allOne news) || Nat.beq z 0 || !(Nat.beq zr.cells.size z) then none else
      match s with
      | .nils =>
        if m * i.bytes ≤ maxBytes ∧ m ≤ maxBytes then some (.sl nx 0 m (.rest 0), (nx, ⟨e, z, news, true⟩) :: H, nx + 1) else none
      | .sl id 0 n (.rest 0) =>
        (look H id).bind fun b =>
        if b.spare = true ∧ b.ty = e ∧ b.sz = z ∧ n * z ≤ b.cells.length ∧ (n + m) * i.bytes ≤ maxBytes ∧ n + m ≤ maxBytes then
          some (.sl nx 0 (n + m) (.rest 0), (nx, ⟨e, z, b.cells.take (n * z) ++ news, true⟩) :: del H id, nx + 1) else none
      | .sl id off n (.is c) =>
        (look H id).bind fun b =>
        if n + m ≤ c then
          if b.ty = e ∧ off = 0 ∧ n * z + news.length ≤ b.cells.length then some (.sl id 0 (n + m) (.is c), upd H id { b with cells := put1 b.cells (n * z) news }, nx) else none
        else if (n + m) * i.bytes ≤ maxBytes ∧ n + m ≤ maxBytes ∧ off + n * z ≤ b.cells.length then
          some (.sl nx 0 (n + m) (.rest 0), (nx, ⟨e, z, (b.cells.drop off).take (n * z) ++ news, true⟩) :: H, nx + 1) else none
      | _ => none
  | _ => none
/-- copy -/
def copyV (P : Program) (t : TypeId) (d s : V) (H : Hp) (nx : Nat) : Option MR :=
  match P.underlying t with
  | some (.slice e) =>
    (P.info? e).bind fun i =>
    match d, s with
    | .sl id off n _, .sl xid xoff m _ =>
      if i.size = 1 then
        let k := Nat.min m n
        (readRow H xid xoff k).bind fun news => (look H id).bind fun b =>
        if off + k ≤ b.cells.length ∧ allOne news = true then some (.int .i64 (.int k), upd H id { b with cells := put1 b.cells off news }, nx) else none
      else none
    | .sl _ _ _ _, .nils => some (.int .i64 (.int 0), H, nx)
    | .nils, .nils => some (.int .i64 (.int 0), H, nx)
    | .nils, .sl _ _ _ _ => some (.int .i64 (.int 0), H, nx)
    | _, _ => none
  | _ => none
/-- operations that make memory, or change it -/
def evm (P : Program) (F : Fr) (H : Hp) (nx : Nat) : Op → Option MR
  | .alloc t => (zeroV P t).bind fun z => (szOf P t).bind fun s => some (.ptr nx 0, (nx, ⟨t, s, z.cells, false⟩) :: H, nx + 1)
  | .box t x => (opv F x).bind fun v => (szOf P t).bind fun s => some (.ptr nx 0, (nx, ⟨t, s, v.cells, false⟩) :: H, nx + 1)
  | .buildSlice t len parts =>
    match P.underlying t with
    | some (.slice e) =>
      (szOf P e).bind fun s => (partsV F parts).bind fun ps =>
      if len * s > 16777216 ∨ len * s = 0 then none else
      (zeroV P e).bind fun z => if z.cells.length = s then
        (fillV (fun i => some (i * s, s)) (List.replicate len z.cells).flatten ps).bind fun l =>
          some (.sl nx 0 len (.is len), (nx, ⟨e, s, l, false⟩) :: H, nx + 1)
        else none
    | _ => none
  | .store t a x =>
    match opv F a with
    | some (.ptr id off) => (look H id).bind fun b => (opv F x).bind fun v => (szOf P t).bind fun s =>
      if v.cells.length = s ∧ off + s ≤ b.cells.length ∧ allOne v.cells = true then some (.undef, upd H id { b with cells := put1 b.cells off v.cells }, nx) else none
    | _ => none
  | .makeSlice t l c =>
    match P.underlying t, (opv F l).bind natLit, (opv F c).bind natLit with
    | some (.slice e), some ln, some cp => (P.info? e).bind fun i => (zeroV P e).bind fun z =>
      if ln ≤ cp ∧ cp * i.bytes ≤ maxBytes ∧ cp ≤ maxBytes ∧ z.cells.length = i.size ∧ 0 < i.size then some (.sl nx 0 ln (.is cp), (nx, ⟨e, i.size, (List.replicate cp z.cells).flatten, false⟩) :: H, nx + 1) else none
    | _, _, _ => none
  | .call { callee := .builtin .append, args, argTypes } =>
    match args.toList, argTypes.toList with
    | [s, x], [t, u] => (opv F s).bind fun a => (opv F x).bind fun b => appendV P t u a b H nx
    | _, _ => none
  | .call { callee := .builtin .copy, args, argTypes } =>
    match args.toList, argTypes.toList with
    | [d, s], [t, u] => (opv F d).bind fun a => (opv F s).bind fun b => copyV P t a b H nx
    | _, _ => none
  | _ => none

structure OR where
  v : V
  H : Hp
  nx : Nat
  vc : List T
def evo (P : Program) (pc : List T) (F : Fr) (H : Hp) (nx : Nat) (op : Op) : Option OR :=
  match evp P pc F H op with
  | some r => some ⟨r.1, H, nx, r.2⟩
  | none => (evm P F H nx op).map fun r => ⟨r.1, r.2.1, r.2.2, []⟩

/-! code -/
structure St where
  F : Fr
  H : Hp
  nx : Nat
  pc : List T
inductive Ex where
  | nrm | ext (id : Nat) | ret
  deriving DecidableEq
abbrev Vcs := List (List T × T)
abbrev Out := List (Ex × St) × Vcs
abbrev COut := List (V × St) × Vcs

/-- both ways, or the one that is open -/
def splitS (st : St) (t : T) (x y : St → Option Out) : Option Out :=
  match decT st.pc t with
  | some true => x st
  | some false => y st
  | none => (x { st with pc := t :: (parts t ++ st.pc) }).bind fun a => (y { st with pc := mkNot t :: (parts (mkNot t) ++ st.pc) }).map fun b => (a.1 ++ b.1, a.2 ++ b.2)
def splitT (st : St) (t : T) (x y : St → Option Out) : Option Out := splitS st (simB st.pc t) x y
def thenL (k : St → Option Out) : List (Ex × St) → Option Out
  | [] => some ([], [])
  | (.nrm, st) :: l => (k st).bind fun a => (thenL k l).map fun b => (a.1 ++ b.1, a.2 ++ b.2)
  | (e, st) :: l => (thenL k l).map fun b => ((e, st) :: b.1, b.2)
def thenO (o : Option Out) (k : St → Option Out) : Option Out := o.bind fun a => (thenL k a.1).map fun b => (b.1, a.2 ++ b.2)
def catchE (id : Nat) : Ex → Ex
  | .ext j => if Nat.beq j id then .nrm else .ext j
  | e => e
def eachL (k : V × St → Option Out) : List (V × St) → Option Out
  | [] => some ([], [])
  | x :: l => (k x).bind fun a => (eachL k l).map fun b => (a.1 ++ b.1, a.2 ++ b.2)

def setF (F : Fr) (d : Option Tmp) (v : V) : Fr :=
  match d with
  | some d => F.set d v
  | none => F
def findF : List (FuncId × Func) → FuncId → Option Func
  | [], _ => none
  | (g, fn) :: l, f => if Nat.beq g f then some fn else findF l f
def calleeOf (funs : List (FuncId × Func)) (F : Fr) (c : Call) : Option (FuncId × List V) :=
  match c.callee with
  | .value f =>
    match opv F f with
    | some (.fn (.func g) first cap) => (findF funs g).bind fun _ => (mapO (opv F) c.args.toList).map fun as => (g, first ++ as ++ cap)
    | _ => none
  | _ => none

/-- a call of a function that is known -/
def isCall (funs : List (FuncId × Func)) (F : Fr) : Op → Option (FuncId × List V)
  | .call c => calleeOf funs F c
  | _ => none
/-- a call: where no argument leads into memory, the callee's memory is its own -/
def callM (call : FuncId → List V → St → Option COut) (g : FuncId × List V) (st : St) : Option COut :=
  if V.plainL g.2 then (call g.1 g.2 { st with H := [] }).map fun r => (r.1.map (fun x => (x.1, { x.2 with H := if V.plain x.1 then st.H else x.2.H ++ st.H })), r.2)
  else call g.1 g.2 st
/-- the operations of a region, one after the other -/
def runOps (P : Program) (funs : List (FuncId × Func)) (call : FuncId → List V → St → Option COut) (ops : Array Oper) : List Oper → St → Option Out
  | [], st => some ([(.nrm, st)], [])
  | o :: rest, st =>
    let skp (st : St) : Option Out := runOps P funs call ops rest { st with F := setF st.F o.dst .undef }
    let go (st : St) : Option Out :=
      match isCall funs st.F o.op with
      | some g => (callM call g st).bind fun r => (eachL (fun x => runOps P funs call ops rest { x.2 with F := setF st.F o.dst x.1 }) r.1).map fun out => (out.1, r.2 ++ out.2)
      | none => (evo P st.pc st.F st.H st.nx o.op).bind fun r => (runOps P funs call ops rest { st with F := setF st.F o.dst r.v, H := r.H, nx := r.nx }).map fun out => (out.1, (r.vc.filter fun t => decG st.pc t != some true).map (fun t => (st.pc, t)) ++ out.2)
    match o.guard with
    | none => go st
    | some (j, want) =>
      match ((ops[j]?).bind (·.dst)).bind (fun d => st.F.get d) with
      | some (.bool t) => if want then splitT st t go skp else splitT st t skp go
      | some (.tup []) => skp st
      | _ => none
/-! a region that draws its order, and changes memory: what each operation does must not hang on those that it is not ordered with -/
structure Rec where
  v : V
  wr : Option (Nat × Blk)
  deriving Inhabited
def Rec.wid (r : Rec) : Option Nat := r.wr.map (·.1)
def Rec.put (r : Rec) (H : Hp) : Hp := match r.wr with | some p => p :: H | none => H
/-- several ways made one: no two of them can be gone at once -/
def mergeLs (n : Nat) : List (V × St) → Option V
  | [] => none
  | [x] => some x.1
  | x :: l =>
    let e := x.2.pc.take (x.2.pc.length - n)
    if l.all (fun y => contraB e (y.2.pc.take (y.2.pc.length - n))) then (mergeLs n l).bind fun u => iteV (andL e) x.1 u else none
def recD (P : Program) (funs : List (FuncId × Func)) (call : FuncId → List V → St → Option COut) (ops : Array Oper) (pc : List T) (nxT k : Nat) (o : Oper) (F : Fr) (H : Hp) : Option (Rec × Vcs) :=
  let go : Option (Rec × Vcs) :=
    match isCall funs F o.op with
    | some g => match call g.1 g.2 ⟨⟨0, .lf⟩, [], nxT, pc⟩ with
      | some (ls, vc) => if V.plainL g.2 then (mergeLs pc.length ls).bind fun v => if V.plain v then some (⟨v, none⟩, vc) else none else none
      | _ => none
    | none => match evp P pc F H o.op with
      | some r => some (⟨r.1, none⟩, (r.2.filter fun t => decG pc t != some true).map fun t => (pc, t))
      | none => match o.op with
        | .store t a x => match opv F a with
          | some (.ptr id off) => (evm P F H k (.store t a x)).bind fun r => (look r.2.1 id).map fun b => (⟨.undef, some (id, b)⟩, [])
          | _ => none
        | .alloc t => (evm P F H k (.alloc t)).bind fun r => r.2.1.head?.map fun e => (⟨r.1, some e⟩, [])
        | .box t x => (evm P F H k (.box t x)).bind fun r => r.2.1.head?.map fun e => (⟨r.1, some e⟩, [])
        | .buildSlice t n ps => (evm P F H k (.buildSlice t n ps)).bind fun r => r.2.1.head?.map fun e => (⟨r.1, some e⟩, [])
        | _ => none
  match o.guard with
  | none => go
  | some (j, want) =>
    match ((ops[j]?).bind (·.dst)).bind (fun d => opv F (.tmp d)) with
    | some (.bool t) => match decG pc t with
      | some b => if b = want then go else some (⟨.undef, none⟩, [])
      | none => none
    | some (.tup []) => some (⟨.undef, none⟩, [])
    | _ => none
def badF (F : Fr) : List (Option Tmp) → Fr
  | [] => F
  | some d :: l => badF (F.set d .bad) l
  | none :: l => badF F l
def delL (H : Hp) : List (Option Nat) → Hp
  | [] => H
  | some i :: l => delL (del H i) l
  | none :: l => delL H l
abbrev RecF := Nat → Oper → Fr → Hp → Option (Rec × Vcs)
def wids1 (rc : RecF) : List Oper → Nat → Fr → Hp → Option (List (Option Nat))
  | [], _, _, _ => some []
  | o :: l, i, F, H => (rc i o F H).bind fun r => (wids1 rc l (i + 1) (setF F o.dst r.1.v) (r.1.put H)).map fun m => r.1.wid :: m
def goD (rc : RecF) (un : Nat → List Nat) (dsts : List (Option Tmp)) (wids : List (Option Nat)) : List Oper → Nat → Fr → Hp → Option (List Rec × Vcs × Fr × Hp)
  | [], _, F, H => some ([], [], F, H)
  | o :: l, i, F, H =>
    (rc i o (badF F ((un i).map fun j => dsts.getD j none)) (delL H ((un i).map fun j => wids.getD j none))).bind fun r =>
    if r.1.wid = wids.getD i none ∧ ((un i).all fun j => match wids.getD j none with | some id => r.1.wid != some id | none => true) = true then
      (goD rc un dsts wids l (i + 1) (setF F o.dst r.1.v) (r.1.put H)).map fun q => (r.1 :: q.1, r.2 ++ q.2.1, q.2.2)
    else none
def bitB (pre : List Nat) (i j : Nat) : Bool := (pre.getD i 0).testBit j
/-- the bits of those ahead of an operation -/
def orL (pre : List Nat) : List Edge → Nat → Nat
  | [], s => s
  | e :: l, s => if Region.binds .any e then orL pre l (s ||| 2 ^ e.on ||| pre.getD e.on 0) else orL pre l s
def closedB (ops : List Oper) (pre : List Nat) : Bool :=
  (ops.zipIdx).all fun q => (q.1.after.toList.all fun e => !(Region.binds .any e) || Nat.blt e.on q.2) && Nat.beq (pre.getD q.2 0) (orL pre q.1.after.toList 0)
def nodupB : List (Option Tmp) → Bool
  | [] => true
  | some d :: l => !(l.contains (some d)) && nodupB l
  | none :: l => nodupB l
def unord (pre : List Nat) (n i : Nat) : List Nat := (List.range n).filter fun j => if Nat.blt j i then !(bitB pre i j) else Nat.blt i j && !(bitB pre j i)
def runD (P : Program) (funs : List (FuncId × Func)) (call : FuncId → List V → St → Option COut) (ops : Array Oper) (st : St) : Option Out :=
  let pre := CheckFast.beforeL ops.toList 0 []
  let dsts := ops.toList.map (·.dst)
  let nxT := st.nx + ops.size
  let rc : RecF := fun i o F H => recD P funs call ops st.pc nxT (st.nx + i) o F H
  if closedB ops.toList pre && nodupB dsts then
    (wids1 rc ops.toList 0 st.F st.H).bind fun wids =>
    (goD rc (unord pre ops.size) dsts wids ops.toList 0 st.F st.H).map fun q => ([(.nrm, ⟨q.2.2.1, q.2.2.2, nxT, st.pc⟩)], q.2.1)
  else none

/-- a contract: what a call of a function gives, and what must hold for that -/
structure Ctr where
  f : FuncId
  app : List V → Option (V × List T × List T)
def findC : List Ctr → FuncId → Option Ctr
  | [], _ => none
  | c :: l, f => if Nat.beq c.f f then some c else findC l f

def resV (P : Program) (st : St) : List ResultVar → Option (List V)
  | [] => some []
  | .tmp t :: l => (st.F.get t).bind fun v => (resV P st l).map fun vs => v :: vs
  | .cell a t :: l =>
    match st.F.get a with
    | some (.ptr id off) => (look st.H id).bind fun b => (partV P t b.cells off).bind fun v => (resV P st l).map fun vs => v :: vs
    | _ => none
def packV : List V → V
  | [v] => v
  | l => .tup l
mutual
/-- leads to no block from this one on -/
def V.under (n : Nat) : V → Bool
  | .ptr i _ => Nat.blt i n
  | .sl i _ _ _ => Nat.blt i n
  | .fn _ a b => V.underL n a && V.underL n b
  | .agg l => V.underL n l
  | .tup l => V.underL n l
  | _ => true
def V.underL (n : Nat) : List V → Bool
  | [] => true
  | v :: l => V.under n v && V.underL n l
end
/-- what is kept of memory behind a call -/
def keepH (nx0 : Nat) (plain : Bool) (H : Hp) : Hp :=
  if plain then
    if (H.filter (fun e => Nat.blt e.1 nx0)).all (fun e => V.underL nx0 e.2.cells) then H.filter (fun e => Nat.blt e.1 nx0) else H
  else H
/-- what a body leaves behind, for its caller: the caller's frame; what it made itself is forgotten if its result does not name it -/
def leaveL (P : Program) (rs : List ResultVar) (F : Fr) (nx0 : Nat) : List (Ex × St) → Option (List (V × St))
  | [] => some []
  | (.ext _, _) :: _ => none
  | (_, st) :: l => (resV P st rs).bind fun vs => (leaveL P rs F nx0 l).map fun m =>
    (packV vs, { st with F := F, H := keepH nx0 (V.plainL vs) st.H }) :: m
def callF (P : Program) (cs : List Ctr) (funs : List (FuncId × Func)) (run : Code → St → Option Out) (f : FuncId) (args : List V) (st : St) : Option COut :=
  match findC cs f with
  | some c => (c.app (simL st.pc args)).bind fun r => if V.plainL args && V.plain r.1 then some ([(r.1, { st with pc := r.2.2 ++ st.pc })], (r.2.1.filter fun t => decG st.pc t != some true).map fun t => (st.pc, t)) else none
  | none =>
    (findF funs f).bind fun fn => fn.body.bind fun c =>
    (run c { st with F := Fr.fill args 0 ⟨args.length + (fn.ntmps - args.length), .lf⟩ }).bind fun o =>
    (leaveL P fn.results.toList st.F st.nx o.1).map fun l => (l, o.2)

def run (P : Program) (cs : List Ctr) (funs : List (FuncId × Func)) : Nat → Code → St → Option Out
  | 0, _, _ => none
  | n + 1, c, st =>
    match c with
    | .skip | .label _ => some ([(.nrm, st)], [])
    | .seq a b => thenO (run P cs funs n a st) (run P cs funs n b)
    | .cond c x y =>
      match opv st.F c with
      | some (.bool t) => splitT st t (run P cs funs n x) (run P cs funs n y)
      | _ => none
    | .block id c => (run P cs funs n c st).map fun o => (o.1.map fun e => (catchE id e.1, e.2), o.2)
    | .loop c => thenO (run P cs funs n c st) (run P cs funs n (.loop c))
    | .scope c => run P cs funs n c st
    | .exit id => some ([(.ext id, st)], [])
    | .ret => some ([(.ret, st)], [])
    | .region _ ops false => runOps P funs (callF P cs funs (run P cs funs n)) ops ops.toList st
    | .region _ ops true => runD P funs (callF P cs funs (run P cs funs n)) ops st
    | _ => none
def call (P : Program) (cs : List Ctr) (funs : List (FuncId × Func)) (n : Nat) (f : FuncId) (args : List V) (pc : List T) : Option COut :=
  callF P cs funs (run P cs funs n) f args ⟨⟨0, .lf⟩, [], 0, pc⟩
end Go.Proofs.Ytfjlhplaifkenaa.Vx
