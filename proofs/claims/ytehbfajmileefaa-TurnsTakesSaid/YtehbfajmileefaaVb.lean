import Derived.Test.YtehbfajmileefaaVa
import Derived.CheckFast
namespace Go.Proofs.Ytehbfajmileefaa.Vx
open Go.RowKit
set_option linter.unusedVariables false
inductive Tr where
  | lf
  | nd (l : Tr) (v : V) (r : Tr)
def Tr.left : Tr → Tr
  | .lf => .lf
  | .nd l _ _ => l
def Tr.right : Tr → Tr
  | .lf => .lf
  | .nd _ _ r => r
def Tr.val : Tr → V
  | .lf => .undef
  | .nd _ v _ => v
def Tr.get : Tr → Nat → V
  | .lf, _ => .undef
  | .nd l v r, i => match i with
    | 0 => v
    | j + 1 => match Nat.beq (j % 2) 0 with
      | true => l.get (j / 2)
      | false => r.get (j / 2)
def Tr.set : Nat → Tr → Nat → V → Tr
  | 0, t, _, _ => t
  | f + 1, t, i, v => match t with
    | .lf => match i with
      | 0 => .nd .lf v .lf
      | j + 1 => match Nat.beq (j % 2) 0 with
        | true => .nd (Tr.set f .lf (j / 2) v) .undef .lf
        | false => .nd .lf .undef (Tr.set f .lf (j / 2) v)
    | .nd l u r => match i with
      | 0 => .nd l v r
      | j + 1 => match Nat.beq (j % 2) 0 with
        | true => .nd (Tr.set f l (j / 2) v) u r
        | false => .nd l u (Tr.set f r (j / 2) v)
structure Fr where
  n : Nat
  t : Tr
def Fr.get (F : Fr) (i : Nat) : Option V := match Nat.blt i F.n with
  | true => some (F.t.get i)
  | false => none
def Fr.set (F : Fr) (i : Nat) (v : V) : Fr := match F with
  | ⟨n, t⟩ => match Nat.blt i n with
    | true => ⟨n, Tr.set n t i v⟩
    | false => ⟨n, t⟩
def Fr.fill : List V → Nat → Fr → Fr
  | [], _, F => F
  | v :: l, i, F => Fr.fill l (i + 1) (F.set i v)
def Fr.list (F : Fr) : List V := (List.range F.n).map F.t.get
noncomputable def pathR (f : Nat) : Nat → List Bool := Nat.rec (motive := fun _ => Nat → List Bool) (fun _ => []) (fun _ ih i => Nat.rec (motive := fun _ => List Bool) [] (fun j _ => Nat.beq (j % 2) 0 :: ih (j / 2)) i) f
noncomputable def getP (p : List Bool) : Tr → V :=
  List.rec (motive := fun _ => Tr → V) (fun t => Tr.rec (motive := fun _ => V) .undef (fun _ v _ _ _ => v) t)
    (fun b _ ih t => Tr.rec (motive := fun _ => V) .undef (fun l _ r _ _ => Bool.rec (motive := fun _ => V) (ih r) (ih l) b) t) p
noncomputable def setP (p : List Bool) : V → Tr → Tr :=
  List.rec (motive := fun _ => V → Tr → Tr) (fun v t => Tr.rec (motive := fun _ => Tr) (.nd .lf v .lf) (fun l _ r _ _ => .nd l v r) t)
    (fun b _ ih v t => Tr.rec (motive := fun _ => Tr) (Bool.rec (motive := fun _ => Tr) (.nd .lf .undef (ih v .lf)) (.nd (ih v .lf) .undef .lf) b)
      (fun l u r _ _ => Bool.rec (motive := fun _ => Tr) (.nd l u (ih v r)) (.nd (ih v l) u r) b) t) p
noncomputable def Fr.getF (F : Fr) (i : Nat) : Option V := Fr.rec (motive := fun _ => Option V) (fun n t => Bool.rec (motive := fun _ => Option V) none (some (getP (pathR (i + 1) i) t)) (Nat.blt i n)) F
noncomputable def Fr.setF (F : Fr) (i : Nat) (v : V) : Fr := Fr.rec (motive := fun _ => Fr) (fun n t => Bool.rec (motive := fun _ => Fr) ⟨n, t⟩ ⟨n, setP (pathR (i + 1) i) v t⟩ (Nat.blt i n)) F
def opv (F : Fr) : Operand → Option V
  | .tmp t => match F.get t with | some .bad => none | r => r
  | .const v => ofValue v
  | .global _ => none
  | .func f => some (.fn (.func f) [] [])
noncomputable def T.int? (t : T) : Option Int := T.rec (motive := fun _ => Option Int) (fun x0 => some x0) (fun _ => none) (fun _ => none) (fun _ => none) (fun _ => none) (fun _ => none) (fun _ _ _ _ => none) (fun _ _ _ _ => none) (fun _ _ _ _ => none) (fun _ _ _ _ => none) (fun _ _ _ _ => none) (fun _ _ _ _ _ _ => none) (fun _ _ => none) (fun _ _ _ _ => none) (fun _ _ _ _ => none) (fun _ _ _ _ _ _ => none) (fun _ _ _ _ => none) (fun _ _ _ _ => none) (fun _ _ _ _ => none) (fun _ _ _ => none) (fun _ _ _ => none) (fun _ _ _ _ => none) (fun _ _ _ _ => none) (fun _ _ _ _ => none) (fun _ _ _ _ => none) (fun _ _ _ _ => none) (fun _ _ _ _ => none) (fun _ _ => none) (fun _ _ _ _ => none) (fun _ _ _ _ => none) (fun _ _ _ => none) (fun _ _ _ => none) (none) (fun _ _ _ _ => none) t
noncomputable def T.bool? (t : T) : Option Bool := T.rec (motive := fun _ => Option Bool) (fun _ => none) (fun x0 => some x0) (fun _ => none) (fun _ => none) (fun _ => none) (fun _ => none) (fun _ _ _ _ => none) (fun _ _ _ _ => none) (fun _ _ _ _ => none) (fun _ _ _ _ => none) (fun _ _ _ _ => none) (fun _ _ _ _ _ _ => none) (fun _ _ => none) (fun _ _ _ _ => none) (fun _ _ _ _ => none) (fun _ _ _ _ _ _ => none) (fun _ _ _ _ => none) (fun _ _ _ _ => none) (fun _ _ _ _ => none) (fun _ _ _ => none) (fun _ _ _ => none) (fun _ _ _ _ => none) (fun _ _ _ _ => none) (fun _ _ _ _ => none) (fun _ _ _ _ => none) (fun _ _ _ _ => none) (fun _ _ _ _ => none) (fun _ _ => none) (fun _ _ _ _ => none) (fun _ _ _ _ => none) (fun _ _ _ => none) (fun _ _ _ => none) (none) (fun _ _ _ _ => none) t
def litK (k : IntKind) (o : Option Int) : Option (IntKind × Int) := match o with
  | some n => some (k, n)
  | none => none
noncomputable def V.lit (v : V) : Option (IntKind × Int) := V.rec (motive_1 := fun _ => Option (IntKind × Int)) (motive_2 := fun _ => Unit) (fun x0 x1 => litK x0 (T.int? x1)) (fun _ => none) (fun _ => none) (none) (fun _ _ => none) (none) (fun _ _ _ _ => none) (none) (fun _ _ _ _ _ => none) (fun _ _ => none) (fun _ _ => none) (none) (none) (none) (fun _ => none) (none) (fun _ => none) () (fun _ _ _ _ => ()) v
noncomputable def V.blit (v : V) : Option Bool := V.rec (motive_1 := fun _ => Option Bool) (motive_2 := fun _ => Unit) (fun _ _ => none) (fun x0 => T.bool? x0) (fun _ => none) (none) (fun _ _ => none) (none) (fun _ _ _ _ => none) (none) (fun _ _ _ _ _ => none) (fun _ _ => none) (fun _ _ => none) (none) (none) (none) (fun _ => none) (none) (fun _ => none) () (fun _ _ _ _ => ()) v
noncomputable def V.ptr? (v : V) : Option (Nat × Nat) := V.rec (motive_1 := fun _ => Option (Nat × Nat)) (motive_2 := fun _ => Unit) (fun _ _ => none) (fun _ => none) (fun _ => none) (none) (fun x0 x1 => some (x0, x1)) (none) (fun _ _ _ _ => none) (none) (fun _ _ _ _ _ => none) (fun _ _ => none) (fun _ _ => none) (none) (none) (none) (fun _ => none) (none) (fun _ => none) () (fun _ _ _ _ => ()) v
noncomputable def V.agg? (v : V) : Option (List V) := V.rec (motive_1 := fun _ => Option (List V)) (motive_2 := fun _ => Unit) (fun _ _ => none) (fun _ => none) (fun _ => none) (none) (fun _ _ => none) (none) (fun _ _ _ _ => none) (none) (fun _ _ _ _ _ => none) (fun x0 _ => some x0) (fun _ _ => none) (none) (none) (none) (fun _ => none) (none) (fun _ => none) () (fun _ _ _ _ => ()) v
noncomputable def V.tup? (v : V) : Option (List V) := V.rec (motive_1 := fun _ => Option (List V)) (motive_2 := fun _ => Unit) (fun _ _ => none) (fun _ => none) (fun _ => none) (none) (fun _ _ => none) (none) (fun _ _ _ _ => none) (none) (fun _ _ _ _ _ => none) (fun _ _ => none) (fun x0 _ => some x0) (none) (none) (none) (fun _ => none) (none) (fun _ => none) () (fun _ _ _ _ => ()) v
noncomputable def V.isBad (v : V) : Bool := V.rec (motive_1 := fun _ => Bool) (motive_2 := fun _ => Unit) (fun _ _ => false) (fun _ => false) (fun _ => false) (false) (fun _ _ => false) (false) (fun _ _ _ _ => false) (false) (fun _ _ _ _ _ => false) (fun _ _ => false) (fun _ _ => false) (false) (false) (false) (fun _ => false) (true) (fun _ => false) () (fun _ _ _ _ => ()) v
noncomputable def V.oneF (v : V) : Bool := V.rec (motive_1 := fun _ => Bool) (motive_2 := fun _ => Unit) (fun _ _ => true) (fun _ => true) (fun _ => true) (true) (fun _ _ => true) (true) (fun _ _ _ _ => true) (true) (fun _ _ _ _ _ => true) (fun x0 _ => false) (fun x0 _ => false) (true) (true) (true) (fun _ => true) (true) (fun _ => true) () (fun _ _ _ _ => ()) v
noncomputable def nthR (l : List V) (i : Nat) : Option V := List.rec (motive := fun _ => Nat → Option V) (fun _ => none) (fun v _ ih i => Nat.rec (motive := fun _ => Option V) (some v) (fun j _ => ih j) i) l i
noncomputable def lookF (H : Hp) (i : Nat) : Option Blk := List.rec (motive := fun _ => Nat → Option Blk) (fun _ => none) (fun e _ ih i => Prod.rec (motive := fun _ => Option Blk) (fun j b => Bool.rec (motive := fun _ => Option Blk) (ih i) (some b) (Nat.beq j i)) e) H i
noncomputable def ltI (a b : Int) : Bool := Int.rec (motive := fun _ => Int → Bool) (fun m b => Int.rec (motive := fun _ => Bool) (fun n => Nat.blt m n) (fun _ => false) b) (fun m b => Int.rec (motive := fun _ => Bool) (fun _ => true) (fun n => Nat.blt n m) b) a b
noncomputable def leI (a b : Int) : Bool := Int.rec (motive := fun _ => Int → Bool) (fun m b => Int.rec (motive := fun _ => Bool) (fun n => Nat.ble m n) (fun _ => false) b) (fun m b => Int.rec (motive := fun _ => Bool) (fun _ => true) (fun n => Nat.ble n m) b) a b
noncomputable def eqI (a b : Int) : Bool := Int.rec (motive := fun _ => Int → Bool) (fun m b => Int.rec (motive := fun _ => Bool) (fun n => Nat.beq m n) (fun _ => false) b) (fun m b => Int.rec (motive := fun _ => Bool) (fun _ => false) (fun n => Nat.beq m n) b) a b
def kmaxN (k : IntKind) : Nat := match k with
  | .i8 => 127 | .i16 => 32767 | .i32 => 2147483647 | .i64 => 9223372036854775807 | .u8 => 255 | .u16 => 65535 | .u32 => 4294967295 | .u64 => 18446744073709551615
noncomputable def wrapF (k : IntKind) (n : Int) : Int := Int.rec (motive := fun _ => IntKind → Int) (fun m k => Bool.rec (motive := fun _ => Int) (k.wrap (.ofNat m)) (.ofNat m) (Nat.ble m (kmaxN k))) (fun m k => k.wrap (.negSucc m)) n k
def notB (b : Bool) : Bool := match b with | true => false | false => true
noncomputable def litBin (op : BinOp) (k : IntKind) (m n : Int) : Option (V × List T) :=
  BinOp.rec (motive := fun _ => IntKind → Int → Int → Option (V × List T))
    (fun k m n => some (.int k (.int (wrapF k (m + n))), [])) (fun k m n => some (.int k (.int (wrapF k (m - n))), [])) (fun k m n => some (.int k (.int (wrapF k (m * n))), []))
    (fun _ _ _ => none) (fun _ _ _ => none) (fun _ _ _ => none) (fun _ _ _ => none) (fun _ _ _ => none) (fun _ _ _ => none) (fun _ _ _ => none) (fun _ _ _ => none)
    (fun _ m n => some (.bool (.bool (eqI m n)), [])) (fun _ m n => some (.bool (.bool (notB (eqI m n))), [])) (fun _ m n => some (.bool (.bool (ltI m n)), [])) (fun _ m n => some (.bool (.bool (leI m n)), []))
    (fun _ m n => some (.bool (.bool (ltI n m)), [])) (fun _ m n => some (.bool (.bool (leI n m)), [])) op k m n
noncomputable def noBad (o : Option V) : Option V := Option.rec (motive := fun _ => Option V) none (fun v => Bool.rec (motive := fun _ => Option V) (some v) none (V.isBad v)) o
noncomputable def opvF (F : Fr) (x : Operand) : Option V := Operand.rec (motive := fun _ => Fr → Option V) (fun t F => noBad (F.getF t)) (fun v _ => ofValue v) (fun _ _ => none) (fun f _ => some (.fn (.func f) [] [])) x F
def bitI (op : BinOp) (k : IntKind) (m n : Int) : Option Int :=
  let a := BitVec.ofInt k.bits m
  let b := BitVec.ofInt k.bits n
  match op with
  | .and => some (k.wrap (a &&& b).toNat)
  | .or => some (k.wrap (a ||| b).toNat)
  | .xor => some (k.wrap (a ^^^ b).toNat)
  | .andNot => some (k.wrap (a &&& ~~~b).toNat)
  | _ => none
def shiftI (op : BinOp) (k : IntKind) (m n : Int) : Option Int :=
  if n < 0 then none else
  let c := min n.toNat k.bits
  match op with
  | .shl => some (k.wrap (m * 2 ^ c))
  | .shr => some (m.fdiv (2 ^ c))
  | _ => none
def binV (P : Program) (op : BinOp) (t : TypeId) (x y : V) : Option (V × List T) :=
  match op, x, y with
  | .add, .int k a, .int k' b => if k = k' then some (.int k (mkAdd k a b).1, (mkAdd k a b).2) else none
  | .sub, .int k a, .int k' b => if k = k' then some (.int k (mkSub k a b).1, (mkSub k a b).2) else none
  | .mul, .int k a, .int k' b => if k = k' then some (.int k (mkMul k a b).1, (mkMul k a b).2) else none
  | .quo, .int k a, .int k' b => if k = k' then (mkQuo k a b).map fun r => (.int k r.1, r.2) else none
  | .rem, .int k a, .int k' b => if k = k' then (mkRem a b).map fun r => (.int k r.1, r.2) else none
  | .eql, .int k a, .int k' b => if k = k' then some (.bool (mkEq a b), []) else none
  | .neq, .int k a, .int k' b => if k = k' then some (.bool (mkNot (mkEq a b)), []) else none
  | .lss, .int k a, .int k' b => if k = k' then some (.bool (mkLt a b), []) else none
  | .leq, .int k a, .int k' b => if k = k' then some (.bool (mkLe a b), []) else none
  | .gtr, .int k a, .int k' b => if k = k' then some (.bool (mkLt b a), []) else none
  | .geq, .int k a, .int k' b => if k = k' then some (.bool (mkLe b a), []) else none
  | .and, .int k (.int a), .int k' (.int b) => if k = k' then (bitI .and k a b).map fun r => (.int k (.int r), []) else none
  | .or, .int k (.int a), .int k' (.int b) => if k = k' then (bitI .or k a b).map fun r => (.int k (.int r), []) else none
  | .xor, .int k (.int a), .int k' (.int b) => if k = k' then (bitI .xor k a b).map fun r => (.int k (.int r), []) else none
  | .andNot, .int k (.int a), .int k' (.int b) => if k = k' then (bitI .andNot k a b).map fun r => (.int k (.int r), []) else none
  | .shl, .int k (.int a), .int k' (.int b) => (shiftI .shl k a b).map fun r => (.int k (.int r), [])
  | .shr, .int k (.int a), .int k' (.int b) => (shiftI .shr k a b).map fun r => (.int k (.int r), [])
  | .eql, .str a, .str b => some (.bool (mkSeq a b), [])
  | .neq, .str a, .str b => some (.bool (mkNot (mkSeq a b)), [])
  | .lss, .str a, .str b => some (.bool (mkSlt a b), [])
  | .leq, .str a, .str b => some (.bool (mkOr (mkSlt a b) (mkSeq a b)), [])
  | .gtr, .str a, .str b => some (.bool (mkNot (mkOr (mkSlt a b) (mkSeq a b))), [])
  | .geq, .str a, .str b => some (.bool (mkNot (mkSlt a b)), [])
  | .add, .str a, .str b => some (.str (mkCat a b).1, (mkCat a b).2)
  | .eql, .agg l, .agg m => if P.eqGuardType P.depth t then none else (eqV P 10000 t (.agg l) (.agg m)).map fun r => (.bool r, [])
  | .neq, .agg l, .agg m => if P.eqGuardType P.depth t then none else (eqV P 10000 t (.agg l) (.agg m)).map fun r => (.bool (mkNot r), [])
  | .eql, .bool a, .bool b => (eqV P 10000 t (.bool a) (.bool b)).map fun r => (.bool r, [])
  | .neq, .bool a, .bool b => (eqV P 10000 t (.bool a) (.bool b)).map fun r => (.bool (mkNot r), [])
  | .eql, .nilp, .nilp => (eqV P 10000 t .nilp .nilp).map fun r => (.bool r, [])
  | .neq, .nilp, .nilp => (eqV P 10000 t .nilp .nilp).map fun r => (.bool (mkNot r), [])
  | .eql, .ptr i j, .nilp => (eqV P 10000 t (.ptr i j) .nilp).map fun r => (.bool r, [])
  | .neq, .ptr i j, .nilp => (eqV P 10000 t (.ptr i j) .nilp).map fun r => (.bool (mkNot r), [])
  | .eql, .ptr i j, .ptr i' j' => (eqV P 10000 t (.ptr i j) (.ptr i' j')).map fun r => (.bool r, [])
  | .neq, .ptr i j, .ptr i' j' => (eqV P 10000 t (.ptr i j) (.ptr i' j')).map fun r => (.bool (mkNot r), [])
  | .eql, .nils, .nils => (eqV P 10000 t .nils .nils).map fun r => (.bool r, [])
  | .neq, .nils, .nils => (eqV P 10000 t .nils .nils).map fun r => (.bool (mkNot r), [])
  | .eql, .sl i j n c, .nils => (eqV P 10000 t (.sl i j n c) .nils).map fun r => (.bool r, [])
  | .neq, .sl i j n c, .nils => (eqV P 10000 t (.sl i j n c) .nils).map fun r => (.bool (mkNot r), [])
  | .eql, .nilf, .nilf => (eqV P 10000 t .nilf .nilf).map fun r => (.bool r, [])
  | .neq, .nilf, .nilf => (eqV P 10000 t .nilf .nilf).map fun r => (.bool (mkNot r), [])
  | .eql, .fn f a b, .nilf => (eqV P 10000 t (.fn f a b) .nilf).map fun r => (.bool r, [])
  | .neq, .fn f a b, .nilf => (eqV P 10000 t (.fn f a b) .nilf).map fun r => (.bool (mkNot r), [])
  | _, _, _ => none
def boundV (x : Option V) (d y : Nat) : Option Nat :=
  match x with
  | none => some d
  | some v => (natLit v).bind fun n => if n ≤ y then some n else none
def sliceV (P : Program) (H : Hp) (t : TypeId) (x : V) (lo hi mx : Option V) : Option V :=
  match P.underlying t, x with
  | some (.slice e), .nils =>
    (szOf P e).bind fun z =>
    if mx.isSome && !hi.isSome then none else
    (boundV mx 0 0).bind fun m => (boundV hi 0 m).bind fun h => (boundV lo 0 h).map fun l => .nils
  | some (.slice e), .sl id off len (.is c) =>
    (szOf P e).bind fun z =>
    if mx.isSome && !hi.isSome then none else
    (boundV mx c c).bind fun m => (boundV hi len m).bind fun h => (boundV lo 0 h).map fun l =>
      .sl id (if m = l then off else off + l * z) (h - l) (.is (m - l))
  | some (.slice e), .sl id off len (.rest q) =>
    (szOf P e).bind fun z => (lookC H id).bind fun b =>
    if !b.spare || !(Nat.ble ((q + len) * b.sz) b.cells.length) then none else
    match mx, hi with
    | some m', some h' => (boundV (some m') len len).bind fun m => (boundV (some h') len m).bind fun h => (boundV lo 0 h).map fun l =>
      .sl id (if m = l then off else off + l * z) (h - l) (.is (m - l))
    | some _, none => none
    | none, hi => (boundV hi len len).bind fun h => (boundV lo 0 h).bind fun l =>
      if l = 0 then some (.sl id off h (.rest q))
      else if l < len then some (.sl id (off + l * z) (h - l) (.rest (q + l))) else none
  | some (.array n e), .ptr id off =>
    (szOf P e).bind fun z =>
    if mx.isSome && !hi.isSome then none else
    (boundV mx n n).bind fun m => (boundV hi n m).bind fun h => (boundV lo 0 h).map fun l =>
      .sl id (if m = l then off else off + l * z) (h - l) (.is (m - l))
  | some .string, .str (.str s) =>
    match mx with
    | some _ => none
    | none => (boundV hi s.size s.size).bind fun h => (boundV lo 0 h).map fun l => .str (.str (s.extract l h))
  | _, _ => none
def readRow (H : Hp) (id off n : Nat) : Option (List V) :=
  (lookC H id).bind fun b => if off + n ≤ b.cells.length then some ((b.cells.drop off).take n) else none
def boundT (x : Option V) (d : T) : Option T :=
  match x with
  | none => some d
  | some (.int _ t) => some t
  | _ => none
def sliceS (P : Program) (t : TypeId) (x : V) (lo hi mx : Option V) : Option (V × List T) :=
  match P.underlying t, x, mx with
  | some .string, .str s, none =>
    (boundT hi (mkLen s)).bind fun h => (boundT lo (.int 0)).map fun l => (.str (.ext s l h), [mkLe (.int 0) l, mkLe l h, mkLe h (mkLen s)])
  | _, _, _ => none
def byteOf : V → Option UInt8
  | .int .u8 (.int (.ofNat n)) => if n < 256 then some (UInt8.ofNat n) else none
  | _ => none
def bytesV (H : Hp) : V → Option T
  | .nils => some (.str ByteArray.empty)
  | .sl id off len _ => (readRow H id off len).bind fun l => (mapO byteOf l).map fun bs => .str ⟨bs.toArray⟩
  | _ => none
def lenV (P : Program) (t : TypeId) (x : V) : Option T :=
  match P.underlying t, x with
  | some .string, .str s => some (mkLen s)
  | some (.array n _), _ => some (.int n)
  | some (.slice _), .nils => some (.int 0)
  | some (.slice _), .sl _ _ n _ => some (.int n)
  | some (.slice _), .val i => bif Nat.beq (i % 2) 1 then some (.int 0) else none
  | some (.map ..), .nilm => some (.int 0)
  | some (.pointer a), _ => match P.underlying a with | some (.array n _) => some (.int n) | _ => none
  | _, _ => none
def capV (P : Program) (t : TypeId) (x : V) : Option T :=
  match P.underlying t, x with
  | some (.array n _), _ => some (.int n)
  | some (.slice _), .nils => some (.int 0)
  | some (.slice _), .sl _ _ _ (.is n) => some (.int n)
  | _, _ => none
def allOne (l : List V) : Bool := l.all V.one
def zeroCellsV (P : Program) (e : TypeId) (n : Nat) : Option (List V) :=
  (zeroV P e).bind fun z => if z.cells.length = 0 then none else some (List.replicate n z.cells).flatten
def maxBytes : Nat := 1099511627776
def minmaxV (mn : Bool) (x y : V) : Option V :=
  match x, y with
  | .int k a, .int k' b => if k = k' then some (.int k (if mn then mkIte (mkLt b a) b a else mkIte (mkLt a b) b a)) else none
  | _, _ => none
def minO : Option Int → Option Int → Option Int
  | some a, some b => some (if a ≤ b then a else b)
  | some a, none => some a
  | none, b => b
def maxO : Option Int → Option Int → Option Int
  | some a, some b => some (if a ≤ b then b else a)
  | some a, none => some a
  | none, b => b
def hiF (f : T → Option Int) (t : T) : List T → Option Int
  | [] => none
  | p :: pc =>
    let r := hiF f t pc
    match p with
    | .le x (.int n) => if x = t then minO (some n) r else r
    | .le x y => if x = t then minO (f y) r else r
    | .not (.le (.int n) x) => if x = t then minO (some (n - 1)) r else r
    | .not (.le y x) => if x = t then minO ((f y).map (· - 1)) r else r
    | .eq x (.int n) => if x = t then minO (some n) r else r
    | .not (.eq x (.int n)) => if x = t then (if r = some n then some (n - 1) else r) else r
    | _ => r
def loF (f : T → Option Int) (t : T) : List T → Option Int
  | [] => none
  | p :: pc =>
    let r := loF f t pc
    match p with
    | .le (.int n) x => if x = t then maxO (some n) r else r
    | .le y x => if x = t then maxO (f y) r else r
    | .not (.le x (.int n)) => if x = t then maxO (some (n + 1)) r else r
    | .not (.le x y) => if x = t then maxO ((f y).map (· + 1)) r else r
    | .eq x (.int n) => if x = t then maxO (some n) r else r
    | .not (.eq x (.int n)) => if x = t then (if r = some n then some (n + 1) else r) else r
    | _ => r
def add2 : Option Int → Option Int → Option Int
  | some a, some b => some (a + b)
  | _, _ => none
def sub2 : Option Int → Option Int → Option Int
  | some a, some b => some (a - b)
  | _, _ => none
def min2 : Option Int → Option Int → Option Int
  | some a, some b => some (if a ≤ b then a else b)
  | _, _ => none
def max2 : Option Int → Option Int → Option Int
  | some a, some b => some (if a ≤ b then b else a)
  | _, _ => none
def mulHi : Option Int → Option Int → Option Int → Option Int → Option Int
  | some x, some y, some u, some v => if 0 ≤ u ∧ 0 ≤ v then some (x * y) else none
  | _, _, _, _ => none
def mulLo : Option Int → Option Int → Option Int
  | some u, some v => if 0 ≤ u ∧ 0 ≤ v then some (u * v) else none
  | _, _ => none
def remHi : T → Option Int
  | .int n => if 0 < n then some (n - 1) else none
  | _ => none
def remLo (o : Option Int) : T → Option Int
  | .int n => if 0 < n then (match o with | some x => if 0 ≤ x then some 0 else some (1 - n) | none => some (1 - n)) else none
  | _ => none
def quoB (o : Option Int) : T → Option Int
  | .int n => if 0 < n then o.map (·.tdiv n) else none
  | _ => none
def relLo (pc : List T) (a b : T) : Option Int := if pc.contains (.le b a) then some 0 else none
mutual
def hiB (pc : List T) : Nat → T → Option Int
  | _, .int n => some n
  | 0, _ => none
  | k + 1, .add a b => minO (add2 (hiB pc k a) (hiB pc k b)) (hiF (hiB pc k) (.add a b) pc)
  | k + 1, .sub a b => minO (sub2 (hiB pc k a) (loB pc k b)) (hiF (hiB pc k) (.sub a b) pc)
  | k + 1, .ite c a b => minO (max2 (hiB pc k a) (hiB pc k b)) (hiF (hiB pc k) (.ite c a b) pc)
  | k + 1, .mul a b => minO (mulHi (hiB pc k a) (hiB pc k b) (loB pc k a) (loB pc k b)) (hiF (hiB pc k) (.mul a b) pc)
  | k + 1, .rem a b => minO (remHi b) (hiF (hiB pc k) (.rem a b) pc)
  | k + 1, .quo a b => minO (quoB (hiB pc k a) b) (hiF (hiB pc k) (.quo a b) pc)
  | k + 1, .byte s i => minO (some 255) (hiF (hiB pc k) (.byte s i) pc)
  | k + 1, .wrap q a => minO (some q.max) (hiF (hiB pc k) (.wrap q a) pc)
  | k + 1, t => hiF (hiB pc k) t pc
def loB (pc : List T) : Nat → T → Option Int
  | _, .int n => some n
  | 0, _ => none
  | k + 1, .add a b => maxO (add2 (loB pc k a) (loB pc k b)) (loF (loB pc k) (.add a b) pc)
  | k + 1, .sub a b => maxO (relLo pc a b) (maxO (sub2 (loB pc k a) (hiB pc k b)) (loF (loB pc k) (.sub a b) pc))
  | k + 1, .len s => maxO (some 0) (loF (loB pc k) (.len s) pc)
  | k + 1, .ite c a b => maxO (min2 (loB pc k a) (loB pc k b)) (loF (loB pc k) (.ite c a b) pc)
  | k + 1, .mul a b => maxO (mulLo (loB pc k a) (loB pc k b)) (loF (loB pc k) (.mul a b) pc)
  | k + 1, .rem a b => maxO (remLo (loB pc k a) b) (loF (loB pc k) (.rem a b) pc)
  | k + 1, .quo a b => maxO (quoB (loB pc k a) b) (loF (loB pc k) (.quo a b) pc)
  | k + 1, .byte s i => maxO (some 0) (loF (loB pc k) (.byte s i) pc)
  | k + 1, .wrap q a => maxO (some q.min) (loF (loB pc k) (.wrap q a) pc)
  | k + 1, t => loF (loB pc k) t pc
end
def leBnd (pc : List T) (a b : T) : Option Bool :=
  match sub2 (hiB pc 4 a) (loB pc 4 b) with
  | some d => if d ≤ 0 then some true else (match sub2 (loB pc 4 a) (hiB pc 4 b) with | some d => if 0 < d then some false else none | none => none)
  | none => match sub2 (loB pc 4 a) (hiB pc 4 b) with | some d => if 0 < d then some false else none | none => none
def eqBnd (pc : List T) (a b : T) : Option Bool :=
  match leBnd pc a b, leBnd pc b a with
  | some true, some true => some true
  | some false, _ => some false
  | _, some false => some false
  | _, _ => none
def fact1 (p t : T) : Option Bool :=
  match t with
  | .le (.int m) x =>
    match p with
    | .le (.int m') x' => if x' = x ∧ m ≤ m' then some true else none
    | .le x' (.int n) => if x' = x ∧ n < m then some false else none
    | .not (.le (.int m') x') => if x' = x ∧ m' ≤ m then some false else none
    | .not (.le x' (.int n)) => if x' = x ∧ m ≤ n + 1 then some true else none
    | .eq x' (.int n) => if x' = x then some (leB m n) else none
    | _ => none
  | .le x (.int n) =>
    match p with
    | .le (.int m) x' => if x' = x ∧ n < m then some false else none
    | .le x' (.int n') => if x' = x ∧ n' ≤ n then some true else none
    | .not (.le (.int m) x') => if x' = x ∧ m ≤ n + 1 then some true else none
    | .not (.le x' (.int n')) => if x' = x ∧ n ≤ n' then some false else none
    | .eq x' (.int m) => if x' = x then some (leB m n) else none
    | _ => none
  | .eq x (.int n) =>
    match p with
    | .le (.int m) x' => if x' = x ∧ n < m then some false else none
    | .le x' (.int m) => if x' = x ∧ m < n then some false else none
    | .not (.le (.int m) x') => if x' = x ∧ m ≤ n then some false else none
    | .not (.le x' (.int m)) => if x' = x ∧ n ≤ m then some false else none
    | .eq x' (.int m) => if x' = x then some (eqB m n) else none
    | _ => none
  | _ => none
def facts (t : T) : List T → Option Bool
  | [] => none
  | p :: pc => match fact1 p t with | some b => some b | none => facts t pc
def pcDec (pc : List T) (t : T) : Option Bool :=
  match t with
  | .bool b => some b
  | .not u => if pc.contains (.not u) then some true else if pc.contains u then some false else (facts u pc).map (!·)
  | t => if pc.contains t then some true else if pc.contains (.not t) then some false else facts t pc
def decT (pc : List T) : T → Option Bool
  | .and a b => match decT pc a, decT pc b with
    | some false, _ => some false
    | _, some false => some false
    | some true, some true => some true
    | _, _ => pcDec pc (.and a b)
  | .or a b => match decT pc a, decT pc b with
    | some true, _ => some true
    | _, some true => some true
    | some false, some false => some false
    | _, _ => pcDec pc (.or a b)
  | .not a => match decT pc a with
    | some b => some (!b)
    | none => pcDec pc (.not a)
  | .le a b => match pcDec pc (.le a b) with
    | some r => some r
    | none => leBnd pc a b
  | .eq a b => match pcDec pc (.eq a b) with
    | some r => some r
    | none => eqBnd pc a b
  | t => pcDec pc t
def againT (pc : List T) (t : T) : T := match decT pc t with
  | some b => .bool b
  | none => t
mutual
def simI (pc : List T) : T → T
  | .ite c a b => match decT pc c with
    | some true => simI pc a
    | some false => simI pc b
    | none => mkIte (simB pc c) (simI pc a) (simI pc b)
  | .add a b => .add (simI pc a) (simI pc b)
  | .sub a b => .sub (simI pc a) (simI pc b)
  | .fni f as => .fni f (simA pc as)
  | t => t
def simB (pc : List T) : T → T
  | .ite c a b => match decT pc c with
    | some true => simB pc a
    | some false => simB pc b
    | none => againT pc (mkIteB (simB pc c) (simB pc a) (simB pc b))
  | .le a b => match decT pc (.le a b) with
    | some r => .bool r
    | none => againT pc (mkLe (simI pc a) (simI pc b))
  | .eq a b => match decT pc (.eq a b) with
    | some r => .bool r
    | none => againT pc (mkEq (simI pc a) (simI pc b))
  | .and a b => match decT pc (.and a b) with
    | some r => .bool r
    | none => againT pc (mkAnd (simB pc a) (simB pc b))
  | .or a b => match decT pc (.or a b) with
    | some r => .bool r
    | none => againT pc (mkOr (simB pc a) (simB pc b))
  | .not a => match decT pc (.not a) with
    | some r => .bool r
    | none => againT pc (mkNot (simB pc a))
  | t => againT pc t
def simA (pc : List T) : T → T
  | .cons a as => .cons (simI pc a) (simA pc as)
  | t => t
end
def decG (pc : List T) (t : T) : Option Bool := match simB pc t with
  | .bool b => some b
  | _ => none
def leaves : T → List T
  | .and a b => leaves a ++ leaves b
  | t => [t]
def parts : T → List T
  | .and a b => leaves a ++ leaves b
  | .not (.or a b) => [mkNot a, mkNot b]
  | _ => []
mutual
def simV (pc : List T) : V → V
  | .int k t => .int k (simI pc t)
  | .bool t => .bool (simB pc t)
  | .agg l => .agg (simL pc l)
  | .tup l => .tup (simL pc l)
  | v => v
def simL (pc : List T) : List V → List V
  | [] => []
  | v :: l => simV pc v :: simL pc l
end
def pickV (pc : List T) (t : T) (x y : Option V) : Option V :=
  match decG pc t with
  | some true => x
  | some false => y
  | none =>
    match x, y with
    | some (.bool x), some (.bool y) => some (.bool (.ite t x y))
    | some (.int k x), some (.int k' y) => if k = k' then some (.int k (.ite t x y)) else none
    | _, _ => none
def partsV (F : Fr) (parts : Array (Nat × Operand)) : Option (List (Nat × V)) :=
  mapO (fun (q : Nat × Operand) => (opv F q.2).map fun v => (q.1, v)) parts.toList
def buildV (P : Program) (F : Fr) (t : TypeId) (parts : Array (Nat × Operand)) : Option V :=
  (zeroV P t).bind fun z => (partsV F parts).bind fun ps =>
  match P.underlying t with
  | some (.struct fs) => (mapO (fun (f : Field) => (szOf P f.type).map fun s => (f.offset, s)) fs.toList).bind fun pl => (fillV (fun i => pl[i]?) z.cells ps).map .agg
  | some (.array _ e) => (szOf P e).bind fun s => (fillV (fun i => some (i * s, s)) z.cells ps).map .agg
  | _ => none
def optV (F : Fr) : Option Operand → Option (Option V)
  | none => some none
  | some a => (opv F a).map some
def convT (pc : List T) (k : IntKind) : T → T
  | .int m => .int (k.wrap m)
  | a => match decT pc (T.inR k a) with
    | some true => a
    | _ => .wrap k a
def extV (P : Program) (g : FuncId) (as : List V) : Option V :=
  match P.funcs[g]? with
  | some fn =>
    if fn.body.isNone && fn.origin == "" then
      match as with
      | [.str s, .int .u8 c] =>
        if fn.name == "internal/bytealg.CountString" then some (.int .i64 (mkCnt s c))
        else if fn.name == "internal/bytealg.IndexByteString" then some (.int .i64 (mkIdx s c)) else none
      | [.str s, .str t] => if fn.name == "internal/bytealg.abigen_runtime_cmpstring" then some (.int .i64 (mkCmp s t)) else none
      | [.ptr i o] => if fn.name == "internal/abi.NoEscape" then some (.ptr i o) else none
      | _ => none
    else none
  | none => none
def sdataV (H : Hp) : V → Option V
  | .nils => some .nilp
  | .sl id off _ (.is c) => if c = 0 then none else some (.ptr id off)
  | .sl id off n (.rest q) => (lookC H id).bind fun b => if b.spare = true ∧ 0 < n ∧ (q + n) * b.sz ≤ b.cells.length then some (.ptr id off) else none
  | _ => none
mutual
def V.eqb : V → V → Bool
  | .int k t, .int k' t' => decide (k = k') && decide (t = t')
  | .bool t, .bool t' => decide (t = t')
  | .str t, .str t' => decide (t = t')
  | .nilp, .nilp => true
  | .ptr i o, .ptr i' o' => Nat.beq i i' && Nat.beq o o'
  | .nils, .nils => true
  | .sl i o n c, .sl i' o' n' c' => Nat.beq i i' && Nat.beq o o' && Nat.beq n n' && decide (c = c')
  | .nilf, .nilf => true
  | .agg l, .agg m => V.eqbL l m
  | .tup l, .tup m => V.eqbL l m
  | .nili, .nili => true
  | .nilm, .nilm => true
  | .nilc, .nilc => true
  | .val i, .val j => Nat.beq i j
  | .mp i, .mp j => Nat.beq i j
  | _, _ => false
def V.eqbL : List V → List V → Bool
  | [], [] => true
  | v :: l, u :: m => V.eqb v u && V.eqbL l m
  | _, _ => false
end
def V.litB : V → Bool
  | .int _ (.int _) => true
  | .bool (.bool _) => true
  | .str (.str _) => true
  | _ => false
def keyB (P : Program) (kt : TypeId) (k : V) : Bool :=
  match P.underlying kt, k with
  | some (.int _), .int _ (.int _) => true
  | some .bool, .bool (.bool _) => true
  | some .string, .str (.str _) => true
  | some (.struct fs), .agg l => l.all V.litB && fs.toList.all fun f => match P.underlying f.type, partV P f.type l f.offset with
    | some (.int _), some (.int _ (.int _)) => true
    | some .bool, some (.bool (.bool _)) => true
    | some .string, some (.str (.str _)) => true
    | _, _ => false
  | _, _ => false
def findM (P : Program) (kt : TypeId) (k : V) : List V → Nat → Option (Option (Nat × V))
  | k' :: v' :: l, i => match eqV P 10000 kt k k' with
    | some (.bool true) => some (some (i, v'))
    | some (.bool false) => findM P kt k l (i + 1)
    | _ => none
  | [], _ => some none
  | [_], _ => none
def inM (P : Program) (kt : TypeId) (x k : V) (H : Hp) : Option (Option (Nat × V)) := match x with
  | .nilm => some none
  | .mp id => (lookM H id).bind fun b => findM P kt k b.cells 0
  | _ => none
def lenM (P : Program) (t : TypeId) (x : V) (H : Hp) : Option T := match x with
  | .mp id => match P.underlying t with
    | some (.map ..) => (lookM H id).map fun b => .int (b.cells.length / 2 : Nat)
    | _ => none
  | x => lenV P t x
def lookupV (P : Program) (t : TypeId) (x k : V) (co : Bool) (H : Hp) : Option V :=
  match P.underlying t with
  | some (.map kt et) =>
    if keyB P kt k then
      match inM P kt x k H with
      | some (some (_, v)) => some (if co then .tup [v, .bool (.bool true)] else v)
      | some none => (zeroV P et).map fun z => if co then .tup [z, .bool (.bool false)] else z
      | none => none
    else none
  | _ => none
def updV (P : Program) (t : TypeId) (x k v : V) (H : Hp) (nx : Nat) : Option (V × Hp × Nat) :=
  match P.underlying t, x with
  | some (.map kt _), .mp id =>
    if keyB P kt k then (lookM H id).bind fun b => if b.ro then none else
      match findM P kt k b.cells 0 with
      | some (some (i, _)) => (b.cells[2 * i]?).bind fun k' => if V.eqb k' k then some (.undef, upd H id { b with cells := b.cells.set (2 * i + 1) v }, nx) else none
      | some none => some (.undef, upd H id { b with cells := b.cells ++ [k, v] }, nx)
      | none => none
    else none
  | _, _ => none
def evp (P : Program) (pc : List T) (F : Fr) (H : Hp) : Op → Option (V × List T)
  | .move x | .assign x => (opv F x).map fun v => (v, [])
  | .pick c a b =>
    match opv F c with
    | some (.bool t) => (pickV pc t (opv F a) (opv F b)).map fun v => (v, [])
    | _ => none
  | .build t parts => (buildV P F t parts).map fun v => (v, [])
  | .load t a =>
    match opv F a with
    | some (.ptr id off) => (lookC H id).bind fun b => (partV P t b.cells off).map fun v => (v, [])
    | _ => none
  | .nilCheck x =>
    match opv F x with
    | some (.ptr i o) => some (.ptr i o, [])
    | some (.fn (.func f) a b) => some (.fn (.func f) a b, [])
    | _ => none
  | .binOp op t x y _ => (opv F x).bind fun a => (opv F y).bind fun b => binV P op t a b
  | .unOp op _ x =>
    match op, opv F x with
    | .not, some (.bool t) => some (.bool (mkNot t), [])
    | .neg, some (.int k a) => some (.int k (mkSub k (.int 0) a).1, (mkSub k (.int 0) a).2)
    | _, _ => none
  | .convert s d x =>
    match P.underlying s, P.underlying d, opv F x with
    | some (.int _), some (.int k), some (.int _ a) => some (.int k (convT pc k a), [])
    | some .string, some .string, some (.str a) => some (.str a, [])
    | some (.pointer t), some .unsafePointer, some (.ptr id off) => (lookC H id).bind fun b => (szOf P t).bind fun z => if z ≠ 0 ∧ off < b.cells.length then some (.ptr id off, []) else none
    | some .unsafePointer, some (.pointer u), some (.ptr id off) => (lookC H id).bind fun b => (szOf P u).bind fun z => if z ≠ 0 ∧ off = 0 ∧ b.ty = u ∧ z ≤ b.cells.length then some (.ptr id off, []) else none
    | some (.slice e), some .string, some v => match P.underlying e with
      | some (.int .u8) => (bytesV H v).map fun t => (.str t, [])
      | _ => none
    | _, _, _ => none
  | .makeFunc f first cap => (mapO (opv F) first.toList).bind fun a => (mapO (opv F) cap.toList).map fun b => (.fn f a b, [])
  | .slice t x lo hi mx =>
    (opv F x).bind fun v => (optV F lo).bind fun l => (optV F hi).bind fun h => (optV F mx).bind fun m => match sliceV P H t v l h m with | some v => some (v, []) | none => sliceS P t v l h m
  | .fieldAddr s x f =>
    match P.underlying s, opv F x with
    | some (.struct fs), some (.ptr id off) => (fs[f]?).bind fun fd => (szOf P fd.type).bind fun z => if z = 0 then none else some (.ptr id (off + fd.offset), [])
    | _, _ => none
  | .field t x f =>
    match P.underlying t, opv F x with
    | some (.struct fs), some (.agg l) => (fs[f]?).bind fun fd => (partV P fd.type l fd.offset).map fun v => (v, [])
    | _, _ => none
  | .indexAddr t x ix =>
    match P.underlying t, opv F x, (opv F ix).bind natLit with
    | some (.slice e), some (.sl id off len _), some i => (szOf P e).bind fun z => if i < len then some (.ptr id (off + i * z), []) else none
    | some (.array n e), some (.ptr id off), some i => (szOf P e).bind fun z => if i < n then some (.ptr id (off + i * z), []) else none
    | _, _, _ => none
  | .index t x ix =>
    match P.underlying t, opv F x, opv F ix with
    | some (.array n e), some (.agg l), some j => (natLit j).bind fun i => (szOf P e).bind fun z => if i < n then (partV P e l (i * z)).map fun v => (v, []) else none
    | some .string, some (.str (.str s)), some (.int _ (.int (.ofNat i))) => (s.data.toList[i]?).map fun b => (.int .u8 (.int b.toNat), [])
    | some .string, some (.str s), some (.int _ i) => some (.int .u8 (.byte s i), [mkLe (.int 0) i, mkNot (mkLe (mkLen s) i)])
    | _, _, _ => none
  | .extract x i =>
    match opv F x with
    | some (.tup l) => (l[i]?).map fun v => (v, [])
    | _ => none
  | .lookup t x k co => (opv F x).bind fun m => (opv F k).bind fun i => (lookupV P t m i co H).map fun v => (v, [])
  | .call { callee := .builtin b, args, argTypes } =>
    match b, args.toList, argTypes.toList with
    | .len, [x], [t] => (opv F x).bind fun v => (lenM P t v H).map fun n => (.int .i64 n, [])
    | .cap, [x], [t] => (opv F x).bind fun v => (capV P t v).map fun n => (.int .i64 n, [])
    | .min, [x, y], _ => (opv F x).bind fun a => (opv F y).bind fun b => (minmaxV true a b).map fun v => (v, [])
    | .max, [x, y], _ => (opv F x).bind fun a => (opv F y).bind fun b => (minmaxV false a b).map fun v => (v, [])
    | .unsafeSliceData, [x], _ => (opv F x).bind fun v => (sdataV H v).map fun v => (v, [])
    | _, _, _ => none
  | .call { callee := .value f, args, argTypes := _ } =>
    match opv F f with
    | some (.fn (.func g) [] []) => (mapO (opv F) args.toList).bind fun as => (extV P g as).map fun v => (v, [])
    | _ => none
  | _ => none
abbrev MR := V × Hp × Nat
def srcV (P : Program) (t u : TypeId) (z : Nat) (H : Hp) : V → Option (List V × Nat)
  | .nils => if t = u then some ([], 0) else none
  | .sl xid xoff m _ => if t = u then if m = 0 then some ([], 0) else (readRow H xid xoff (m * z)).map fun l => (l, m) else none
  | .str (.str s) => match P.underlying u with
    | some .string => if z = 1 then some (s.data.toList.map fun c => .int .u8 (.int c.toNat), s.data.toList.length) else none
    | _ => none
  | _ => none
def appendV (P : Program) (t u : TypeId) (s x : V) (H : Hp) (nx : Nat) : Option MR :=
  match P.underlying t with
  | some (.slice e) =>
    (P.info? e).bind fun i => i.zero.bind fun zr =>
    let z := i.size
    (srcV P t u z H x).bind fun src =>
    let news := src.1
    let m := src.2
    if m = 0 then
      match s with
      | .nils => some (.nils, H, nx + 1)
      | .sl id off n (.is c) => if n ≤ c then some (.sl id off n (.is c), H, nx + 1) else none
      | .sl id off n (.rest 0) => (lookC H id).bind fun b => if b.spare = true ∧ n * b.sz ≤ b.cells.length then some (.sl id off n (.rest 0), H, nx + 1) else none
      | _ => none
    else
      if !(allOne news) || Nat.beq z 0 || !(Nat.beq zr.cells.size z) then none else
      match s with
      | .nils =>
        if m * i.bytes ≤ maxBytes ∧ m ≤ maxBytes then some (.sl nx 0 m (.rest 0), (nx, ⟨e, z, news, true, false⟩) :: H, nx + 1) else none
      | .sl id 0 n (.rest 0) =>
        (lookC H id).bind fun b =>
        if b.spare = true ∧ b.ty = e ∧ b.sz = z ∧ n * z ≤ b.cells.length ∧ (n + m) * i.bytes ≤ maxBytes ∧ n + m ≤ maxBytes ∧ b.ro = false then
          some (.sl nx 0 (n + m) (.rest 0), (nx, ⟨e, z, b.cells.take (n * z) ++ news, true, false⟩) :: del H id, nx + 1) else none
      | .sl id off n (.is c) =>
        (lookC H id).bind fun b =>
        if n + m ≤ c then
          if b.ty = e ∧ off = 0 ∧ n * z + news.length ≤ b.cells.length ∧ b.ro = false then some (.sl id 0 (n + m) (.is c), upd H id { b with cells := put1 b.cells (n * z) news }, nx + 1) else none
        else if (n + m) * i.bytes ≤ maxBytes ∧ n + m ≤ maxBytes ∧ off + n * z ≤ b.cells.length then
          some (.sl nx 0 (n + m) (.rest 0), (nx, ⟨e, z, (b.cells.drop off).take (n * z) ++ news, true, false⟩) :: H, nx + 1) else none
      | _ => none
  | _ => none
def copyV (P : Program) (t : TypeId) (d s : V) (H : Hp) (nx : Nat) : Option MR :=
  match P.underlying t with
  | some (.slice e) =>
    (P.info? e).bind fun i =>
    match d, s with
    | .sl id off n _, .sl xid xoff m _ =>
      if i.size = 1 then
        let k := Nat.min m n
        (readRow H xid xoff k).bind fun news => (lookC H id).bind fun b =>
        if off + k ≤ b.cells.length ∧ allOne news = true ∧ b.ro = false then some (.int .i64 (.int k), upd H id { b with cells := put1 b.cells off news }, nx) else none
      else none
    | .sl _ _ _ _, .nils => some (.int .i64 (.int 0), H, nx)
    | .nils, .nils => some (.int .i64 (.int 0), H, nx)
    | .nils, .sl _ _ _ _ => some (.int .i64 (.int 0), H, nx)
    | _, _ => none
  | _ => none
def clearV (P : Program) (t : TypeId) (x : V) (H : Hp) (nx : Nat) : Option MR :=
  match P.underlying t, x with
  | some (.slice _), .nils => some (.undef, H, nx)
  | some (.slice e), .sl id off n _ =>
    if n = 0 then some (.undef, H, nx) else
    (zeroV P e).bind fun z => (lookC H id).bind fun b =>
      if off + n * z.cells.length ≤ b.cells.length ∧ z.cells.length ≠ 0 ∧ allOne z.cells = true ∧ b.ro = false then some (.undef, upd H id { b with cells := put1 b.cells off (List.replicate n z.cells).flatten }, nx) else none
  | _, _ => none
def ustrV (P : Program) (pt : TypeId) (a n : V) (H : Hp) (nx : Nat) : Option MR :=
  match P.underlying pt, a, n with
  | some (.pointer e), .ptr id 0, .int .i64 (.int (.ofNat k)) =>
    (lookC H id).bind fun b => (mapO byteOf (b.cells.take k)).bind fun bs =>
    if b.ty = e ∧ szOf P e = some 1 ∧ k ≤ b.cells.length ∧ 0 < k ∧ k ≤ maxBytes ∧ b.ro = false then some (.str (.str ⟨bs.toArray⟩), del H id, nx) else none
  | some (.pointer _), .nilp, .int .i64 (.int (.ofNat 0)) => some (.str (.str ByteArray.empty), H, nx)
  | _, _, _ => none
def evm (P : Program) (F : Fr) (H : Hp) (nx : Nat) : Op → Option MR
  | .alloc t => (zeroV P t).bind fun z => (szOf P t).bind fun s => some (.ptr nx 0, (nx, ⟨t, s, z.cells, false, false⟩) :: H, nx + 1)
  | .box t x => (opv F x).bind fun v => (szOf P t).bind fun s => some (.ptr nx 0, (nx, ⟨t, s, v.cells, false, false⟩) :: H, nx + 1)
  | .buildSlice t len parts =>
    match P.underlying t with
    | some (.slice e) =>
      (szOf P e).bind fun s => (partsV F parts).bind fun ps =>
      if len * s > 16777216 ∨ s = 0 then none else
      (zeroV P e).bind fun z => if z.cells.length = s then
        (fillV (fun i => some (i * s, s)) (List.replicate len z.cells).flatten ps).bind fun l =>
          some (.sl nx 0 len (.is len), (nx, ⟨e, s, l, false, false⟩) :: H, nx + 1)
        else none
    | _ => none
  | .store t a x =>
    match opv F a with
    | some (.ptr id off) => (lookC H id).bind fun b => (opv F x).bind fun v => (szOf P t).bind fun s =>
      if v.cells.length = s ∧ off + s ≤ b.cells.length ∧ allOne v.cells = true ∧ b.ro = false then some (.undef, upd H id { b with cells := put1 b.cells off v.cells }, nx) else none
    | _ => none
  | .makeSlice t l c =>
    match P.underlying t, (opv F l).bind natLit, (opv F c).bind natLit with
    | some (.slice e), some ln, some cp => (P.info? e).bind fun i => (zeroV P e).bind fun z =>
      if ln ≤ cp ∧ cp * i.bytes ≤ maxBytes ∧ cp ≤ maxBytes ∧ z.cells.length = i.size ∧ 0 < i.size then some (.sl nx 0 ln (.is cp), (nx, ⟨e, i.size, (List.replicate cp z.cells).flatten, false, false⟩) :: H, nx + 1) else none
    | _, _, _ => none
  | .makeMap t r =>
    match r with
    | none => some (.mp nx, (nx, ⟨0, 0, [], true, false⟩) :: H, nx + 1)
    | some r => match P.underlying t, (opv F r).bind intLit with
      | some (.map ..), some _ => some (.mp nx, (nx, ⟨0, 0, [], true, false⟩) :: H, nx + 1)
      | _, _ => none
  | .mapUpdate t m k x => (opv F m).bind fun m => (opv F k).bind fun k => (opv F x).bind fun x => updV P t m k x H nx
  | .call { callee := .builtin .append, args, argTypes } =>
    match args.toList, argTypes.toList with
    | [s, x], [t, u] => (opv F s).bind fun a => (opv F x).bind fun b => appendV P t u a b H nx
    | _, _ => none
  | .call { callee := .builtin .copy, args, argTypes } =>
    match args.toList, argTypes.toList with
    | [d, s], [t, u] => (opv F d).bind fun a => (opv F s).bind fun b => copyV P t a b H nx
    | _, _ => none
  | .call { callee := .builtin .clear, args, argTypes } =>
    match args.toList, argTypes.toList with
    | [x], [t] => (opv F x).bind fun a => clearV P t a H nx
    | _, _ => none
  | .call { callee := .builtin .unsafeString, args, argTypes } =>
    match args.toList, argTypes.toList with
    | [p, n], [pt, _] => (opv F p).bind fun a => (opv F n).bind fun b => ustrV P pt a b H nx
    | _, _ => none
  | _ => none
def evp0 (pc : List T) (F : Fr) (c a b : Operand) : Option (V × List T) :=
  match opv F c with
  | some (.bool t) => (pickV pc t (opv F a) (opv F b)).map fun v => (v, [])
  | _ => none
def evFA (P : Program) (s : TypeId) (f id off : Nat) : Option (V × List T) := match P.underlying s with
  | some (.struct fs) => (fs[f]?).bind fun fd => (szOf P fd.type).bind fun z => if z = 0 then none else some (.ptr id (off + fd.offset), [])
  | _ => none
def evFd (P : Program) (t : TypeId) (f : Nat) (l : List V) : Option (V × List T) := match P.underlying t with
  | some (.struct fs) => (fs[f]?).bind fun fd => (partV P fd.type l fd.offset).map fun v => (v, [])
  | _ => none
def evIA (P : Program) (t : TypeId) (x : V) (ix : Option Nat) : Option (V × List T) := match P.underlying t, x, ix with
  | some (.slice e), .sl id off len _, some i => (szOf P e).bind fun z => if i < len then some (.ptr id (off + i * z), []) else none
  | some (.array n e), .ptr id off, some i => (szOf P e).bind fun z => if i < n then some (.ptr id (off + i * z), []) else none
  | _, _, _ => none
def evCv (P : Program) (s d : TypeId) (_ : IntKind) (m : Int) : Option (V × List T) := match P.underlying s, P.underlying d with
  | some (.int _), some (.int k) => some (.int k (.int (k.wrap m)), [])
  | _, _ => none
def ikB (k k' : IntKind) : Bool := match k with
  | .i64 => (match k' with | .i64 => true | _ => false)
  | .u8 => (match k' with | .u8 => true | _ => false)
  | .u64 => (match k' with | .u64 => true | _ => false)
  | .i8 => (match k' with | .i8 => true | _ => false)
  | .i16 => (match k' with | .i16 => true | _ => false)
  | .i32 => (match k' with | .i32 => true | _ => false)
  | .u16 => (match k' with | .u16 => true | _ => false)
  | .u32 => (match k' with | .u32 => true | _ => false)
def iiV (f : IntKind → T → T → Option (V × List T)) (k : IntKind) (a : T) (y : V) : Option (V × List T) := match y with
  | .int k' b => (match ikB k k' with | true => f k a b | false => none)
  | _ => none
def cmV (f : T → T → T) (_ : IntKind) (a b : T) : Option (V × List T) := some (.bool (f a b), [])
def adV (k : IntKind) (a b : T) : Option (V × List T) := match mkAdd k a b with | (t, l) => some (.int k t, l)
def suV (k : IntKind) (a b : T) : Option (V × List T) := match mkSub k a b with | (t, l) => some (.int k t, l)
def muV (k : IntKind) (a b : T) : Option (V × List T) := match mkMul k a b with | (t, l) => some (.int k t, l)
def neT (a b : T) : T := mkNot (mkEq a b)
def gtT (a b : T) : T := mkLt b a
def geT (a b : T) : T := mkLe b a
def ssV (f : T → T → T) (a : T) (y : V) : Option (V × List T) := match y with
  | .str b => some (.bool (f a b), [])
  | _ => none
def nsT (a b : T) : T := mkNot (mkSeq a b)
def bAdd (P : Program) (t : TypeId) (x y : V) : Option (V × List T) := match x with
  | .int k a => iiV adV k a y
  | x => binV P .add t x y
def bSub (P : Program) (t : TypeId) (x y : V) : Option (V × List T) := match x with
  | .int k a => iiV suV k a y
  | _ => none
def bMul (P : Program) (t : TypeId) (x y : V) : Option (V × List T) := match x with
  | .int k a => iiV muV k a y
  | _ => none
def bEql (P : Program) (t : TypeId) (x y : V) : Option (V × List T) := match x with
  | .int k a => iiV (cmV mkEq) k a y
  | .str a => ssV mkSeq a y
  | x => binV P .eql t x y
def bNeq (P : Program) (t : TypeId) (x y : V) : Option (V × List T) := match x with
  | .int k a => iiV (cmV neT) k a y
  | .str a => ssV nsT a y
  | x => binV P .neq t x y
def bLss (P : Program) (t : TypeId) (x y : V) : Option (V × List T) := match x with
  | .int k a => iiV (cmV mkLt) k a y
  | x => binV P .lss t x y
def bLeq (P : Program) (t : TypeId) (x y : V) : Option (V × List T) := match x with
  | .int k a => iiV (cmV mkLe) k a y
  | x => binV P .leq t x y
def bGtr (P : Program) (t : TypeId) (x y : V) : Option (V × List T) := match x with
  | .int k a => iiV (cmV gtT) k a y
  | x => binV P .gtr t x y
def bGeq (P : Program) (t : TypeId) (x y : V) : Option (V × List T) := match x with
  | .int k a => iiV (cmV geT) k a y
  | x => binV P .geq t x y
def binVF (P : Program) (op : BinOp) (t : TypeId) (x y : V) : Option (V × List T) := match op with
  | .add => bAdd P t x y
  | .sub => bSub P t x y
  | .mul => bMul P t x y
  | .eql => bEql P t x y
  | .neq => bNeq P t x y
  | .lss => bLss P t x y
  | .leq => bLeq P t x y
  | .gtr => bGtr P t x y
  | .geq => bGeq P t x y
  | op => binV P op t x y
noncomputable def eMove (F : Fr) (x : Operand) : Option (V × List T) := Option.rec (motive := fun _ => Option (V × List T)) none (fun v => some (v, [])) (opvF F x)
def evOpt (o : Option V) : Option (V × List T) := match o with
  | some v => some (v, [])
  | none => none
noncomputable def ePick (pc : List T) (F : Fr) (c a b : Operand) : Option (V × List T) :=
  match (opvF F c).bind V.blit with
  | some true => evOpt (opvF F a)
  | some false => evOpt (opvF F b)
  | none => evp0 pc F c a b
noncomputable def partF (P : Program) (t : TypeId) (off : Nat) (b : Blk) : Option (V × List T) := match aggB P t with
  | some false => (match nthR b.cells off with | some v => (match V.oneF v with | true => some (v, []) | false => none) | none => none)
  | _ => evOpt (partV P t b.cells off)
noncomputable def eLoad (P : Program) (F : Fr) (H : Hp) (t : TypeId) (a : Operand) : Option (V × List T) :=
  match (opvF F a).bind V.ptr? with
  | some (id, off) => (match lookF H id with | some b => (match b.mp with | true => none | false => partF P t off b) | none => none)
  | none => none
noncomputable def binK (P : Program) (op : BinOp) (t : TypeId) (a b : V) (k k' : IntKind) (m n : Int) : Option (V × List T) := match ikB k k' with
  | true => (match litBin op k m n with | some r => some r | none => binVF P op t a b)
  | false => binVF P op t a b
noncomputable def binL (P : Program) (op : BinOp) (t : TypeId) (a b : V) : Option (V × List T) := match V.lit a with
  | some (k, m) => (match V.lit b with | some (k', n) => binK P op t a b k k' m n | none => binVF P op t a b)
  | none => binVF P op t a b
noncomputable def eBin (P : Program) (F : Fr) (op : BinOp) (t : TypeId) (x y : Operand) : Option (V × List T) :=
  match opvF F x with
  | some a => (match opvF F y with | some b => binL P op t a b | none => none)
  | none => none
noncomputable def eNot (F : Fr) (x : Operand) : Option (V × List T) := match (opvF F x).bind V.blit with
  | some b => some (.bool (.bool (notB b)), [])
  | none => (match opvF F x with
    | some (.bool t) => some (.bool (mkNot t), [])
    | _ => none)
noncomputable def eExtract (F : Fr) (x : Operand) (i : Nat) : Option (V × List T) := match (opvF F x).bind V.tup? with
  | some l => evOpt (nthR l i)
  | none => none
def faOff (P : Program) (s : TypeId) (f : Nat) : Option Nat := match P.underlying s with
  | some (.struct fs) => (fs[f]?).bind fun fd => (szOf P fd.type).bind fun z => if z = 0 then none else some fd.offset
  | _ => none
noncomputable def eFieldAddr (P : Program) (F : Fr) (s : TypeId) (x : Operand) (f : Nat) : Option (V × List T) := match (opvF F x).bind V.ptr? with
  | some (id, off) => (match faOff P s f with | some o => some (.ptr id (off + o), []) | none => none)
  | none => none
noncomputable def eField (P : Program) (F : Fr) (t : TypeId) (x : Operand) (f : Nat) : Option (V × List T) := match (opvF F x).bind V.agg? with
  | some l => evFd P t f l
  | none => none
noncomputable def eIndexAddr (P : Program) (F : Fr) (t : TypeId) (x ix : Operand) : Option (V × List T) := match opvF F x with
  | some v => (match opvF F ix with | some w => evIA P t v (natLit w) | none => none)
  | none => none
noncomputable def eNilCheck (F : Fr) (x : Operand) : Option (V × List T) := match (opvF F x).bind V.ptr? with
  | some (id, off) => some (.ptr id off, [])
  | none => (match opvF F x with
    | some (.fn (.func f) a b) => some (.fn (.func f) a b, [])
    | _ => none)
noncomputable def eConv (P : Program) (pc : List T) (F : Fr) (H : Hp) (s d : TypeId) (x : Operand) : Option (V × List T) := match (opvF F x).bind V.lit with
  | some (k, m) => evCv P s d k m
  | none => evp P pc F H (.convert s d x)
def eUn (P : Program) (pc : List T) (F : Fr) (H : Hp) (op : UnOp) (t : TypeId) (x : Operand) (n : Option (V × List T)) : Option (V × List T) := match op with
  | .not => n
  | op => evp P pc F H (.unOp op t x)
noncomputable def evpC (op : Op) : Program → List T → Fr → Hp → Option (V × List T) := Op.rec (motive := fun _ => Program → List T → Fr → Hp → Option (V × List T)) (fun x P pc F H => eMove F x)
  (fun x P pc F H => eMove F x)
  (fun c a b P pc F H => ePick pc F c a b)
  (fun x0 P pc F H => evp P pc F H (.alloc x0))
  (fun x0 x1 P pc F H => evp P pc F H (.box x0 x1))
  (fun x0 x1 P pc F H => evp P pc F H (.build x0 x1))
  (fun x0 x1 x2 P pc F H => evp P pc F H (.buildSlice x0 x1 x2))
  (fun x0 x1 x2 x3 P pc F H => evp P pc F H (.insert x0 x1 x2 x3))
  (fun t a P pc F H => eLoad P F H t a)
  (fun x0 x1 x2 P pc F H => evp P pc F H (.store x0 x1 x2))
  (fun x0 P pc F H => evp P pc F H (.ready x0))
  (fun x0 P pc F H => evp P pc F H (.waits x0))
  (fun x P pc F H => eNilCheck F x)
  (fun op t x y _ P pc F H => eBin P F op t x y)
  (fun op t x P pc F H => eUn P pc F H op t x (eNot F x))
  (fun s d x P pc F H => eConv P pc F H s d x)
  (fun x0 x1 P pc F H => evp P pc F H (.sliceToArrayPointer x0 x1))
  (fun x0 x1 P pc F H => evp P pc F H (.makeInterface x0 x1))
  (fun x0 x1 x2 P pc F H => evp P pc F H (.makeFunc x0 x1 x2))
  (fun x0 x1 P pc F H => evp P pc F H (.makeMap x0 x1))
  (fun x0 x1 P pc F H => evp P pc F H (.makeChan x0 x1))
  (fun x0 x1 x2 P pc F H => evp P pc F H (.makeSlice x0 x1 x2))
  (fun x0 x1 x2 x3 x4 P pc F H => evp P pc F H (.slice x0 x1 x2 x3 x4))
  (fun s x f P pc F H => eFieldAddr P F s x f)
  (fun t x f P pc F H => eField P F t x f)
  (fun t x ix P pc F H => eIndexAddr P F t x ix)
  (fun x0 x1 x2 P pc F H => evp P pc F H (.index x0 x1 x2))
  (fun x0 x1 x2 x3 P pc F H => evp P pc F H (.lookup x0 x1 x2 x3))
  (fun x0 x1 x2 x3 P pc F H => evp P pc F H (.mapUpdate x0 x1 x2 x3))
  (fun x0 x1 x2 P pc F H => evp P pc F H (.mapEntry x0 x1 x2))
  (fun x0 x1 x2 x3 P pc F H => evp P pc F H (.entryStore x0 x1 x2 x3))
  (fun x0 x1 P pc F H => evp P pc F H (.range x0 x1))
  (fun x0 x1 P pc F H => evp P pc F H (.next x0 x1))
  (fun x0 P pc F H => evp P pc F H (.entry x0))
  (fun x0 x1 x2 x3 P pc F H => evp P pc F H (.typeAssert x0 x1 x2 x3))
  (fun x i P pc F H => eExtract F x i)
  (fun x0 P pc F H => evp P pc F H (.call x0))
  (fun x0 P pc F H => evp P pc F H (.go x0))
  (fun x0 P pc F H => evp P pc F H (.defer x0))
  (fun x0 P pc F H => evp P pc F H (.panic x0))
  (fun x0 x1 P pc F H => evp P pc F H (.send x0 x1))
  (fun x0 x1 x2 P pc F H => evp P pc F H (.recv x0 x1 x2))
  (fun x0 x1 P pc F H => evp P pc F H (.select x0 x1)) op
noncomputable def evpF (P : Program) (pc : List T) (F : Fr) (H : Hp) (op : Op) : Option (V × List T) := evpC op P pc F H
structure OR where
  v : V
  H : Hp
  nx : Nat
  vc : List T
noncomputable def mStore (P : Program) (F : Fr) (H : Hp) (nx : Nat) (t : TypeId) (a x : Operand) : Option MR :=
  match opvF F a with
  | some (.ptr id off) => (lookC H id).bind fun b => (opvF F x).bind fun v => (szOf P t).bind fun s =>
    if v.cells.length = s ∧ off + s ≤ b.cells.length ∧ allOne v.cells = true ∧ b.ro = false then some (.undef, upd H id { b with cells := put1 b.cells off v.cells }, nx) else none
  | _ => none
noncomputable def mBox (P : Program) (F : Fr) (H : Hp) (nx : Nat) (t : TypeId) (x : Operand) : Option MR :=
  match opvF F x with
  | some v => (szOf P t).bind fun s => some (.ptr nx 0, (nx, ⟨t, s, v.cells, false, false⟩) :: H, nx + 1)
  | none => none
noncomputable def mApp (P : Program) (F : Fr) (H : Hp) (nx : Nat) (args : List Operand) (tys : List TypeId) : Option MR :=
  match args, tys with
  | [s, x], [t, u] => (opvF F s).bind fun a => (opvF F x).bind fun b => appendV P t u a b H nx
  | _, _ => none
noncomputable def mCall (P : Program) (F : Fr) (H : Hp) (nx : Nat) (c : Call) : Option MR := match c with
  | { callee := .builtin .append, args, argTypes } => mApp P F H nx args.toList argTypes.toList
  | c => evm P F H nx (.call c)
noncomputable def evmC (op : Op) : Program → Fr → Hp → Nat → Option MR := Op.rec (motive := fun _ => Program → Fr → Hp → Nat → Option MR) (fun x0 P F H nx => evm P F H nx (.move x0))
  (fun x0 P F H nx => evm P F H nx (.assign x0))
  (fun x0 x1 x2 P F H nx => evm P F H nx (.pick x0 x1 x2))
  (fun x0 P F H nx => evm P F H nx (.alloc x0))
  (fun t x P F H nx => mBox P F H nx t x)
  (fun x0 x1 P F H nx => evm P F H nx (.build x0 x1))
  (fun x0 x1 x2 P F H nx => evm P F H nx (.buildSlice x0 x1 x2))
  (fun x0 x1 x2 x3 P F H nx => evm P F H nx (.insert x0 x1 x2 x3))
  (fun x0 x1 P F H nx => evm P F H nx (.load x0 x1))
  (fun t a x P F H nx => mStore P F H nx t a x)
  (fun x0 P F H nx => evm P F H nx (.ready x0))
  (fun x0 P F H nx => evm P F H nx (.waits x0))
  (fun x0 P F H nx => evm P F H nx (.nilCheck x0))
  (fun x0 x1 x2 x3 x4 P F H nx => evm P F H nx (.binOp x0 x1 x2 x3 x4))
  (fun x0 x1 x2 P F H nx => evm P F H nx (.unOp x0 x1 x2))
  (fun x0 x1 x2 P F H nx => evm P F H nx (.convert x0 x1 x2))
  (fun x0 x1 P F H nx => evm P F H nx (.sliceToArrayPointer x0 x1))
  (fun x0 x1 P F H nx => evm P F H nx (.makeInterface x0 x1))
  (fun x0 x1 x2 P F H nx => evm P F H nx (.makeFunc x0 x1 x2))
  (fun x0 x1 P F H nx => evm P F H nx (.makeMap x0 x1))
  (fun x0 x1 P F H nx => evm P F H nx (.makeChan x0 x1))
  (fun x0 x1 x2 P F H nx => evm P F H nx (.makeSlice x0 x1 x2))
  (fun x0 x1 x2 x3 x4 P F H nx => evm P F H nx (.slice x0 x1 x2 x3 x4))
  (fun x0 x1 x2 P F H nx => evm P F H nx (.fieldAddr x0 x1 x2))
  (fun x0 x1 x2 P F H nx => evm P F H nx (.field x0 x1 x2))
  (fun x0 x1 x2 P F H nx => evm P F H nx (.indexAddr x0 x1 x2))
  (fun x0 x1 x2 P F H nx => evm P F H nx (.index x0 x1 x2))
  (fun x0 x1 x2 x3 P F H nx => evm P F H nx (.lookup x0 x1 x2 x3))
  (fun x0 x1 x2 x3 P F H nx => evm P F H nx (.mapUpdate x0 x1 x2 x3))
  (fun x0 x1 x2 P F H nx => evm P F H nx (.mapEntry x0 x1 x2))
  (fun x0 x1 x2 x3 P F H nx => evm P F H nx (.entryStore x0 x1 x2 x3))
  (fun x0 x1 P F H nx => evm P F H nx (.range x0 x1))
  (fun x0 x1 P F H nx => evm P F H nx (.next x0 x1))
  (fun x0 P F H nx => evm P F H nx (.entry x0))
  (fun x0 x1 x2 x3 P F H nx => evm P F H nx (.typeAssert x0 x1 x2 x3))
  (fun x0 x1 P F H nx => evm P F H nx (.extract x0 x1))
  (fun c P F H nx => mCall P F H nx c)
  (fun x0 P F H nx => evm P F H nx (.go x0))
  (fun x0 P F H nx => evm P F H nx (.defer x0))
  (fun x0 P F H nx => evm P F H nx (.panic x0))
  (fun x0 x1 P F H nx => evm P F H nx (.send x0 x1))
  (fun x0 x1 x2 P F H nx => evm P F H nx (.recv x0 x1 x2))
  (fun x0 x1 P F H nx => evm P F H nx (.select x0 x1)) op
noncomputable def evmF (P : Program) (F : Fr) (H : Hp) (nx : Nat) (op : Op) : Option MR := evmC op P F H nx
def orM (r : Option MR) : Option OR := match r with
  | some (v, H, nx) => some ⟨v, H, nx, []⟩
  | none => none
noncomputable def evo (P : Program) (pc : List T) (F : Fr) (H : Hp) (nx : Nat) (op : Op) : Option OR :=
  match evpF P pc F H op with
  | some (v, vc) => some ⟨v, H, nx, vc⟩
  | none => orM (evmF P F H nx op)
structure St where
  F : Fr
  H : Hp
  nx : Nat
  pc : List T
inductive Ex where
  | nrm | ext (id : Nat) | ret
  deriving DecidableEq
abbrev Vcs := List (List T × T)
abbrev Out := List (Ex × St) × Vcs
abbrev COut := List (V × St) × Vcs
def splitS (st : St) (t : T) (x y : St → Option Out) : Option Out :=
  match decT st.pc t with
  | some true => x st
  | some false => y st
  | none => (x { st with pc := t :: (parts t ++ st.pc) }).bind fun a => (y { st with pc := mkNot t :: (parts (mkNot t) ++ st.pc) }).map fun b => (a.1 ++ b.1, a.2 ++ b.2)
noncomputable def splitT (st : St) (t : T) (x y : St → Option Out) : Option Out := match T.bool? t with
  | some true => x st
  | some false => y st
  | none => splitS st (simB st.pc t) x y
def thenL (k : St → Option Out) : List (Ex × St) → Option Out
  | [] => some ([], [])
  | (.nrm, st) :: l => (k st).bind fun a => (thenL k l).map fun b => (a.1 ++ b.1, a.2 ++ b.2)
  | (e, st) :: l => (thenL k l).map fun b => ((e, st) :: b.1, b.2)
def thenM (k : St → Option Out) (l : List (Ex × St)) (vc : Vcs) : Option Out := (thenL k l).map fun b => (b.1, vc ++ b.2)
def then1 (k : St → Option Out) (e : Ex) (st : St) : Option Out := match e with
  | .nrm => k st
  | e => some ([(e, st)], [])
def thenO (o : Option Out) (k : St → Option Out) : Option Out := match o with
  | some ([(e, st)], []) => then1 k e st
  | some (l, vc) => thenM k l vc
  | none => none
def catchE (id : Nat) : Ex → Ex
  | .ext j => if Nat.beq j id then .nrm else .ext j
  | e => e
def eachL (k : V × St → Option Out) : List (V × St) → Option Out
  | [] => some ([], [])
  | [x] => k x
  | x :: l => (k x).bind fun a => (eachL k l).map fun b => (a.1 ++ b.1, a.2 ++ b.2)
noncomputable def setFF (F : Fr) (d : Option Tmp) (v : V) : Fr :=
  match d with
  | some d => F.setF d v
  | none => F
def setF (F : Fr) (d : Option Tmp) (v : V) : Fr :=
  match d with
  | some d => F.set d v
  | none => F
def findF : List (FuncId × Func) → FuncId → Option Func
  | [], _ => none
  | (g, fn) :: l, f => if Nat.beq g f then some fn else findF l f
noncomputable def calleeF (funs : List (FuncId × Func)) (F : Fr) (f : Operand) (args : List Operand) : Option (FuncId × List V) :=
  match opvF F f with
  | some (.fn (.func g) first cap) => (findF funs g).bind fun _ => (mapO (opvF F) args).map fun as => (g, first ++ as ++ cap)
  | _ => none
noncomputable def calleeOf (funs : List (FuncId × Func)) (F : Fr) (c : Call) : Option (FuncId × List V) :=
  match c.callee with
  | .value f => calleeF funs F f c.args.toList
  | _ => none
noncomputable def isCallC (op : Op) : List (FuncId × Func) → Fr → Option (FuncId × List V) := Op.rec (motive := fun _ => List (FuncId × Func) → Fr → Option (FuncId × List V)) (fun x0 funs F => none)
  (fun x0 funs F => none)
  (fun x0 x1 x2 funs F => none)
  (fun x0 funs F => none)
  (fun x0 x1 funs F => none)
  (fun x0 x1 funs F => none)
  (fun x0 x1 x2 funs F => none)
  (fun x0 x1 x2 x3 funs F => none)
  (fun x0 x1 funs F => none)
  (fun x0 x1 x2 funs F => none)
  (fun x0 funs F => none)
  (fun x0 funs F => none)
  (fun x0 funs F => none)
  (fun x0 x1 x2 x3 x4 funs F => none)
  (fun x0 x1 x2 funs F => none)
  (fun x0 x1 x2 funs F => none)
  (fun x0 x1 funs F => none)
  (fun x0 x1 funs F => none)
  (fun x0 x1 x2 funs F => none)
  (fun x0 x1 funs F => none)
  (fun x0 x1 funs F => none)
  (fun x0 x1 x2 funs F => none)
  (fun x0 x1 x2 x3 x4 funs F => none)
  (fun x0 x1 x2 funs F => none)
  (fun x0 x1 x2 funs F => none)
  (fun x0 x1 x2 funs F => none)
  (fun x0 x1 x2 funs F => none)
  (fun x0 x1 x2 x3 funs F => none)
  (fun x0 x1 x2 x3 funs F => none)
  (fun x0 x1 x2 funs F => none)
  (fun x0 x1 x2 x3 funs F => none)
  (fun x0 x1 funs F => none)
  (fun x0 x1 funs F => none)
  (fun x0 funs F => none)
  (fun x0 x1 x2 x3 funs F => none)
  (fun x0 x1 funs F => none)
  (fun c funs F => calleeOf funs F c)
  (fun x0 funs F => none)
  (fun x0 funs F => none)
  (fun x0 funs F => none)
  (fun x0 x1 funs F => none)
  (fun x0 x1 x2 funs F => none)
  (fun x0 x1 funs F => none) op
noncomputable def isCall (funs : List (FuncId × Func)) (F : Fr) (op : Op) : Option (FuncId × List V) := isCallC op funs F
def nonRo (H : Hp) : Hp := if H.all (fun e => !e.2.ro) then H else []
def callM1 (H : Hp) (x : V × St) : V × St := match x with
  | (v, ⟨F, H', nx, pc⟩) => (v, ⟨F, match V.plain v with | true => H | false => nonRo H' ++ H, nx, pc⟩)
def callM (call : FuncId → List V → St → Option COut) (g : FuncId × List V) (st : St) : Option COut := match g, st with
  | (f, as), ⟨F, H, nx, pc⟩ => match V.plainL as with
    | true => (match call f as ⟨F, [], nx, pc⟩ with | some (ls, vc) => some (ls.map (callM1 H), vc) | none => none)
    | false => call f as ⟨F, H, nx, pc⟩
def addVc (pc : List T) (vc : List T) (o : Out) : Out := match vc with
  | [] => o
  | vc => (o.1, (vc.filter fun t => decG pc t != some true).map (fun t => (pc, t)) ++ o.2)
noncomputable def evoK (k : St → Option Out) (d : Option Tmp) (F : Fr) (pc : List T) (r : OR) : Option Out := match r with
  | ⟨v, H, nx, vc⟩ => (match k ⟨setFF F d v, H, nx, pc⟩ with | some out => some (addVc pc vc out) | none => none)
noncomputable def callK (k : St → Option Out) (d : Option Tmp) (F : Fr) (x : V × St) : Option Out := match x with
  | (v, ⟨_, H, nx, pc⟩) => k ⟨setFF F d v, H, nx, pc⟩
def addVs (vc : Vcs) (o : Option Out) : Option Out := match vc with
  | [] => o
  | vc => o.map fun out => (out.1, vc ++ out.2)
noncomputable def callsK (k : St → Option Out) (d : Option Tmp) (F : Fr) (r : Option COut) : Option Out := match r with
  | some (ls, vc) => addVs vc (eachL (callK k d F) ls)
  | none => none
noncomputable def evosK (k : St → Option Out) (d : Option Tmp) (F : Fr) (pc : List T) (r : Option OR) : Option Out := match r with
  | some r => evoK k d F pc r
  | none => none
noncomputable def stepK (P : Program) (funs : List (FuncId × Func)) (call : FuncId → List V → St → Option COut) (o : Oper) (k : St → Option Out) (st : St) : Option Out := match st with
  | ⟨F, H, nx, pc⟩ => match isCall funs F o.op with
    | some g => callsK k o.dst F (callM call g ⟨F, H, nx, pc⟩)
    | none => evosK k o.dst F pc (evo P pc F H nx o.op)
noncomputable def skipK (d : Option Tmp) (k : St → Option Out) (st : St) : Option Out := match st with
  | ⟨F, H, nx, pc⟩ => k ⟨setFF F d .undef, H, nx, pc⟩
noncomputable def guardK (ops : Array Oper) (o : Oper) (go skp : St → Option Out) (st : St) : Option Out := match o.guard with
  | none => go st
  | some (j, want) =>
    match ((ops[j]?).bind (·.dst)).bind (fun d => st.F.getF d) with
    | some (.bool t) => if want then splitT st t go skp else splitT st t skp go
    | some (.tup []) => skp st
    | _ => none
noncomputable def runOps (P : Program) (funs : List (FuncId × Func)) (call : FuncId → List V → St → Option COut) (ops : Array Oper) : List Oper → St → Option Out
  | [], st => some ([(.nrm, st)], [])
  | o :: rest, st => guardK ops o (stepK P funs call o (runOps P funs call ops rest)) (skipK o.dst (runOps P funs call ops rest)) st
structure Rec where
  v : V
  wr : List (Nat × Option Blk)
  e : Nat
  deriving Inhabited
def Rec.wids (r : Rec) : List Nat := r.wr.map (·.1)
def putW : List (Nat × Option Blk) → Hp → Hp
  | [], H => H
  | (id, some b) :: l, H => (id, b) :: putW l H
  | (id, none) :: l, H => del (putW l H) id
def Rec.put (r : Rec) (H : Hp) : Hp := putW r.wr H
def Blk.eqb (b c : Blk) : Bool := Nat.beq b.ty c.ty && Nat.beq b.sz c.sz && (b.spare == c.spare) && (b.ro == c.ro) && V.eqbL b.cells c.cells
mutual
def V.inb (p : Nat → Bool) : V → Bool
  | .ptr i _ => p i
  | .sl i _ _ _ => p i
  | .mp i => p i
  | .fn _ a b => V.inbL p a && V.inbL p b
  | .agg l => V.inbL p l
  | .tup l => V.inbL p l
  | _ => true
def V.inbL (p : Nat → Bool) : List V → Bool
  | [] => true
  | v :: l => V.inb p v && V.inbL p l
end
def inP (kc : Nat) (H : Hp) (id : Nat) : Bool := Nat.ble kc id || (look H id).isSome
def callR (kc : Nat) (Hr : Hp) (x : V × St) (wr : List (Nat × Option Blk)) : Option Rec :=
  if V.inb (inP kc Hr) x.1 && wr.all (fun e => inP kc Hr e.1 && match e.2 with | some b => !b.ro && V.inbL (inP kc Hr) b.cells | none => true) && Nat.ble kc x.2.nx then some ⟨x.1, wr, x.2.nx⟩ else none
def chg (Hr H : Hp) (i : Nat) : Bool := match look Hr i, look H i with
  | some b, some c => !(b.eqb c)
  | _, _ => true
def diffH (Hr H : Hp) : List (Nat × Option Blk) :=
  ((H.filter fun e => chg Hr H e.1).map fun e => (e.1, some e.2)) ++
  Hr.filterMap fun e => if (look H e.1).isSome then none else some (e.1, none)
def mergeLs (n : Nat) : List (V × St) → Option V
  | [] => none
  | [x] => some x.1
  | x :: l =>
    let e := x.2.pc.take (x.2.pc.length - n)
    if l.all (fun y => contraB e (y.2.pc.take (y.2.pc.length - n))) then (mergeLs n l).bind fun u => iteV (andL e) x.1 u else none
def recCall (call : FuncId → List V → St → Option COut) (pc : List T) (kc : Nat) (g : FuncId × List V) (Hr : Hp) : Option (Rec × Vcs) :=
  match (match call g.1 g.2 ⟨⟨0, .lf⟩, if V.plainL g.2 then [] else roH Hr, kc, pc⟩ with
    | some (ls, vc) => (mergeLs pc.length ls).bind fun v => if V.plain v then some ((⟨v, [], kc⟩ : Rec), vc) else
        match ls with
        | [x] => (callR kc Hr x ((x.2.H.filter fun e => Nat.ble kc e.1).map fun e => (e.1, some e.2))).map fun r => (r, vc)
        | _ => none
    | none => none) with
  | some r => some r
  | none => match call g.1 g.2 ⟨⟨0, .lf⟩, Hr, kc, pc⟩ with
    | some ([x], vc) => (callR kc Hr x (diffH Hr x.2.H)).map fun r => (r, vc)
    | _ => none
def wrA (Hr : Hp) (s : V) (k : Nat) (H : Hp) : List (Nat × Option Blk) :=
  (match look H k with | some b => [(k, some b)] | none => []) ++
  match s with
  | .sl id _ _ _ => match look Hr id, look H id with
    | some b, some c => if b.eqb c then [] else [(id, some c)]
    | some _, none => [(id, none)]
    | none, _ => []
  | _ => []
noncomputable def recOp (P : Program) (pc : List T) (kc k : Nat) (op : Op) (F : Fr) (H : Hp) : Option (Rec × Vcs) :=
  match evpF P pc F H op with
  | some r => some (⟨r.1, [], kc⟩, (r.2.filter fun t => decG pc t != some true).map fun t => (pc, t))
  | none => match op with
    | .store t a x => match opvF F a with
      | some (.ptr id off) => (evmF P F H k (.store t a x)).bind fun r => (look r.2.1 id).map fun b => (⟨.undef, [(id, some b)], kc⟩, [])
      | _ => none
    | .alloc t => (evm P F H k (.alloc t)).bind fun r => r.2.1.head?.map fun e => (⟨r.1, [(e.1, some e.2)], kc⟩, [])
    | .box t x => (evmF P F H k (.box t x)).bind fun r => r.2.1.head?.map fun e => (⟨r.1, [(e.1, some e.2)], kc⟩, [])
    | .buildSlice t n ps => (evm P F H k (.buildSlice t n ps)).bind fun r => r.2.1.head?.map fun e => (⟨r.1, [(e.1, some e.2)], kc⟩, [])
    | .makeMap t r => (evm P F H k (.makeMap t r)).bind fun r => r.2.1.head?.map fun e => (⟨r.1, [(e.1, some e.2)], kc⟩, [])
    | .makeSlice t l c => (evm P F H k (.makeSlice t l c)).bind fun r => r.2.1.head?.map fun e => (⟨r.1, [(e.1, some e.2)], kc⟩, [])
    | .mapUpdate t m i x => match opvF F m with
      | some (.mp id) => (evm P F H k (.mapUpdate t m i x)).bind fun r => (look r.2.1 id).map fun b => (⟨.undef, [(id, some b)], kc⟩, [])
      | _ => none
    | .call { callee := .builtin .append, args, argTypes } =>
      match args.toList, argTypes.toList with
      | [s, x], [t, u] => (opvF F s).bind fun a => (opvF F x).bind fun b => if (look H k).isSome then none else (appendV P t u a b H k).map fun r => (⟨r.1, wrA H a k r.2.1, kc⟩, [])
      | _, _ => none
    | _ => none
noncomputable def recD (P : Program) (funs : List (FuncId × Func)) (call : FuncId → List V → St → Option COut) (ops : Array Oper) (pc : List T) (kc k : Nat) (o : Oper) (F : Fr) (H : Hp) : Option (Rec × Vcs) :=
  let go : Option (Rec × Vcs) :=
    match isCall funs F o.op with
    | some g => recCall call pc kc g H
    | none => recOp P pc kc k o.op F H
  match o.guard with
  | none => go
  | some (j, want) =>
    match ((ops[j]?).bind (·.dst)).bind (fun d => opvF F (.tmp d)) with
    | some (.bool t) => match decG pc t with
      | some b => if b = want then go else some (⟨.undef, [], kc⟩, [])
      | none => none
    | some (.tup []) => some (⟨.undef, [], kc⟩, [])
    | _ => none
noncomputable def badF (F : Fr) : List (Option Tmp) → Fr
  | [] => F
  | some d :: l => badF (F.setF d .bad) l
  | none :: l => badF F l
def delA (H : Hp) : List Nat → Hp
  | [] => H
  | i :: l => delA (del H i) l
def delL (H : Hp) : List (List Nat) → Hp
  | [] => H
  | is :: l => delL (delA H is) l
abbrev RecF := Nat → Nat → Oper → Fr → Hp → Option (Rec × Vcs)
noncomputable def wids1 (rc : RecF) : List Oper → Nat → Nat → Fr → Hp → Option (List (List Nat))
  | [], _, _, _, _ => some []
  | o :: l, i, kc, F, H => (rc i kc o F H).bind fun r => (wids1 rc l (i + 1) r.1.e (setFF F o.dst r.1.v) (r.1.put H)).map fun m => r.1.wids :: m
noncomputable def goD (rc : RecF) (un : Nat → List Nat) (dsts : List (Option Tmp)) (wids : List (List Nat)) : List Oper → Nat → Nat → Fr → Hp → Option (List Rec × Vcs × Fr × Hp × Nat)
  | [], _, kc, F, H => some ([], [], F, H, kc)
  | o :: l, i, kc, F, H =>
    (rc i kc o (badF F ((un i).map fun j => dsts.getD j none)) (delL H ((un i).map fun j => wids.getD j []))).bind fun r =>
    if r.1.wids = wids.getD i [] ∧ Nat.ble kc r.1.e = true ∧ ((un i).all fun j => (wids.getD j []).all fun id => !(r.1.wids.contains id)) = true then
      (goD rc un dsts wids l (i + 1) r.1.e (setFF F o.dst r.1.v) (r.1.put H)).map fun q => (r.1 :: q.1, r.2 ++ q.2.1, q.2.2)
    else none
def bitB (pre : List Nat) (i j : Nat) : Bool := (pre.getD i 0).testBit j
def orL (pre : List Nat) : List Edge → Nat → Nat
  | [], s => s
  | e :: l, s => if Region.binds .any e then orL pre l (s ||| 2 ^ e.on ||| pre.getD e.on 0) else orL pre l s
def closedB (ops : List Oper) (pre : List Nat) : Bool :=
  (ops.zipIdx).all fun q => (q.1.after.toList.all fun e => !(Region.binds .any e) || Nat.blt e.on q.2) && Nat.beq (pre.getD q.2 0) (orL pre q.1.after.toList 0)
def nodupB : List (Option Tmp) → Bool
  | [] => true
  | some d :: l => !(l.contains (some d)) && nodupB l
  | none :: l => nodupB l
def unord (pre : List Nat) (n i : Nat) : List Nat := (List.range n).filter fun j => if Nat.blt j i then !(bitB pre i j) else Nat.blt i j && !(bitB pre j i)
def isC : Op → Bool
  | .call { callee := .value _, .. } => true
  | _ => false
def callsB (L : List Oper) (pre : List Nat) : Bool :=
  L.zipIdx.all fun q => !(isC q.1.op) || (List.range q.2).all fun j => (match L[j]? with | some o => !(isC o.op) | none => true) || bitB pre q.2 j
noncomputable def runD (P : Program) (funs : List (FuncId × Func)) (call : FuncId → List V → St → Option COut) (ops : Array Oper) (st : St) : Option Out :=
  let pre := CheckFast.beforeL ops.toList 0 []
  let dsts := ops.toList.map (·.dst)
  let n := ops.size
  let rc : RecF := fun i kc o F H => recD P funs call ops st.pc kc (st.nx + i) o F H
  if closedB ops.toList pre && nodupB dsts && callsB ops.toList pre then
    (wids1 rc ops.toList 0 (st.nx + n) st.F st.H).bind fun wids =>
    (goD rc (unord pre n) dsts wids ops.toList 0 (st.nx + n) st.F st.H).map fun q => ([(.nrm, ⟨q.2.2.1, q.2.2.2.1, q.2.2.2.2, st.pc⟩)], q.2.1)
  else none
def selfM (o : Oper) : Oper := { o with op := .move (match o.dst with | some d => .tmp d | none => .const (.tuple #[])), after := #[], guard := none }
def segL (L : List Oper) (lo hi : Nat) : List Oper := (L.take lo).map selfM ++ (L.take hi).drop lo
def barB (pre : List Nat) (n k : Nat) : Bool := (List.range k).all (fun j => bitB pre k j) && (List.range n).all (fun j => Nat.ble j k || bitB pre j k)
def barOp : Op → Bool
  | .call { callee := .value _, .. } => true
  | .call { callee := .builtin .append, .. } => true
  | .call { callee := .builtin .copy, .. } => true
  | .call { callee := .builtin .unsafeString, .. } => true
  | .makeSlice _ _ _ => true
  | _ => false
def barAt (L : List Oper) (k : Nat) : Bool := match L[k]? with | some o => barOp o.op | none => false
def nextBar (L : List Oper) (pre : List Nat) (n lo : Nat) : Option Nat := (List.range n).find? fun k => Nat.ble lo k && barAt L k && barB pre n k
def guardsB (L : List Oper) : Bool := L.zipIdx.all fun q => match q.1.guard with | some (j, _) => Nat.blt j q.2 | none => true
noncomputable def runD2 (P : Program) (funs : List (FuncId × Func)) (call : FuncId → List V → St → Option COut) (ops : Array Oper) (pre : List Nat) : Nat → Nat → St → Option Out
  | 0, _, _ => none
  | f + 1, lo, st =>
    match nextBar ops.toList pre ops.size lo with
    | none => runD P funs call (segL ops.toList lo ops.size).toArray st
    | some k => thenO (runD P funs call (segL ops.toList lo k).toArray st) fun st' =>
      thenO (match ops.toList[k]? with | some o => runOps P funs call ops [o] st' | none => none) fun st2 => runD2 P funs call ops pre f (k + 1) st2
noncomputable def runDD (P : Program) (funs : List (FuncId × Func)) (call : FuncId → List V → St → Option COut) (ops : Array Oper) (st : St) : Option Out :=
  let pre := CheckFast.beforeL ops.toList 0 []
  if guardsB ops.toList && closedB ops.toList pre then runD2 P funs call ops pre (ops.size + 1) 0 st else none
structure Ctr where
  f : FuncId
  app : List V → Option (V × List T × List T)
def findC : List Ctr → FuncId → Option Ctr
  | [], _ => none
  | c :: l, f => if Nat.beq c.f f then some c else findC l f
noncomputable def resV (P : Program) (st : St) : List ResultVar → Option (List V)
  | [] => some []
  | .tmp t :: l => (st.F.getF t).bind fun v => (resV P st l).map fun vs => v :: vs
  | .cell a t :: l =>
    match st.F.getF a with
    | some (.ptr id off) => (lookC st.H id).bind fun b => (partV P t b.cells off).bind fun v => (resV P st l).map fun vs => v :: vs
    | _ => none
def packV : List V → V
  | [v] => v
  | l => .tup l
mutual
def V.under (n : Nat) : V → Bool
  | .ptr i _ => Nat.blt i n
  | .sl i _ _ _ => Nat.blt i n
  | .mp i => Nat.blt i n
  | .fn _ a b => V.underL n a && V.underL n b
  | .agg l => V.underL n l
  | .tup l => V.underL n l
  | _ => true
def V.underL (n : Nat) : List V → Bool
  | [] => true
  | v :: l => V.under n v && V.underL n l
end
def keepH (nx0 : Nat) (plain : Bool) (H : Hp) : Hp :=
  if plain && Nat.ble 12 (H.filter (fun e => Nat.ble nx0 e.1)).length then
    if (H.filter (fun e => Nat.blt e.1 nx0)).all (fun e => V.underL nx0 e.2.cells) then H.filter (fun e => Nat.blt e.1 nx0) else H
  else H
noncomputable def leaveL (P : Program) (rs : List ResultVar) (F : Fr) (nx0 : Nat) : List (Ex × St) → Option (List (V × St))
  | [] => some []
  | (.ext _, _) :: _ => none
  | (_, st) :: l => (resV P st rs).bind fun vs => (leaveL P rs F nx0 l).map fun m =>
    (packV vs, { st with F := F, H := keepH nx0 (V.plainL vs) st.H }) :: m
def enterK (run : Code → St → Option Out) (c : Code) (F : Fr) (st : St) : Option Out := match st with
  | ⟨_, H, nx, pc⟩ => run c ⟨F, H, nx, pc⟩
noncomputable def leaveK (P : Program) (rs : List ResultVar) (F : Fr) (nx0 : Nat) (o : Option Out) : Option COut := match o with
  | some (ls, vc) => (match leaveL P rs F nx0 ls with | some l => some (l, vc) | none => none)
  | none => none
noncomputable def bodyF (P : Program) (funs : List (FuncId × Func)) (run : Code → St → Option Out) (f : FuncId) (args : List V) (st : St) : Option COut :=
  (findF funs f).bind fun fn => fn.body.bind fun c =>
  leaveK P fn.results.toList st.F st.nx (enterK run c (Fr.fill args 0 ⟨args.length + (fn.ntmps - args.length), .lf⟩) st)
abbrev Df := Option (FuncId × List V)
abbrev OutD := List ((Ex × St) × Df) × Vcs
def lastDefer : List Oper → Option (List Oper × Oper × Call)
  | [] => none
  | [o] => match o.op, o.guard with
    | .defer c, none => some ([], o, c)
    | _, _ => none
  | o :: l => (lastDefer l).map fun r => (o :: r.1, r.2)
def noD (o : Option Out) (d : Df) : Option OutD := o.map fun o => (o.1.map fun l => (l, d), o.2)
noncomputable def setD (funs : List (FuncId × Func)) (d : Option Tmp) (c : Call) : List (Ex × St) → Option (List ((Ex × St) × Df))
  | [] => some []
  | (.nrm, st) :: l => (calleeOf funs st.F c).bind fun g => (setD funs d c l).map fun m => ((.nrm, { st with F := setF st.F d .undef }), some g) :: m
  | _ :: _ => none
def eachD (k : St → Df → Option OutD) : List ((Ex × St) × Df) → Option OutD
  | [] => some ([], [])
  | ((.nrm, st), d) :: l => (k st d).bind fun a => (eachD k l).map fun b => (a.1 ++ b.1, a.2 ++ b.2)
  | e :: l => (eachD k l).map fun b => (e :: b.1, b.2)
noncomputable def regD (P : Program) (funs : List (FuncId × Func)) (call : FuncId → List V → St → Option COut) (rn : Code → St → Option Out) (id : Nat) (ops : Array Oper) (draw : Bool) (st : St) : Option OutD :=
  match draw with
  | true => noD (rn (.region id ops true) st) none
  | false => match lastDefer ops.toList with
    | some r => (runOps P funs call ops r.1 st).bind fun a => (setD funs r.2.1.dst r.2.2 a.1).map fun l => (l, a.2)
    | none => noD (rn (.region id ops false) st) none
noncomputable def spine (P : Program) (funs : List (FuncId × Func)) (call : FuncId → List V → St → Option COut) (rn : Code → St → Option Out) : Code → St → Option OutD
  | .seq x y, st => (spine P funs call rn x st).bind fun a => (eachD (fun st' d => match d with
    | some d => noD (rn y st') (some d)
    | none => spine P funs call rn y st') a.1).map fun b => (b.1, a.2 ++ b.2)
  | .region id ops draw, st => regD P funs call rn id ops draw st
  | .scope c, st => spine P funs call rn c st
  | c, st => noD (rn c st) none
def regDefer (draw : Bool) (ops : Array Oper) : Bool := match draw with
  | true => false
  | false => (lastDefer ops.toList).isSome
def hasDefer : Code → Bool
  | .seq x y => hasDefer x || hasDefer y
  | .region _ ops draw => regDefer draw ops
  | .scope c => hasDefer c
  | _ => false
noncomputable def resD (P : Program) (rs : List ResultVar) (F : Fr) (nx0 : Nat) (st : St) : List (V × St) → Option (List (V × St))
  | [] => some []
  | (_, s2) :: l => (resV P { st with H := s2.H, nx := s2.nx, pc := s2.pc } rs).bind fun vs => (resD P rs F nx0 st l).map fun m => (packV vs, { s2 with F := F, H := keepH nx0 (V.plainL vs) s2.H }) :: m
noncomputable def leaveD (P : Program) (funs : List (FuncId × Func)) (rn : Code → St → Option Out) (rs : List ResultVar) (F : Fr) (nx0 : Nat) : List ((Ex × St) × Df) → Option COut
  | [] => some ([], [])
  | ((.ext _, _), _) :: _ => none
  | ((_, st), none) :: l => (resD P rs F nx0 st [(.bad, st)]).bind fun a => (leaveD P funs rn rs F nx0 l).map fun b => (a ++ b.1, b.2)
  | ((_, st), some d) :: l => (bodyF P funs rn d.1 d.2 st).bind fun o => (resD P rs F nx0 st o.1).bind fun a => (leaveD P funs rn rs F nx0 l).map fun b => (a ++ b.1, o.2 ++ b.2)
noncomputable def callD (P : Program) (funs : List (FuncId × Func)) (run : Code → St → Option Out) (fn : Func) (c : Code) (args : List V) (st : St) : Option COut :=
  (spine P funs (bodyF P funs run) run c ⟨Fr.fill args 0 ⟨args.length + (fn.ntmps - args.length), .lf⟩, st.H, st.nx, st.pc⟩).bind fun o =>
    (leaveD P funs run fn.results.toList st.F st.nx o.1).map fun a => (a.1, o.2 ++ a.2)
noncomputable def callF (P : Program) (cs : List Ctr) (funs : List (FuncId × Func)) (run : Code → St → Option Out) (f : FuncId) (args : List V) (st : St) : Option COut :=
  match findC cs f with
  | some c => (c.app (simL st.pc args)).bind fun r => if V.plainL args && V.plain r.1 then some ([(r.1, { st with pc := r.2.2 ++ st.pc })], (r.2.1.filter fun t => decG st.pc t != some true).map fun t => (st.pc, t)) else none
  | none =>
    (findF funs f).bind fun fn => fn.body.bind fun c => match hasDefer c with
    | false => leaveK P fn.results.toList st.F st.nx (enterK run c (Fr.fill args 0 ⟨args.length + (fn.ntmps - args.length), .lf⟩) st)
    | true => callD P funs run fn c args st
noncomputable def condK (r : Code → St → Option Out) (c : Operand) (x y : Code) (st : St) : Option Out := match opvF st.F c with
  | some (.bool t) => splitT st t (r x) (r y)
  | _ => none
def blockK (id : Nat) (o : Option Out) : Option Out := o.map fun o => (o.1.map fun e => (catchE id e.1, e.2), o.2)
noncomputable def regionK (P : Program) (cs : List Ctr) (funs : List (FuncId × Func)) (r : Code → St → Option Out) (ops : Array Oper) (draw : Bool) (st : St) : Option Out := match draw with
  | false => runOps P funs (callF P cs funs r) ops ops.toList st
  | true => runDD P funs (callF P cs funs r) ops st
noncomputable def runC (c : Code) : Program → List Ctr → List (FuncId × Func) → (Code → St → Option Out) → St → Option Out :=
  Code.rec (motive := fun _ => Program → List Ctr → List (FuncId × Func) → (Code → St → Option Out) → St → Option Out)
    (fun _ _ _ _ st => some ([(.nrm, st)], []))
    (fun _ ops draw P cs funs r st => regionK P cs funs r ops draw st)
    (fun a b _ _ _ _ _ r st => thenO (r a st) (r b))
    (fun c x y _ _ _ _ _ r st => condK r c x y st)
    (fun id c _ _ _ _ r st => blockK id (r c st))
    (fun c _ _ _ _ r st => thenO (r c st) (r (.loop c)))
    (fun _ _ _ _ _ _ _ _ _ _ _ => none)
    (fun id _ _ _ _ st => some ([(.ext id, st)], []))
    (fun c _ _ _ _ r st => r c st)
    (fun _ _ _ _ _ st => some ([(.nrm, st)], []))
    (fun _ _ _ _ _ _ => none)
    (fun _ _ _ _ st => some ([(.ret, st)], []))
    (fun _ _ _ _ _ _ => none) c
noncomputable def run (P : Program) (cs : List Ctr) (funs : List (FuncId × Func)) (n : Nat) : Code → St → Option Out :=
  Nat.rec (motive := fun _ => Code → St → Option Out) (fun _ _ => none) (fun _ ih c st => runC c P cs funs ih st) n
noncomputable def call (P : Program) (cs : List Ctr) (funs : List (FuncId × Func)) (n : Nat) (f : FuncId) (args : List V) (pc : List T) : Option COut :=
  callF P cs funs (run P cs funs n) f args ⟨⟨0, .lf⟩, [], 0, pc⟩
end Go.Proofs.Ytehbfajmileefaa.Vx
