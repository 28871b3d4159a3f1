import Derived.WalkKit
import Derived.Laws.AppendOwn
import Derived.Laws.CopyRow
import Derived.Laws.Tables
import Derived.Lib.Hide
import Derived.Lib.Bytealg
namespace Go.Proofs.Ytehbfajmileefaa.Vx
open Go.RowKit
set_option linter.unusedVariables false
inductive T where
  | int (n : Int) | bool (b : Bool) | str (s : ByteArray)
  | var (i : Nat) | bvar (i : Nat) | svar (i : Nat)
  | add (a b : T) | sub (a b : T) | mul (a b : T) | quo (a b : T) | rem (a b : T) | ite (c a b : T)
  | len (s : T) | byte (s i : T) | cat (a b : T) | ext (s i j : T) | idx (s c : T) | cnt (s c : T) | cmp (a b : T) | sfb (f : Nat) (s : T) | wrap (k : IntKind) (a : T)
  | lt (a b : T) | le (a b : T) | eq (a b : T) | beq (a b : T) | seq (a b : T) | slt (a b : T) | not (a : T) | and (a b : T) | or (a b : T)
  | fni (f : Nat) (as : T) | fnb (f : Nat) (as : T)
  | nil | cons (a as : T)
  deriving DecidableEq, Inhabited
structure Env where
  i : Nat → Int
  b : Nat → Bool
  s : Nat → ByteArray
  v : Nat → Value
  fi : Nat → List Int → Int
  fb : Nat → List Int → Bool
  sb : Nat → ByteArray → Bool := fun _ _ => false
def ltB (a b : Int) : Bool := decide (a < b)
def leB (a b : Int) : Bool := decide (a ≤ b)
def eqB (a b : Int) : Bool := decide (a = b)
def sEqB (a b : ByteArray) : Bool := decide (a.data.toList = b.data.toList)
def sLtB (a b : ByteArray) : Bool := Op.bytesLess a.data.toList b.data.toList
theorem ltB_t {a b : Int} : ltB a b = true ↔ a < b := by simp [ltB]
theorem leB_t {a b : Int} : leB a b = true ↔ a ≤ b := by simp [leB]
theorem eqB_t {a b : Int} : eqB a b = true ↔ a = b := by simp [eqB]
theorem ltB_f {a b : Int} : ltB a b = false ↔ b ≤ a := by simp [ltB]
theorem leB_f {a b : Int} : leB a b = false ↔ b < a := by simp [leB]
theorem eqB_f {a b : Int} : eqB a b = false ↔ ¬ a = b := by simp [eqB]
mutual
def T.i (σ : Env) : T → Int
  | .int n => n
  | .var k => σ.i k
  | .add a b => T.i σ a + T.i σ b
  | .sub a b => T.i σ a - T.i σ b
  | .mul a b => T.i σ a * T.i σ b
  | .quo a b => (T.i σ a).tdiv (T.i σ b)
  | .rem a b => (T.i σ a).tmod (T.i σ b)
  | .ite c a b => if T.b σ c = true then T.i σ a else T.i σ b
  | .len s => ((T.s σ s).size : Int)
  | .byte s i => (((T.s σ s).data.toList.getD (T.i σ i).toNat 0).toNat : Int)
  | .fni f as => σ.fi f (T.l σ as)
  | .wrap k a => k.wrap (T.i σ a)
  | .idx s c => Lib.indexByte (T.s σ s).data.toList (T.i σ c).toNat.toUInt8
  | .cnt s c => (Lib.countByte (T.s σ s).data.toList (T.i σ c).toNat.toUInt8 : Nat)
  | .cmp a b => Lib.compareBytes (T.s σ a).data.toList (T.s σ b).data.toList
  | _ => 0
def T.b (σ : Env) : T → Bool
  | .bool b => b
  | .bvar k => σ.b k
  | .lt a b => ltB (T.i σ a) (T.i σ b)
  | .le a b => leB (T.i σ a) (T.i σ b)
  | .eq a b => eqB (T.i σ a) (T.i σ b)
  | .beq a b => T.b σ a == T.b σ b
  | .seq a b => sEqB (T.s σ a) (T.s σ b)
  | .slt a b => sLtB (T.s σ a) (T.s σ b)
  | .not a => !(T.b σ a)
  | .and a b => T.b σ a && T.b σ b
  | .or a b => T.b σ a || T.b σ b
  | .ite c a b => if T.b σ c = true then T.b σ a else T.b σ b
  | .fnb f as => σ.fb f (T.l σ as)
  | .sfb f s => σ.sb f (T.s σ s)
  | _ => false
def T.s (σ : Env) : T → ByteArray
  | .str s => s
  | .svar k => σ.s k
  | .cat a b => T.s σ a ++ T.s σ b
  | .ext s i j => (T.s σ s).extract (T.i σ i).toNat (T.i σ j).toNat
  | .ite c a b => if T.b σ c = true then T.s σ a else T.s σ b
  | _ => ByteArray.empty
def T.l (σ : Env) : T → List Int
  | .cons a as => T.i σ a :: T.l σ as
  | _ => []
end
def T.inR (k : IntKind) (t : T) : T := .and (.le (.int k.min) t) (.le t (.int k.max))
def mkAdd (k : IntKind) : T → T → T × List T
  | .int m, .int n => (.int (k.wrap (m + n)), [])
  | a, b => (.add a b, [T.inR k (.add a b)])
def mkSub (k : IntKind) : T → T → T × List T
  | .int m, .int n => (.int (k.wrap (m - n)), [])
  | a, b => (.sub a b, [T.inR k (.sub a b)])
def mkMul (k : IntKind) : T → T → T × List T
  | .int m, .int n => (.int (k.wrap (m * n)), [])
  | a, b => (.mul a b, [T.inR k (.mul a b)])
def mkQuo (k : IntKind) : T → T → Option (T × List T)
  | .int m, .int n => if n = 0 then none else some (.int (k.wrap (m.tdiv n)), [])
  | a, b => some (.quo a b, [.not (.eq b (.int 0)), T.inR k (.quo a b)])
def mkRem : T → T → Option (T × List T)
  | .int m, .int n => if n = 0 then none else some (.int (m.tmod n), [])
  | a, b => some (.rem a b, [.not (.eq b (.int 0))])
def mkNot : T → T
  | .bool b => .bool (!b)
  | .not a => a
  | a => .not a
def pickB (c : T) : Bool → Bool → T
  | true, true => .bool true
  | true, false => c
  | false, true => mkNot c
  | false, false => .bool false
def mkLt : T → T → T
  | .int m, .int n => .bool (ltB m n)
  | a, b => if a = b then .bool false else .not (.le b a)
def mkLe : T → T → T
  | .int m, .int n => .bool (leB m n)
  | .ite c (.int x) (.int y), .int n => pickB c (leB x n) (leB y n)
  | .int n, .ite c (.int x) (.int y) => pickB c (leB n x) (leB n y)
  | a, .sub (.int n) b => .le (.add a b) (.int n)
  | .int n, .sub a b => if n = 0 then .le b a else .le (.int n) (.sub a b)
  | .sub a b, .int n => if n = 0 then .le a b else .le (.sub a b) (.int n)
  | a, b => if a = b then .bool true else .le a b
def mkEq : T → T → T
  | .int m, .int n => .bool (eqB m n)
  | .ite c (.int x) (.int y), .int n => pickB c (eqB x n) (eqB y n)
  | a, b => if a = b then .bool true else .eq a b
def mkAnd : T → T → T
  | .bool true, b => b
  | .bool false, _ => .bool false
  | a, .bool true => a
  | a, b => .and a b
def mkOr : T → T → T
  | .bool false, b => b
  | .bool true, _ => .bool true
  | a, .bool false => a
  | a, b => .or a b
def mkIteB (c a b : T) : T :=
  match c with
  | .bool true => a
  | .bool false => b
  | c => if a = b then a else match a, b with
    | .bool true, b => mkOr c b
    | .bool false, b => mkAnd (mkNot c) b
    | a, .bool true => mkOr (mkNot c) a
    | a, .bool false => mkAnd c a
    | a, b => .ite c a b
def mkBeq : T → T → T
  | .bool a, .bool b => .bool (a == b)
  | a, b => if a = b then .bool true else .beq a b
def mkWrap (k : IntKind) : T → T × List T
  | .int m => (.int (k.wrap m), [])
  | a => (a, [T.inR k a])
def addT : T → T → T
  | .int m, .int n => .int (m + n)
  | a, b => .add a b
def mkLen : T → T
  | .str s => .int s.data.toList.length
  | .cat a b => addT (mkLen a) (mkLen b)
  | s => .len s
def mkSeq : T → T → T
  | .str a, .str b => .bool (sEqB a b)
  | a, .str b => if b.data.toList.length = 0 then mkEq (mkLen a) (.int 0) else .seq a (.str b)
  | .str b, a => if b.data.toList.length = 0 then mkEq (mkLen a) (.int 0) else .seq (.str b) a
  | a, b => if a = b then .bool true else .seq a b
def mkSlt : T → T → T
  | .str a, .str b => .bool (sLtB a b)
  | a, b => if a = b then .bool false else .slt a b
def mkIdx : T → T → T
  | .str s, .int c => .int (Lib.indexByte s.data.toList c.toNat.toUInt8)
  | s, c => .idx s c
def mkCnt : T → T → T
  | .str s, .int c => .int (Lib.countByte s.data.toList c.toNat.toUInt8 : Nat)
  | s, c => .cnt s c
def mkCmp : T → T → T
  | .str s, .str t => .int (Lib.compareBytes s.data.toList t.data.toList)
  | s, t => .cmp s t
def catT : T → T → T
  | .str a, .str b => .str (a ++ b)
  | a, .str b => if b.data.toList.length = 0 then a else .cat a (.str b)
  | a, .cat b c => .cat (catT a b) c
  | a, b => .cat a b
def mkCat (a b : T) : T × List T :=
  (catT a b, match mkLe (addT (mkLen a) (mkLen b)) (.int 9223372036854775807) with | .bool true => [] | t => [t])
def mkIte (c a b : T) : T :=
  match c with
  | .bool true => a
  | .bool false => b
  | c => if a = b then a else .ite c a b
inductive Cap where
  | is (n : Nat)
  | rest (e : Nat)
  deriving DecidableEq, Inhabited
def Cap.cap : Cap → Nat → Nat
  | .is n, _ => n
  | .rest e, c => c - e
inductive V where
  | int (k : IntKind) (t : T) | bool (t : T) | str (t : T)
  | nilp | ptr (id off : Nat) | nils | sl (id off len : Nat) (cap : Cap)
  | nilf | fn (f : Fn) (first cap : List V) | agg (l : List V) | tup (l : List V) | nili | nilm | nilc | val (i : Nat) | bad | mp (id : Nat)
  deriving Inhabited
def empS : Value → Bool
  | .slice _ 0 0 => true
  | _ => false
def empAt (i : Nat) (x : Value) : Bool := bif Nat.beq (i % 2) 1 then empS x else true
abbrev Rho := Nat → Option (Nat × Nat)
mutual
def den (σ : Env) (ρ : Rho) : V → Option Value
  | .int k t => some (.int k (T.i σ t))
  | .bool t => some (.bool (T.b σ t))
  | .str t => some (.string (T.s σ t))
  | .nilp => some (.pointer none)
  | .ptr id off => (ρ id).map fun r => .pointer (some ⟨r.1, off, none⟩)
  | .nils => some (.slice none 0 0)
  | .sl id off len c => (ρ id).map fun r => .slice (some ⟨r.1, off, none⟩) len (c.cap r.2)
  | .nilf => some .nilFunc
  | .fn f first cap => (denL σ ρ first).bind fun a => (denL σ ρ cap).map fun b => .func f a.toArray b.toArray
  | .agg l => (denL σ ρ l).map fun cs => .agg cs.toArray
  | .tup l => (denL σ ρ l).map fun cs => .tuple cs.toArray
  | .nili => some .nilIface
  | .nilm => some (.map none)
  | .nilc => some (.chan none)
  | .val i => if (σ.v i).oneCell' = true ∧ empAt i (σ.v i) = true then some (σ.v i) else none
  | .bad => none
  | .mp id => (ρ id).map fun r => .map (some r.1)
def denL (σ : Env) (ρ : Rho) : List V → Option (List Value)
  | [] => some []
  | v :: l => (den σ ρ v).bind fun x => (denL σ ρ l).map fun xs => x :: xs
end
mutual
def V.plain : V → Bool
  | .ptr _ _ | .sl _ _ _ _ | .val _ | .bad | .mp _ => false
  | .fn _ first cap => V.plainL first && V.plainL cap
  | .agg l => V.plainL l
  | .tup l => V.plainL l
  | _ => true
def V.plainL : List V → Bool
  | [] => true
  | v :: l => V.plain v && V.plainL l
end
def mapO {α β : Type} (f : α → Option β) : List α → Option (List β)
  | [] => some []
  | x :: l => (f x).bind fun y => (mapO f l).map fun ys => y :: ys
def ofCell : Value → Option V
  | .int k n => some (.int k (.int n))
  | .bool b => some (.bool (.bool b))
  | .string s => some (.str (.str s))
  | .pointer none => some .nilp
  | .slice none 0 0 => some .nils
  | .map none => some .nilm
  | .chan none => some .nilc
  | .nilFunc => some .nilf
  | .nilIface => some .nili
  | .func f ⟨[]⟩ ⟨[]⟩ => some (.fn f [] [])
  | _ => none
def ofValue : Value → Option V
  | .agg cs => (mapO ofCell cs.toList).map .agg
  | .tuple ⟨[]⟩ => some (.tup [])
  | v => ofCell v
def V.cells : V → List V
  | .agg l => l
  | v => [v]
def V.one : V → Bool
  | .agg _ | .tup _ => false
  | _ => true
abbrev V.undef : V := .tup []
structure Blk where
  ty : TypeId
  sz : Nat
  cells : List V
  spare : Bool
  ro : Bool
  deriving Inhabited
def roH (H : List (Nat × Blk)) : List (Nat × Blk) := H.map fun e => (e.1, { e.2 with ro := true })
abbrev Hp := List (Nat × Blk)
def look : Hp → Nat → Option Blk
  | [], _ => none
  | (j, b) :: H, i => if Nat.beq j i then some b else look H i
def Blk.mp (b : Blk) : Bool := match b with
  | ⟨_, 0, _, true, _⟩ => true
  | _ => false
def lookC (H : Hp) (i : Nat) : Option Blk := match look H i with
  | some b => (match b.mp with | true => none | false => some b)
  | none => none
def lookM (H : Hp) (i : Nat) : Option Blk := match look H i with
  | some b => (match b.mp with | true => some b | false => none)
  | none => none
def upd : Hp → Nat → Blk → Hp
  | [], _, _ => []
  | (j, b) :: H, i, c => if Nat.beq j i then (j, c) :: H else (j, b) :: upd H i c
def del : Hp → Nat → Hp
  | [], _ => []
  | (j, b) :: H, i => if Nat.beq j i then del H i else (j, b) :: del H i
def szOf (P : Program) (t : TypeId) : Option Nat := (P.info? t).map (·.size)
def aggB (P : Program) (t : TypeId) : Option Bool :=
  match P.underlying t with
  | some (.struct _) | some (.array ..) => some true
  | some _ => some false
  | none => none
def zeroV (P : Program) (t : TypeId) : Option V := ((P.info? t).bind (·.zero)).bind ofValue
def partV (P : Program) (t : TypeId) (cs : List V) (off : Nat) : Option V :=
  match aggB P t with
  | some true => (szOf P t).bind fun n => if off + n ≤ cs.length then some (.agg ((cs.drop off).take n)) else none
  | some false => (cs[off]?).bind fun v => if v.one then some v else none
  | none => none
def put1 (cells : List V) (off : Nat) (new : List V) : List V := cells.take off ++ new ++ cells.drop (off + new.length)
def fillV (place : Nat → Option (Nat × Nat)) (cells : List V) : List (Nat × V) → Option (List V)
  | [] => some cells
  | (i, v) :: rest =>
    match place i with
    | none => none
    | some (off, size) =>
      if v.cells.length = size ∧ off + size ≤ cells.length then fillV place (put1 cells off v.cells) rest else none
def intLit : V → Option Int
  | .int _ (.int n) => some n
  | _ => none
def natLit : V → Option Nat
  | .int _ (.int (.ofNat n)) => some n
  | _ => none
def eqFields (P : Program) (eq : TypeId → V → V → Option T) (xs ys : List V) : List Field → Option T
  | [] => some (.bool true)
  | f :: fs =>
    if f.name = "_" then none else
    (partV P f.type xs f.offset).bind fun a => (partV P f.type ys f.offset).bind fun b =>
    (eq f.type a b).bind fun c => (eqFields P eq xs ys fs).map fun r => mkAnd c r
def eqElems (P : Program) (eq : TypeId → V → V → Option T) (e : TypeId) (z : Nat) (xs ys : List V) : Nat → Nat → Option T
  | 0, _ => some (.bool true)
  | n + 1, i =>
    (partV P e xs (i * z)).bind fun a => (partV P e ys (i * z)).bind fun b =>
    (eq e a b).bind fun c => (eqElems P eq e z xs ys n (i + 1)).map fun r => mkAnd c r
def eqV (P : Program) : Nat → TypeId → V → V → Option T
  | 0, _, _, _ => none
  | d + 1, t, x, y =>
    match P.underlying t, x, y with
    | some .bool, .bool a, .bool b => some (mkBeq a b)
    | some (.int _), .int k a, .int k' b => if k = k' then some (mkEq a b) else none
    | some .string, .str a, .str b => some (mkSeq a b)
    | some (.pointer _), .nilp, .nilp => some (.bool true)
    | some (.pointer _), .nilp, .ptr _ _ => some (.bool false)
    | some (.pointer _), .ptr _ _, .nilp => some (.bool false)
    | some (.pointer e), .ptr i o, .ptr i' o' => if (szOf P e).isSome && (Nat.beq i i' && Nat.beq o o') then some (.bool true) else none
    | some (.slice _), .nils, .nils => some (.bool true)
    | some (.slice _), .nils, .sl _ _ _ _ => some (.bool false)
    | some (.slice _), .sl _ _ _ _, .nils => some (.bool false)
    | some (.func ..), .nilf, .nilf => some (.bool true)
    | some (.func ..), .nilf, .fn _ _ _ => some (.bool false)
    | some (.func ..), .fn _ _ _, .nilf => some (.bool false)
    | some (.struct fs), .agg xs, .agg ys => if P.stoodInHeld t then none else eqFields P (eqV P d) xs ys fs.toList
    | some (.array n e), .agg xs, .agg ys => (szOf P e).bind fun z => eqElems P (eqV P d) e z xs ys n 0
    | _, _, _ => none
mutual
def iteV (c : T) : V → V → Option V
  | .int k a, .int k' b => if k = k' then some (.int k (mkIte c a b)) else none
  | .bool a, .bool b => some (.bool (mkIteB c a b))
  | .str a, .str b => some (.str (mkIte c a b))
  | .agg l, .agg m => (iteL c l m).map .agg
  | .tup l, .tup m => (iteL c l m).map .tup
  | .nilp, .nilp => some .nilp
  | .nils, .nils => some .nils
  | .nilf, .nilf => some .nilf
  | .nili, .nili => some .nili
  | .nilm, .nilm => some .nilm
  | .nilc, .nilc => some .nilc
  | _, _ => none
def iteL (c : T) : List V → List V → Option (List V)
  | [], [] => some []
  | v :: l, u :: m => (iteV c v u).bind fun x => (iteL c l m).map fun xs => x :: xs
  | _, _ => none
end
def andL : List T → T
  | [] => .bool true
  | t :: l => mkAnd t (andL l)
def contraB (a b : List T) : Bool := a.any fun t => b.contains (mkNot t)
mutual
def sameV : V → V → Option (List T)
  | .int k a, .int k' b => if k = k' then some (match mkEq a b with | .bool true => [] | t => [t]) else none
  | .bool a, .bool b => some (match mkBeq a b with | .bool true => [] | t => [t])
  | .str a, .str b => if a = b then some [] else some (match mkSeq a b with | .bool true => [] | t => [t])
  | .agg l, .agg m => sameL l m
  | .tup l, .tup m => sameL l m
  | .nilp, .nilp => some []
  | .nils, .nils => some []
  | .nilf, .nilf => some []
  | .nili, .nili => some []
  | .nilm, .nilm => some []
  | .nilc, .nilc => some []
  | _, _ => none
def sameL : List V → List V → Option (List T)
  | [], [] => some []
  | v :: l, u :: m => (sameV v u).bind fun x => (sameL l m).map fun xs => x ++ xs
  | _, _ => none
end
end Go.Proofs.Ytehbfajmileefaa.Vx
