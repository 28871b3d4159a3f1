import Derived.Test.YtehbfajmileefaaVb
import Derived.Still
namespace Go.Proofs.Ytehbfajmileefaa.Fx
open Go.RowKit Go.Proofs.Ytehbfajmileefaa.Vx
set_option linter.unusedVariables false
inductive X where
  | i (k : IntKind) (n : Int)
  | b (x : Bool)
  | v (v : V)
structure N8 (α : Type) where
  a : α
  b : α
  c : α
  d : α
  e : α
  f : α
  g : α
  h : α
abbrev F8 := N8 (N8 (N8 X))
noncomputable def N8.u0 {α : Type} (k : α → α) (n : N8 α) : N8 α := N8.rec (motive := fun _ => N8 α) (fun a b c d e f g h => ⟨k a, b, c, d, e, f, g, h⟩) n
noncomputable def N8.u1 {α : Type} (k : α → α) (n : N8 α) : N8 α := N8.rec (motive := fun _ => N8 α) (fun a b c d e f g h => ⟨a, k b, c, d, e, f, g, h⟩) n
noncomputable def N8.u2 {α : Type} (k : α → α) (n : N8 α) : N8 α := N8.rec (motive := fun _ => N8 α) (fun a b c d e f g h => ⟨a, b, k c, d, e, f, g, h⟩) n
noncomputable def N8.u3 {α : Type} (k : α → α) (n : N8 α) : N8 α := N8.rec (motive := fun _ => N8 α) (fun a b c d e f g h => ⟨a, b, c, k d, e, f, g, h⟩) n
noncomputable def N8.u4 {α : Type} (k : α → α) (n : N8 α) : N8 α := N8.rec (motive := fun _ => N8 α) (fun a b c d e f g h => ⟨a, b, c, d, k e, f, g, h⟩) n
noncomputable def N8.u5 {α : Type} (k : α → α) (n : N8 α) : N8 α := N8.rec (motive := fun _ => N8 α) (fun a b c d e f g h => ⟨a, b, c, d, e, k f, g, h⟩) n
noncomputable def N8.u6 {α : Type} (k : α → α) (n : N8 α) : N8 α := N8.rec (motive := fun _ => N8 α) (fun a b c d e f g h => ⟨a, b, c, d, e, f, k g, h⟩) n
noncomputable def N8.u7 {α : Type} (k : α → α) (n : N8 α) : N8 α := N8.rec (motive := fun _ => N8 α) (fun a b c d e f g h => ⟨a, b, c, d, e, f, g, k h⟩) n
def N8.get {α : Type} (n : N8 α) : Nat → α
  | 0 => n.a
  | 1 => n.b
  | 2 => n.c
  | 3 => n.d
  | 4 => n.e
  | 5 => n.f
  | 6 => n.g
  | _ => n.h
noncomputable def N8.upd {α : Type} (i : Nat) (k : α → α) (n : N8 α) : N8 α := match i with
  | 0 => n.u0 k
  | 1 => n.u1 k
  | 2 => n.u2 k
  | 3 => n.u3 k
  | 4 => n.u4 k
  | 5 => n.u5 k
  | 6 => n.u6 k
  | _ => n.u7 k
abbrev X.undef : X := .v .undef
def N8.all {α : Type} (x : α) : N8 α := ⟨x, x, x, x, x, x, x, x⟩
def F8.none : F8 := .all (.all (.all .undef))
abbrev G := F8 → X
abbrev S := X → F8 → F8
def gT (t : Nat) : G := fun F => ((F.get (t / 64)).get (t / 8 % 8)).get (t % 8)
noncomputable def sT (t : Nat) : S := fun x F => F.upd (t / 64) fun n => n.upd (t / 8 % 8) fun m => m.upd (t % 8) fun _ => x
def sN : S := fun _ F => F
structure Mm where
  H : Hp
  nx : Nat
  lw : Nat
inductive RX where
  | nrm (F : F8) (M : Mm)
  | ext (id : Nat) (F : F8) (M : Mm)
  | ret (F : F8) (M : Mm)
  | no
abbrev K := F8 → Mm → RX
inductive CX where
  | val (x : X) (M : Mm)
  | no
abbrev Cl := Nat → List X → Mm → CX
abbrev OF := Cl → K → K
abbrev CF := Cl → Nat → K
noncomputable def fX (x : X) (k : X → RX) : RX := X.rec (motive := fun _ => RX) (fun kd n => k (.i kd n)) (fun b => k (.b b)) (fun v => k (.v v)) x
noncomputable def fN (n : Nat) (k : Nat → RX) : RX := Nat.rec (motive := fun _ => RX) (k 0) (fun p _ => k (Nat.succ p)) n
noncomputable def fI (n : Int) (k : Int → RX) : RX := Int.rec (motive := fun _ => RX) (fun n => fN n fun m => k (.ofNat m)) (fun n => fN n fun m => k (.negSucc m)) n
noncomputable def fB (b : Bool) (k : Bool → RX) : RX := Bool.rec (motive := fun _ => RX) (k false) (k true) b
noncomputable def caseI (x : X) (k : IntKind → Int → RX) : RX := X.rec (motive := fun _ => RX) k (fun _ => .no) (fun _ => .no) x
noncomputable def caseB (x : X) (k : Bool → RX) : RX := X.rec (motive := fun _ => RX) (fun _ _ => .no) k (fun _ => .no) x
noncomputable def caseV (x : X) (k : V → RX) : RX := X.rec (motive := fun _ => RX) (fun _ _ => .no) (fun _ => .no) k x
noncomputable def ifB (b : Bool) (x y : RX) : RX := Bool.rec (motive := fun _ => RX) y x b
noncomputable def optR {α : Type} (o : Option α) (k : α → RX) : RX := Option.rec (motive := fun _ => RX) .no k o
noncomputable def ikF (k k' : IntKind) : Bool := IntKind.rec (motive := fun _ => IntKind → Bool)
  (fun k' => IntKind.rec (motive := fun _ => Bool) true false false false false false false false k') (fun k' => IntKind.rec (motive := fun _ => Bool) false true false false false false false false k')
  (fun k' => IntKind.rec (motive := fun _ => Bool) false false true false false false false false k') (fun k' => IntKind.rec (motive := fun _ => Bool) false false false true false false false false k')
  (fun k' => IntKind.rec (motive := fun _ => Bool) false false false false true false false false k') (fun k' => IntKind.rec (motive := fun _ => Bool) false false false false false true false false k')
  (fun k' => IntKind.rec (motive := fun _ => Bool) false false false false false false true false k') (fun k' => IntKind.rec (motive := fun _ => Bool) false false false false false false false true k') k k'
noncomputable def X.toV (x : X) : V := X.rec (motive := fun _ => V) (fun k n => .int k (.int n)) (fun b => .bool (.bool b)) (fun v => v) x
noncomputable def intX (k : IntKind) (v : V) (o : Option Int) : X := Option.rec (motive := fun _ => X) (.v v) (fun n => .i k n) o
noncomputable def boolX (v : V) (o : Option Bool) : X := Option.rec (motive := fun _ => X) (.v v) (fun b => .b b) o
noncomputable def V.toX (v : V) : X := V.rec (motive_1 := fun _ => X) (motive_2 := fun _ => Unit) (fun k t => intX k (.int k t) (T.int? t)) (fun t => boolX (.bool t) (T.bool? t)) (fun t => .v (.str t)) (.v .nilp) (fun i o => .v (.ptr i o)) (.v .nils) (fun i o n c => .v (.sl i o n c)) (.v .nilf) (fun f a b _ _ => .v (.fn f a b)) (fun l _ => .v (.agg l)) (fun l _ => .v (.tup l)) (.v .nili) (.v .nilm) (.v .nilc) (fun i => .v (.val i)) (.v .bad) (fun i => .v (.mp i)) () (fun _ _ _ _ => ()) v
noncomputable def ptrR (v : V) (k : Nat → Nat → RX) : RX := V.rec (motive_1 := fun _ => RX) (motive_2 := fun _ => Unit) (fun _ _ => .no) (fun _ => .no) (fun _ => .no) .no k .no (fun _ _ _ _ => .no) .no (fun _ _ _ _ _ => .no) (fun _ _ => .no) (fun _ _ => .no) .no .no .no (fun _ => .no) .no (fun _ => .no) () (fun _ _ _ _ => ()) v
noncomputable def aggR (v : V) (k : List V → RX) : RX := V.rec (motive_1 := fun _ => RX) (motive_2 := fun _ => Unit) (fun _ _ => .no) (fun _ => .no) (fun _ => .no) .no (fun _ _ => .no) .no (fun _ _ _ _ => .no) .no (fun _ _ _ _ _ => .no) (fun l _ => k l) (fun _ _ => .no) .no .no .no (fun _ => .no) .no (fun _ => .no) () (fun _ _ _ _ => ()) v
noncomputable def tupR (v : V) (k : List V → RX) : RX := V.rec (motive_1 := fun _ => RX) (motive_2 := fun _ => Unit) (fun _ _ => .no) (fun _ => .no) (fun _ => .no) .no (fun _ _ => .no) .no (fun _ _ _ _ => .no) .no (fun _ _ _ _ _ => .no) (fun _ _ => .no) (fun l _ => k l) .no .no .no (fun _ => .no) .no (fun _ => .no) () (fun _ _ _ _ => ()) v
noncomputable def strR (v : V) (k : T → RX) : RX := V.rec (motive_1 := fun _ => RX) (motive_2 := fun _ => Unit) (fun _ _ => .no) (fun _ => .no) k .no (fun _ _ => .no) .no (fun _ _ _ _ => .no) .no (fun _ _ _ _ _ => .no) (fun _ _ => .no) (fun _ _ => .no) .no .no .no (fun _ => .no) .no (fun _ => .no) () (fun _ _ _ _ => ()) v
noncomputable def slR (v : V) (z : RX) (k : Nat → Nat → Nat → RX) : RX := V.rec (motive_1 := fun _ => RX) (motive_2 := fun _ => Unit) (fun _ _ => .no) (fun _ => .no) (fun _ => .no) .no (fun _ _ => .no) z (fun i o n _ => k i o n) .no (fun _ _ _ _ _ => .no) (fun _ _ => .no) (fun _ _ => .no) .no .no .no (fun _ => .no) .no (fun _ => .no) () (fun _ _ _ _ => ()) v
noncomputable def slE (v : V) (z : RX) (k : Nat → Nat → Nat → RX) : RX := V.rec (motive_1 := fun _ => RX) (motive_2 := fun _ => Unit) (fun _ _ => .no) (fun _ => .no) (fun _ => .no) .no (fun _ _ => .no) z (fun i o n _ => k i o n) .no (fun _ _ _ _ _ => .no) (fun _ _ => .no) (fun _ _ => .no) .no .no .no (fun i => Bool.rec (motive := fun _ => RX) .no z (Nat.beq (i % 2) 1)) .no (fun _ => .no) () (fun _ _ _ _ => ()) v
noncomputable def T.str? (t : T) : Option ByteArray := T.rec (motive := fun _ => Option ByteArray) (fun _ => none) (fun _ => none) (fun s => some s) (fun _ => none) (fun _ => none) (fun _ => none) (fun _ _ _ _ => none) (fun _ _ _ _ => none) (fun _ _ _ _ => none) (fun _ _ _ _ => none) (fun _ _ _ _ => none) (fun _ _ _ _ _ _ => none) (fun _ _ => none) (fun _ _ _ _ => none) (fun _ _ _ _ => none) (fun _ _ _ _ _ _ => none) (fun _ _ _ _ => none) (fun _ _ _ _ => none) (fun _ _ _ _ => none) (fun _ _ _ => none) (fun _ _ _ => none) (fun _ _ _ _ => none) (fun _ _ _ _ => none) (fun _ _ _ _ => none) (fun _ _ _ _ => none) (fun _ _ _ _ => none) (fun _ _ _ _ => none) (fun _ _ => none) (fun _ _ _ _ => none) (fun _ _ _ _ => none) (fun _ _ _ => none) (fun _ _ _ => none) (none) (fun _ _ _ _ => none) t
noncomputable def oMove (g : G) (s : S) : OF := fun _ k F M => fX (g F) fun x => k (s x F) M
noncomputable def binI (op : BinOp) (kd : IntKind) (m n : Int) (k : X → RX) : RX :=
  BinOp.rec (motive := fun _ => RX)
    (fI (wrapF kd (m + n)) fun r => k (.i kd r)) (fI (wrapF kd (m - n)) fun r => k (.i kd r)) (fI (wrapF kd (m * n)) fun r => k (.i kd r))
    .no .no .no .no .no .no .no .no
    (fB (eqI m n) fun r => k (.b r)) (fB (eqI m n) fun r => k (.b (notB r))) (fB (ltI m n) fun r => k (.b r)) (fB (leI m n) fun r => k (.b r))
    (fB (ltI n m) fun r => k (.b r)) (fB (leI n m) fun r => k (.b r)) op
noncomputable def oBin (op : BinOp) (g1 g2 : G) (s : S) : OF := fun _ k F M =>
  caseI (g1 F) fun kd m => caseI (g2 F) fun kd' n => ifB (ikF kd kd') (binI op kd m n fun x => k (s x F) M) .no
noncomputable def oNot (g : G) (s : S) : OF := fun _ k F M => caseB (g F) fun b => fB (notB b) fun b => k (s (.b b) F) M
noncomputable def oPick (c g1 g2 : G) (s : S) : OF := fun _ k F M => caseB (c F) fun b => ifB b (fX (g1 F) fun x => k (s x F) M) (fX (g2 F) fun x => k (s x F) M)
noncomputable def oConv (kd : IntKind) (g : G) (s : S) : OF := fun _ k F M => caseI (g F) fun _ n => fI (wrapF kd n) fun r => k (s (.i kd r) F) M
noncomputable def blkR (b : Blk) (k : List V → Bool → RX) : RX := Blk.rec (motive := fun _ => RX) (fun ty sz cells sp ro => Nat.rec (motive := fun _ => RX) (Bool.rec (motive := fun _ => RX) (k cells ro) .no sp) (fun _ _ => k cells ro) sz) b
noncomputable def oLoad1 (g : G) (s : S) : OF := fun _ k F M =>
  caseV (g F) fun v => ptrR v fun id off => optR (lookF M.H id) fun b => blkR b fun cells _ => optR (nthR cells off) fun u => ifB (V.oneF u) (fX (V.toX u) fun x => k (s x F) M) .no
noncomputable def takeR (l : List V) (n : Nat) : Option (List V) := Nat.rec (motive := fun _ => List V → Option (List V)) (fun _ => some []) (fun _ ih l => List.rec (motive := fun _ => Option (List V)) none (fun v l _ => Option.rec (motive := fun _ => Option (List V)) none (fun m => some (v :: m)) (ih l)) l) n l
noncomputable def dropR (l : List V) (n : Nat) : List V := Nat.rec (motive := fun _ => List V → List V) (fun l => l) (fun _ ih l => List.rec (motive := fun _ => List V) [] (fun _ l _ => ih l) l) n l
noncomputable def oLoadN (n : Nat) (g : G) (s : S) : OF := fun _ k F M =>
  caseV (g F) fun v => ptrR v fun id off => optR (lookF M.H id) fun b => blkR b fun cells _ => optR (takeR (dropR cells off) n) fun l => k (s (.v (.agg l)) F) M
noncomputable def oFieldAddr (d : Nat) (g : G) (s : S) : OF := fun _ k F M =>
  caseV (g F) fun v => ptrR v fun id off => fN (off + d) fun o => k (s (.v (.ptr id o)) F) M
noncomputable def oIndexAddr (z : Nat) (g i : G) (s : S) : OF := fun _ k F M =>
  caseV (g F) fun v => caseI (i F) fun _ n => slR v .no fun id off len => Int.rec (motive := fun _ => RX) (fun n => ifB (Nat.blt n len) (fN (off + n * z) fun o => k (s (.v (.ptr id o)) F) M) .no) (fun _ => .no) n
noncomputable def oIndexArr (m z : Nat) (g i : G) (s : S) : OF := fun _ k F M =>
  caseV (g F) fun v => caseI (i F) fun _ n => ptrR v fun id off => Int.rec (motive := fun _ => RX) (fun n => ifB (Nat.blt n m) (fN (off + n * z) fun o => k (s (.v (.ptr id o)) F) M) .no) (fun _ => .no) n
noncomputable def oLenS (g : G) (s : S) : OF := fun _ k F M =>
  caseV (g F) fun v => slE v (k (s (.i .i64 (.ofNat 0)) F) M) fun _ _ n => k (s (.i .i64 (.ofNat n)) F) M
noncomputable def oLenT (g : G) (s : S) : OF := fun _ k F M =>
  caseV (g F) fun v => strR v fun t => optR (T.str? t) fun b => fN b.data.toList.length fun n => k (s (.i .i64 (.ofNat n)) F) M
noncomputable def nthB (l : List UInt8) (i : Nat) : Option UInt8 := List.rec (motive := fun _ => Nat → Option UInt8) (fun _ => none) (fun v _ ih i => Nat.rec (motive := fun _ => Option UInt8) (some v) (fun j _ => ih j) i) l i
noncomputable def oIndexT (g i : G) (s : S) : OF := fun _ k F M =>
  caseV (g F) fun v => caseI (i F) fun _ n => strR v fun t => optR (T.str? t) fun b => Int.rec (motive := fun _ => RX) (fun n => optR (nthB b.data.toList n) fun c => fN c.toNat fun c => k (s (.i .u8 (.ofNat c)) F) M) (fun _ => .no) n
noncomputable def eqBs (l m : List UInt8) : Bool := List.rec (motive := fun _ => List UInt8 → Bool) (fun m => List.rec (motive := fun _ => Bool) true (fun _ _ _ => false) m) (fun c _ ih m => List.rec (motive := fun _ => Bool) false (fun d m _ => Bool.rec (motive := fun _ => Bool) false (ih m) (Nat.beq c.toNat d.toNat)) m) l m
noncomputable def oEqT (neg : Bool) (g h : G) (s : S) : OF := fun _ k F M =>
  caseV (g F) fun v => caseV (h F) fun u => strR v fun t => strR u fun t' => optR (T.str? t) fun a => optR (T.str? t') fun b => fB (eqBs a.data.toList b.data.toList) fun r => Bool.rec (motive := fun _ => RX) (k (s (.b r) F) M) (k (s (.b (notB r)) F) M) neg
noncomputable def oExt (i : Nat) (g : G) (s : S) : OF := fun _ k F M => caseV (g F) fun v => tupR v fun l => optR (nthR l i) fun u => fX (V.toX u) fun x => k (s x F) M
noncomputable def setN (l : List V) (i : Nat) (v : V) : Option (List V) := List.rec (motive := fun _ => Nat → Option (List V)) (fun _ => none) (fun u l ih i => Nat.rec (motive := fun _ => Option (List V)) (some (v :: l)) (fun j _ => Option.rec (motive := fun _ => Option (List V)) none (fun m => some (u :: m)) (ih j)) i) l i
noncomputable def overN (vs : List V) (l : List V) : Option (List V) := List.rec (motive := fun _ => List V → Option (List V)) (fun l => some l) (fun v _ ih l => List.rec (motive := fun _ => Option (List V)) none (fun _ l _ => Option.rec (motive := fun _ => Option (List V)) none (fun m => some (v :: m)) (ih l)) l) vs l
noncomputable def setL (l : List V) (i : Nat) (vs : List V) : Option (List V) := List.rec (motive := fun _ => Nat → Option (List V)) (fun i => Nat.rec (motive := fun _ => Option (List V)) (overN vs []) (fun _ _ => none) i) (fun u l ih i => Nat.rec (motive := fun _ => Option (List V)) (overN vs (u :: l)) (fun j _ => Option.rec (motive := fun _ => Option (List V)) none (fun m => some (u :: m)) (ih j)) i) l i
noncomputable def updF (H : Hp) (i : Nat) (f : Blk → Option Blk) : Option Hp := List.rec (motive := fun _ => Option Hp) none (fun e H ih => Prod.rec (motive := fun _ => Option Hp) (fun j b => Bool.rec (motive := fun _ => Option Hp) (Option.rec (motive := fun _ => Option Hp) none (fun m => some ((j, b) :: m)) ih) (Option.rec (motive := fun _ => Option Hp) none (fun c => some ((j, c) :: H)) (f b)) (Nat.beq j i)) e) H
noncomputable def stB (off : Nat) (v : V) (b : Blk) : Option Blk := Blk.rec (motive := fun _ => Option Blk) (fun ty sz cells sp ro => Bool.rec (motive := fun _ => Option Blk) (Nat.rec (motive := fun _ => Option Blk) (Bool.rec (motive := fun _ => Option Blk) (Option.rec (motive := fun _ => Option Blk) none (fun l => some ⟨ty, sz, l, sp, ro⟩) (setN cells off v)) none sp) (fun _ _ => Option.rec (motive := fun _ => Option Blk) none (fun l => some ⟨ty, sz, l, sp, ro⟩) (setN cells off v)) sz) none ro) b
noncomputable def stL (off : Nat) (vs : List V) (b : Blk) : Option Blk := Blk.rec (motive := fun _ => Option Blk) (fun ty sz cells sp ro => Bool.rec (motive := fun _ => Option Blk) (Nat.rec (motive := fun _ => Option Blk) (Bool.rec (motive := fun _ => Option Blk) (Option.rec (motive := fun _ => Option Blk) none (fun l => some ⟨ty, sz, l, sp, ro⟩) (setL cells off vs)) none sp) (fun _ _ => Option.rec (motive := fun _ => Option Blk) none (fun l => some ⟨ty, sz, l, sp, ro⟩) (setL cells off vs)) sz) none ro) b
noncomputable def minN (a b : Nat) : Nat := Bool.rec (motive := fun _ => Nat) b a (Nat.blt a b)
noncomputable def lwX (x : X) (id lw : Nat) (k : Nat → RX) : RX := X.rec (motive := fun _ => RX) (fun _ _ => k lw) (fun _ => k lw) (fun v => Bool.rec (motive := fun _ => RX) (k (minN id lw)) (k lw) (V.plain v)) x
noncomputable def mmR (M : Mm) (k : Hp → Nat → Nat → RX) : RX := Mm.rec (motive := fun _ => RX) k M
noncomputable def oStore1 (g x : G) (s : S) : OF := fun _ k F M =>
  caseV (g F) fun v => ptrR v fun id off => fX (x F) fun u => ifB (V.oneF u.toV) (mmR M fun H nx lw => optR (updF H id (stB off u.toV)) fun H => lwX u id lw fun lw => k (s .undef F) ⟨H, nx, lw⟩) .no
noncomputable def oStoreN (n : Nat) (g x : G) (s : S) : OF := fun _ k F M =>
  caseV (g F) fun v => ptrR v fun id off => caseV (x F) fun u => aggR u fun l => ifB (Nat.beq l.length n) (ifB (allOne l) (mmR M fun H nx lw => optR (updF H id (stL off l)) fun H => lwX (.v u) id lw fun lw => k (s .undef F) ⟨H, nx, lw⟩) .no) .no
noncomputable def newR (M : Mm) (b : Blk) (v : Nat → X) (s : S) (F : F8) (k : K) : RX := mmR M fun H nx lw => k (s (v nx) F) ⟨(nx, b) :: H, Nat.succ nx, lw⟩
def ptr0 (nx : Nat) : X := .v (.ptr nx 0)
noncomputable def oAlloc (t z : Nat) (cells : List V) (s : S) : OF := fun _ k F M => newR M ⟨t, z, cells, false, false⟩ ptr0 s F k
noncomputable def X.cells (x : X) : List V := X.rec (motive := fun _ => List V) (fun k n => [.int k (.int n)]) (fun b => [.bool (.bool b)]) (fun v => V.rec (motive_1 := fun _ => List V) (motive_2 := fun _ => Unit) (fun _ _ => [v]) (fun _ => [v]) (fun _ => [v]) [v] (fun _ _ => [v]) [v] (fun _ _ _ _ => [v]) [v] (fun _ _ _ _ _ => [v]) (fun l _ => l) (fun _ _ => [v]) [v] [v] [v] (fun _ => [v]) [v] (fun _ => [v]) () (fun _ _ _ _ => ()) v) x
noncomputable def lenB (l : List V) (n : Nat) : Bool := List.rec (motive := fun _ => Nat → Bool) (fun n => Nat.rec (motive := fun _ => Bool) true (fun _ _ => false) n) (fun _ _ ih n => Nat.rec (motive := fun _ => Bool) false (fun m _ => ih m) n) l n
noncomputable def oBox (t z : Nat) (g : G) (s : S) : OF := fun _ k F M => fX (g F) fun x => newR M ⟨t, z, x.cells, false, false⟩ ptr0 s F k
noncomputable def fillP (F : F8) (ps : List (Nat × Nat × G)) (cells : List V) : Option (List V) := List.rec (motive := fun _ => List V → Option (List V)) (fun c => some c) (fun p _ ih c => Prod.rec (motive := fun _ => Option (List V)) (fun off q => Prod.rec (motive := fun _ => Option (List V)) (fun z g => Bool.rec (motive := fun _ => Option (List V)) none (Option.rec (motive := fun _ => Option (List V)) none (fun c => ih c) (setL c off (g F).cells)) (lenB (g F).cells z)) q) p) ps cells
noncomputable def oBuild (z : List V) (ps : List (Nat × Nat × G)) (s : S) : OF := fun _ k F M => optR (fillP F ps z) fun l => k (s (.v (.agg l)) F) M
noncomputable def oFn (f : Nat) (as bs : List G) (s : S) : OF := fun _ k F M => k (s (.v (.fn (.func f) (as.map fun g => (g F).toV) (bs.map fun g => (g F).toV))) F) M
noncomputable def trOf (n : Nat) : (Nat → V) → Tr := Nat.rec (motive := fun _ => (Nat → V) → Tr) (fun _ => .lf) (fun _ ih f => .nd (ih fun k => f (2 * k + 1)) (f 0) (ih fun k => f (2 * k + 2))) n
noncomputable def toFr (F : F8) (N : Nat) : Fr := ⟨N, trOf 10 fun i => (gT i F).toV⟩
noncomputable def orR (o : OR) (k : X → Hp → Nat → RX) : RX := OR.rec (motive := fun _ => RX) (fun v H nx vc => List.rec (motive := fun _ => RX) (fX (V.toX v) fun x => k x H nx) (fun _ _ _ => .no) vc) o
noncomputable def oGen (P : Program) (op : Op) (N : Nat) (w : Bool) (s : S) : OF := fun _ k F M => mmR M fun H nx lw =>
  optR (evo P [] (toFr F N) H nx op) fun r => orR r fun x H nx => k (s x F) ⟨H, nx, Bool.rec (motive := fun _ => Nat) lw 0 w⟩
noncomputable def oNo : OF := fun _ _ _ _ => .no
noncomputable def cxR (c : CX) (lw : Nat) (k : X → Mm → RX) : RX := CX.rec (motive := fun _ => RX) (fun x M => mmR M fun H nx l => k x ⟨H, nx, minN l lw⟩) .no c
noncomputable def oCall (f : Nat) (gs : List G) (s : S) : OF := fun c k F M => cxR (c f (gs.map fun g => g F) M) M.lw fun x M => k (s x F) M
noncomputable def fnR (v : V) (k : Nat → List V → List V → RX) : RX := match v with
  | .fn (.func g) a b => k g a b
  | _ => .no
noncomputable def oCallV (g : G) (gs : List G) (s : S) : OF := fun c k F M => caseV (g F) fun v => fnR v fun f a b => cxR (c f (a.map V.toX ++ ((gs.map fun g => g F) ++ b.map V.toX)) M) M.lw fun x M => k (s x F) M
noncomputable def isU (x : X) : Bool := X.rec (motive := fun _ => Bool) (fun _ _ => false) (fun _ => false) (fun v => Option.rec (motive := fun _ => Bool) false (fun l => List.rec (motive := fun _ => Bool) true (fun _ _ _ => false) l) (V.tup? v)) x
noncomputable def oIf (g : G) (want : Bool) (s : S) (o : OF) : OF := fun c k F M =>
  X.rec (motive := fun _ => RX) (fun _ _ => .no) (fun b => ifB b (Bool.rec (motive := fun _ => RX) (k (s .undef F) M) (o c k F M) want) (Bool.rec (motive := fun _ => RX) (o c k F M) (k (s .undef F) M) want)) (fun v => ifB (isU (.v v)) (k (s .undef F) M) .no) (g F)
noncomputable def oDefer (g : G) (gs : List G) (s : S) : OF := fun _ k F M => ifB (isU (gT 511 F)) (caseV (g F) fun v => fnR v fun f a b => k (s .undef (sT 511 (.v (.agg (.fn (.func f) a b :: gs.map fun g => (g F).toV))) F)) M) .no
noncomputable def cOps (l : List OF) : CF := fun c _ => List.rec (motive := fun _ => K) (fun F M => .nrm F M) (fun o _ ih => o c ih) l
noncomputable def cSkip : CF := fun _ _ F M => .nrm F M
noncomputable def cRet : CF := fun _ _ F M => .ret F M
noncomputable def cExit (id : Nat) : CF := fun _ _ F M => .ext id F M
noncomputable def cNo : CF := fun _ _ _ _ => .no
noncomputable def cSeq (a b : CF) : CF := fun c n F M => RX.rec (motive := fun _ => RX) (fun F M => b c n F M) (fun id F M => .ext id F M) (fun F M => .ret F M) .no (a c n F M)
noncomputable def cCond (g : G) (a b : CF) : CF := fun c n F M => caseB (g F) fun t => ifB t (a c n F M) (b c n F M)
noncomputable def cBlock (id : Nat) (a : CF) : CF := fun c n F M => RX.rec (motive := fun _ => RX) (fun F M => .nrm F M) (fun j F M => ifB (Nat.beq j id) (.nrm F M) (.ext j F M)) (fun F M => .ret F M) .no (a c n F M)
noncomputable def cLoop (a : CF) : CF := fun c n => Nat.rec (motive := fun _ => K) (fun _ _ => .no) (fun _ ih F M => RX.rec (motive := fun _ => RX) ih (fun id F M => .ext id F M) (fun F M => .ret F M) .no (a c n F M)) n
structure FF where
  body : CF
  ent : List S
  res : List ResultVar
inductive TT where
  | lf
  | nd (l : TT) (i : Nat) (f : FF) (r : TT)
noncomputable def TT.get (t : TT) (i : Nat) : Option FF := TT.rec (motive := fun _ => Option FF) none (fun _ j f _ il ir => Bool.rec (motive := fun _ => Option FF) (Bool.rec (motive := fun _ => Option FF) ir il (Nat.blt i j)) (some f) (Nat.beq i j)) t
noncomputable def fillX (e : List S) (l : List X) : Option F8 := List.rec (motive := fun _ => List S → F8 → Option F8) (fun _ F => some F) (fun x _ ih e F => List.rec (motive := fun _ => Option F8) none (fun s e _ => ih e (s x F)) e) l e F8.none
noncomputable def resX (P : Program) (F : F8) (H : Hp) : List ResultVar → Option (List V)
  | [] => some []
  | .tmp t :: l => (resX P F H l).map fun vs => (gT t F).toV :: vs
  | .cell a t :: l => match (gT a F).toV with
    | .ptr id off => (Vx.lookC H id).bind fun b => (partV P t b.cells off).bind fun v => (resX P F H l).map fun vs => v :: vs
    | _ => none
noncomputable def young (n : Nat) (H : Hp) : Hp := List.rec (motive := fun _ => Hp) [] (fun e H ih => Prod.rec (motive := fun _ => Hp) (fun j b => Bool.rec (motive := fun _ => Hp) ((j, b) :: H) ih (Nat.ble n j)) e) H
noncomputable def dropX (plain : Bool) (nx0 lw : Nat) (H : Hp) : Hp := Bool.rec (motive := fun _ => Hp) H (Bool.rec (motive := fun _ => Hp) (young nx0 H) H (Nat.blt lw nx0)) plain
noncomputable def outX (P : Program) (rs : List ResultVar) (nx0 : Nat) (F : F8) (M : Mm) : CX := Option.rec (motive := fun _ => CX) .no (fun vs => .val (V.toX (packV vs)) ⟨dropX (V.plainL vs) nx0 M.lw M.H, M.nx, M.lw⟩) (resX P F M.H rs)
noncomputable def rxC (r : RX) (k : F8 → Mm → CX) : CX := RX.rec (motive := fun _ => CX) k (fun _ _ _ => .no) k .no r
noncomputable def bodyX (t : TT) (m : Nat) (ih : Cl) (f : Nat) (args : List X) (M : Mm) (fin : List ResultVar → Nat → F8 → Mm → CX) : CX :=
  Option.rec (motive := fun _ => CX) .no (fun ff => FF.rec (motive := fun _ => CX) (fun body ent rs => Option.rec (motive := fun _ => CX) .no (fun F0 => Mm.rec (motive := fun _ => CX) (fun H nx _ => rxC (body ih m F0 ⟨H, nx, nx⟩) (fin rs nx)) M) (fillX ent args)) ff) (t.get f)
noncomputable def finN (P : Program) (rs : List ResultVar) (nx0 : Nat) (F : F8) (M : Mm) : CX := Bool.rec (motive := fun _ => CX) .no (outX P rs nx0 F M) (isU (gT 511 F))
noncomputable def finX (P : Program) (t : TT) (m : Nat) (ih : Cl) (rs : List ResultVar) (nx0 : Nat) (F : F8) (M : Mm) : CX := match gT 511 F with
  | .v (.tup []) => outX P rs nx0 F M
  | .v (.agg (.fn (.func f) a b :: l)) => CX.rec (motive := fun _ => CX) (fun _ M' => outX P rs nx0 F ⟨M'.H, M'.nx, minN M'.lw M.lw⟩) .no (bodyX t m ih f (a.map V.toX ++ (l.map V.toX ++ b.map V.toX)) M (finN P))
  | _ => .no
noncomputable def callX (P : Program) (t : TT) (kn : Nat → Bool) (n m : Nat) : Cl := Nat.rec (motive := fun _ => Cl) (fun _ _ _ => .no) (fun _ ih f args M => Bool.rec (motive := fun _ => CX) (bodyX t m ih f args M (finX P t m ih)) (List.rec (motive := fun _ => CX) (.val (.b true) M) (fun _ _ _ => .no) args) (kn f)) n
noncomputable def okX (c : CX) : Bool := CX.rec (motive := fun _ => Bool) (fun x _ => X.rec (motive := fun _ => Bool) (fun _ _ => false) (fun b => b) (fun _ => false) x) false c
def memB (i : Nat) : Hp → Bool
  | [] => false
  | (j, _) :: H => Nat.beq i j || memB i H
def ndB : Hp → Bool
  | [] => true
  | (j, _) :: H => !(memB j H) && ndB H
def srtB (H : Hp) (nx : Nat) : Bool := H.all (fun e => Nat.blt e.1 nx) && ndB H
noncomputable def slowC (cl : Cl) (f : FuncId) (args : List V) (st : St) : Option COut :=
  CX.rec (motive := fun _ => Option COut) (fun x M => Bool.rec (motive := fun _ => Option COut) none (some ([(x.toV, ⟨st.F, M.H, M.nx, st.pc⟩)], [])) (srtB st.H st.nx)) none (cl f (args.map V.toX) ⟨st.H, st.nx, st.nx⟩)
def N8.of {α : Type} (f : Nat → α) : N8 α := ⟨f 0, f 1, f 2, f 3, f 4, f 5, f 6, f 7⟩
noncomputable def backX (F : F8) (Fr' : Fr) : F8 := .of fun i => .of fun j => .of fun k => Bool.rec (motive := fun _ => X) (V.toX (Fr'.t.get (64 * i + 8 * j + k))) (gT 511 F) (Nat.beq (64 * i + 8 * j + k) 511)
def ltB' (H : Hp) (nx : Nat) : Bool := H.all fun e => Nat.blt e.1 nx
noncomputable def ddM (H : Hp) : Nat → Hp := List.rec (motive := fun _ => Nat → Hp) (fun _ => []) (fun e _ ih m => Prod.rec (motive := fun _ => Hp) (fun j b => Bool.rec (motive := fun _ => Hp) ((j, b) :: ih (m ||| 2 ^ j)) (ih m) (Nat.testBit m j)) e) H
noncomputable def dd (H : Hp) : Hp := ddM H 0
noncomputable def cDraw (P : Program) (funs : List (FuncId × Func)) (N : Nat) (ops : Array Oper) : CF := fun cl _ F M =>
  match runDD P funs (slowC cl) ops ⟨toFr F N, M.H, M.nx, []⟩ with
  | some ([(.nrm, st)], []) => Bool.rec (motive := fun _ => RX) .no (.nrm (backX F st.F) ⟨dd st.H, st.nx, 0⟩) (ltB' st.H st.nx && Nat.beq st.F.n N)
  | _ => .no
def okO (N : Nat) : Operand → Bool
  | .tmp t => Nat.blt t N
  | .const v => (ofValue v).isSome
  | .func _ => true
  | .global _ => false
def kX (x : X) : G := fun _ => x
noncomputable def gX : Operand → G
  | .tmp t => gT t
  | .const v => kX (V.toX ((ofValue v).getD .bad))
  | .func f => kX (.v (.fn (.func f) [] []))
  | .global _ => kX (.v .bad)
noncomputable def dS : Option Tmp → S
  | some t => sT t
  | none => sN
def okD (N : Nat) : Option Tmp → Bool
  | some t => Nat.blt t N
  | none => true
def bopOk : BinOp → Bool
  | .add | .sub | .mul | .eql | .neq | .lss | .leq | .gtr | .geq => true
  | _ => false
def partG (pl : Nat → Option (Nat × Nat)) : List (Nat × Operand) → Option (List (Nat × Nat × Operand))
  | [] => some []
  | (i, x) :: l => (pl i).bind fun q => (partG pl l).map fun m => (q.1, q.2, x) :: m
noncomputable def partX : List (Nat × Nat × Operand) → List (Nat × Nat × G)
  | [] => []
  | (o, z, x) :: l => (o, z, gX x) :: partX l
noncomputable def compCall (funs : List (FuncId × Func)) (gen : OF) (d : S) (f : Operand) (args : List Operand) : OF := match f with
  | .func g => match findF funs g with
    | some _ => oCall g (args.map gX) d
    | none => gen
  | f => oCallV (gX f) (args.map gX) d
noncomputable def compLen (P : Program) (gen : OF) (d : S) (args : List Operand) (ts : List TypeId) : OF := match args, ts with
  | [x], [t] => match P.underlying t with
    | some (.slice _) => oLenS (gX x) d
    | some .string => oLenT (gX x) d
    | _ => gen
  | _, _ => gen
noncomputable def compOp' (P : Program) (funs : List (FuncId × Func)) (N : Nat) (d : S) (op : Op) : OF :=
  let gen (w : Bool) : OF := oGen P op N w d
  match op with
  | .move x => oMove (gX x) d
  | .assign x => oMove (gX x) d
  | .pick c a b => oPick (gX c) (gX a) (gX b) d
  | .binOp op t x y _ => match P.underlying t with
    | some (.int _) => (match bopOk op with
      | true => oBin op (gX x) (gX y) d
      | false => gen false)
    | some .string => (match op with
      | .eql => oEqT false (gX x) (gX y) d
      | .neq => oEqT true (gX x) (gX y) d
      | _ => gen false)
    | _ => gen false
  | .unOp op _ x => (match op with
    | .not => oNot (gX x) d
    | _ => gen false)
  | .load t a => match aggB P t, szOf P t with
    | some false, _ => oLoad1 (gX a) d
    | some true, some (n + 1) => oLoadN (n + 1) (gX a) d
    | _, _ => gen false
  | .store t a x => match aggB P t, szOf P t with
    | some false, some 1 => oStore1 (gX a) (gX x) d
    | some true, some n => oStoreN n (gX a) (gX x) d
    | _, _ => gen true
  | .fieldAddr t x f => match P.underlying t with
    | some (.struct fs) => (match fs[f]? with
      | some fd => (match szOf P fd.type with
        | some (_ + 1) => oFieldAddr fd.offset (gX x) d
        | _ => gen false)
      | none => gen false)
    | _ => gen false
  | .indexAddr t x i => match P.underlying t with
    | some (.slice e) => (match szOf P e with
      | some z => oIndexAddr z (gX x) (gX i) d
      | none => gen false)
    | some (.array n e) => (match szOf P e with
      | some z => oIndexArr n z (gX x) (gX i) d
      | none => gen false)
    | _ => gen false
  | .index t x i => match P.underlying t with
    | some .string => oIndexT (gX x) (gX i) d
    | _ => gen false
  | .extract x i => oExt i (gX x) d
  | .convert a b x => match P.underlying a, P.underlying b with
    | some (.int _), some (.int k) => oConv k (gX x) d
    | _, _ => gen false
  | .alloc t => match zeroV P t, szOf P t with
    | some z, some n => oAlloc t n z.cells d
    | _, _ => gen false
  | .box t x => match szOf P t with
    | some n => oBox t n (gX x) d
    | none => gen false
  | .makeFunc f a b => match f with
    | .func g => oFn g (a.toList.map gX) (b.toList.map gX) d
    | _ => gen false
  | .build t ps => match zeroV P t, P.underlying t with
    | some z, some (.struct fs) => (match mapO (fun (f : Field) => (szOf P f.type).map fun s => (f.offset, s)) fs.toList with
      | some pl => (match partG (fun i => pl[i]?) ps.toList with
        | some l => oBuild z.cells (partX l) d
        | none => gen false)
      | none => gen false)
    | _, _ => gen false
  | .call { callee, args, argTypes } => match callee with
    | .builtin b => (match b with
      | .len => compLen P (gen false) d args.toList argTypes.toList
      | .copy => gen true
      | _ => gen false)
    | .value f => compCall funs (gen false) d f args.toList
    | _ => oNo
  | .mapUpdate .. => gen true
  | .defer { callee, args, argTypes := _ } => match callee with
    | .value f => oDefer (gX f) (args.toList.map gX) d
    | _ => oNo
  | _ => gen false
def okOp (N : Nat) (o : Oper) : Bool := okD N o.dst && o.op.operands.toList.all (okO N)
noncomputable def compOp (P : Program) (funs : List (FuncId × Func)) (N : Nat) (o : Oper) : OF := match okOp N o with
  | true => compOp' P funs N (dS o.dst) o.op
  | false => oNo
noncomputable def compG (P : Program) (funs : List (FuncId × Func)) (N : Nat) (ops : List Oper) (o : Oper) : OF := match o.guard with
  | none => compOp P funs N o
  | some (j, want) => match (ops[j]?).bind (·.dst) with
    | some t => (match Nat.blt t N with
      | true => oIf (gT t) want (dS o.dst) (compOp P funs N o)
      | false => oNo)
    | none => oNo
def pureOp : Op → Bool
  | .move _ | .assign _ | .pick .. | .build .. | .load .. | .nilCheck _ | .binOp .. | .unOp .. | .convert .. | .makeFunc .. | .slice .. | .fieldAddr .. | .field .. | .indexAddr .. | .index .. | .lookup .. | .extract .. => true
  | .call { callee := .builtin b, .. } => (match b with | .len | .cap | .min | .max | .unsafeSliceData => true | _ => false)
  | _ => false
def pureAll (L : List Oper) (lo k : Nat) : Bool := ((L.take k).drop lo).all fun o => pureOp o.op
def barFrom (pre : List Nat) (n : Nat) : Nat → Nat → Nat
  | 0, k => k
  | f + 1, k => if Nat.blt k n then (if barB pre n k then k else barFrom pre n f (k + 1)) else n
def segsB (ops : Array Oper) (pre : List Nat) : Nat → Nat → Bool
  | 0, _ => false
  | f + 1, lo => if Nat.beq lo ops.size then true
    else if barB pre ops.size lo then segsB ops pre f (lo + 1)
    else
      let k := barFrom pre ops.size ops.size lo
      Nat.blt lo k && Nat.ble k ops.size && (Nat.beq k ops.size || barB pre ops.size k) && pureAll ops.toList lo k && Region.noSelect (segL ops.toList lo k).toArray &&
        Region.lexFrom .any (segL ops.toList lo k).toArray (k - lo) lo ((List.range k).map fun i => decide (i < lo)).toArray && segsB ops pre f k
def drawOk (ops : Array Oper) : Bool := guardsB ops.toList && closedB ops.toList (CheckFast.beforeL ops.toList 0 []) && segsB ops (CheckFast.beforeL ops.toList 0 []) (ops.size + 1) 0
noncomputable def compC (P : Program) (funs : List (FuncId × Func)) (N : Nat) : Code → CF
  | .skip => cSkip
  | .label _ => cSkip
  | .region _ ops draw => (match draw with
    | false => cOps (ops.toList.map (compG P funs N ops.toList))
    | true => (match drawOk ops with
      | true => cOps (ops.toList.map (compG P funs N ops.toList))
      | false => cDraw P funs N ops))
  | .seq a b => cSeq (compC P funs N a) (compC P funs N b)
  | .cond c a b => (match okO N c with
    | true => cCond (gX c) (compC P funs N a) (compC P funs N b)
    | false => cNo)
  | .block id a => cBlock id (compC P funs N a)
  | .loop a => cLoop (compC P funs N a)
  | .exit id => cExit id
  | .scope a => compC P funs N a
  | .ret => cRet
  | _ => cNo
def codeAt : Code → List Bool → Code
  | c, [] => c
  | .seq a b, q :: p => codeAt (match q with | false => a | true => b) p
  | .cond _ a b, q :: p => codeAt (match q with | false => a | true => b) p
  | .block _ a, _ :: p => codeAt a p
  | .loop a, _ :: p => codeAt a p
  | .scope a, _ :: p => codeAt a p
  | c, _ => c
def opsAt (c : Code) (p : List Bool) : Array Oper := match codeAt c p with
  | .region _ ops _ => ops
  | _ => #[]
def opAt (c : Code) (p : List Bool) (i : Nat) : Op := match (opsAt c p).toList[i]? with
  | some o => o.op
  | none => .ready 0
end Go.Proofs.Ytehbfajmileefaa.Fx
