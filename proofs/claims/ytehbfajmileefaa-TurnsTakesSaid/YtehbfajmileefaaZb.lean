import Derived.Test.YtehbfajmileefaaZa
namespace Go.Proofs.Ytehbfajmileefaa.Px
open Go.RowKit Go.Proofs.Ytehbfajmileefaa.Vx Go.Proofs.Ytehbfajmileefaa.Fx
set_option linter.unusedVariables false
set_option linter.unusedSimpArgs false
set_option maxRecDepth 10000
inductive VO where
  | move (g : G)
  | bin (op : BinOp) (g1 g2 : G)
  | not (g : G)
  | pick (c g1 g2 : G)
  | conv (kd : IntKind) (g : G)
  | load1 (g : G)
  | loadN (n : Nat) (g : G)
  | fieldAddr (d : Nat) (g : G)
  | indexAddr (z : Nat) (g i : G)
  | indexArr (m z : Nat) (g i : G)
  | lenS (g : G)
  | lenT (g : G)
  | indexT (g i : G)
  | eqT (neg : Bool) (g h : G)
  | ext (i : Nat) (g : G)
  | store1 (g x : G)
  | storeN (n : Nat) (g x : G)
  | alloc (t z : Nat) (cells : List V)
  | box (t z : Nat) (g : G)
  | build (z : List V) (ps : List (Nat × Nat × G))
  | call (f : Nat) (gs : List G)
  | callV (g : G) (gs : List G)
  | fn (f : Nat) (as bs : List G)
  | guard (g : G) (want : Bool) (o : VO)
  | app (P : Program) (t u : TypeId) (x y : Operand) (N : Nat)
  | copy (P : Program) (t u : TypeId) (x y : Operand) (N : Nat)
  | slice (P : Program) (t : TypeId) (x : Operand) (lo hi mx : Option Operand) (N : Nat)
  | binG (P : Program) (op : BinOp) (t q : TypeId) (x y : Operand) (N : Nat)
  | cap (P : Program) (t : TypeId) (x : Operand) (N : Nat)
  | mm (P : Program) (mn : Bool) (x y : Operand) (ts : Array TypeId) (N : Nat)
  | make (P : Program) (t : TypeId) (x y : Operand) (N : Nat)
  | slit (P : Program) (t : TypeId) (len : Nat) (ps : List (Nat × Operand)) (N : Nat)
  | indexA (P : Program) (t : TypeId) (x i : Operand) (N : Nat)
noncomputable def VO.den : VO → S → OF
  | .move g, s => oMove g s
  | .bin op g1 g2, s => oBin op g1 g2 s
  | .not g, s => oNot g s
  | .pick c g1 g2, s => oPick c g1 g2 s
  | .conv kd g, s => oConv kd g s
  | .load1 g, s => oLoad1 g s
  | .loadN n g, s => oLoadN n g s
  | .fieldAddr d g, s => oFieldAddr d g s
  | .indexAddr z g i, s => oIndexAddr z g i s
  | .indexArr m z g i, s => oIndexArr m z g i s
  | .lenS g, s => oLenS g s
  | .lenT g, s => oLenT g s
  | .indexT g i, s => oIndexT g i s
  | .eqT n g h, s => oEqT n g h s
  | .ext i g, s => oExt i g s
  | .store1 g x, s => oStore1 g x s
  | .storeN n g x, s => oStoreN n g x s
  | .alloc t z c, s => oAlloc t z c s
  | .box t z g, s => oBox t z g s
  | .build z ps, s => oBuild z ps s
  | .call f gs, s => oCall f gs s
  | .callV g gs, s => oCallV g gs s
  | .fn f as bs, s => oFn f as bs s
  | .guard g w o, s => oIf g w s (o.den s)
  | .app P t u x y N, s => oGen P (.call { callee := .builtin .append, args := #[x, y], argTypes := #[t, u] }) N false s
  | .copy P t u x y N, s => oGen P (.call { callee := .builtin .copy, args := #[x, y], argTypes := #[t, u] }) N true s
  | .slice P t x lo hi mx N, s => oGen P (.slice t x lo hi mx) N false s
  | .binG P op t q x y N, s => oGen P (.binOp op t x y q) N false s
  | .cap P t x N, s => oGen P (.call { callee := .builtin .cap, args := #[x], argTypes := #[t] }) N false s
  | .mm P mn x y ts N, s => oGen P (.call { callee := .builtin (match mn with | true => .min | false => .max), args := #[x, y], argTypes := ts }) N false s
  | .make P t x y N, s => oGen P (.makeSlice t x y) N false s
  | .slit P t len ps N, s => oGen P (.buildSlice t len ps.toArray) N false s
  | .indexA P t x i N, s => oGen P (.index t x i) N false s
def okOp? (N : Nat) : Option Operand → Bool
  | none => true
  | some x => okO N x
def VO.ok : VO → Bool
  | .guard _ _ o => o.ok
  | .app _ _ _ x y N => Nat.ble N 511 && okO N x && okO N y
  | .copy _ _ _ x y N => Nat.ble N 511 && okO N x && okO N y
  | .slice _ _ x lo hi mx N => Nat.ble N 511 && okO N x && okOp? N lo && okOp? N hi && okOp? N mx
  | .binG _ _ _ _ x y N => Nat.ble N 511 && okO N x && okO N y
  | .cap _ _ x N => Nat.ble N 511 && okO N x
  | .mm _ _ x y _ N => Nat.ble N 511 && okO N x && okO N y
  | .make _ _ x y N => Nat.ble N 511 && okO N x && okO N y
  | .slit _ _ _ ps N => Nat.ble N 511 && ps.all fun q => okO N q.2
  | .indexA _ _ x i N => Nat.ble N 511 && okO N x && okO N i
  | _ => true
noncomputable def VO.val (cl : Cl) : VO → F8 → Mm → (X → Mm → CX) → CX
  | .move g, F, M, k => k (g F) M
  | .bin op g1 g2, F, M, k => vBin op (g1 F) (g2 F) fun x => k x M
  | .not g, F, M, k => vNot (g F) fun x => k x M
  | .pick c g1 g2, F, M, k => vPick (c F) (g1 F) (g2 F) fun x => k x M
  | .conv kd g, F, M, k => vConv kd (g F) fun x => k x M
  | .load1 g, F, M, k => vLoad1 (g F) M fun x => k x M
  | .loadN n g, F, M, k => vLoadN n (g F) M fun x => k x M
  | .fieldAddr d g, F, M, k => vFieldAddr d (g F) fun x => k x M
  | .indexAddr z g i, F, M, k => vIndexAddr z (g F) (i F) fun x => k x M
  | .indexArr m z g i, F, M, k => vIndexArr m z (g F) (i F) fun x => k x M
  | .lenS g, F, M, k => vLenS (g F) fun x => k x M
  | .lenT g, F, M, k => vLenT (g F) fun x => k x M
  | .indexT g i, F, M, k => vIndexT (g F) (i F) fun x => k x M
  | .eqT n g h, F, M, k => vEqT n (g F) (h F) fun x => k x M
  | .ext i g, F, M, k => vExt i (g F) fun x => k x M
  | .store1 g x, F, M, k => vStore1 (g F) (x F) M k
  | .storeN n g x, F, M, k => vStoreN n (g F) (x F) M k
  | .alloc t z c, F, M, k => vAlloc t z c M k
  | .box t z g, F, M, k => vBox t z (g F) M k
  | .build z ps, F, M, k => vBuild z (ps.map fun q => (q.1, q.2.1, q.2.2 F)) fun y => k y M
  | .call f gs, F, M, k => vCall cl f (gs.map fun g => g F) M k
  | .callV g gs, F, M, k => vCallV cl (g F) (gs.map fun g => g F) M k
  | .fn f as bs, F, M, k => vFn f (as.map fun g => g F) (bs.map fun g => g F) fun y => k y M
  | .guard g w o, F, M, k => vGuard (g F) w (fun k' => o.val cl F M k') M k
  | .app P t u x y N, F, M, k => vApp P t u (gX x F) (gX y F) M k
  | .copy P t u x y N, F, M, k => vCopy P t u (gX x F) (gX y F) M k
  | .slice P t x lo hi mx N, F, M, k => vSlice P t (gX x F) (lo.map fun y => gX y F) (hi.map fun y => gX y F) (mx.map fun y => gX y F) M k
  | .binG P op t q x y N, F, M, k => vBinG P op t (gX x F) (gX y F) M k
  | .cap P t x N, F, M, k => vCap P t (gX x F) M k
  | .mm P mn x y ts N, F, M, k => vMM mn (gX x F) (gX y F) M k
  | .make P t x y N, F, M, k => vMake P t (gX x F) (gX y F) M k
  | .slit P t len ps N, F, M, k => vSlit P t len (ps.map fun q => (q.1, gX q.2 F)) M k
  | .indexA P t x i N, F, M, k => vIndexA P t (gX x F) (gX i F) M k
noncomputable def opsK (cl : Cl) : List (VO × S) → (F8 → Mm → CX) → F8 → Mm → CX
  | [], k => k
  | o :: l, k => fun F M => o.1.val cl F M fun y M => opsK cl l k (o.2 y F) M
end Go.Proofs.Ytehbfajmileefaa.Px
