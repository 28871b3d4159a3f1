/-
  No cell of these rows narrows 'for every input' (looked for: loops, veiled, ifaces, maps, wideKeys, modest, calm, conditions, laid).
  DERIVED. THE GIVEN ROWS OF THIS SEAT. 6 by the template 'for every input the law returns true; each argument reads behind the call as it read before'; 0 by the template 'total and deterministic' (their statements: YteojndglglkgpaaTotals.lean).
  GIVEN WITH THE SEED: the statements are not yours to turn. If you find one false, say at which input.
  Laid BY PROGRAM, IN A SANDBOX (cutbox-rows.mjs): the forced cells as the released guide's own fill.sh prints them over the translation eb3aa8ddb4edc84f… (all of the seat's roots in one cut). By AI agents, Wed Nov 11 2026. No macro, syntax, notation, axiom, sorry.
-/
import Derived.Test.YteojndglglkgpaaChecked
import GoSem.Claim
import GoSem.ClaimJoined
import GoSem.ClaimMapViews
import Derived.JoinedTies
import Derived.KernelRfl
namespace Go.Proofs.Yteojndglglkgpaa
/- THE CELL 'sum', in the pinned program and in every row, IS THE sha256 OF THE DUMP (.gsa) THAT YteojndglglkgpaaProg.lean LOADS. Nothing in Lean hashes anything: it is a label: what it is worth is what the hold of that sum in a sandbox is worth. -/
noncomputable def Try.pinned : Pinned := { name := "yteojndglglkgpaa", sum := "eb3aa8ddb4edc84f7f0d1969a6db79c2a5fadfd4bca441a05fef7228fbfea6b3", checked := Try.checked }
namespace Rows
def none {H : Type} : Left H := { results := [], args := [] }

/-- 'countersignlaw34.BucketsAt': WHATEVER THE INPUT: true; the input reads as it did. -/
def bucketsAtSpec : ChangeSpec := { name := "bucketsAt", fn := fun _ => fun
  | [d1, d2, d3] => { results := [.lit (.bool true)], args := [d1, d2, d3] }
  | _ => none }
def bucketsAtRow : OpenClaim := { program := "yteojndglglkgpaa", sum := "eb3aa8ddb4edc84f7f0d1969a6db79c2a5fadfd4bca441a05fef7228fbfea6b3", func := "countersign/countersignlaw34.BucketsAt", spec := "bucketsAt", unfollowed := true, recurses := true, apart := false }
def BucketsAtSaid : Prop := bucketsAtRow.holds Try.pinned (OpenSpec.ofChange bucketsAtSpec)

/-- ITS FALSE NEIGHBOUR: 'it returns false'. Refute it at one input. -/
def bucketsAtWrong : ChangeSpec := { name := "bucketsAt", fn := fun _ => fun
  | [d1, d2, d3] => { results := [.lit (.bool false)], args := [d1, d2, d3] }
  | _ => none }
def BucketsAtWrongFalsely : Prop := bucketsAtRow.holds Try.pinned (OpenSpec.ofChange bucketsAtWrong)

/-- 'countersignlaw34.BucketsNew': WHATEVER THE INPUT: true; the input reads as it did. -/
def bucketsNewSpec : ChangeSpec := { name := "bucketsNew", fn := fun _ => fun
  | [d1, d2, d3] => { results := [.lit (.bool true)], args := [d1, d2, d3] }
  | _ => none }
def bucketsNewRow : OpenClaim := { program := "yteojndglglkgpaa", sum := "eb3aa8ddb4edc84f7f0d1969a6db79c2a5fadfd4bca441a05fef7228fbfea6b3", func := "countersign/countersignlaw34.BucketsNew", spec := "bucketsNew", unfollowed := true, recurses := true, apart := false }
def BucketsNewSaid : Prop := bucketsNewRow.holds Try.pinned (OpenSpec.ofChange bucketsNewSpec)

/-- ITS FALSE NEIGHBOUR: 'it returns false'. Refute it at one input. -/
def bucketsNewWrong : ChangeSpec := { name := "bucketsNew", fn := fun _ => fun
  | [d1, d2, d3] => { results := [.lit (.bool false)], args := [d1, d2, d3] }
  | _ => none }
def BucketsNewWrongFalsely : Prop := bucketsNewRow.holds Try.pinned (OpenSpec.ofChange bucketsNewWrong)

/-- 'countersignlaw34.BucketsAfter': WHATEVER THE INPUT: true; the input reads as it did. -/
def bucketsAfterSpec : ChangeSpec := { name := "bucketsAfter", fn := fun _ => fun
  | [d1, d2, d3] => { results := [.lit (.bool true)], args := [d1, d2, d3] }
  | _ => none }
def bucketsAfterRow : OpenClaim := { program := "yteojndglglkgpaa", sum := "eb3aa8ddb4edc84f7f0d1969a6db79c2a5fadfd4bca441a05fef7228fbfea6b3", func := "countersign/countersignlaw34.BucketsAfter", spec := "bucketsAfter", unfollowed := true, recurses := true, apart := false }
def BucketsAfterSaid : Prop := bucketsAfterRow.holds Try.pinned (OpenSpec.ofChange bucketsAfterSpec)

/-- ITS FALSE NEIGHBOUR: 'it returns false'. Refute it at one input. -/
def bucketsAfterWrong : ChangeSpec := { name := "bucketsAfter", fn := fun _ => fun
  | [d1, d2, d3] => { results := [.lit (.bool false)], args := [d1, d2, d3] }
  | _ => none }
def BucketsAfterWrongFalsely : Prop := bucketsAfterRow.holds Try.pinned (OpenSpec.ofChange bucketsAfterWrong)

/-- 'countersignlaw34.BucketsPlay': WHATEVER THE INPUT: true; the input reads as it did. -/
def bucketsPlaySpec : ChangeSpec := { name := "bucketsPlay", fn := fun _ => fun
  | [d1, d2] => { results := [.lit (.bool true)], args := [d1, d2] }
  | _ => none }
def bucketsPlayRow : OpenClaim := { program := "yteojndglglkgpaa", sum := "eb3aa8ddb4edc84f7f0d1969a6db79c2a5fadfd4bca441a05fef7228fbfea6b3", func := "countersign/countersignlaw34.BucketsPlay", spec := "bucketsPlay", unfollowed := true, recurses := true, apart := false }
def BucketsPlaySaid : Prop := bucketsPlayRow.holds Try.pinned (OpenSpec.ofChange bucketsPlaySpec)

/-- ITS FALSE NEIGHBOUR: 'it returns false'. Refute it at one input. -/
def bucketsPlayWrong : ChangeSpec := { name := "bucketsPlay", fn := fun _ => fun
  | [d1, d2] => { results := [.lit (.bool false)], args := [d1, d2] }
  | _ => none }
def BucketsPlayWrongFalsely : Prop := bucketsPlayRow.holds Try.pinned (OpenSpec.ofChange bucketsPlayWrong)

/-- 'countersignlaw34.BucketsWindow': WHATEVER THE INPUT: true; the input reads as it did. -/
def bucketsWindowSpec : ChangeSpec := { name := "bucketsWindow", fn := fun _ => fun
  | [d1, d2] => { results := [.lit (.bool true)], args := [d1, d2] }
  | _ => none }
def bucketsWindowRow : OpenClaim := { program := "yteojndglglkgpaa", sum := "eb3aa8ddb4edc84f7f0d1969a6db79c2a5fadfd4bca441a05fef7228fbfea6b3", func := "countersign/countersignlaw34.BucketsWindow", spec := "bucketsWindow", unfollowed := true, recurses := true, apart := false }
def BucketsWindowSaid : Prop := bucketsWindowRow.holds Try.pinned (OpenSpec.ofChange bucketsWindowSpec)

/-- ITS FALSE NEIGHBOUR: 'it returns false'. Refute it at one input. -/
def bucketsWindowWrong : ChangeSpec := { name := "bucketsWindow", fn := fun _ => fun
  | [d1, d2] => { results := [.lit (.bool false)], args := [d1, d2] }
  | _ => none }
def BucketsWindowWrongFalsely : Prop := bucketsWindowRow.holds Try.pinned (OpenSpec.ofChange bucketsWindowWrong)

/-- 'countersignlaw34.BucketsKnown': WHATEVER THE INPUT: true; the input reads as it did. -/
def bucketsKnownSpec : ChangeSpec := { name := "bucketsKnown", fn := fun _ => fun
  | [] => { results := [.lit (.bool true)], args := [] }
  | _ => none }
def bucketsKnownRow : OpenClaim := { program := "yteojndglglkgpaa", sum := "eb3aa8ddb4edc84f7f0d1969a6db79c2a5fadfd4bca441a05fef7228fbfea6b3", func := "countersign/countersignlaw34.BucketsKnown", spec := "bucketsKnown", unfollowed := true, recurses := true, apart := false }
def BucketsKnownSaid : Prop := bucketsKnownRow.holds Try.pinned (OpenSpec.ofChange bucketsKnownSpec)

/-- ITS FALSE NEIGHBOUR: 'it returns false'. Refute it at one input. -/
def bucketsKnownWrong : ChangeSpec := { name := "bucketsKnown", fn := fun _ => fun
  | [] => { results := [.lit (.bool false)], args := [] }
  | _ => none }
def BucketsKnownWrongFalsely : Prop := bucketsKnownRow.holds Try.pinned (OpenSpec.ofChange bucketsKnownWrong)

/- THE SECOND FORM. 'bulk': how many values and letters a reading holds, each counted each time it is reached (what is shared counts as often as it is met; a slice's spare places count too). A statement '..UptoSaid' is the law's where the arguments, and the package variables that the reading takes, are together of bulk at most 1048576: NARROWER than '..Said'. Prove '..Said' where nothing that the law and all that it calls make is longer than what came in: it says more and counts as full. Else prove '..UptoSaid'. A law counts once. -/
mutual
def uptoBulk {H : Type} : DataW H → Nat
  | .lit (.string bytes) => bytes.length + 1
  | .lit _ => 1
  | .nil => 1
  | .ptr d => uptoBulk d + 1
  | .slice elems spare => uptoBulkAll elems + uptoBulkAll spare + 1
  | .agg parts => uptoBulkAll parts + 1
  | .iface _ d => uptoBulk d + 1
  | .map entries => uptoBulkEntries entries + 1
  | .held _ => 1
def uptoBulkAll {H : Type} : List (DataW H) → Nat
  | [] => 0
  | d :: r => uptoBulk d + uptoBulkAll r
def uptoBulkEntries {H : Type} : List (Lit × DataW H) → Nat
  | [] => 0
  | x :: r => uptoBulkEntry x + uptoBulkEntries r
def uptoBulkEntry {H : Type} : Lit × DataW H → Nat
  | (.string bytes, d) => bytes.length + uptoBulk d + 1
  | (_, d) => uptoBulk d + 1
 end
def uptoSmall : (H : Type) → List (DataW H) → Bool := fun _ ds => decide (uptoBulkAll ds ≤ 1048576)
def OpenSpec.upto (s : _root_.Go.ChangeSpec) : _root_.Go.OpenSpec := { _root_.Go.OpenSpec.ofChange s with cond := some uptoSmall }

/-- 'countersignlaw34.BucketsAt', WHERE WHAT IT READS IS OF BULK AT MOST 1048576: true; the input reads as it did. -/
def bucketsAtUptoRow : OpenClaim := { program := "yteojndglglkgpaa", sum := "eb3aa8ddb4edc84f7f0d1969a6db79c2a5fadfd4bca441a05fef7228fbfea6b3", func := "countersign/countersignlaw34.BucketsAt", spec := "bucketsAt", unfollowed := true, recurses := true, apart := false, narrowed := true }
def BucketsAtUptoSaid : Prop := bucketsAtUptoRow.holds Try.pinned (OpenSpec.upto bucketsAtSpec)

/-- 'countersignlaw34.BucketsNew', WHERE WHAT IT READS IS OF BULK AT MOST 1048576: true; the input reads as it did. -/
def bucketsNewUptoRow : OpenClaim := { program := "yteojndglglkgpaa", sum := "eb3aa8ddb4edc84f7f0d1969a6db79c2a5fadfd4bca441a05fef7228fbfea6b3", func := "countersign/countersignlaw34.BucketsNew", spec := "bucketsNew", unfollowed := true, recurses := true, apart := false, narrowed := true }
def BucketsNewUptoSaid : Prop := bucketsNewUptoRow.holds Try.pinned (OpenSpec.upto bucketsNewSpec)

/-- 'countersignlaw34.BucketsAfter', WHERE WHAT IT READS IS OF BULK AT MOST 1048576: true; the input reads as it did. -/
def bucketsAfterUptoRow : OpenClaim := { program := "yteojndglglkgpaa", sum := "eb3aa8ddb4edc84f7f0d1969a6db79c2a5fadfd4bca441a05fef7228fbfea6b3", func := "countersign/countersignlaw34.BucketsAfter", spec := "bucketsAfter", unfollowed := true, recurses := true, apart := false, narrowed := true }
def BucketsAfterUptoSaid : Prop := bucketsAfterUptoRow.holds Try.pinned (OpenSpec.upto bucketsAfterSpec)

/-- 'countersignlaw34.BucketsPlay', WHERE WHAT IT READS IS OF BULK AT MOST 1048576: true; the input reads as it did. -/
def bucketsPlayUptoRow : OpenClaim := { program := "yteojndglglkgpaa", sum := "eb3aa8ddb4edc84f7f0d1969a6db79c2a5fadfd4bca441a05fef7228fbfea6b3", func := "countersign/countersignlaw34.BucketsPlay", spec := "bucketsPlay", unfollowed := true, recurses := true, apart := false, narrowed := true }
def BucketsPlayUptoSaid : Prop := bucketsPlayUptoRow.holds Try.pinned (OpenSpec.upto bucketsPlaySpec)

/-- 'countersignlaw34.BucketsWindow', WHERE WHAT IT READS IS OF BULK AT MOST 1048576: true; the input reads as it did. -/
def bucketsWindowUptoRow : OpenClaim := { program := "yteojndglglkgpaa", sum := "eb3aa8ddb4edc84f7f0d1969a6db79c2a5fadfd4bca441a05fef7228fbfea6b3", func := "countersign/countersignlaw34.BucketsWindow", spec := "bucketsWindow", unfollowed := true, recurses := true, apart := false, narrowed := true }
def BucketsWindowUptoSaid : Prop := bucketsWindowUptoRow.holds Try.pinned (OpenSpec.upto bucketsWindowSpec)

/-- 'countersignlaw34.BucketsKnown', WHERE WHAT IT READS IS OF BULK AT MOST 1048576: true; the input reads as it did. -/
def bucketsKnownUptoRow : OpenClaim := { program := "yteojndglglkgpaa", sum := "eb3aa8ddb4edc84f7f0d1969a6db79c2a5fadfd4bca441a05fef7228fbfea6b3", func := "countersign/countersignlaw34.BucketsKnown", spec := "bucketsKnown", unfollowed := true, recurses := true, apart := false, narrowed := true }
def BucketsKnownUptoSaid : Prop := bucketsKnownUptoRow.holds Try.pinned (OpenSpec.upto bucketsKnownSpec)

end Rows
end Go.Proofs.Yteojndglglkgpaa
