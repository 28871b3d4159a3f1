/-
  No cell of these rows narrows 'for every input' (looked for: loops, veiled, ifaces, maps, wideKeys, modest, calm, conditions, laid).
  DERIVED. THE GIVEN ROWS OF THIS SEAT. 6 by the template 'for every input the law returns true; each argument reads behind the call as it read before'; 0 by the template 'total and deterministic' (their statements: YtfihjaiemjbfiaaTotals.lean).
  GIVEN WITH THE SEED: the statements are not yours to turn. If you find one false, say at which input.
  Laid BY PROGRAM, IN A SANDBOX (cutbox-rows.mjs): the forced cells as the released guide's own fill.sh prints them over the translation a9bcea1b2319bca6… (all of the seat's roots in one cut). By AI agents, Wed Nov 11 2026. No macro, syntax, notation, axiom, sorry.
-/
import Derived.Test.YtfihjaiemjbfiaaChecked
import GoSem.Claim
import GoSem.ClaimJoined
import GoSem.ClaimMapViews
import Derived.JoinedTies
import Derived.KernelRfl
namespace Go.Proofs.Ytfihjaiemjbfiaa
/- THE CELL 'sum', in the pinned program and in every row, IS THE sha256 OF THE DUMP (.gsa) THAT YtfihjaiemjbfiaaProg.lean LOADS. Nothing in Lean hashes anything: it is a label: what it is worth is what the hold of that sum in a sandbox is worth. -/
noncomputable def Try.pinned : Pinned := { name := "ytfihjaiemjbfiaa", sum := "a9bcea1b2319bca64db338f3271012b600f2ca10458634a66a968896bc960c82", checked := Try.checked }
namespace Rows
def none {H : Type} : Left H := { results := [], args := [] }

/-- 'countersignlaw04.CodecsWrite': WHATEVER THE INPUT: true; the input reads as it did. -/
def codecsWriteSpec : ChangeSpec := { name := "codecsWrite", fn := fun _ => fun
  | [d1, d2] => { results := [.lit (.bool true)], args := [d1, d2] }
  | _ => none }
def codecsWriteRow : OpenClaim := { program := "ytfihjaiemjbfiaa", sum := "a9bcea1b2319bca64db338f3271012b600f2ca10458634a66a968896bc960c82", func := "countersign/countersignlaw04.CodecsWrite", spec := "codecsWrite", unfollowed := true, recurses := true, apart := false }
def CodecsWriteSaid : Prop := codecsWriteRow.holds Try.pinned (OpenSpec.ofChange codecsWriteSpec)

/-- ITS FALSE NEIGHBOUR: 'it returns false'. Refute it at one input. -/
def codecsWriteWrong : ChangeSpec := { name := "codecsWrite", fn := fun _ => fun
  | [d1, d2] => { results := [.lit (.bool false)], args := [d1, d2] }
  | _ => none }
def CodecsWriteWrongFalsely : Prop := codecsWriteRow.holds Try.pinned (OpenSpec.ofChange codecsWriteWrong)

/-- 'countersignlaw04.CodecsRead': WHATEVER THE INPUT: true; the input reads as it did. -/
def codecsReadSpec : ChangeSpec := { name := "codecsRead", fn := fun _ => fun
  | [d1, d2] => { results := [.lit (.bool true)], args := [d1, d2] }
  | _ => none }
def codecsReadRow : OpenClaim := { program := "ytfihjaiemjbfiaa", sum := "a9bcea1b2319bca64db338f3271012b600f2ca10458634a66a968896bc960c82", func := "countersign/countersignlaw04.CodecsRead", spec := "codecsRead", unfollowed := true, recurses := true, apart := false }
def CodecsReadSaid : Prop := codecsReadRow.holds Try.pinned (OpenSpec.ofChange codecsReadSpec)

/-- ITS FALSE NEIGHBOUR: 'it returns false'. Refute it at one input. -/
def codecsReadWrong : ChangeSpec := { name := "codecsRead", fn := fun _ => fun
  | [d1, d2] => { results := [.lit (.bool false)], args := [d1, d2] }
  | _ => none }
def CodecsReadWrongFalsely : Prop := codecsReadRow.holds Try.pinned (OpenSpec.ofChange codecsReadWrong)

/-- 'countersignlaw04.CodecsOnce': WHATEVER THE INPUT: true; the input reads as it did. -/
def codecsOnceSpec : ChangeSpec := { name := "codecsOnce", fn := fun _ => fun
  | [d1, d2] => { results := [.lit (.bool true)], args := [d1, d2] }
  | _ => none }
def codecsOnceRow : OpenClaim := { program := "ytfihjaiemjbfiaa", sum := "a9bcea1b2319bca64db338f3271012b600f2ca10458634a66a968896bc960c82", func := "countersign/countersignlaw04.CodecsOnce", spec := "codecsOnce", unfollowed := true, recurses := true, apart := false }
def CodecsOnceSaid : Prop := codecsOnceRow.holds Try.pinned (OpenSpec.ofChange codecsOnceSpec)

/-- ITS FALSE NEIGHBOUR: 'it returns false'. Refute it at one input. -/
def codecsOnceWrong : ChangeSpec := { name := "codecsOnce", fn := fun _ => fun
  | [d1, d2] => { results := [.lit (.bool false)], args := [d1, d2] }
  | _ => none }
def CodecsOnceWrongFalsely : Prop := codecsOnceRow.holds Try.pinned (OpenSpec.ofChange codecsOnceWrong)

/-- 'countersignlaw04.CodecsOwn': WHATEVER THE INPUT: true; the input reads as it did. -/
def codecsOwnSpec : ChangeSpec := { name := "codecsOwn", fn := fun _ => fun
  | [d1, d2] => { results := [.lit (.bool true)], args := [d1, d2] }
  | _ => none }
def codecsOwnRow : OpenClaim := { program := "ytfihjaiemjbfiaa", sum := "a9bcea1b2319bca64db338f3271012b600f2ca10458634a66a968896bc960c82", func := "countersign/countersignlaw04.CodecsOwn", spec := "codecsOwn", unfollowed := true, recurses := true, apart := false }
def CodecsOwnSaid : Prop := codecsOwnRow.holds Try.pinned (OpenSpec.ofChange codecsOwnSpec)

/-- ITS FALSE NEIGHBOUR: 'it returns false'. Refute it at one input. -/
def codecsOwnWrong : ChangeSpec := { name := "codecsOwn", fn := fun _ => fun
  | [d1, d2] => { results := [.lit (.bool false)], args := [d1, d2] }
  | _ => none }
def CodecsOwnWrongFalsely : Prop := codecsOwnRow.holds Try.pinned (OpenSpec.ofChange codecsOwnWrong)

/-- 'countersignlaw04.CodecsNil': WHATEVER THE INPUT: true; the input reads as it did. -/
def codecsNilSpec : ChangeSpec := { name := "codecsNil", fn := fun _ => fun
  | [d1, d2] => { results := [.lit (.bool true)], args := [d1, d2] }
  | _ => none }
def codecsNilRow : OpenClaim := { program := "ytfihjaiemjbfiaa", sum := "a9bcea1b2319bca64db338f3271012b600f2ca10458634a66a968896bc960c82", func := "countersign/countersignlaw04.CodecsNil", spec := "codecsNil", unfollowed := true, recurses := true, apart := false }
def CodecsNilSaid : Prop := codecsNilRow.holds Try.pinned (OpenSpec.ofChange codecsNilSpec)

/-- ITS FALSE NEIGHBOUR: 'it returns false'. Refute it at one input. -/
def codecsNilWrong : ChangeSpec := { name := "codecsNil", fn := fun _ => fun
  | [d1, d2] => { results := [.lit (.bool false)], args := [d1, d2] }
  | _ => none }
def CodecsNilWrongFalsely : Prop := codecsNilRow.holds Try.pinned (OpenSpec.ofChange codecsNilWrong)

/-- 'countersignlaw04.CodecsKnown': WHATEVER THE INPUT: true; the input reads as it did. -/
def codecsKnownSpec : ChangeSpec := { name := "codecsKnown", fn := fun _ => fun
  | [] => { results := [.lit (.bool true)], args := [] }
  | _ => none }
def codecsKnownRow : OpenClaim := { program := "ytfihjaiemjbfiaa", sum := "a9bcea1b2319bca64db338f3271012b600f2ca10458634a66a968896bc960c82", func := "countersign/countersignlaw04.CodecsKnown", spec := "codecsKnown", unfollowed := true, recurses := true, apart := false }
def CodecsKnownSaid : Prop := codecsKnownRow.holds Try.pinned (OpenSpec.ofChange codecsKnownSpec)

/-- ITS FALSE NEIGHBOUR: 'it returns false'. Refute it at one input. -/
def codecsKnownWrong : ChangeSpec := { name := "codecsKnown", fn := fun _ => fun
  | [] => { results := [.lit (.bool false)], args := [] }
  | _ => none }
def CodecsKnownWrongFalsely : Prop := codecsKnownRow.holds Try.pinned (OpenSpec.ofChange codecsKnownWrong)

/- THE SECOND FORM. 'bulk': how many values and letters a reading holds, each counted each time it is reached (what is shared counts as often as it is met; a slice's spare places count too). A statement '..UptoSaid' is the law's where the arguments, and the package variables that the reading takes, are together of bulk at most 1048576: NARROWER than '..Said'. Prove '..Said' where nothing that the law and all that it calls make is longer than what came in: it says more and counts as full. Else prove '..UptoSaid'. A law counts once. -/
mutual
def uptoBulk {H : Type} : DataW H → Nat
  | .lit (.string bytes) => bytes.length + 1
  | .lit _ => 1
  | .nil => 1
  | .ptr d => uptoBulk d + 1
  | .slice elems spare => uptoBulkAll elems + uptoBulkAll spare + 1
  | .agg parts => uptoBulkAll parts + 1
  | .iface _ d => uptoBulk d + 1
  | .map entries => uptoBulkEntries entries + 1
  | .held _ => 1
def uptoBulkAll {H : Type} : List (DataW H) → Nat
  | [] => 0
  | d :: r => uptoBulk d + uptoBulkAll r
def uptoBulkEntries {H : Type} : List (Lit × DataW H) → Nat
  | [] => 0
  | x :: r => uptoBulkEntry x + uptoBulkEntries r
def uptoBulkEntry {H : Type} : Lit × DataW H → Nat
  | (.string bytes, d) => bytes.length + uptoBulk d + 1
  | (_, d) => uptoBulk d + 1
 end
def uptoSmall : (H : Type) → List (DataW H) → Bool := fun _ ds => decide (uptoBulkAll ds ≤ 1048576)
def OpenSpec.upto (s : _root_.Go.ChangeSpec) : _root_.Go.OpenSpec := { _root_.Go.OpenSpec.ofChange s with cond := some uptoSmall }

/-- 'countersignlaw04.CodecsWrite', WHERE WHAT IT READS IS OF BULK AT MOST 1048576: true; the input reads as it did. -/
def codecsWriteUptoRow : OpenClaim := { program := "ytfihjaiemjbfiaa", sum := "a9bcea1b2319bca64db338f3271012b600f2ca10458634a66a968896bc960c82", func := "countersign/countersignlaw04.CodecsWrite", spec := "codecsWrite", unfollowed := true, recurses := true, apart := false, narrowed := true }
def CodecsWriteUptoSaid : Prop := codecsWriteUptoRow.holds Try.pinned (OpenSpec.upto codecsWriteSpec)

/-- 'countersignlaw04.CodecsRead', WHERE WHAT IT READS IS OF BULK AT MOST 1048576: true; the input reads as it did. -/
def codecsReadUptoRow : OpenClaim := { program := "ytfihjaiemjbfiaa", sum := "a9bcea1b2319bca64db338f3271012b600f2ca10458634a66a968896bc960c82", func := "countersign/countersignlaw04.CodecsRead", spec := "codecsRead", unfollowed := true, recurses := true, apart := false, narrowed := true }
def CodecsReadUptoSaid : Prop := codecsReadUptoRow.holds Try.pinned (OpenSpec.upto codecsReadSpec)

/-- 'countersignlaw04.CodecsOnce', WHERE WHAT IT READS IS OF BULK AT MOST 1048576: true; the input reads as it did. -/
def codecsOnceUptoRow : OpenClaim := { program := "ytfihjaiemjbfiaa", sum := "a9bcea1b2319bca64db338f3271012b600f2ca10458634a66a968896bc960c82", func := "countersign/countersignlaw04.CodecsOnce", spec := "codecsOnce", unfollowed := true, recurses := true, apart := false, narrowed := true }
def CodecsOnceUptoSaid : Prop := codecsOnceUptoRow.holds Try.pinned (OpenSpec.upto codecsOnceSpec)

/-- 'countersignlaw04.CodecsOwn', WHERE WHAT IT READS IS OF BULK AT MOST 1048576: true; the input reads as it did. -/
def codecsOwnUptoRow : OpenClaim := { program := "ytfihjaiemjbfiaa", sum := "a9bcea1b2319bca64db338f3271012b600f2ca10458634a66a968896bc960c82", func := "countersign/countersignlaw04.CodecsOwn", spec := "codecsOwn", unfollowed := true, recurses := true, apart := false, narrowed := true }
def CodecsOwnUptoSaid : Prop := codecsOwnUptoRow.holds Try.pinned (OpenSpec.upto codecsOwnSpec)

/-- 'countersignlaw04.CodecsNil', WHERE WHAT IT READS IS OF BULK AT MOST 1048576: true; the input reads as it did. -/
def codecsNilUptoRow : OpenClaim := { program := "ytfihjaiemjbfiaa", sum := "a9bcea1b2319bca64db338f3271012b600f2ca10458634a66a968896bc960c82", func := "countersign/countersignlaw04.CodecsNil", spec := "codecsNil", unfollowed := true, recurses := true, apart := false, narrowed := true }
def CodecsNilUptoSaid : Prop := codecsNilUptoRow.holds Try.pinned (OpenSpec.upto codecsNilSpec)

/-- 'countersignlaw04.CodecsKnown', WHERE WHAT IT READS IS OF BULK AT MOST 1048576: true; the input reads as it did. -/
def codecsKnownUptoRow : OpenClaim := { program := "ytfihjaiemjbfiaa", sum := "a9bcea1b2319bca64db338f3271012b600f2ca10458634a66a968896bc960c82", func := "countersign/countersignlaw04.CodecsKnown", spec := "codecsKnown", unfollowed := true, recurses := true, apart := false, narrowed := true }
def CodecsKnownUptoSaid : Prop := codecsKnownUptoRow.holds Try.pinned (OpenSpec.upto codecsKnownSpec)

end Rows
end Go.Proofs.Ytfihjaiemjbfiaa
