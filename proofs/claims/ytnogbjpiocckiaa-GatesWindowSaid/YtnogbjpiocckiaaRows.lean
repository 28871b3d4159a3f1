/-
  No cell of these rows narrows 'for every input' (looked for: loops, veiled, ifaces, maps, wideKeys, modest, calm, conditions, laid).
  DERIVED. THE GIVEN ROWS OF THIS SEAT. 5 by the template 'for every input the law returns true; each argument reads behind the call as it read before'; 0 by the template 'total and deterministic' (their statements: YtnogbjpiocckiaaTotals.lean).
  GIVEN WITH THE SEED: the statements are not yours to turn. If you find one false, say at which input.
  Laid BY PROGRAM, IN A SANDBOX (cutbox-rows.mjs): the forced cells as the released guide's own fill.sh prints them over the translation 6b97f3bc48ca77af… (all of the seat's roots in one cut). By AI agents, Wed Nov 11 2026. No macro, syntax, notation, axiom, sorry.
-/
import Derived.Test.YtnogbjpiocckiaaChecked
import GoSem.Claim
import GoSem.ClaimJoined
import GoSem.ClaimMapViews
import Derived.JoinedTies
import Derived.KernelRfl
namespace Go.Proofs.Ytnogbjpiocckiaa
/- THE CELL 'sum', in the pinned program and in every row, IS THE sha256 OF THE DUMP (.gsa) THAT YtnogbjpiocckiaaProg.lean LOADS. Nothing in Lean hashes anything: it is a label: what it is worth is what the hold of that sum in a sandbox is worth. -/
noncomputable def Try.pinned : Pinned := { name := "ytnogbjpiocckiaa", sum := "6b97f3bc48ca77afc4b5517ff2da1b9be71e49d3eb29fd6e073a0b63bd2b5f14", checked := Try.checked }
namespace Rows
def none {H : Type} : Left H := { results := [], args := [] }

/-- 'countersignlaw37.GatesAsk': WHATEVER THE INPUT: true; the input reads as it did. -/
def gatesAskSpec : ChangeSpec := { name := "gatesAsk", fn := fun _ => fun
  | [d1, d2, d3] => { results := [.lit (.bool true)], args := [d1, d2, d3] }
  | _ => none }
def gatesAskRow : OpenClaim := { program := "ytnogbjpiocckiaa", sum := "6b97f3bc48ca77afc4b5517ff2da1b9be71e49d3eb29fd6e073a0b63bd2b5f14", func := "countersign/countersignlaw37.GatesAsk", spec := "gatesAsk", apart := false }
def GatesAskSaid : Prop := gatesAskRow.holds Try.pinned (OpenSpec.ofChange gatesAskSpec)

/-- ITS FALSE NEIGHBOUR: 'it returns false'. Refute it at one input. -/
def gatesAskWrong : ChangeSpec := { name := "gatesAsk", fn := fun _ => fun
  | [d1, d2, d3] => { results := [.lit (.bool false)], args := [d1, d2, d3] }
  | _ => none }
def GatesAskWrongFalsely : Prop := gatesAskRow.holds Try.pinned (OpenSpec.ofChange gatesAskWrong)

/-- 'countersignlaw37.GatesOf': WHATEVER THE INPUT: true; the input reads as it did. -/
def gatesOfSpec : ChangeSpec := { name := "gatesOf", fn := fun _ => fun
  | [d1, d2, d3] => { results := [.lit (.bool true)], args := [d1, d2, d3] }
  | _ => none }
def gatesOfRow : OpenClaim := { program := "ytnogbjpiocckiaa", sum := "6b97f3bc48ca77afc4b5517ff2da1b9be71e49d3eb29fd6e073a0b63bd2b5f14", func := "countersign/countersignlaw37.GatesOf", spec := "gatesOf", apart := false }
def GatesOfSaid : Prop := gatesOfRow.holds Try.pinned (OpenSpec.ofChange gatesOfSpec)

/-- ITS FALSE NEIGHBOUR: 'it returns false'. Refute it at one input. -/
def gatesOfWrong : ChangeSpec := { name := "gatesOf", fn := fun _ => fun
  | [d1, d2, d3] => { results := [.lit (.bool false)], args := [d1, d2, d3] }
  | _ => none }
def GatesOfWrongFalsely : Prop := gatesOfRow.holds Try.pinned (OpenSpec.ofChange gatesOfWrong)

/-- 'countersignlaw37.GatesRetry': WHATEVER THE INPUT: true; the input reads as it did. -/
def gatesRetrySpec : ChangeSpec := { name := "gatesRetry", fn := fun _ => fun
  | [d1, d2, d3] => { results := [.lit (.bool true)], args := [d1, d2, d3] }
  | _ => none }
def gatesRetryRow : OpenClaim := { program := "ytnogbjpiocckiaa", sum := "6b97f3bc48ca77afc4b5517ff2da1b9be71e49d3eb29fd6e073a0b63bd2b5f14", func := "countersign/countersignlaw37.GatesRetry", spec := "gatesRetry", apart := false }
def GatesRetrySaid : Prop := gatesRetryRow.holds Try.pinned (OpenSpec.ofChange gatesRetrySpec)

/-- ITS FALSE NEIGHBOUR: 'it returns false'. Refute it at one input. -/
def gatesRetryWrong : ChangeSpec := { name := "gatesRetry", fn := fun _ => fun
  | [d1, d2, d3] => { results := [.lit (.bool false)], args := [d1, d2, d3] }
  | _ => none }
def GatesRetryWrongFalsely : Prop := gatesRetryRow.holds Try.pinned (OpenSpec.ofChange gatesRetryWrong)

/-- 'countersignlaw37.GatesWindow': WHATEVER THE INPUT: true; the input reads as it did. -/
def gatesWindowSpec : ChangeSpec := { name := "gatesWindow", fn := fun _ => fun
  | [d1, d2] => { results := [.lit (.bool true)], args := [d1, d2] }
  | _ => none }
def gatesWindowRow : OpenClaim := { program := "ytnogbjpiocckiaa", sum := "6b97f3bc48ca77afc4b5517ff2da1b9be71e49d3eb29fd6e073a0b63bd2b5f14", func := "countersign/countersignlaw37.GatesWindow", spec := "gatesWindow", apart := false }
def GatesWindowSaid : Prop := gatesWindowRow.holds Try.pinned (OpenSpec.ofChange gatesWindowSpec)

/-- ITS FALSE NEIGHBOUR: 'it returns false'. Refute it at one input. -/
def gatesWindowWrong : ChangeSpec := { name := "gatesWindow", fn := fun _ => fun
  | [d1, d2] => { results := [.lit (.bool false)], args := [d1, d2] }
  | _ => none }
def GatesWindowWrongFalsely : Prop := gatesWindowRow.holds Try.pinned (OpenSpec.ofChange gatesWindowWrong)

/-- 'countersignlaw37.GatesKnown': WHATEVER THE INPUT: true; the input reads as it did. -/
def gatesKnownSpec : ChangeSpec := { name := "gatesKnown", fn := fun _ => fun
  | [] => { results := [.lit (.bool true)], args := [] }
  | _ => none }
def gatesKnownRow : OpenClaim := { program := "ytnogbjpiocckiaa", sum := "6b97f3bc48ca77afc4b5517ff2da1b9be71e49d3eb29fd6e073a0b63bd2b5f14", func := "countersign/countersignlaw37.GatesKnown", spec := "gatesKnown", apart := false }
def GatesKnownSaid : Prop := gatesKnownRow.holds Try.pinned (OpenSpec.ofChange gatesKnownSpec)

/-- ITS FALSE NEIGHBOUR: 'it returns false'. Refute it at one input. -/
def gatesKnownWrong : ChangeSpec := { name := "gatesKnown", fn := fun _ => fun
  | [] => { results := [.lit (.bool false)], args := [] }
  | _ => none }
def GatesKnownWrongFalsely : Prop := gatesKnownRow.holds Try.pinned (OpenSpec.ofChange gatesKnownWrong)

/- THE SECOND FORM. 'bulk': how many values and letters a reading holds, each counted each time it is reached (what is shared counts as often as it is met; a slice's spare places count too). A statement '..UptoSaid' is the law's where the arguments, and the package variables that the reading takes, are together of bulk at most 1048576: NARROWER than '..Said'. Prove '..Said' where nothing that the law and all that it calls make is longer than what came in: it says more and counts as full. Else prove '..UptoSaid'. A law counts once. -/
mutual
def uptoBulk {H : Type} : DataW H → Nat
  | .lit (.string bytes) => bytes.length + 1
  | .lit _ => 1
  | .nil => 1
  | .ptr d => uptoBulk d + 1
  | .slice elems spare => uptoBulkAll elems + uptoBulkAll spare + 1
  | .agg parts => uptoBulkAll parts + 1
  | .iface _ d => uptoBulk d + 1
  | .map entries => uptoBulkEntries entries + 1
  | .held _ => 1
def uptoBulkAll {H : Type} : List (DataW H) → Nat
  | [] => 0
  | d :: r => uptoBulk d + uptoBulkAll r
def uptoBulkEntries {H : Type} : List (Lit × DataW H) → Nat
  | [] => 0
  | x :: r => uptoBulkEntry x + uptoBulkEntries r
def uptoBulkEntry {H : Type} : Lit × DataW H → Nat
  | (.string bytes, d) => bytes.length + uptoBulk d + 1
  | (_, d) => uptoBulk d + 1
 end
def uptoSmall : (H : Type) → List (DataW H) → Bool := fun _ ds => decide (uptoBulkAll ds ≤ 1048576)
def OpenSpec.upto (s : _root_.Go.ChangeSpec) : _root_.Go.OpenSpec := { _root_.Go.OpenSpec.ofChange s with cond := some uptoSmall }

/-- 'countersignlaw37.GatesAsk', WHERE WHAT IT READS IS OF BULK AT MOST 1048576: true; the input reads as it did. -/
def gatesAskUptoRow : OpenClaim := { program := "ytnogbjpiocckiaa", sum := "6b97f3bc48ca77afc4b5517ff2da1b9be71e49d3eb29fd6e073a0b63bd2b5f14", func := "countersign/countersignlaw37.GatesAsk", spec := "gatesAsk", apart := false, narrowed := true }
def GatesAskUptoSaid : Prop := gatesAskUptoRow.holds Try.pinned (OpenSpec.upto gatesAskSpec)

/-- 'countersignlaw37.GatesOf', WHERE WHAT IT READS IS OF BULK AT MOST 1048576: true; the input reads as it did. -/
def gatesOfUptoRow : OpenClaim := { program := "ytnogbjpiocckiaa", sum := "6b97f3bc48ca77afc4b5517ff2da1b9be71e49d3eb29fd6e073a0b63bd2b5f14", func := "countersign/countersignlaw37.GatesOf", spec := "gatesOf", apart := false, narrowed := true }
def GatesOfUptoSaid : Prop := gatesOfUptoRow.holds Try.pinned (OpenSpec.upto gatesOfSpec)

/-- 'countersignlaw37.GatesRetry', WHERE WHAT IT READS IS OF BULK AT MOST 1048576: true; the input reads as it did. -/
def gatesRetryUptoRow : OpenClaim := { program := "ytnogbjpiocckiaa", sum := "6b97f3bc48ca77afc4b5517ff2da1b9be71e49d3eb29fd6e073a0b63bd2b5f14", func := "countersign/countersignlaw37.GatesRetry", spec := "gatesRetry", apart := false, narrowed := true }
def GatesRetryUptoSaid : Prop := gatesRetryUptoRow.holds Try.pinned (OpenSpec.upto gatesRetrySpec)

/-- 'countersignlaw37.GatesWindow', WHERE WHAT IT READS IS OF BULK AT MOST 1048576: true; the input reads as it did. -/
def gatesWindowUptoRow : OpenClaim := { program := "ytnogbjpiocckiaa", sum := "6b97f3bc48ca77afc4b5517ff2da1b9be71e49d3eb29fd6e073a0b63bd2b5f14", func := "countersign/countersignlaw37.GatesWindow", spec := "gatesWindow", apart := false, narrowed := true }
def GatesWindowUptoSaid : Prop := gatesWindowUptoRow.holds Try.pinned (OpenSpec.upto gatesWindowSpec)

/-- 'countersignlaw37.GatesKnown', WHERE WHAT IT READS IS OF BULK AT MOST 1048576: true; the input reads as it did. -/
def gatesKnownUptoRow : OpenClaim := { program := "ytnogbjpiocckiaa", sum := "6b97f3bc48ca77afc4b5517ff2da1b9be71e49d3eb29fd6e073a0b63bd2b5f14", func := "countersign/countersignlaw37.GatesKnown", spec := "gatesKnown", apart := false, narrowed := true }
def GatesKnownUptoSaid : Prop := gatesKnownUptoRow.holds Try.pinned (OpenSpec.upto gatesKnownSpec)

end Rows
end Go.Proofs.Ytnogbjpiocckiaa
