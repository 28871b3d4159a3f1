/-
  No cell of these rows narrows 'for every input' (looked for: loops, veiled, ifaces, maps, wideKeys, modest, calm, conditions, laid).
  DERIVED. THE GIVEN ROWS OF THIS SEAT. 6 by the template 'for every input the law returns true; each argument reads behind the call as it read before'; 0 by the template 'total and deterministic' (their statements: YtehbfajmileefaaTotals.lean).
  GIVEN WITH THE SEED: the statements are not yours to turn. If you find one false, say at which input.
  Laid BY PROGRAM, IN A SANDBOX (cutbox-rows.mjs): the forced cells as the released guide's own fill.sh prints them over the translation 6c2423c289cfa8dc… (all of the seat's roots in one cut). By AI agents, Wed Nov 11 2026. No macro, syntax, notation, axiom, sorry.
-/
import Derived.Test.YtehbfajmileefaaChecked
import GoSem.Claim
import GoSem.ClaimJoined
import GoSem.ClaimMapViews
import Derived.JoinedTies
import Derived.KernelRfl
namespace Go.Proofs.Ytehbfajmileefaa
/- THE CELL 'sum', in the pinned program and in every row, IS THE sha256 OF THE DUMP (.gsa) THAT YtehbfajmileefaaProg.lean LOADS. Nothing in Lean hashes anything: it is a label: what it is worth is what the hold of that sum in a sandbox is worth. -/
noncomputable def Try.pinned : Pinned := { name := "ytehbfajmileefaa", sum := "6c2423c289cfa8dc4e59ec2c39a8783ea5c515261d283798913d3031c8972ae6", checked := Try.checked }
namespace Rows
def none {H : Type} : Left H := { results := [], args := [] }

/-- 'countersignlaw36.TurnsNext': WHATEVER THE INPUT: true; the input reads as it did. -/
def turnsNextSpec : ChangeSpec := { name := "turnsNext", fn := fun _ => fun
  | [d1, d2] => { results := [.lit (.bool true)], args := [d1, d2] }
  | _ => none }
def turnsNextRow : OpenClaim := { program := "ytehbfajmileefaa", sum := "6c2423c289cfa8dc4e59ec2c39a8783ea5c515261d283798913d3031c8972ae6", func := "countersign/countersignlaw36.TurnsNext", spec := "turnsNext", unfollowed := true, recurses := true, apart := false }
def TurnsNextSaid : Prop := turnsNextRow.holds Try.pinned (OpenSpec.ofChange turnsNextSpec)

/-- ITS FALSE NEIGHBOUR: 'it returns false'. Refute it at one input. -/
def turnsNextWrong : ChangeSpec := { name := "turnsNext", fn := fun _ => fun
  | [d1, d2] => { results := [.lit (.bool false)], args := [d1, d2] }
  | _ => none }
def TurnsNextWrongFalsely : Prop := turnsNextRow.holds Try.pinned (OpenSpec.ofChange turnsNextWrong)

/-- 'countersignlaw36.TurnsTakes': WHATEVER THE INPUT: true; the input reads as it did. -/
def turnsTakesSpec : ChangeSpec := { name := "turnsTakes", fn := fun _ => fun
  | [d1, d2, d3] => { results := [.lit (.bool true)], args := [d1, d2, d3] }
  | _ => none }
def turnsTakesRow : OpenClaim := { program := "ytehbfajmileefaa", sum := "6c2423c289cfa8dc4e59ec2c39a8783ea5c515261d283798913d3031c8972ae6", func := "countersign/countersignlaw36.TurnsTakes", spec := "turnsTakes", unfollowed := true, recurses := true, apart := false }
def TurnsTakesSaid : Prop := turnsTakesRow.holds Try.pinned (OpenSpec.ofChange turnsTakesSpec)

/-- ITS FALSE NEIGHBOUR: 'it returns false'. Refute it at one input. -/
def turnsTakesWrong : ChangeSpec := { name := "turnsTakes", fn := fun _ => fun
  | [d1, d2, d3] => { results := [.lit (.bool false)], args := [d1, d2, d3] }
  | _ => none }
def TurnsTakesWrongFalsely : Prop := turnsTakesRow.holds Try.pinned (OpenSpec.ofChange turnsTakesWrong)

/-- 'countersignlaw36.TurnsFair': WHATEVER THE INPUT: true; the input reads as it did. -/
def turnsFairSpec : ChangeSpec := { name := "turnsFair", fn := fun _ => fun
  | [d1, d2] => { results := [.lit (.bool true)], args := [d1, d2] }
  | _ => none }
def turnsFairRow : OpenClaim := { program := "ytehbfajmileefaa", sum := "6c2423c289cfa8dc4e59ec2c39a8783ea5c515261d283798913d3031c8972ae6", func := "countersign/countersignlaw36.TurnsFair", spec := "turnsFair", unfollowed := true, recurses := true, apart := false }
def TurnsFairSaid : Prop := turnsFairRow.holds Try.pinned (OpenSpec.ofChange turnsFairSpec)

/-- ITS FALSE NEIGHBOUR: 'it returns false'. Refute it at one input. -/
def turnsFairWrong : ChangeSpec := { name := "turnsFair", fn := fun _ => fun
  | [d1, d2] => { results := [.lit (.bool false)], args := [d1, d2] }
  | _ => none }
def TurnsFairWrongFalsely : Prop := turnsFairRow.holds Try.pinned (OpenSpec.ofChange turnsFairWrong)

/-- 'countersignlaw36.TurnsServed': WHATEVER THE INPUT: true; the input reads as it did. -/
def turnsServedSpec : ChangeSpec := { name := "turnsServed", fn := fun _ => fun
  | [d1, d2] => { results := [.lit (.bool true)], args := [d1, d2] }
  | _ => none }
def turnsServedRow : OpenClaim := { program := "ytehbfajmileefaa", sum := "6c2423c289cfa8dc4e59ec2c39a8783ea5c515261d283798913d3031c8972ae6", func := "countersign/countersignlaw36.TurnsServed", spec := "turnsServed", unfollowed := true, recurses := true, apart := false }
def TurnsServedSaid : Prop := turnsServedRow.holds Try.pinned (OpenSpec.ofChange turnsServedSpec)

/-- ITS FALSE NEIGHBOUR: 'it returns false'. Refute it at one input. -/
def turnsServedWrong : ChangeSpec := { name := "turnsServed", fn := fun _ => fun
  | [d1, d2] => { results := [.lit (.bool false)], args := [d1, d2] }
  | _ => none }
def TurnsServedWrongFalsely : Prop := turnsServedRow.holds Try.pinned (OpenSpec.ofChange turnsServedWrong)

/-- 'countersignlaw36.TurnsErrors': WHATEVER THE INPUT: true; the input reads as it did. -/
def turnsErrorsSpec : ChangeSpec := { name := "turnsErrors", fn := fun _ => fun
  | [d1, d2, d3] => { results := [.lit (.bool true)], args := [d1, d2, d3] }
  | _ => none }
def turnsErrorsRow : OpenClaim := { program := "ytehbfajmileefaa", sum := "6c2423c289cfa8dc4e59ec2c39a8783ea5c515261d283798913d3031c8972ae6", func := "countersign/countersignlaw36.TurnsErrors", spec := "turnsErrors", unfollowed := true, recurses := true, apart := false }
def TurnsErrorsSaid : Prop := turnsErrorsRow.holds Try.pinned (OpenSpec.ofChange turnsErrorsSpec)

/-- ITS FALSE NEIGHBOUR: 'it returns false'. Refute it at one input. -/
def turnsErrorsWrong : ChangeSpec := { name := "turnsErrors", fn := fun _ => fun
  | [d1, d2, d3] => { results := [.lit (.bool false)], args := [d1, d2, d3] }
  | _ => none }
def TurnsErrorsWrongFalsely : Prop := turnsErrorsRow.holds Try.pinned (OpenSpec.ofChange turnsErrorsWrong)

/-- 'countersignlaw36.TurnsKnown': WHATEVER THE INPUT: true; the input reads as it did. -/
def turnsKnownSpec : ChangeSpec := { name := "turnsKnown", fn := fun _ => fun
  | [] => { results := [.lit (.bool true)], args := [] }
  | _ => none }
def turnsKnownRow : OpenClaim := { program := "ytehbfajmileefaa", sum := "6c2423c289cfa8dc4e59ec2c39a8783ea5c515261d283798913d3031c8972ae6", func := "countersign/countersignlaw36.TurnsKnown", spec := "turnsKnown", unfollowed := true, recurses := true, apart := false }
def TurnsKnownSaid : Prop := turnsKnownRow.holds Try.pinned (OpenSpec.ofChange turnsKnownSpec)

/-- ITS FALSE NEIGHBOUR: 'it returns false'. Refute it at one input. -/
def turnsKnownWrong : ChangeSpec := { name := "turnsKnown", fn := fun _ => fun
  | [] => { results := [.lit (.bool false)], args := [] }
  | _ => none }
def TurnsKnownWrongFalsely : Prop := turnsKnownRow.holds Try.pinned (OpenSpec.ofChange turnsKnownWrong)

/- THE SECOND FORM. 'bulk': how many values and letters a reading holds, each counted each time it is reached (what is shared counts as often as it is met; a slice's spare places count too). A statement '..UptoSaid' is the law's where the arguments, and the package variables that the reading takes, are together of bulk at most 1048576: NARROWER than '..Said'. Prove '..Said' where nothing that the law and all that it calls make is longer than what came in: it says more and counts as full. Else prove '..UptoSaid'. A law counts once. -/
mutual
def uptoBulk {H : Type} : DataW H → Nat
  | .lit (.string bytes) => bytes.length + 1
  | .lit _ => 1
  | .nil => 1
  | .ptr d => uptoBulk d + 1
  | .slice elems spare => uptoBulkAll elems + uptoBulkAll spare + 1
  | .agg parts => uptoBulkAll parts + 1
  | .iface _ d => uptoBulk d + 1
  | .map entries => uptoBulkEntries entries + 1
  | .held _ => 1
def uptoBulkAll {H : Type} : List (DataW H) → Nat
  | [] => 0
  | d :: r => uptoBulk d + uptoBulkAll r
def uptoBulkEntries {H : Type} : List (Lit × DataW H) → Nat
  | [] => 0
  | x :: r => uptoBulkEntry x + uptoBulkEntries r
def uptoBulkEntry {H : Type} : Lit × DataW H → Nat
  | (.string bytes, d) => bytes.length + uptoBulk d + 1
  | (_, d) => uptoBulk d + 1
 end
def uptoSmall : (H : Type) → List (DataW H) → Bool := fun _ ds => decide (uptoBulkAll ds ≤ 1048576)
def OpenSpec.upto (s : _root_.Go.ChangeSpec) : _root_.Go.OpenSpec := { _root_.Go.OpenSpec.ofChange s with cond := some uptoSmall }

/-- 'countersignlaw36.TurnsNext', WHERE WHAT IT READS IS OF BULK AT MOST 1048576: true; the input reads as it did. -/
def turnsNextUptoRow : OpenClaim := { program := "ytehbfajmileefaa", sum := "6c2423c289cfa8dc4e59ec2c39a8783ea5c515261d283798913d3031c8972ae6", func := "countersign/countersignlaw36.TurnsNext", spec := "turnsNext", unfollowed := true, recurses := true, apart := false, narrowed := true }
def TurnsNextUptoSaid : Prop := turnsNextUptoRow.holds Try.pinned (OpenSpec.upto turnsNextSpec)

/-- 'countersignlaw36.TurnsTakes', WHERE WHAT IT READS IS OF BULK AT MOST 1048576: true; the input reads as it did. -/
def turnsTakesUptoRow : OpenClaim := { program := "ytehbfajmileefaa", sum := "6c2423c289cfa8dc4e59ec2c39a8783ea5c515261d283798913d3031c8972ae6", func := "countersign/countersignlaw36.TurnsTakes", spec := "turnsTakes", unfollowed := true, recurses := true, apart := false, narrowed := true }
def TurnsTakesUptoSaid : Prop := turnsTakesUptoRow.holds Try.pinned (OpenSpec.upto turnsTakesSpec)

/-- 'countersignlaw36.TurnsFair', WHERE WHAT IT READS IS OF BULK AT MOST 1048576: true; the input reads as it did. -/
def turnsFairUptoRow : OpenClaim := { program := "ytehbfajmileefaa", sum := "6c2423c289cfa8dc4e59ec2c39a8783ea5c515261d283798913d3031c8972ae6", func := "countersign/countersignlaw36.TurnsFair", spec := "turnsFair", unfollowed := true, recurses := true, apart := false, narrowed := true }
def TurnsFairUptoSaid : Prop := turnsFairUptoRow.holds Try.pinned (OpenSpec.upto turnsFairSpec)

/-- 'countersignlaw36.TurnsServed', WHERE WHAT IT READS IS OF BULK AT MOST 1048576: true; the input reads as it did. -/
def turnsServedUptoRow : OpenClaim := { program := "ytehbfajmileefaa", sum := "6c2423c289cfa8dc4e59ec2c39a8783ea5c515261d283798913d3031c8972ae6", func := "countersign/countersignlaw36.TurnsServed", spec := "turnsServed", unfollowed := true, recurses := true, apart := false, narrowed := true }
def TurnsServedUptoSaid : Prop := turnsServedUptoRow.holds Try.pinned (OpenSpec.upto turnsServedSpec)

/-- 'countersignlaw36.TurnsErrors', WHERE WHAT IT READS IS OF BULK AT MOST 1048576: true; the input reads as it did. -/
def turnsErrorsUptoRow : OpenClaim := { program := "ytehbfajmileefaa", sum := "6c2423c289cfa8dc4e59ec2c39a8783ea5c515261d283798913d3031c8972ae6", func := "countersign/countersignlaw36.TurnsErrors", spec := "turnsErrors", unfollowed := true, recurses := true, apart := false, narrowed := true }
def TurnsErrorsUptoSaid : Prop := turnsErrorsUptoRow.holds Try.pinned (OpenSpec.upto turnsErrorsSpec)

/-- 'countersignlaw36.TurnsKnown', WHERE WHAT IT READS IS OF BULK AT MOST 1048576: true; the input reads as it did. -/
def turnsKnownUptoRow : OpenClaim := { program := "ytehbfajmileefaa", sum := "6c2423c289cfa8dc4e59ec2c39a8783ea5c515261d283798913d3031c8972ae6", func := "countersign/countersignlaw36.TurnsKnown", spec := "turnsKnown", unfollowed := true, recurses := true, apart := false, narrowed := true }
def TurnsKnownUptoSaid : Prop := turnsKnownUptoRow.holds Try.pinned (OpenSpec.upto turnsKnownSpec)

end Rows
end Go.Proofs.Ytehbfajmileefaa
