/-
  No cell of these rows narrows 'for every input' (looked for: loops, veiled, ifaces, maps, wideKeys, modest, calm, conditions, laid).
  DERIVED. THE GIVEN ROWS OF THIS SEAT. 5 by the template 'for every input the law returns true; each argument reads behind the call as it read before'; 0 by the template 'total and deterministic' (their statements: YtbmflenlbbgjiaaTotals.lean).
  GIVEN WITH THE SEED: the statements are not yours to turn. If you find one false, say at which input.
  Laid BY PROGRAM, IN A SANDBOX (cutbox-rows.mjs): the forced cells as the released guide's own fill.sh prints them over the translation 926ac0f1049865b4… (all of the seat's roots in one cut). By AI agents, Wed Nov 11 2026. No macro, syntax, notation, axiom, sorry.
-/
import Derived.Test.YtbmflenlbbgjiaaChecked
import GoSem.Claim
import GoSem.ClaimJoined
import GoSem.ClaimMapViews
import Derived.JoinedTies
import Derived.KernelRfl
namespace Go.Proofs.Ytbmflenlbbgjiaa
/- THE CELL 'sum', in the pinned program and in every row, IS THE sha256 OF THE DUMP (.gsa) THAT YtbmflenlbbgjiaaProg.lean LOADS. Nothing in Lean hashes anything: it is a label: what it is worth is what the hold of that sum in a sandbox is worth. -/
noncomputable def Try.pinned : Pinned := { name := "ytbmflenlbbgjiaa", sum := "926ac0f1049865b49833b8b27cf6b4f65726dd6149dd2fe94cd7c64a9e5f962e", checked := Try.checked }
namespace Rows
def none {H : Type} : Left H := { results := [], args := [] }

/-- 'countersignlaw12.LexersLex': WHATEVER THE INPUT: true; the input reads as it did. -/
def lexersLexSpec : ChangeSpec := { name := "lexersLex", fn := fun _ => fun
  | [d] => { results := [.lit (.bool true)], args := [d] }
  | _ => none }
def lexersLexRow : OpenClaim := { program := "ytbmflenlbbgjiaa", sum := "926ac0f1049865b49833b8b27cf6b4f65726dd6149dd2fe94cd7c64a9e5f962e", func := "countersign/countersignlaw12.LexersLex", spec := "lexersLex", inPlace := ["internal/abi.NoEscape", "internal/bytealg.CountString", "internal/bytealg.IndexByteString", "internal/bytealg.IndexString"], unfollowed := true, recurses := true, named := ["internal/bytealg.MaxLen"], apart := false }
def LexersLexSaid : Prop := lexersLexRow.holds Try.pinned (OpenSpec.ofChange lexersLexSpec)

/-- ITS FALSE NEIGHBOUR: 'it returns false'. Refute it at one input. -/
def lexersLexWrong : ChangeSpec := { name := "lexersLex", fn := fun _ => fun
  | [d] => { results := [.lit (.bool false)], args := [d] }
  | _ => none }
def LexersLexWrongFalsely : Prop := lexersLexRow.holds Try.pinned (OpenSpec.ofChange lexersLexWrong)

/-- 'countersignlaw12.LexersText': WHATEVER THE INPUT: true; the input reads as it did. -/
def lexersTextSpec : ChangeSpec := { name := "lexersText", fn := fun _ => fun
  | [d] => { results := [.lit (.bool true)], args := [d] }
  | _ => none }
def lexersTextRow : OpenClaim := { program := "ytbmflenlbbgjiaa", sum := "926ac0f1049865b49833b8b27cf6b4f65726dd6149dd2fe94cd7c64a9e5f962e", func := "countersign/countersignlaw12.LexersText", spec := "lexersText", inPlace := ["internal/abi.NoEscape", "internal/bytealg.CountString", "internal/bytealg.IndexByteString", "internal/bytealg.IndexString"], unfollowed := true, recurses := true, named := ["internal/bytealg.MaxLen"], apart := false }
def LexersTextSaid : Prop := lexersTextRow.holds Try.pinned (OpenSpec.ofChange lexersTextSpec)

/-- ITS FALSE NEIGHBOUR: 'it returns false'. Refute it at one input. -/
def lexersTextWrong : ChangeSpec := { name := "lexersText", fn := fun _ => fun
  | [d] => { results := [.lit (.bool false)], args := [d] }
  | _ => none }
def LexersTextWrongFalsely : Prop := lexersTextRow.holds Try.pinned (OpenSpec.ofChange lexersTextWrong)

/-- 'countersignlaw12.LexersCheck': WHATEVER THE INPUT: true; the input reads as it did. -/
def lexersCheckSpec : ChangeSpec := { name := "lexersCheck", fn := fun _ => fun
  | [d1, d2] => { results := [.lit (.bool true)], args := [d1, d2] }
  | _ => none }
def lexersCheckRow : OpenClaim := { program := "ytbmflenlbbgjiaa", sum := "926ac0f1049865b49833b8b27cf6b4f65726dd6149dd2fe94cd7c64a9e5f962e", func := "countersign/countersignlaw12.LexersCheck", spec := "lexersCheck", inPlace := ["internal/abi.NoEscape", "internal/bytealg.CountString", "internal/bytealg.IndexByteString", "internal/bytealg.IndexString"], unfollowed := true, recurses := true, named := ["internal/bytealg.MaxLen"], apart := false }
def LexersCheckSaid : Prop := lexersCheckRow.holds Try.pinned (OpenSpec.ofChange lexersCheckSpec)

/-- ITS FALSE NEIGHBOUR: 'it returns false'. Refute it at one input. -/
def lexersCheckWrong : ChangeSpec := { name := "lexersCheck", fn := fun _ => fun
  | [d1, d2] => { results := [.lit (.bool false)], args := [d1, d2] }
  | _ => none }
def LexersCheckWrongFalsely : Prop := lexersCheckRow.holds Try.pinned (OpenSpec.ofChange lexersCheckWrong)

/-- 'countersignlaw12.LexersPlace': WHATEVER THE INPUT: true; the input reads as it did. -/
def lexersPlaceSpec : ChangeSpec := { name := "lexersPlace", fn := fun _ => fun
  | [d1, d2] => { results := [.lit (.bool true)], args := [d1, d2] }
  | _ => none }
def lexersPlaceRow : OpenClaim := { program := "ytbmflenlbbgjiaa", sum := "926ac0f1049865b49833b8b27cf6b4f65726dd6149dd2fe94cd7c64a9e5f962e", func := "countersign/countersignlaw12.LexersPlace", spec := "lexersPlace", inPlace := ["internal/abi.NoEscape", "internal/bytealg.CountString", "internal/bytealg.IndexByteString", "internal/bytealg.IndexString"], unfollowed := true, recurses := true, named := ["internal/bytealg.MaxLen"], apart := false }
def LexersPlaceSaid : Prop := lexersPlaceRow.holds Try.pinned (OpenSpec.ofChange lexersPlaceSpec)

/-- ITS FALSE NEIGHBOUR: 'it returns false'. Refute it at one input. -/
def lexersPlaceWrong : ChangeSpec := { name := "lexersPlace", fn := fun _ => fun
  | [d1, d2] => { results := [.lit (.bool false)], args := [d1, d2] }
  | _ => none }
def LexersPlaceWrongFalsely : Prop := lexersPlaceRow.holds Try.pinned (OpenSpec.ofChange lexersPlaceWrong)

/-- 'countersignlaw12.LexersKnown': WHATEVER THE INPUT: true; the input reads as it did. -/
def lexersKnownSpec : ChangeSpec := { name := "lexersKnown", fn := fun _ => fun
  | [] => { results := [.lit (.bool true)], args := [] }
  | _ => none }
def lexersKnownRow : OpenClaim := { program := "ytbmflenlbbgjiaa", sum := "926ac0f1049865b49833b8b27cf6b4f65726dd6149dd2fe94cd7c64a9e5f962e", func := "countersign/countersignlaw12.LexersKnown", spec := "lexersKnown", inPlace := ["internal/abi.NoEscape", "internal/bytealg.CountString", "internal/bytealg.IndexByteString", "internal/bytealg.IndexString"], unfollowed := true, recurses := true, named := ["internal/bytealg.MaxLen"], apart := false }
def LexersKnownSaid : Prop := lexersKnownRow.holds Try.pinned (OpenSpec.ofChange lexersKnownSpec)

/-- ITS FALSE NEIGHBOUR: 'it returns false'. Refute it at one input. -/
def lexersKnownWrong : ChangeSpec := { name := "lexersKnown", fn := fun _ => fun
  | [] => { results := [.lit (.bool false)], args := [] }
  | _ => none }
def LexersKnownWrongFalsely : Prop := lexersKnownRow.holds Try.pinned (OpenSpec.ofChange lexersKnownWrong)

/- THE SECOND FORM. 'bulk': how many values and letters a reading holds, each counted each time it is reached (what is shared counts as often as it is met; a slice's spare places count too). A statement '..UptoSaid' is the law's where the arguments, and the package variables that the reading takes, are together of bulk at most 1048576: NARROWER than '..Said'. Prove '..Said' where nothing that the law and all that it calls make is longer than what came in: it says more and counts as full. Else prove '..UptoSaid'. A law counts once. -/
mutual
def uptoBulk {H : Type} : DataW H → Nat
  | .lit (.string bytes) => bytes.length + 1
  | .lit _ => 1
  | .nil => 1
  | .ptr d => uptoBulk d + 1
  | .slice elems spare => uptoBulkAll elems + uptoBulkAll spare + 1
  | .agg parts => uptoBulkAll parts + 1
  | .iface _ d => uptoBulk d + 1
  | .map entries => uptoBulkEntries entries + 1
  | .held _ => 1
def uptoBulkAll {H : Type} : List (DataW H) → Nat
  | [] => 0
  | d :: r => uptoBulk d + uptoBulkAll r
def uptoBulkEntries {H : Type} : List (Lit × DataW H) → Nat
  | [] => 0
  | x :: r => uptoBulkEntry x + uptoBulkEntries r
def uptoBulkEntry {H : Type} : Lit × DataW H → Nat
  | (.string bytes, d) => bytes.length + uptoBulk d + 1
  | (_, d) => uptoBulk d + 1
 end
def uptoSmall : (H : Type) → List (DataW H) → Bool := fun _ ds => decide (uptoBulkAll ds ≤ 1048576)
def OpenSpec.upto (s : _root_.Go.ChangeSpec) : _root_.Go.OpenSpec := { _root_.Go.OpenSpec.ofChange s with cond := some uptoSmall }

/-- 'countersignlaw12.LexersLex', WHERE WHAT IT READS IS OF BULK AT MOST 1048576: true; the input reads as it did. -/
def lexersLexUptoRow : OpenClaim := { program := "ytbmflenlbbgjiaa", sum := "926ac0f1049865b49833b8b27cf6b4f65726dd6149dd2fe94cd7c64a9e5f962e", func := "countersign/countersignlaw12.LexersLex", spec := "lexersLex", inPlace := ["internal/abi.NoEscape", "internal/bytealg.CountString", "internal/bytealg.IndexByteString", "internal/bytealg.IndexString"], unfollowed := true, recurses := true, named := ["internal/bytealg.MaxLen"], apart := false, narrowed := true }
def LexersLexUptoSaid : Prop := lexersLexUptoRow.holds Try.pinned (OpenSpec.upto lexersLexSpec)

/-- 'countersignlaw12.LexersText', WHERE WHAT IT READS IS OF BULK AT MOST 1048576: true; the input reads as it did. -/
def lexersTextUptoRow : OpenClaim := { program := "ytbmflenlbbgjiaa", sum := "926ac0f1049865b49833b8b27cf6b4f65726dd6149dd2fe94cd7c64a9e5f962e", func := "countersign/countersignlaw12.LexersText", spec := "lexersText", inPlace := ["internal/abi.NoEscape", "internal/bytealg.CountString", "internal/bytealg.IndexByteString", "internal/bytealg.IndexString"], unfollowed := true, recurses := true, named := ["internal/bytealg.MaxLen"], apart := false, narrowed := true }
def LexersTextUptoSaid : Prop := lexersTextUptoRow.holds Try.pinned (OpenSpec.upto lexersTextSpec)

/-- 'countersignlaw12.LexersCheck', WHERE WHAT IT READS IS OF BULK AT MOST 1048576: true; the input reads as it did. -/
def lexersCheckUptoRow : OpenClaim := { program := "ytbmflenlbbgjiaa", sum := "926ac0f1049865b49833b8b27cf6b4f65726dd6149dd2fe94cd7c64a9e5f962e", func := "countersign/countersignlaw12.LexersCheck", spec := "lexersCheck", inPlace := ["internal/abi.NoEscape", "internal/bytealg.CountString", "internal/bytealg.IndexByteString", "internal/bytealg.IndexString"], unfollowed := true, recurses := true, named := ["internal/bytealg.MaxLen"], apart := false, narrowed := true }
def LexersCheckUptoSaid : Prop := lexersCheckUptoRow.holds Try.pinned (OpenSpec.upto lexersCheckSpec)

/-- 'countersignlaw12.LexersPlace', WHERE WHAT IT READS IS OF BULK AT MOST 1048576: true; the input reads as it did. -/
def lexersPlaceUptoRow : OpenClaim := { program := "ytbmflenlbbgjiaa", sum := "926ac0f1049865b49833b8b27cf6b4f65726dd6149dd2fe94cd7c64a9e5f962e", func := "countersign/countersignlaw12.LexersPlace", spec := "lexersPlace", inPlace := ["internal/abi.NoEscape", "internal/bytealg.CountString", "internal/bytealg.IndexByteString", "internal/bytealg.IndexString"], unfollowed := true, recurses := true, named := ["internal/bytealg.MaxLen"], apart := false, narrowed := true }
def LexersPlaceUptoSaid : Prop := lexersPlaceUptoRow.holds Try.pinned (OpenSpec.upto lexersPlaceSpec)

/-- 'countersignlaw12.LexersKnown', WHERE WHAT IT READS IS OF BULK AT MOST 1048576: true; the input reads as it did. -/
def lexersKnownUptoRow : OpenClaim := { program := "ytbmflenlbbgjiaa", sum := "926ac0f1049865b49833b8b27cf6b4f65726dd6149dd2fe94cd7c64a9e5f962e", func := "countersign/countersignlaw12.LexersKnown", spec := "lexersKnown", inPlace := ["internal/abi.NoEscape", "internal/bytealg.CountString", "internal/bytealg.IndexByteString", "internal/bytealg.IndexString"], unfollowed := true, recurses := true, named := ["internal/bytealg.MaxLen"], apart := false, narrowed := true }
def LexersKnownUptoSaid : Prop := lexersKnownUptoRow.holds Try.pinned (OpenSpec.upto lexersKnownSpec)

end Rows
end Go.Proofs.Ytbmflenlbbgjiaa
