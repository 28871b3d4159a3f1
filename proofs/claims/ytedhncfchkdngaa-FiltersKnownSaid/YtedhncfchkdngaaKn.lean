/-
  FiltersKnown.
-/
import Derived.Test.YtedhncfchkdngaaKa
namespace Go.Proofs.Ytedhncfchkdngaa
open Go.Proofs.Ytedhncfchkdngaa.Vx Go.RowKit
set_option maxRecDepth 100000
theorem known_any (w : World) : Calls Try.prog 7 #[] w fun e w' => e = .returned (.bool true) ∧ Below w.heap.size w w' :=
  calls_true follows funsOk noEnv (tabOk tab_said (ctrsOk _)) (n := 100000) (f := 7) (args := []) (by kernel_rfl) denL_nil w
end Go.Proofs.Ytedhncfchkdngaa
