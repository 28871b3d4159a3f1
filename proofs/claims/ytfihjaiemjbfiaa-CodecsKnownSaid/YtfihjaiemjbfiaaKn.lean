/-
  CodecsKnown.
-/
import Derived.Test.YtfihjaiemjbfiaaLv
namespace Go.Proofs.Ytfihjaiemjbfiaa
open Go.Proofs.Ytfihjaiemjbfiaa.Vx Go.RowKit
set_option maxRecDepth 100000
theorem known_any (w : World) : Calls Try.prog 8 #[] w fun e w' => e = .returned (.bool true) ∧ Below w.heap.size w w' :=
  calls_true follows funsOk noEnv (ctrsOk _) (n := 100000) (f := 8) (args := []) (by kernel_rfl) denL_nil w
end Go.Proofs.Ytfihjaiemjbfiaa
