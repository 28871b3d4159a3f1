/-
  NamesKnown.
-/
import Derived.Test.YtfjlhplaifkenaaNc
namespace Go.Proofs.Ytfjlhplaifkenaa
open Go.Proofs.Ytfjlhplaifkenaa.Vx Go.RowKit
set_option maxRecDepth 100000
theorem known_any (w : World) : Calls Try.prog 6 #[] w fun e w' => e = .returned (.bool true) ∧ Below w.heap.size w w' :=
  calls_true follows funsOk (envN []) (ctrsMOk _) (n := 100000) (f := 6) (args := []) (by kernel_rfl) denL_nil w
end Go.Proofs.Ytfjlhplaifkenaa
