/-
  The examples of the chapter hold, whatever stands in memory.
-/
import Derived.Test.YtedhncfchkdngaaFn
namespace Go.Proofs.Ytedhncfchkdngaa
open Go.Proofs.Ytedhncfchkdngaa.Vx Go.RowKit
set_option maxRecDepth 100000
theorem lives_any (w : World) : Calls Try.prog 20 #[] w fun e w' => e = .returned (.bool true) ∧ Below w.heap.size w w' :=
  calls_true follows funsOk noEnv .nil (n := 100000) (f := 20) (args := []) (by kernel_rfl) denL_nil w
def ctrs : List Ctr := [ctrTrue 20]
theorem ctrsOk (σ : Env) : CtrsOk Try.prog σ ctrs := .true lives_any .nil
end Go.Proofs.Ytedhncfchkdngaa
