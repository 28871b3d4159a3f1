/-
  The examples of the chapter hold, whatever stands in memory.
-/
import Derived.Test.YtnogbjpiocckiaaFn
namespace Go.Proofs.Ytnogbjpiocckiaa
open Go.Proofs.Ytnogbjpiocckiaa.Vx Go.RowKit
theorem lives_any (w : World) : Calls Try.prog 16 #[] w fun e w' => e = .returned (.bool true) ∧ Below w.heap.size w w' :=
  calls_true follows funsOk noEnv .nil (n := 1000) (f := 16) (args := []) (by kernel_rfl) denL_nil w
def ctrs : List Ctr := [ctrTrue 16]
theorem ctrsOk (σ : Env) : CtrsOk Try.prog σ ctrs := .true lives_any .nil
end Go.Proofs.Ytnogbjpiocckiaa
