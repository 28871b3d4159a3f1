import Derived.Test.YtehbfajmileefaaFn
import Derived.Test.YtehbfajmileefaaFh
namespace Go.Proofs.Ytehbfajmileefaa
open Go.Proofs.Ytehbfajmileefaa.Vx Go.Proofs.Ytehbfajmileefaa.Fx Go.RowKit
set_option maxRecDepth 100000
theorem lives_any (w : World) : Calls Try.prog 9 #[] w fun e w' => e = .returned (.bool true) ∧ Below w.heap.size w w' :=
  calls_true follows funsOk noEnv .nil (n := 100000) (f := 9) (args := []) (by kernel_rfl) denL_nil w
theorem knLives : KnOk Try.prog (Nat.beq 9) := .one Try.func9 (by kernel_rfl) (by kernel_rfl) lives_any
end Go.Proofs.Ytehbfajmileefaa
