/-
  The examples of the chapter hold, whatever stands in memory.
-/
import Derived.Test.YtmpjnmpimjpigaaFp
namespace Go.Proofs.Ytmpjnmpimjpigaa
open Go.Proofs.Ytmpjnmpimjpigaa.Vx Go.Proofs.Ytmpjnmpimjpigaa.Fx Go.RowKit
set_option maxRecDepth 100000
theorem lives_any (w : World) : Calls Try.prog 12 #[] w fun e w' => e = .returned (.bool true) ∧ Below w.heap.size w w' :=
  calls_fast follows funsOk tabOk .none (n := 100000) (m := 100000) (f := 12) (by kernel_rfl) w
theorem knLives : KnOk Try.prog (Nat.beq 12) := .one Try.func12 (by kernel_rfl) (by kernel_rfl) lives_any
end Go.Proofs.Ytmpjnmpimjpigaa
