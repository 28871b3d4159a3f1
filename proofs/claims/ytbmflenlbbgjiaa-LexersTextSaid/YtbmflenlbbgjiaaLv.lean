/-
  The examples of the chapter hold, whatever stands in memory.
-/
import Derived.Test.YtbmflenlbbgjiaaFp
namespace Go.Proofs.Ytbmflenlbbgjiaa
open Go.Proofs.Ytbmflenlbbgjiaa.Vx Go.Proofs.Ytbmflenlbbgjiaa.Fx Go.RowKit
set_option maxRecDepth 100000
theorem lives_any (w : World) : Calls Try.prog 8 #[] w fun e w' => e = .returned (.bool true) ∧ Below w.heap.size w w' :=
  calls_fast follows funsOk tabOk .none (n := 100000) (m := 100000) (f := 8) (by kernel_rfl) w
theorem knLives : KnOk Try.prog (Nat.beq 8) := .one Try.func8 (by kernel_rfl) (by kernel_rfl) lives_any
end Go.Proofs.Ytbmflenlbbgjiaa
