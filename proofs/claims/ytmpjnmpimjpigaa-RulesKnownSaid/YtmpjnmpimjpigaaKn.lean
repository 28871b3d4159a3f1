/-
  RulesKnown: run by the fast executor.
-/
import Derived.Test.YtmpjnmpimjpigaaLv
namespace Go.Proofs.Ytmpjnmpimjpigaa
open Go.Proofs.Ytmpjnmpimjpigaa.Vx Go.Proofs.Ytmpjnmpimjpigaa.Fx Go.RowKit
set_option maxRecDepth 100000
theorem known_any (w : World) : Calls Try.prog 5 #[] w fun e w' => e = .returned (.bool true) ∧ Below w.heap.size w w' :=
  calls_fast follows funsOk tabOk knLives (n := 100000) (m := 100000) (f := 5) (by kernel_rfl) w
end Go.Proofs.Ytmpjnmpimjpigaa
