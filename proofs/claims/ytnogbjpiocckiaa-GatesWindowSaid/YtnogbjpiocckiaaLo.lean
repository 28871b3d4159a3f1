/-
  GatesOf.
-/
import Derived.Test.YtnogbjpiocckiaaLv
namespace Go.Proofs.Ytnogbjpiocckiaa
open Go.Proofs.Ytnogbjpiocckiaa.Vx Go.RowKit
theorem lawOf_any (W R B m f : Int) (w : World) :
    Calls Try.prog 4 #[.agg #[.int .i64 W, .int .i64 R, .int .i64 B], .int .i64 m, .int .u8 f] w fun e w' => e = .returned (.bool true) ∧ Below w.heap.size w w' :=
  calls_goals follows funsOk (ints [W, R, B, m, f]) (ctrsOk _) (n := 1000) (f := 4) (args := [.agg [.int .i64 (.var 0), .int .i64 (.var 1), .int .i64 (.var 2)], .int .i64 (.var 3), .int .u8 (.var 4)]) (pc := []) (gs := [])
    (by kernel_rfl) nilOk (xs := [.agg #[.int .i64 W, .int .i64 R, .int .i64 B], .int .i64 m, .int .u8 f]) rfl (fun t ht => by simp at ht) w
end Go.Proofs.Ytnogbjpiocckiaa
