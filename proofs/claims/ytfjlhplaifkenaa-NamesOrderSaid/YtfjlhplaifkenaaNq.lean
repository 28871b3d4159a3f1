/-
  NamesOrder: the law, way by way.
-/
import Derived.Test.YtfjlhplaifkenaaNj
namespace Go.Proofs.Ytfjlhplaifkenaa
open Go.Proofs.Ytfjlhplaifkenaa.Vx Go.RowKit
set_option maxRecDepth 100000
theorem run_pzm : RunP 1 0 (-1) := by
  unfold RunP
  kernel_rfl
theorem run_ppm : RunP 1 1 (-1) := by
  unfold RunP
  kernel_rfl
theorem run_ppz : RunP 1 1 0 := by
  unfold RunP
  kernel_rfl
theorem run_ppp : RunP 1 1 1 := by
  unfold RunP
  kernel_rfl
end Go.Proofs.Ytfjlhplaifkenaa
