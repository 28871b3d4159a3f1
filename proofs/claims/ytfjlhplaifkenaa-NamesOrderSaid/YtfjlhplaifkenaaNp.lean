/-
  NamesOrder: the law, way by way.
-/
import Derived.Test.YtfjlhplaifkenaaNj
namespace Go.Proofs.Ytfjlhplaifkenaa
open Go.Proofs.Ytfjlhplaifkenaa.Vx Go.RowKit
set_option maxRecDepth 100000
theorem run_zmm : RunP 0 (-1) (-1) := by
  unfold RunP
  kernel_rfl
theorem run_zzz : RunP 0 0 0 := by
  unfold RunP
  kernel_rfl
theorem run_zpp : RunP 0 1 1 := by
  unfold RunP
  kernel_rfl
theorem run_pmm : RunP 1 (-1) (-1) := by
  unfold RunP
  kernel_rfl
end Go.Proofs.Ytfjlhplaifkenaa
