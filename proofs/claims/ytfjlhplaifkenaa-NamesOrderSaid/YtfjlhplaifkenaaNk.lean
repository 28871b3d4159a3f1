/-
  NamesOrder.
-/
import Derived.Test.YtfjlhplaifkenaaNo
import Derived.Test.YtfjlhplaifkenaaNp
import Derived.Test.YtfjlhplaifkenaaNq
namespace Go.Proofs.Ytfjlhplaifkenaa
open Go.Proofs.Ytfjlhplaifkenaa.Vx Go.RowKit
set_option linter.unusedVariables false
theorem order_of {p q r : Int} (h : RunP p q r) {a0 a1 a2 b0 b1 b2 c0 c1 c2 : ByteArray} (hs : Stand [a0, a1, a2, b0, b1, b2, c0, c1, c2] p q r) (W : World) :
    Calls Try.prog 5 #[.agg #[.string a0, .string a1, .string a2], .agg #[.string b0, .string b1, .string b2], .agg #[.string c0, .string c1, .string c2]] W fun e w' => e = .returned (.bool true) ∧ Below W.heap.size W w' :=
  calls_goals' follows funsOk (envO [a0, a1, a2, b0, b1, b2, c0, c1, c2]) (ctrsPOk hs) (n := 1000) (f := 5) (args := argsP) (pc := pcP p q r) (gs := [])
    h (fun x hx => by simp at hx) (xs := [.agg #[.string a0, .string a1, .string a2], .agg #[.string b0, .string b1, .string b2], .agg #[.string c0, .string c1, .string c2]]) rfl (pcP_ok hs) W
theorem three (a b : Tri) : triN a b = -1 ∨ triN a b = 0 ∨ triN a b = 1 := by have := triN_ord.bound a b; omega
theorem lawOrder_any (a0 a1 a2 b0 b1 b2 c0 c1 c2 : ByteArray) (W : World) :
    Calls Try.prog 5 #[.agg #[.string a0, .string a1, .string a2], .agg #[.string b0, .string b1, .string b2], .agg #[.string c0, .string c1, .string c2]] W fun e w' => e = .returned (.bool true) ∧ Below W.heap.size W w' := by
  have o1 := triN_ord.on (a0, a1, a2) (b0, b1, b2) (c0, c1, c2)
  have o2 := triN_ord.on (b0, b1, b2) (c0, c1, c2) (a0, a1, a2)
  have o3 := triN_ord.on (c0, c1, c2) (a0, a1, a2) (b0, b1, b2)
  have o4 := triN_ord.on (c0, c1, c2) (b0, b1, b2) (a0, a1, a2)
  have o5 := triN_ord.on (b0, b1, b2) (a0, a1, a2) (c0, c1, c2)
  have o6 := triN_ord.on (a0, a1, a2) (c0, c1, c2) (b0, b1, b2)
  have e1 := triN_ord.anti (b0, b1, b2) (a0, a1, a2)
  have e2 := triN_ord.anti (c0, c1, c2) (a0, a1, a2)
  have e3 := triN_ord.anti (c0, c1, c2) (b0, b1, b2)
  rcases three (a0, a1, a2) (b0, b1, b2) with hp | hp | hp <;> rcases three (a0, a1, a2) (c0, c1, c2) with hq | hq | hq <;> rcases three (b0, b1, b2) (c0, c1, c2) with hr | hr | hr
  · exact order_of run_mmm ⟨hp, hq, hr⟩ W
  · exact order_of run_mmz ⟨hp, hq, hr⟩ W
  · exact order_of run_mmp ⟨hp, hq, hr⟩ W
  · omega
  · omega
  · exact order_of run_mzp ⟨hp, hq, hr⟩ W
  · omega
  · omega
  · exact order_of run_mpp ⟨hp, hq, hr⟩ W
  · exact order_of run_zmm ⟨hp, hq, hr⟩ W
  · omega
  · omega
  · omega
  · exact order_of run_zzz ⟨hp, hq, hr⟩ W
  · omega
  · omega
  · omega
  · exact order_of run_zpp ⟨hp, hq, hr⟩ W
  · exact order_of run_pmm ⟨hp, hq, hr⟩ W
  · omega
  · omega
  · exact order_of run_pzm ⟨hp, hq, hr⟩ W
  · omega
  · omega
  · exact order_of run_ppm ⟨hp, hq, hr⟩ W
  · exact order_of run_ppz ⟨hp, hq, hr⟩ W
  · exact order_of run_ppp ⟨hp, hq, hr⟩ W
end Go.Proofs.Ytfjlhplaifkenaa
