/-
  NamesCheck.
-/
import Derived.Test.YtfjlhplaifkenaaNc
namespace Go.Proofs.Ytfjlhplaifkenaa
open Go.Proofs.Ytfjlhplaifkenaa.Vx Go.RowKit
set_option maxRecDepth 100000
def vL : Vcs := [([.le (.len (.svar 0)) (.int 40), .le (.len (.svar 1)) (.int 40), .le (.len (.svar 2)) (.int 40)],
  .le (.add (.add (.add (.add (.len (.svar 0)) (.int 1)) (.len (.svar 1))) (.int 1)) (.len (.svar 2))) (.int 9223372036854775807))]
theorem vL_ok (σ : Env) : VOk σ vL := by
  intro x hx hp
  simp only [vL, List.mem_cons, List.not_mem_nil, or_false] at hx
  subst hx
  simp only [List.mem_cons, List.not_mem_nil, or_false, forall_eq_or_imp, forall_eq, T.b, T.i, leB_t] at hp ⊢
  omega
theorem lawCheck_any (a b c : ByteArray) (w : World) : Calls Try.prog 3 #[.string a, .string b, .string c] w fun e w' => e = .returned (.bool true) ∧ Below w.heap.size w w' :=
  calls_goals' follows funsOk (envN [a, b, c]) (ctrsMOk _) (n := 1000) (f := 3) (args := [s0, s1, s2]) (pc := []) (gs := vL)
    (by kernel_rfl) (vL_ok _) (xs := [.string a, .string b, .string c]) rfl (fun t ht => by simp at ht) w
end Go.Proofs.Ytfjlhplaifkenaa
