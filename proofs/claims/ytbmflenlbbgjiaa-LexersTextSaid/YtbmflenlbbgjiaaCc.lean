/-
  LexersCheck: the classes of bytes.
-/
import Derived.Test.YtbmflenlbbgjiaaCb
namespace Go.Proofs.Ytbmflenlbbgjiaa
open Go.RowKit
set_option linter.unusedVariables false
set_option linter.unusedSimpArgs false
def blnks : List Int := [32, 9, 10, 13]
def sngls : List Int := [123, 125, 91, 93, 40, 41, 58, 44, 59, 61, 124, 38, 35]
def clsN (b : Int) : Int := if b ∈ blnks then 1 else if b ∈ sngls then 3 else if b = 45 then 4 else if letB b = true then 2 else 0
set_option maxHeartbeats 8000000 in
theorem class_any (b : Int) (h0 : 0 ≤ b) (h1 : b ≤ 255) (w : World) :
    Calls Try.prog 21 #[.int .u8 b] w fun e w' => e = .returned (.int .u8 (clsN b)) ∧ w' = w := by
  by_cases hx : b ∈ blnks ++ sngls ++ [45]
  · simp only [blnks, sngls, List.cons_append, List.nil_append, List.mem_cons, List.not_mem_nil, or_false] at hx
    rcases hx with rfl | rfl | rfl | rfl | rfl | rfl | rfl | rfl | rfl | rfl | rfl | rfl | rfl | rfl | rfl | rfl | rfl | rfl <;>
      (go_enter Try.func21, Try.ntmps21
       go_wp2
       go_ret
       exact ⟨rfl, rfl⟩)
  · have hc : clsN b = if letB b = true then 2 else 0 := by
      simp only [List.mem_append, List.mem_singleton, not_or] at hx
      unfold clsN
      rw [if_neg hx.1.1, if_neg hx.1.2, if_neg hx.2]
    simp only [blnks, sngls, List.cons_append, List.nil_append, List.mem_cons, List.not_mem_nil, or_false, not_or] at hx
    obtain ⟨n1, n2, n3, n4, n5, n6, n7, n8, n9, n10, n11, n12, n13, n14, n15, n16, n17, n18⟩ := hx
    rw [hc]
    clear hc
    unfold letB
    by_cases c1 : 97 ≤ b <;> by_cases c2 : b ≤ 122 <;> by_cases c3 : 48 ≤ b <;> by_cases c4 : b ≤ 57 <;> first
      | omega
      | (go_enter Try.func21, Try.ntmps21
         go_wp2
         go_ret
         simp [c1, c2, c3, c4])
end Go.Proofs.Ytbmflenlbbgjiaa
