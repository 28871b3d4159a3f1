/-
  LexersCheck: classes of bytes, letters, words.
-/
import Derived.Test.YtbmflenlbbgjiaaY
import Derived.Lib.Hide
namespace Go.Proofs.Ytbmflenlbbgjiaa
open Go.RowKit
set_option linter.unusedVariables false
set_option linter.unusedSimpArgs false
/-- a letter or a digit -/
def letB (b : Int) : Bool := (decide (97 ≤ b) && decide (b ≤ 122)) || (decide (48 ≤ b) && decide (b ≤ 57))
set_option maxHeartbeats 4000000 in
theorem letter_any (b : Int) (h0 : 0 ≤ b) (h1 : b ≤ 255) (w : World) :
    Calls Try.prog 23 #[.int .u8 b] w fun e w' => e = .returned (.bool (letB b)) ∧ w' = w := by
  unfold letB
  by_cases c1 : 97 ≤ b <;> by_cases c2 : b ≤ 122 <;> by_cases c3 : 48 ≤ b <;> by_cases c4 : b ≤ 57 <;> first
    | omega
    | (go_enter Try.func23, Try.ntmps23
       go_wp2
       go_ret
       simp [c1, c2, c3, c4])
end Go.Proofs.Ytbmflenlbbgjiaa
