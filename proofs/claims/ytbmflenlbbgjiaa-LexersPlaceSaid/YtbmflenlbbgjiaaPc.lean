/-
  LexersPlace: the law.
-/
import Derived.Test.YtbmflenlbbgjiaaPb
import Derived.Test.YtbmflenlbbgjiaaLv
namespace Go.Proofs.Ytbmflenlbbgjiaa
open Go.RowKit
set_option linter.unusedVariables false
set_option linter.unusedSimpArgs false
set_option maxHeartbeats 8000000 in
theorem lawPlace_any (s : ByteArray) (n : Int) (hs : s.size ≤ 9223372036854775807) (w : World) :
    Calls Try.prog 6 #[.string s, .int .i64 n] w fun e w' => e = .returned (.bool true) ∧ Below w.heap.size w w' := by
  by_cases h300 : (300 : Int) < s.size
  · go_enter Try.func6, Try.ntmps6
    go_wp2_with fail
    refine (lives_any _).mono ?_
    rintro e w' ⟨rfl, hb⟩
    go_wp2
    go_ret
    exact ⟨rfl, hb⟩
  · have h300' : s.size ≤ 300 := by omega
    by_cases hout : n < 0 ∨ s.size < n
    · have HO := Lib.hid hout
      rcases hout with h | h
      · go_enter Try.func6, Try.ntmps6
        go_wp2_with fail
        refine (place_out s n HO.out h300' _).mono ?_
        rintro e w' ⟨rfl, rfl⟩
        go_wp2_with fail
        refine (lives_any _).mono ?_
        rintro e w' ⟨rfl, hb⟩
        go_wp2
        go_ret
        exact ⟨rfl, hb⟩
      · have h0 : ¬ n < 0 := by omega
        go_enter Try.func6, Try.ntmps6
        go_wp2_with fail
        refine (place_out s n HO.out h300' _).mono ?_
        rintro e w' ⟨rfl, rfl⟩
        go_wp2_with fail
        refine (lives_any _).mono ?_
        rintro e w' ⟨rfl, hb⟩
        go_wp2
        go_ret
        exact ⟨rfl, hb⟩
    · obtain ⟨k, rfl⟩ : ∃ k : Nat, n = k := ⟨n.toNat, by omega⟩
      have hk : k ≤ s.size := by omega
      have h1 : ¬ (k : Int) < 0 := by omega
      have h2 : ¬ (s.size : Int) < k := by omega
      clear hout
      go_enter Try.func6, Try.ntmps6
      go_wp2_with fail
      refine (place_in s k hk h300' _).mono ?_
      rintro e w' ⟨rfl, rfl⟩
      go_wp2_with fail
      refine (ref_any s k hk h300' _).mono ?_
      rintro e w' ⟨rfl, rfl⟩
      go_wp2_with fail
      refine (lives_any _).mono ?_
      rintro e w' ⟨rfl, hb⟩
      go_wp2
      go_ret
      exact ⟨rfl, hb⟩
end Go.Proofs.Ytbmflenlbbgjiaa
