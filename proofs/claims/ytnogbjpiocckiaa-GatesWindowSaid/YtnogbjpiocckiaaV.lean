import Derived.Test.YtnogbjpiocckiaaE
import Derived.Test.YtnogbjpiocckiaaC
namespace Go.Proofs.Ytnogbjpiocckiaa
open Go.RowKit
set_option linter.unusedVariables false
set_option linter.unusedSimpArgs false
theorem check_val (R B T L : Int) (n : Int) (h : erB (okB R B T L) = n) (w : World) :
    Calls Try.prog 27 #[bV R B T L] w fun e w' => e = .returned (.int .i64 n) ∧ Below w.heap.size w w' := h ▸ check_any R B T L w
theorem refCheck_val (R B T L : Int) (n : Int) (h : erB (okB R B T L) = n) (w : World) :
    Calls Try.prog 28 #[bV R B T L] w fun e w' => e = .returned (.int .i64 n) ∧ Below w.heap.size w w' := h ▸ refCheck_any R B T L w
theorem refTime_val (R B T L t : Int) (n : Int) (h : erB (okT R B T L t) = n) (w : World) :
    Calls Try.prog 21 #[bV R B T L, .int .i64 t] w fun e w' => e = .returned (.int .i64 n) ∧ Below w.heap.size w w' := h ▸ refTime_any R B T L t w
theorem at_val (R B T L t : Int) (g : Int) (h : okT R B T L t = true) (hg : gM T R (t - L) B = g) (w : World) :
    Calls Try.prog 37 #[bV R B T L, .int .i64 t] w fun e w' => e = .returned (two g 0) ∧ Below w.heap.size w w' := hg ▸ at_ok R B T L t h w
theorem refAt_val (R B T L t : Int) (g : Int) (h : okT R B T L t = true) (hg : gM T R (t - L) B = g) (w : World) :
    Calls Try.prog 22 #[bV R B T L, .int .i64 t] w fun e w' => e = .returned (.int .i64 g) ∧ Below w.heap.size w w' := hg ▸ refAt_ok R B T L t h w
theorem after_val (R B T L t n : Int) (k : Int) (h : okN R B T L t n = true) (hk : waM R B n (gM T R (t - L) B) = k) (w : World) :
    Calls Try.prog 25 #[bV R B T L, .int .i64 t, .int .i64 n] w fun e w' => e = .returned (two k 0) ∧ Below w.heap.size w w' := hk ▸ after_ok R B T L t n h w
theorem refAfter_val (R B T L t n : Int) (k : Int) (h : okN R B T L t n = true) (hk : waM R B n (gM T R (t - L) B) = k) (w : World) :
    Calls Try.prog 23 #[bV R B T L, .int .i64 t, .int .i64 n] w fun e w' => e = .returned (.int .i64 k) ∧ Below w.heap.size w w' := hk ▸ refAfter_ok R B T L t n h w
theorem take_yval (R B T L t n g : Int) (h : okN R B T L t n = true) (hg : gM T R (t - L) B = g) (hn : n ≤ g) (w : World) :
    Calls Try.prog 24 #[bV R B T L, .int .i64 t, .int .i64 n] w fun e w' => e = .returned (takeV R B (g - n) t true 0) ∧ Below w.heap.size w w' := by subst hg; exact take_yes R B T L t n h hn w
theorem take_nval (R B T L t n g : Int) (h : okN R B T L t n = true) (hg : gM T R (t - L) B = g) (hn : g < n) (w : World) :
    Calls Try.prog 24 #[bV R B T L, .int .i64 t, .int .i64 n] w fun e w' => e = .returned (takeV R B T L false 0) ∧ Below w.heap.size w w' := by subst hg; exact take_not R B T L t n h hn w
end Go.Proofs.Ytnogbjpiocckiaa
