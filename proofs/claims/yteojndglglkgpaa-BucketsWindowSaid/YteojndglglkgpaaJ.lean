import Derived.Test.YteojndglglkgpaaE
import Derived.Test.YteojndglglkgpaaF
namespace Go.Proofs.Yteojndglglkgpaa
open Go.RowKit
set_option linter.unusedVariables false
set_option linter.unusedSimpArgs false
def Lives : Prop := ∀ w : World, Calls Try.prog 16 #[] w fun e w' => e = .returned (.bool true) ∧ Below w.heap.size w w'
theorem check_val (R B T L : Int) (n : Int) (h : erB (okB R B T L) = n) (w : World) :
    Calls Try.prog 13 #[bV R B T L] w fun e w' => e = .returned (.int .i64 n) ∧ Below w.heap.size w w' := h ▸ check_any R B T L w
theorem refCheck_val (R B T L : Int) (n : Int) (h : erB (okB R B T L) = n) (w : World) :
    Calls Try.prog 14 #[bV R B T L] w fun e w' => e = .returned (.int .i64 n) ∧ Below w.heap.size w w' := h ▸ refCheck_any R B T L w
theorem refTime_val (R B T L t : Int) (n : Int) (h : erB (okT R B T L t) = n) (w : World) :
    Calls Try.prog 9 #[bV R B T L, .int .i64 t] w fun e w' => e = .returned (.int .i64 n) ∧ Below w.heap.size w w' := h ▸ refTime_any R B T L t w
theorem at_val (R B T L t : Int) (g : Int) (h : okT R B T L t = true) (hg : gM T R (t - L) B = g) (w : World) :
    Calls Try.prog 10 #[bV R B T L, .int .i64 t] w fun e w' => e = .returned (two g 0) ∧ Below w.heap.size w w' := hg ▸ at_ok R B T L t h w
theorem refAt_val (R B T L t : Int) (g : Int) (h : okT R B T L t = true) (hg : gM T R (t - L) B = g) (w : World) :
    Calls Try.prog 15 #[bV R B T L, .int .i64 t] w fun e w' => e = .returned (.int .i64 g) ∧ Below w.heap.size w w' := hg ▸ refAt_ok R B T L t h w
theorem after_val (R B T L t n : Int) (k : Int) (h : okN R B T L t n = true) (hk : waM R B n (gM T R (t - L) B) = k) (w : World) :
    Calls Try.prog 12 #[bV R B T L, .int .i64 t, .int .i64 n] w fun e w' => e = .returned (two k 0) ∧ Below w.heap.size w w' := hk ▸ after_ok R B T L t n h w
theorem refAfter_val (R B T L t n : Int) (k : Int) (h : okN R B T L t n = true) (hk : waM R B n (gM T R (t - L) B) = k) (w : World) :
    Calls Try.prog 18 #[bV R B T L, .int .i64 t, .int .i64 n] w fun e w' => e = .returned (.int .i64 k) ∧ Below w.heap.size w w' := hk ▸ refAfter_ok R B T L t n h w
theorem take_yval (R B T L t n g : Int) (h : okN R B T L t n = true) (hg : gM T R (t - L) B = g) (hn : n ≤ g) (w : World) :
    Calls Try.prog 11 #[bV R B T L, .int .i64 t, .int .i64 n] w fun e w' => e = .returned (takeV R B (g - n) t true 0) ∧ Below w.heap.size w w' := by subst hg; exact take_yes R B T L t n h hn w
theorem take_nval (R B T L t n g : Int) (h : okN R B T L t n = true) (hg : gM T R (t - L) B = g) (hn : g < n) (w : World) :
    Calls Try.prog 11 #[bV R B T L, .int .i64 t, .int .i64 n] w fun e w' => e = .returned (takeV R B T L false 0) ∧ Below w.heap.size w w' := by subst hg; exact take_not R B T L t n h hn w
theorem refTake_yval (R B T L t n g : Int) (h : okN R B T L t n = true) (hg : gM T R (t - L) B = g) (hn : n ≤ g) (w : World) :
    Calls Try.prog 17 #[bV R B T L, .int .i64 t, .int .i64 n] w fun e w' => e = .returned (newV R B (g - n) t 1) ∧ Below w.heap.size w w' := by subst hg; exact refTake_yes R B T L t n h hn w
theorem refTake_nval (R B T L t n g : Int) (h : okN R B T L t n = true) (hg : gM T R (t - L) B = g) (hn : g < n) (w : World) :
    Calls Try.prog 17 #[bV R B T L, .int .i64 t, .int .i64 n] w fun e w' => e = .returned (newV R B T L 0) ∧ Below w.heap.size w w' := by subst hg; exact refTake_not R B T L t n h hn w
set_option maxRecDepth 100000 in
set_option maxHeartbeats 2000000 in
theorem lawAt_no (HL : Lives) (R B T L t n : Int) (h : okT R B T L t = false) (w : World) :
    Calls Try.prog 3 #[bV R B T L, .int .i64 t, .int .i64 n] w fun e w' => e = .returned (.bool true) ∧ Below w.heap.size w w' := by
  have hN : okN R B T L t n = false := by simp [okN, h]
  have HT := Lib.hid (show erB (okT R B T L t) = 4 by rw [h]; rfl)
  have HTF := Lib.hid h
  have HN := Lib.hid hN
  clear h hN
  have HLV := Lib.hid HL
  obtain ⟨m, hm⟩ : ∃ m, erB (okB R B T L) = m := ⟨_, rfl⟩
  have HM := Lib.hid hm
  clear HL hm
  go_enter Try.func3, Try.ntmps3
  go_wp2_with fail
  refine (refTime_val _ _ _ _ _ _ HT.out _).mono ?_
  rintro e w1 ⟨rfl, hb1⟩
  have B1 := Lib.hid (heap_below_keep hb1 (heap_alloc_new w (bO R B T L)))
  have lb1 := lt_of_block B1.out
  have b0 := cell_of_block (i := 0) B1.out rfl
  have b1 := cell_of_block (i := 1) B1.out rfl
  have b2 := cell_of_block (i := 2) B1.out rfl
  have b3 := cell_of_block (i := 3) B1.out rfl
  have HB1 := Lib.hid hb1
  clear hb1
  go_wp2_with fail
  refine (at_no _ _ _ _ _ HTF.out _).mono ?_
  rintro e w2 ⟨rfl, hb2⟩
  have B2 := Lib.hid (heap_below_keep hb2 B1.out)
  have lb2 := lt_of_block B2.out
  have c0 := cell_of_block (i := 0) B2.out rfl
  have c1 := cell_of_block (i := 1) B2.out rfl
  have c2 := cell_of_block (i := 2) B2.out rfl
  have c3 := cell_of_block (i := 3) B2.out rfl
  have HB2 := Lib.hid hb2
  clear hb2 lb1 b0 b1 b2 b3
  go_wp2_with fail
  refine (take_no _ _ _ _ _ _ HN.out _).mono ?_
  rintro e w3 ⟨rfl, hb3⟩
  have B3 := Lib.hid (heap_below_keep hb3 B2.out)
  have lb3 := lt_of_block B3.out
  have d0 := cell_of_block (i := 0) B3.out rfl
  have d1 := cell_of_block (i := 1) B3.out rfl
  have d2 := cell_of_block (i := 2) B3.out rfl
  have d3 := cell_of_block (i := 3) B3.out rfl
  have HB3 := Lib.hid hb3
  clear hb3 lb2 c0 c1 c2 c3
  go_wp2_with fail
  refine (after_no _ _ _ _ _ _ HN.out _).mono ?_
  rintro e w4 ⟨rfl, hb4⟩
  have B4 := Lib.hid (heap_below_keep hb4 (heap_alloc_keep B3.out))
  have C4 := Lib.hid (heap_below_keep hb4 (heap_alloc_new w3 (bO 0 0 0 0)))
  have lb4 := lt_of_block B4.out
  have e0 := cell_of_block (i := 0) B4.out rfl
  have e1 := cell_of_block (i := 1) B4.out rfl
  have e2 := cell_of_block (i := 2) B4.out rfl
  have e3 := cell_of_block (i := 3) B4.out rfl
  have HB4 := Lib.hid hb4
  clear hb4 lb3 d0 d1 d2 d3
  go_wp2_with fail
  refine wp_region_grow (by kernel_rfl) (by kernel_rfl) ?_
  repeat (go_big_quiet_step (first | (go_at_call 13; exact grow_call (check_val _ _ _ _ _ HM.out _)) | (go_at_call 14; exact grow_call (refCheck_val _ _ _ _ _ HM.out _))))
  refine wpQuiet_nil ?_
  intro w5 hb5
  have B5 := Lib.hid (heap_below_keep hb5 B4.out)
  have C5 := Lib.hid (heap_below_keep hb5 C4.out)
  have lb5 := lt_of_block B5.out
  have lc5 := lt_of_block C5.out
  have b0 := cell_of_block (i := 0) B5.out rfl
  have b1 := cell_of_block (i := 1) B5.out rfl
  have b2 := cell_of_block (i := 2) B5.out rfl
  have b3 := cell_of_block (i := 3) B5.out rfl
  have c0 := cell_of_block (i := 0) C5.out rfl
  have c1 := cell_of_block (i := 1) C5.out rfl
  have c2 := cell_of_block (i := 2) C5.out rfl
  have c3 := cell_of_block (i := 3) C5.out rfl
  have HB5 := Lib.hid hb5
  clear hb5 lb4 e0 e1 e2 e3
  go_wp2_with fail
  refine (HLV.out _).mono ?_
  rintro e w6 ⟨rfl, hb6⟩
  go_wp2
  go_ret
  refine ⟨rfl, ?_⟩
  have f1 := HB1.out
  have f2 := HB2.out
  have f3 := HB3.out
  have f4 := HB4.out
  have f5 := HB5.out
  repeat (first | (with_reducible exact Below.refl _ _) | (with_reducible assumption) | (with_reducible refine bset ?_ (by first | omega | (simp; done) | (simp; omega)) _) | (with_reducible refine balloc ?_ _) | (with_reducible refine bdrew ?_) | (with_reducible refine bdrewN ?_ _) | (with_reducible refine bstep ?_ (by assumption)))
set_option maxRecDepth 100000 in
set_option maxHeartbeats 2000000 in
theorem lawAt_neg (HL : Lives) (R B T L t n : Int) (h : okT R B T L t = true) (hn : n < 0) (w : World) :
    Calls Try.prog 3 #[bV R B T L, .int .i64 t, .int .i64 n] w fun e w' => e = .returned (.bool true) ∧ Below w.heap.size w w' := by
  have hN : okN R B T L t n = false := by simp only [okN]; rw [Bool.and_eq_false_iff]; right; simp; omega
  have HT := Lib.hid (show erB (okT R B T L t) = 0 by rw [h]; rfl)
  have HTF := Lib.hid h
  have HN := Lib.hid hN
  clear h hN
  obtain ⟨g, hg⟩ : ∃ g, gM T R (t - L) B = g := ⟨_, rfl⟩
  have HG := Lib.hid hg
  clear hg
  have HLV := Lib.hid HL
  obtain ⟨m, hm⟩ : ∃ m, erB (okB R B T L) = m := ⟨_, rfl⟩
  have HM := Lib.hid hm
  clear HL hm
  go_enter Try.func3, Try.ntmps3
  go_wp2_with fail
  refine (refTime_val _ _ _ _ _ _ HT.out _).mono ?_
  rintro e w1 ⟨rfl, hb1⟩
  have B1 := Lib.hid (heap_below_keep hb1 (heap_alloc_new w (bO R B T L)))
  have lb1 := lt_of_block B1.out
  have b0 := cell_of_block (i := 0) B1.out rfl
  have b1 := cell_of_block (i := 1) B1.out rfl
  have b2 := cell_of_block (i := 2) B1.out rfl
  have b3 := cell_of_block (i := 3) B1.out rfl
  have HB1 := Lib.hid hb1
  clear hb1
  go_wp2_with fail
  refine (at_val _ _ _ _ _ _ HTF.out HG.out _).mono ?_
  rintro e w2 ⟨rfl, hb2⟩
  have B2 := Lib.hid (heap_below_keep hb2 B1.out)
  have lb2 := lt_of_block B2.out
  have c0 := cell_of_block (i := 0) B2.out rfl
  have c1 := cell_of_block (i := 1) B2.out rfl
  have c2 := cell_of_block (i := 2) B2.out rfl
  have c3 := cell_of_block (i := 3) B2.out rfl
  have HB2 := Lib.hid hb2
  clear hb2 lb1 b0 b1 b2 b3
  go_wp2_with fail
  refine (take_no _ _ _ _ _ _ HN.out _).mono ?_
  rintro e w3 ⟨rfl, hb3⟩
  have B3 := Lib.hid (heap_below_keep hb3 B2.out)
  have lb3 := lt_of_block B3.out
  have d0 := cell_of_block (i := 0) B3.out rfl
  have d1 := cell_of_block (i := 1) B3.out rfl
  have d2 := cell_of_block (i := 2) B3.out rfl
  have d3 := cell_of_block (i := 3) B3.out rfl
  have HB3 := Lib.hid hb3
  clear hb3 lb2 c0 c1 c2 c3
  go_wp2_with fail
  refine (after_no _ _ _ _ _ _ HN.out _).mono ?_
  rintro e w4 ⟨rfl, hb4⟩
  have B4 := Lib.hid (heap_below_keep hb4 (heap_alloc_keep B3.out))
  have C4 := Lib.hid (heap_below_keep hb4 (heap_alloc_new w3 (bO 0 0 0 0)))
  have lb4 := lt_of_block B4.out
  have e0 := cell_of_block (i := 0) B4.out rfl
  have e1 := cell_of_block (i := 1) B4.out rfl
  have e2 := cell_of_block (i := 2) B4.out rfl
  have e3 := cell_of_block (i := 3) B4.out rfl
  have HB4 := Lib.hid hb4
  clear hb4 lb3 d0 d1 d2 d3
  go_wp2_with fail
  refine wp_region_grow (by kernel_rfl) (by kernel_rfl) ?_
  repeat (go_big_quiet_step (first | (go_at_call 13; exact grow_call (check_val _ _ _ _ _ HM.out _)) | (go_at_call 14; exact grow_call (refCheck_val _ _ _ _ _ HM.out _))))
  refine wpQuiet_nil ?_
  intro w5 hb5
  have B5 := Lib.hid (heap_below_keep hb5 B4.out)
  have C5 := Lib.hid (heap_below_keep hb5 C4.out)
  have lb5 := lt_of_block B5.out
  have lc5 := lt_of_block C5.out
  have b0 := cell_of_block (i := 0) B5.out rfl
  have b1 := cell_of_block (i := 1) B5.out rfl
  have b2 := cell_of_block (i := 2) B5.out rfl
  have b3 := cell_of_block (i := 3) B5.out rfl
  have c0 := cell_of_block (i := 0) C5.out rfl
  have c1 := cell_of_block (i := 1) C5.out rfl
  have c2 := cell_of_block (i := 2) C5.out rfl
  have c3 := cell_of_block (i := 3) C5.out rfl
  have HB5 := Lib.hid hb5
  clear hb5 lb4 e0 e1 e2 e3
  go_wp2_with fail
  refine (refAt_val _ _ _ _ _ _ HTF.out HG.out _).mono ?_
  rintro e w5a ⟨rfl, hb5a⟩
  have B5a := Lib.hid (heap_below_keep hb5a B5.out)
  have C5a := Lib.hid (heap_below_keep hb5a C5.out)
  have lb5a := lt_of_block B5a.out
  have lc5a := lt_of_block C5a.out
  have d0 := cell_of_block (i := 0) B5a.out rfl
  have d1 := cell_of_block (i := 1) B5a.out rfl
  have d2 := cell_of_block (i := 2) B5a.out rfl
  have d3 := cell_of_block (i := 3) B5a.out rfl
  have e0 := cell_of_block (i := 0) C5a.out rfl
  have e1 := cell_of_block (i := 1) C5a.out rfl
  have e2 := cell_of_block (i := 2) C5a.out rfl
  have e3 := cell_of_block (i := 3) C5a.out rfl
  have HB5a := Lib.hid hb5a
  clear hb5a lb5 lc5 b0 b1 b2 b3 c0 c1 c2 c3
  go_wp2_with fail
  refine (HLV.out _).mono ?_
  rintro e w6 ⟨rfl, hb6⟩
  go_wp2
  go_ret
  refine ⟨rfl, ?_⟩
  have f1 := HB1.out
  have f2 := HB2.out
  have f3 := HB3.out
  have f4 := HB4.out
  have f5 := HB5.out
  have f5a := HB5a.out
  repeat (first | (with_reducible exact Below.refl _ _) | (with_reducible assumption) | (with_reducible refine bset ?_ (by first | omega | (simp; done) | (simp; omega)) _) | (with_reducible refine balloc ?_ _) | (with_reducible refine bdrew ?_) | (with_reducible refine bdrewN ?_ _) | (with_reducible refine bstep ?_ (by assumption)))
set_option maxRecDepth 100000 in
set_option maxHeartbeats 2000000 in
theorem lawAt_yes (HL : Lives) (R B T L t n : Int) (h : okN R B T L t n = true) (hn : n ≤ gM T R (t - L) B) (w : World) :
    Calls Try.prog 3 #[bV R B T L, .int .i64 t, .int .i64 n] w fun e w' => e = .returned (.bool true) ∧ Below w.heap.size w w' := by
  have hT : okT R B T L t = true := by simp only [okN, Bool.and_eq_true] at h; exact h.1
  have h0 : 0 ≤ n := by simp only [okN, Bool.and_eq_true, decide_eq_true_eq] at h; exact h.2
  have HT := Lib.hid (show erB (okT R B T L t) = 0 by rw [hT]; rfl)
  have HTF := Lib.hid hT
  have HN := Lib.hid h
  clear h hT
  obtain ⟨k, hk⟩ : ∃ k, waM R B n (gM T R (t - L) B) = k := ⟨_, rfl⟩
  have HK := Lib.hid hk
  clear hk
  obtain ⟨g, hg⟩ : ∃ g, gM T R (t - L) B = g := ⟨_, rfl⟩
  rw [hg] at hn
  have HG := Lib.hid hg
  clear hg
  have HLV := Lib.hid HL
  obtain ⟨m, hm⟩ : ∃ m, erB (okB R B T L) = m := ⟨_, rfl⟩
  have HM := Lib.hid hm
  clear HL hm
  go_enter Try.func3, Try.ntmps3
  go_wp2_with fail
  refine (refTime_val _ _ _ _ _ _ HT.out _).mono ?_
  rintro e w1 ⟨rfl, hb1⟩
  have B1 := Lib.hid (heap_below_keep hb1 (heap_alloc_new w (bO R B T L)))
  have lb1 := lt_of_block B1.out
  have b0 := cell_of_block (i := 0) B1.out rfl
  have b1 := cell_of_block (i := 1) B1.out rfl
  have b2 := cell_of_block (i := 2) B1.out rfl
  have b3 := cell_of_block (i := 3) B1.out rfl
  have HB1 := Lib.hid hb1
  clear hb1
  go_wp2_with fail
  refine (at_val _ _ _ _ _ _ HTF.out HG.out _).mono ?_
  rintro e w2 ⟨rfl, hb2⟩
  have B2 := Lib.hid (heap_below_keep hb2 B1.out)
  have lb2 := lt_of_block B2.out
  have c0 := cell_of_block (i := 0) B2.out rfl
  have c1 := cell_of_block (i := 1) B2.out rfl
  have c2 := cell_of_block (i := 2) B2.out rfl
  have c3 := cell_of_block (i := 3) B2.out rfl
  have HB2 := Lib.hid hb2
  clear hb2 lb1 b0 b1 b2 b3
  go_wp2_with fail
  refine (take_yval _ _ _ _ _ _ _ HN.out HG.out hn _).mono ?_
  rintro e w3 ⟨rfl, hb3⟩
  have B3 := Lib.hid (heap_below_keep hb3 B2.out)
  have lb3 := lt_of_block B3.out
  have d0 := cell_of_block (i := 0) B3.out rfl
  have d1 := cell_of_block (i := 1) B3.out rfl
  have d2 := cell_of_block (i := 2) B3.out rfl
  have d3 := cell_of_block (i := 3) B3.out rfl
  have HB3 := Lib.hid hb3
  clear hb3 lb2 c0 c1 c2 c3
  go_wp2_with fail
  refine (after_val _ _ _ _ _ _ _ HN.out HK.out _).mono ?_
  rintro e w4 ⟨rfl, hb4⟩
  have B4 := Lib.hid (heap_below_keep hb4 (heap_alloc_keep B3.out))
  have C4 := Lib.hid (heap_below_keep hb4 (heap_alloc_new w3 (bO R B (g - n) t)))
  have lb4 := lt_of_block B4.out
  have e0 := cell_of_block (i := 0) B4.out rfl
  have e1 := cell_of_block (i := 1) B4.out rfl
  have e2 := cell_of_block (i := 2) B4.out rfl
  have e3 := cell_of_block (i := 3) B4.out rfl
  have HB4 := Lib.hid hb4
  clear hb4 lb3 d0 d1 d2 d3
  go_wp2_with fail
  refine wp_region_grow (by kernel_rfl) (by kernel_rfl) ?_
  repeat (go_big_quiet_step (first | (go_at_call 13; exact grow_call (check_val _ _ _ _ _ HM.out _)) | (go_at_call 14; exact grow_call (refCheck_val _ _ _ _ _ HM.out _))))
  refine wpQuiet_nil ?_
  intro w5 hb5
  have B5 := Lib.hid (heap_below_keep hb5 B4.out)
  have C5 := Lib.hid (heap_below_keep hb5 C4.out)
  have lb5 := lt_of_block B5.out
  have lc5 := lt_of_block C5.out
  have b0 := cell_of_block (i := 0) B5.out rfl
  have b1 := cell_of_block (i := 1) B5.out rfl
  have b2 := cell_of_block (i := 2) B5.out rfl
  have b3 := cell_of_block (i := 3) B5.out rfl
  have c0 := cell_of_block (i := 0) C5.out rfl
  have c1 := cell_of_block (i := 1) C5.out rfl
  have c2 := cell_of_block (i := 2) C5.out rfl
  have c3 := cell_of_block (i := 3) C5.out rfl
  have HB5 := Lib.hid hb5
  clear hb5 lb4 e0 e1 e2 e3
  go_wp2_with fail
  refine (refAt_val _ _ _ _ _ _ HTF.out HG.out _).mono ?_
  rintro e w5a ⟨rfl, hb5a⟩
  have B5a := Lib.hid (heap_below_keep hb5a B5.out)
  have C5a := Lib.hid (heap_below_keep hb5a C5.out)
  have lb5a := lt_of_block B5a.out
  have lc5a := lt_of_block C5a.out
  have d0 := cell_of_block (i := 0) B5a.out rfl
  have d1 := cell_of_block (i := 1) B5a.out rfl
  have d2 := cell_of_block (i := 2) B5a.out rfl
  have d3 := cell_of_block (i := 3) B5a.out rfl
  have HB5a := Lib.hid hb5a
  clear hb5a lb5 lc5 b0 b1 b2 b3 c0 c1 c2 c3
  go_wp2_with fail
  refine (refTake_yval _ _ _ _ _ _ _ HN.out HG.out hn _).mono ?_
  rintro e w6 ⟨rfl, hb6⟩
  have B6 := Lib.hid (heap_below_keep hb6 B5a.out)
  have C6 := Lib.hid (heap_below_keep hb6 C5a.out)
  have lb6 := lt_of_block B6.out
  have lc6 := lt_of_block C6.out
  have b0 := cell_of_block (i := 0) B6.out rfl
  have b1 := cell_of_block (i := 1) B6.out rfl
  have b2 := cell_of_block (i := 2) B6.out rfl
  have b3 := cell_of_block (i := 3) B6.out rfl
  have c0 := cell_of_block (i := 0) C6.out rfl
  have c1 := cell_of_block (i := 1) C6.out rfl
  have c2 := cell_of_block (i := 2) C6.out rfl
  have c3 := cell_of_block (i := 3) C6.out rfl
  have HB6 := Lib.hid hb6
  clear hb6 lb5a lc5a d0 d1 d2 d3
  go_wp2_with fail
  refine (refAfter_val _ _ _ _ _ _ _ HN.out HK.out _).mono ?_
  rintro e w7 ⟨rfl, hb7⟩
  have HB7 := Lib.hid hb7
  clear hb7
  go_wp2_with fail
  refine (HLV.out _).mono ?_
  rintro e w8 ⟨rfl, hb8⟩
  go_wp2
  go_ret
  refine ⟨rfl, ?_⟩
  have f1 := HB1.out
  have f2 := HB2.out
  have f3 := HB3.out
  have f4 := HB4.out
  have f5 := HB5.out
  have f5a := HB5a.out
  have f6 := HB6.out
  have f7 := HB7.out
  repeat (first | (with_reducible exact Below.refl _ _) | (with_reducible assumption) | (with_reducible refine bset ?_ (by first | omega | (simp; done) | (simp; omega)) _) | (with_reducible refine balloc ?_ _) | (with_reducible refine bdrew ?_) | (with_reducible refine bdrewN ?_ _) | (with_reducible refine bstep ?_ (by assumption)))
set_option maxRecDepth 100000 in
set_option maxHeartbeats 2000000 in
theorem lawAt_not (HL : Lives) (R B T L t n : Int) (h : okN R B T L t n = true) (hn : gM T R (t - L) B < n) (w : World) :
    Calls Try.prog 3 #[bV R B T L, .int .i64 t, .int .i64 n] w fun e w' => e = .returned (.bool true) ∧ Below w.heap.size w w' := by
  have hT : okT R B T L t = true := by simp only [okN, Bool.and_eq_true] at h; exact h.1
  have h0 : 0 ≤ n := by simp only [okN, Bool.and_eq_true, decide_eq_true_eq] at h; exact h.2
  have HT := Lib.hid (show erB (okT R B T L t) = 0 by rw [hT]; rfl)
  have HTF := Lib.hid hT
  have HN := Lib.hid h
  clear h hT
  obtain ⟨k, hk⟩ : ∃ k, waM R B n (gM T R (t - L) B) = k := ⟨_, rfl⟩
  have HK := Lib.hid hk
  clear hk
  obtain ⟨g, hg⟩ : ∃ g, gM T R (t - L) B = g := ⟨_, rfl⟩
  rw [hg] at hn
  have HG := Lib.hid hg
  clear hg
  have HLV := Lib.hid HL
  obtain ⟨m, hm⟩ : ∃ m, erB (okB R B T L) = m := ⟨_, rfl⟩
  have HM := Lib.hid hm
  clear HL hm
  go_enter Try.func3, Try.ntmps3
  go_wp2_with fail
  refine (refTime_val _ _ _ _ _ _ HT.out _).mono ?_
  rintro e w1 ⟨rfl, hb1⟩
  have B1 := Lib.hid (heap_below_keep hb1 (heap_alloc_new w (bO R B T L)))
  have lb1 := lt_of_block B1.out
  have b0 := cell_of_block (i := 0) B1.out rfl
  have b1 := cell_of_block (i := 1) B1.out rfl
  have b2 := cell_of_block (i := 2) B1.out rfl
  have b3 := cell_of_block (i := 3) B1.out rfl
  have HB1 := Lib.hid hb1
  clear hb1
  go_wp2_with fail
  refine (at_val _ _ _ _ _ _ HTF.out HG.out _).mono ?_
  rintro e w2 ⟨rfl, hb2⟩
  have B2 := Lib.hid (heap_below_keep hb2 B1.out)
  have lb2 := lt_of_block B2.out
  have c0 := cell_of_block (i := 0) B2.out rfl
  have c1 := cell_of_block (i := 1) B2.out rfl
  have c2 := cell_of_block (i := 2) B2.out rfl
  have c3 := cell_of_block (i := 3) B2.out rfl
  have HB2 := Lib.hid hb2
  clear hb2 lb1 b0 b1 b2 b3
  go_wp2_with fail
  refine (take_nval _ _ _ _ _ _ _ HN.out HG.out hn _).mono ?_
  rintro e w3 ⟨rfl, hb3⟩
  have B3 := Lib.hid (heap_below_keep hb3 B2.out)
  have lb3 := lt_of_block B3.out
  have d0 := cell_of_block (i := 0) B3.out rfl
  have d1 := cell_of_block (i := 1) B3.out rfl
  have d2 := cell_of_block (i := 2) B3.out rfl
  have d3 := cell_of_block (i := 3) B3.out rfl
  have HB3 := Lib.hid hb3
  clear hb3 lb2 c0 c1 c2 c3
  go_wp2_with fail
  refine (after_val _ _ _ _ _ _ _ HN.out HK.out _).mono ?_
  rintro e w4 ⟨rfl, hb4⟩
  have B4 := Lib.hid (heap_below_keep hb4 (heap_alloc_keep B3.out))
  have C4 := Lib.hid (heap_below_keep hb4 (heap_alloc_new w3 (bO R B T L)))
  have lb4 := lt_of_block B4.out
  have e0 := cell_of_block (i := 0) B4.out rfl
  have e1 := cell_of_block (i := 1) B4.out rfl
  have e2 := cell_of_block (i := 2) B4.out rfl
  have e3 := cell_of_block (i := 3) B4.out rfl
  have HB4 := Lib.hid hb4
  clear hb4 lb3 d0 d1 d2 d3
  go_wp2_with fail
  refine wp_region_grow (by kernel_rfl) (by kernel_rfl) ?_
  repeat (go_big_quiet_step (first | (go_at_call 13; exact grow_call (check_val _ _ _ _ _ HM.out _)) | (go_at_call 14; exact grow_call (refCheck_val _ _ _ _ _ HM.out _))))
  refine wpQuiet_nil ?_
  intro w5 hb5
  have B5 := Lib.hid (heap_below_keep hb5 B4.out)
  have C5 := Lib.hid (heap_below_keep hb5 C4.out)
  have lb5 := lt_of_block B5.out
  have lc5 := lt_of_block C5.out
  have b0 := cell_of_block (i := 0) B5.out rfl
  have b1 := cell_of_block (i := 1) B5.out rfl
  have b2 := cell_of_block (i := 2) B5.out rfl
  have b3 := cell_of_block (i := 3) B5.out rfl
  have c0 := cell_of_block (i := 0) C5.out rfl
  have c1 := cell_of_block (i := 1) C5.out rfl
  have c2 := cell_of_block (i := 2) C5.out rfl
  have c3 := cell_of_block (i := 3) C5.out rfl
  have HB5 := Lib.hid hb5
  clear hb5 lb4 e0 e1 e2 e3
  go_wp2_with fail
  refine (refAt_val _ _ _ _ _ _ HTF.out HG.out _).mono ?_
  rintro e w5a ⟨rfl, hb5a⟩
  have B5a := Lib.hid (heap_below_keep hb5a B5.out)
  have C5a := Lib.hid (heap_below_keep hb5a C5.out)
  have lb5a := lt_of_block B5a.out
  have lc5a := lt_of_block C5a.out
  have d0 := cell_of_block (i := 0) B5a.out rfl
  have d1 := cell_of_block (i := 1) B5a.out rfl
  have d2 := cell_of_block (i := 2) B5a.out rfl
  have d3 := cell_of_block (i := 3) B5a.out rfl
  have HB5a := Lib.hid hb5a
  clear hb5a lb5 lc5 b0 b1 b2 b3 c0 c1 c2 c3
  go_wp2_with fail
  refine (refTake_nval _ _ _ _ _ _ _ HN.out HG.out hn _).mono ?_
  rintro e w6 ⟨rfl, hb6⟩
  have B6 := Lib.hid (heap_below_keep hb6 B5a.out)
  have C6 := Lib.hid (heap_below_keep hb6 C5a.out)
  have lb6 := lt_of_block B6.out
  have lc6 := lt_of_block C6.out
  have b0 := cell_of_block (i := 0) B6.out rfl
  have b1 := cell_of_block (i := 1) B6.out rfl
  have b2 := cell_of_block (i := 2) B6.out rfl
  have b3 := cell_of_block (i := 3) B6.out rfl
  have c0 := cell_of_block (i := 0) C6.out rfl
  have c1 := cell_of_block (i := 1) C6.out rfl
  have c2 := cell_of_block (i := 2) C6.out rfl
  have c3 := cell_of_block (i := 3) C6.out rfl
  have HB6 := Lib.hid hb6
  clear hb6 lb5a lc5a d0 d1 d2 d3
  go_wp2_with fail
  refine (refAfter_val _ _ _ _ _ _ _ HN.out HK.out _).mono ?_
  rintro e w7 ⟨rfl, hb7⟩
  have HB7 := Lib.hid hb7
  clear hb7
  go_wp2_with fail
  refine (HLV.out _).mono ?_
  rintro e w8 ⟨rfl, hb8⟩
  go_wp2
  go_ret
  refine ⟨rfl, ?_⟩
  have f1 := HB1.out
  have f2 := HB2.out
  have f3 := HB3.out
  have f4 := HB4.out
  have f5 := HB5.out
  have f5a := HB5a.out
  have f6 := HB6.out
  have f7 := HB7.out
  repeat (first | (with_reducible exact Below.refl _ _) | (with_reducible assumption) | (with_reducible refine bset ?_ (by first | omega | (simp; done) | (simp; omega)) _) | (with_reducible refine balloc ?_ _) | (with_reducible refine bdrew ?_) | (with_reducible refine bdrewN ?_ _) | (with_reducible refine bstep ?_ (by assumption)))
theorem lawAt_any (HL : Lives) (R B T L t n : Int) (w : World) :
    Calls Try.prog 3 #[bV R B T L, .int .i64 t, .int .i64 n] w fun e w' => e = .returned (.bool true) ∧ Below w.heap.size w w' := by
  cases h : okT R B T L t
  · exact lawAt_no HL R B T L t n h w
  · by_cases hn : n < 0
    · exact lawAt_neg HL R B T L t n h hn w
    · have hN : okN R B T L t n = true := by simp only [okN, h, Bool.true_and, decide_eq_true_eq]; omega
      by_cases hg : n ≤ gM T R (t - L) B
      · exact lawAt_yes HL R B T L t n hN hg w
      · exact lawAt_not HL R B T L t n hN (by omega) w
end Go.Proofs.Yteojndglglkgpaa
