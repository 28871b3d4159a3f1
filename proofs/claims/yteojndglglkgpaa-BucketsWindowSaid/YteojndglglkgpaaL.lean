import Derived.Test.YteojndglglkgpaaJ
namespace Go.Proofs.Yteojndglglkgpaa
open Go.RowKit
set_option linter.unusedVariables false
set_option linter.unusedSimpArgs false
theorem most_val (R B t m : Int) (h : okB R B B t = true) (hm : gM B R t big = m) (w : World) :
    Calls Try.prog 20 #[.int .i64 R, .int .i64 B, .int .i64 t] w fun e w' => e = .returned (two m 0) ∧ Below w.heap.size w w' := hm ▸ most_ok R B t h w
theorem refMost_val (R B t m : Int) (h : okB R B B t = true) (hm : gM B R t big = m) (w : World) :
    Calls Try.prog 21 #[.int .i64 R, .int .i64 B, .int .i64 t] w fun e w' => e = .returned (.int .i64 m) ∧ w = w' := hm ▸ refMost_ok R B t h w
set_option maxRecDepth 100000 in
set_option maxHeartbeats 2000000 in
theorem lawNew_yes (HL : Lives) (R B t : Int) (h : okB R B B t = true) (w : World) :
    Calls Try.prog 4 #[.int .i64 R, .int .i64 B, .int .i64 t] w fun e w' => e = .returned (.bool true) ∧ Below w.heap.size w w' := by
  have HLV := Lib.hid HL
  have HOK := Lib.hid h
  have HE := Lib.hid (show erB (okB R B B t) = 0 by rw [h]; rfl)
  obtain ⟨m, hm⟩ : ∃ m, gM B R t big = m := ⟨_, rfl⟩
  have HM := Lib.hid hm
  clear hm
  clear HL h
  go_enter Try.func4, Try.ntmps4
  go_wp2_with fail
  refine (new_ok _ _ _ HOK.out _).mono ?_
  rintro e w1 ⟨rfl, hb1⟩
  have A1 := Lib.hid (heap_below_keep hb1 (heap_alloc_new w (bO R B B t)))
  have HB1 := Lib.hid hb1
  clear hb1
  have la := lt_of_block A1.out
  have ca0 := cell_of_block (i := 0) A1.out rfl
  have ca1 := cell_of_block (i := 1) A1.out rfl
  have ca2 := cell_of_block (i := 2) A1.out rfl
  have ca3 := cell_of_block (i := 3) A1.out rfl
  go_wp2_with fail
  refine (most_val _ _ _ _ HOK.out HM.out _).mono ?_
  rintro e w2 ⟨rfl, hb2⟩
  have A2 := Lib.hid (heap_below_keep hb2 (heap_alloc_keep A1.out))
  have B2 := Lib.hid (heap_below_keep hb2 (heap_alloc_new w1 (bO R B B t)))
  have HB2 := Lib.hid hb2
  clear hb2
  clear la ca0 ca1 ca2 ca3
  have la := lt_of_block A2.out
  have ca0 := cell_of_block (i := 0) A2.out rfl
  have ca1 := cell_of_block (i := 1) A2.out rfl
  have ca2 := cell_of_block (i := 2) A2.out rfl
  have ca3 := cell_of_block (i := 3) A2.out rfl
  have lb := lt_of_block B2.out
  have cb0 := cell_of_block (i := 0) B2.out rfl
  have cb1 := cell_of_block (i := 1) B2.out rfl
  have cb2 := cell_of_block (i := 2) B2.out rfl
  have cb3 := cell_of_block (i := 3) B2.out rfl
  go_wp2_with fail
  refine (refCheck_val _ _ _ _ _ HE.out _).mono ?_
  rintro e w3 ⟨rfl, hb3⟩
  have A3 := Lib.hid (heap_below_keep hb3 A2.out)
  have B3 := Lib.hid (heap_below_keep hb3 B2.out)
  have HB3 := Lib.hid hb3
  clear hb3
  clear la ca0 ca1 ca2 ca3 lb cb0 cb1 cb2 cb3
  have la := lt_of_block A3.out
  have ca0 := cell_of_block (i := 0) A3.out rfl
  have ca1 := cell_of_block (i := 1) A3.out rfl
  have ca2 := cell_of_block (i := 2) A3.out rfl
  have ca3 := cell_of_block (i := 3) A3.out rfl
  have lb := lt_of_block B3.out
  have cb0 := cell_of_block (i := 0) B3.out rfl
  have cb1 := cell_of_block (i := 1) B3.out rfl
  have cb2 := cell_of_block (i := 2) B3.out rfl
  have cb3 := cell_of_block (i := 3) B3.out rfl
  go_wp2_with fail
  refine (refMost_val _ _ _ _ HOK.out HM.out _).mono ?_
  rintro e w' ⟨rfl, rfl⟩
  go_wp2_with fail
  refine (HLV.out _).mono ?_
  rintro e w4 ⟨rfl, hb4⟩
  have A4 := Lib.hid (heap_below_keep hb4 A3.out)
  have B4 := Lib.hid (heap_below_keep hb4 B3.out)
  have HB4 := Lib.hid hb4
  clear hb4
  clear la ca0 ca1 ca2 ca3 lb cb0 cb1 cb2 cb3
  have la := lt_of_block A4.out
  have ca0 := cell_of_block (i := 0) A4.out rfl
  have ca1 := cell_of_block (i := 1) A4.out rfl
  have ca2 := cell_of_block (i := 2) A4.out rfl
  have ca3 := cell_of_block (i := 3) A4.out rfl
  have lb := lt_of_block B4.out
  have cb0 := cell_of_block (i := 0) B4.out rfl
  have cb1 := cell_of_block (i := 1) B4.out rfl
  have cb2 := cell_of_block (i := 2) B4.out rfl
  have cb3 := cell_of_block (i := 3) B4.out rfl
  go_wp2
  go_ret
  refine ⟨rfl, ?_⟩
  have f0 := HB1.out
  have f1 := HB2.out
  have f2 := HB3.out
  have f3 := HB4.out
  repeat (first | (with_reducible exact Below.refl _ _) | (with_reducible assumption) | (with_reducible refine bset ?_ (by first | omega | (simp; done) | (simp; omega)) _) | (with_reducible refine balloc ?_ _) | (with_reducible refine bdrew ?_) | (with_reducible refine bdrewN ?_ _) | (with_reducible refine bstep ?_ (by assumption)))
set_option maxRecDepth 100000 in
set_option maxHeartbeats 2000000 in
theorem lawNew_no (HL : Lives) (R B t : Int) (h : okB R B B t = false) (w : World) :
    Calls Try.prog 4 #[.int .i64 R, .int .i64 B, .int .i64 t] w fun e w' => e = .returned (.bool true) ∧ Below w.heap.size w w' := by
  have HLV := Lib.hid HL
  have HOK := Lib.hid h
  have HE := Lib.hid (show erB (okB R B B t) = 4 by rw [h]; rfl)
  clear HL h
  go_enter Try.func4, Try.ntmps4
  go_wp2_with fail
  refine (new_no _ _ _ HOK.out _).mono ?_
  rintro e w1 ⟨rfl, hb1⟩
  have A1 := Lib.hid (heap_below_keep hb1 (heap_alloc_new w (bO R B B t)))
  have HB1 := Lib.hid hb1
  clear hb1
  have la := lt_of_block A1.out
  have ca0 := cell_of_block (i := 0) A1.out rfl
  have ca1 := cell_of_block (i := 1) A1.out rfl
  have ca2 := cell_of_block (i := 2) A1.out rfl
  have ca3 := cell_of_block (i := 3) A1.out rfl
  go_wp2_with fail
  refine (most_no _ _ _ HOK.out _).mono ?_
  rintro e w2 ⟨rfl, hb2⟩
  have A2 := Lib.hid (heap_below_keep hb2 (heap_alloc_keep A1.out))
  have B2 := Lib.hid (heap_below_keep hb2 (heap_alloc_new w1 (bO 0 0 0 0)))
  have HB2 := Lib.hid hb2
  clear hb2
  clear la ca0 ca1 ca2 ca3
  have la := lt_of_block A2.out
  have ca0 := cell_of_block (i := 0) A2.out rfl
  have ca1 := cell_of_block (i := 1) A2.out rfl
  have ca2 := cell_of_block (i := 2) A2.out rfl
  have ca3 := cell_of_block (i := 3) A2.out rfl
  have lb := lt_of_block B2.out
  have cb0 := cell_of_block (i := 0) B2.out rfl
  have cb1 := cell_of_block (i := 1) B2.out rfl
  have cb2 := cell_of_block (i := 2) B2.out rfl
  have cb3 := cell_of_block (i := 3) B2.out rfl
  go_wp2_with fail
  refine (refCheck_val _ _ _ _ _ HE.out _).mono ?_
  rintro e w3 ⟨rfl, hb3⟩
  have A3 := Lib.hid (heap_below_keep hb3 A2.out)
  have B3 := Lib.hid (heap_below_keep hb3 B2.out)
  have HB3 := Lib.hid hb3
  clear hb3
  clear la ca0 ca1 ca2 ca3 lb cb0 cb1 cb2 cb3
  have la := lt_of_block A3.out
  have ca0 := cell_of_block (i := 0) A3.out rfl
  have ca1 := cell_of_block (i := 1) A3.out rfl
  have ca2 := cell_of_block (i := 2) A3.out rfl
  have ca3 := cell_of_block (i := 3) A3.out rfl
  have lb := lt_of_block B3.out
  have cb0 := cell_of_block (i := 0) B3.out rfl
  have cb1 := cell_of_block (i := 1) B3.out rfl
  have cb2 := cell_of_block (i := 2) B3.out rfl
  have cb3 := cell_of_block (i := 3) B3.out rfl
  go_wp2_with fail
  refine (HLV.out _).mono ?_
  rintro e w4 ⟨rfl, hb4⟩
  have A4 := Lib.hid (heap_below_keep hb4 A3.out)
  have B4 := Lib.hid (heap_below_keep hb4 B3.out)
  have HB4 := Lib.hid hb4
  clear hb4
  clear la ca0 ca1 ca2 ca3 lb cb0 cb1 cb2 cb3
  have la := lt_of_block A4.out
  have ca0 := cell_of_block (i := 0) A4.out rfl
  have ca1 := cell_of_block (i := 1) A4.out rfl
  have ca2 := cell_of_block (i := 2) A4.out rfl
  have ca3 := cell_of_block (i := 3) A4.out rfl
  have lb := lt_of_block B4.out
  have cb0 := cell_of_block (i := 0) B4.out rfl
  have cb1 := cell_of_block (i := 1) B4.out rfl
  have cb2 := cell_of_block (i := 2) B4.out rfl
  have cb3 := cell_of_block (i := 3) B4.out rfl
  go_wp2
  go_ret
  refine ⟨rfl, ?_⟩
  have f0 := HB1.out
  have f1 := HB2.out
  have f2 := HB3.out
  have f3 := HB4.out
  repeat (first | (with_reducible exact Below.refl _ _) | (with_reducible assumption) | (with_reducible refine bset ?_ (by first | omega | (simp; done) | (simp; omega)) _) | (with_reducible refine balloc ?_ _) | (with_reducible refine bdrew ?_) | (with_reducible refine bdrewN ?_ _) | (with_reducible refine bstep ?_ (by assumption)))
theorem lawNew_any (HL : Lives) (R B t : Int) (w : World) :
    Calls Try.prog 4 #[.int .i64 R, .int .i64 B, .int .i64 t] w fun e w' => e = .returned (.bool true) ∧ Below w.heap.size w w' := by
  cases h : okB R B B t
  · exact lawNew_no HL R B t h w
  · exact lawNew_yes HL R B t h w
end Go.Proofs.Yteojndglglkgpaa
