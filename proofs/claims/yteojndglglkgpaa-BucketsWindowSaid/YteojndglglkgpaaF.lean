import Derived.Test.YteojndglglkgpaaC
namespace Go.Proofs.Yteojndglglkgpaa
open Go.RowKit
set_option linter.unusedVariables false
set_option linter.unusedSimpArgs false
abbrev bO (R B T L : Int) : Obj := .cells #[.int .i64 R, .int .i64 B, .int .i64 T, .int .i64 L] 23 (0, 0)
abbrev iO (t : Int) : Obj := .cells #[.int .i64 t] 2 (0, 0)
abbrev ptr (b : Nat) : Value := .pointer (some ⟨b, 0, none⟩)
abbrev stepV (d : Bool) (e : Int) : Value := .tuple #[.bool d, .int .i64 e]
/-- behind a step: what the two variables hold, and that nothing else has turned -/
def StepPost (bb tb : Nat) (R B T L t : Int) (v : Value) (w : World) (e : Ending) (w' : World) : Prop :=
  e = .returned v ∧ w'.heap[bb]? = some (bO R B T L) ∧ w'.heap[tb]? = some (iO t) ∧ Turned [bb, tb] w w'
set_option maxHeartbeats 1000000 in
theorem step_yes (R B T L t wt n : Int) (bb tb : Nat) (w : World) (hne : bb ≠ tb) (hb : w.heap[bb]? = some (bO R B T L)) (ht : w.heap[tb]? = some (iO t))
    (h1 : 0 ≤ wt) (h2 : wt ≤ 4611686018427387904 - t) (h3 : 0 ≤ t) (h : okN R B T L (t + wt) n = true) (hn : n ≤ gM T R (t + wt - L) B) :
    Calls Try.prog 29 #[.agg #[.int .i64 wt, .int .i64 n], ptr tb, ptr bb] w (StepPost bb tb R B (gM T R (t + wt - L) B - n) (t + wt) (t + wt) (stepV true 0) w) := by
  have hi : inB wt 0 (4611686018427387904 - t) = true := inB_true ⟨h1, h2⟩
  have HI := Lib.hid hi
  have HN := Lib.hid h
  have HG := Lib.hid hn
  have HB := Lib.hid hb
  have HT := Lib.hid ht
  have lb := lt_of_block hb
  have lt := lt_of_block ht
  have cb0 := cell_of_block (i := 0) hb rfl
  have cb1 := cell_of_block (i := 1) hb rfl
  have cb2 := cell_of_block (i := 2) hb rfl
  have cb3 := cell_of_block (i := 3) hb rfl
  have ct := cell_of_block (i := 0) ht rfl
  have fb0 := free_of_block (i := 0) hb
  have fb1 := free_of_block (i := 1) hb
  have fb2 := free_of_block (i := 2) hb
  have fb3 := free_of_block (i := 3) hb
  have ft := free_of_block (i := 0) ht
  clear hi h hn hb ht
  go_enter Try.func29, Try.ntmps29
  go_wp2_with fail
  refine (within_any _ _ _ _).mono ?_; rintro e w' ⟨rfl, rfl⟩; rw [HI.out]
  go_wp2_with fail
  refine (take_yes _ _ _ _ _ _ HN.out HG.out _).mono ?_; rintro e w1 ⟨rfl, hb1⟩
  have Hb0 := Lib.hid hb1
  have hbb : w1.heap[bb]? = some (bO R B T L) := heap_below_keep hb1 (heap_alloc_keep (heap_setCell_ne HB.out hne))
  have htb : w1.heap[tb]? = some (iO (t + wt)) := heap_below_keep hb1 (heap_alloc_keep (heap_setCell_same HT.out))
  have hz1 := hb1.size
  have lz : w.heap.size < w1.heap.size := by simp at hz1; omega
  have cb0' := cell_of_block (i := 0) hbb rfl
  have cb1' := cell_of_block (i := 1) hbb rfl
  have cb2' := cell_of_block (i := 2) hbb rfl
  have cb3' := cell_of_block (i := 3) hbb rfl
  have fb0' := free_of_block (i := 0) hbb
  have fb1' := free_of_block (i := 1) hbb
  have fb2' := free_of_block (i := 2) hbb
  have fb3' := free_of_block (i := 3) hbb
  have lb' := lt_of_block hbb
  have lt' := lt_of_block htb
  have HBB := Lib.hid hbb
  have HTB := Lib.hid htb
  clear hbb htb hb1 hz1 cb0 cb1 cb2 cb3 ct fb0 fb1 fb2 fb3 ft
  go_wp2
  go_ret2
  refine ⟨rfl, ?_, ?_, ?_⟩
  · exact heap_alloc_keep (heap_setCell_same (heap_setCell_same (heap_setCell_same (heap_setCell_same HBB.out))))
  · exact heap_alloc_keep (heap_setCell_ne (heap_setCell_ne (heap_setCell_ne (heap_setCell_ne HTB.out hne.symm) hne.symm) hne.symm) hne.symm)
  · repeat (first | (with_reducible refine tset ?_ (by first | (simp; done) | (simp; omega)) _) | (with_reducible refine talloc ?_ _) | (with_reducible refine tdrew ?_) | (with_reducible exact Turned.refl _ _) | (with_reducible refine tbelow ?_ (by first | assumption | exact Hb0.out)))
set_option maxHeartbeats 1000000 in
theorem step_not (R B T L t wt n : Int) (bb tb : Nat) (w : World) (hne : bb ≠ tb) (hb : w.heap[bb]? = some (bO R B T L)) (ht : w.heap[tb]? = some (iO t))
    (h1 : 0 ≤ wt) (h2 : wt ≤ 4611686018427387904 - t) (h3 : 0 ≤ t) (h : okN R B T L (t + wt) n = true) (hn : gM T R (t + wt - L) B < n) :
    Calls Try.prog 29 #[.agg #[.int .i64 wt, .int .i64 n], ptr tb, ptr bb] w (StepPost bb tb R B T L (t + wt) (stepV false 0) w) := by
  have hi : inB wt 0 (4611686018427387904 - t) = true := inB_true ⟨h1, h2⟩
  have HI := Lib.hid hi
  have HN := Lib.hid h
  have HG := Lib.hid hn
  have HB := Lib.hid hb
  have HT := Lib.hid ht
  have lb := lt_of_block hb
  have lt := lt_of_block ht
  have cb0 := cell_of_block (i := 0) hb rfl
  have cb1 := cell_of_block (i := 1) hb rfl
  have cb2 := cell_of_block (i := 2) hb rfl
  have cb3 := cell_of_block (i := 3) hb rfl
  have ct := cell_of_block (i := 0) ht rfl
  have fb0 := free_of_block (i := 0) hb
  have fb1 := free_of_block (i := 1) hb
  have fb2 := free_of_block (i := 2) hb
  have fb3 := free_of_block (i := 3) hb
  have ft := free_of_block (i := 0) ht
  clear hi h hn hb ht
  go_enter Try.func29, Try.ntmps29
  go_wp2_with fail
  refine (within_any _ _ _ _).mono ?_; rintro e w' ⟨rfl, rfl⟩; rw [HI.out]
  go_wp2_with fail
  refine (take_not _ _ _ _ _ _ HN.out HG.out _).mono ?_; rintro e w1 ⟨rfl, hb1⟩
  have Hb0 := Lib.hid hb1
  have hbb : w1.heap[bb]? = some (bO R B T L) := heap_below_keep hb1 (heap_alloc_keep (heap_setCell_ne HB.out hne))
  have htb : w1.heap[tb]? = some (iO (t + wt)) := heap_below_keep hb1 (heap_alloc_keep (heap_setCell_same HT.out))
  have hz1 := hb1.size
  have lz : w.heap.size < w1.heap.size := by simp at hz1; omega
  have cb0' := cell_of_block (i := 0) hbb rfl
  have cb1' := cell_of_block (i := 1) hbb rfl
  have cb2' := cell_of_block (i := 2) hbb rfl
  have cb3' := cell_of_block (i := 3) hbb rfl
  have fb0' := free_of_block (i := 0) hbb
  have fb1' := free_of_block (i := 1) hbb
  have fb2' := free_of_block (i := 2) hbb
  have fb3' := free_of_block (i := 3) hbb
  have lb' := lt_of_block hbb
  have lt' := lt_of_block htb
  have HBB := Lib.hid hbb
  have HTB := Lib.hid htb
  clear hbb htb hb1 hz1 cb0 cb1 cb2 cb3 ct fb0 fb1 fb2 fb3 ft
  go_wp2
  go_ret2
  refine ⟨rfl, ?_, ?_, ?_⟩
  · exact heap_alloc_keep (heap_setCell_same (heap_setCell_same (heap_setCell_same (heap_setCell_same HBB.out))))
  · exact heap_alloc_keep (heap_setCell_ne (heap_setCell_ne (heap_setCell_ne (heap_setCell_ne HTB.out hne.symm) hne.symm) hne.symm) hne.symm)
  · repeat (first | (with_reducible refine tset ?_ (by first | (simp; done) | (simp; omega)) _) | (with_reducible refine talloc ?_ _) | (with_reducible refine tdrew ?_) | (with_reducible exact Turned.refl _ _) | (with_reducible refine tbelow ?_ (by first | assumption | exact Hb0.out)))
set_option maxHeartbeats 1000000 in
theorem step_bad (R B T L t wt n : Int) (bb tb : Nat) (w : World) (hne : bb ≠ tb) (hb : w.heap[bb]? = some (bO R B T L)) (ht : w.heap[tb]? = some (iO t))
    (h1 : 0 ≤ wt) (h2 : wt ≤ 4611686018427387904 - t) (h3 : 0 ≤ t) (h : okN R B T L (t + wt) n = false) :
    Calls Try.prog 29 #[.agg #[.int .i64 wt, .int .i64 n], ptr tb, ptr bb] w (StepPost bb tb R B T L (t + wt) (stepV false 4) w) := by
  have hi : inB wt 0 (4611686018427387904 - t) = true := inB_true ⟨h1, h2⟩
  have HI := Lib.hid hi
  have HN := Lib.hid h
  have HB := Lib.hid hb
  have HT := Lib.hid ht
  have lb := lt_of_block hb
  have lt := lt_of_block ht
  have cb0 := cell_of_block (i := 0) hb rfl
  have cb1 := cell_of_block (i := 1) hb rfl
  have cb2 := cell_of_block (i := 2) hb rfl
  have cb3 := cell_of_block (i := 3) hb rfl
  have ct := cell_of_block (i := 0) ht rfl
  have fb0 := free_of_block (i := 0) hb
  have fb1 := free_of_block (i := 1) hb
  have fb2 := free_of_block (i := 2) hb
  have fb3 := free_of_block (i := 3) hb
  have ft := free_of_block (i := 0) ht
  clear hi h hb ht
  go_enter Try.func29, Try.ntmps29
  go_wp2_with fail
  refine (within_any _ _ _ _).mono ?_; rintro e w' ⟨rfl, rfl⟩; rw [HI.out]
  go_wp2_with fail
  refine (take_no _ _ _ _ _ _ HN.out _).mono ?_; rintro e w1 ⟨rfl, hb1⟩
  have Hb0 := Lib.hid hb1
  have hbb : w1.heap[bb]? = some (bO R B T L) := heap_below_keep hb1 (heap_alloc_keep (heap_setCell_ne HB.out hne))
  have htb : w1.heap[tb]? = some (iO (t + wt)) := heap_below_keep hb1 (heap_alloc_keep (heap_setCell_same HT.out))
  have hz1 := hb1.size
  have lz : w.heap.size < w1.heap.size := by simp at hz1; omega
  have cb0' := cell_of_block (i := 0) hbb rfl
  have cb1' := cell_of_block (i := 1) hbb rfl
  have cb2' := cell_of_block (i := 2) hbb rfl
  have cb3' := cell_of_block (i := 3) hbb rfl
  have fb0' := free_of_block (i := 0) hbb
  have fb1' := free_of_block (i := 1) hbb
  have fb2' := free_of_block (i := 2) hbb
  have fb3' := free_of_block (i := 3) hbb
  have lb' := lt_of_block hbb
  have lt' := lt_of_block htb
  have HBB := Lib.hid hbb
  have HTB := Lib.hid htb
  clear hbb htb hb1 hz1 cb0 cb1 cb2 cb3 ct fb0 fb1 fb2 fb3 ft
  go_wp2
  go_ret2
  refine ⟨rfl, ?_, ?_, ?_⟩
  · exact heap_alloc_keep HBB.out
  · exact heap_alloc_keep HTB.out
  · repeat (first | (with_reducible refine tset ?_ (by first | (simp; done) | (simp; omega)) _) | (with_reducible refine talloc ?_ _) | (with_reducible refine tdrew ?_) | (with_reducible exact Turned.refl _ _) | (with_reducible refine tbelow ?_ (by first | assumption | exact Hb0.out)))
set_option maxHeartbeats 1000000 in
theorem step_out (R B T L t wt n : Int) (bb tb : Nat) (w : World) (hne : bb ≠ tb) (hb : w.heap[bb]? = some (bO R B T L)) (ht : w.heap[tb]? = some (iO t))
    (h : ¬ (0 ≤ wt ∧ wt ≤ 4611686018427387904 - t)) (h3 : 0 ≤ t) (h4 : t ≤ 4611686018427387904) :
    Calls Try.prog 29 #[.agg #[.int .i64 wt, .int .i64 n], ptr tb, ptr bb] w (StepPost bb tb R B T L t (stepV false 4) w) := by
  have hi : inB wt 0 (4611686018427387904 - t) = false := inB_false h
  have HI := Lib.hid hi
  have HB := Lib.hid hb
  have HT := Lib.hid ht
  have lb := lt_of_block hb
  have lt := lt_of_block ht
  have cb0 := cell_of_block (i := 0) hb rfl
  have cb1 := cell_of_block (i := 1) hb rfl
  have cb2 := cell_of_block (i := 2) hb rfl
  have cb3 := cell_of_block (i := 3) hb rfl
  have ct := cell_of_block (i := 0) ht rfl
  have fb0 := free_of_block (i := 0) hb
  have fb1 := free_of_block (i := 1) hb
  have fb2 := free_of_block (i := 2) hb
  have fb3 := free_of_block (i := 3) hb
  have ft := free_of_block (i := 0) ht
  clear hi h hb ht
  go_enter Try.func29, Try.ntmps29
  go_wp2_with fail
  refine (within_any _ _ _ _).mono ?_; rintro e w' ⟨rfl, rfl⟩; rw [HI.out]
  go_wp2
  go_ret2
  refine ⟨rfl, ?_, ?_, ?_⟩
  · exact heap_alloc_keep HB.out
  · exact heap_alloc_keep HT.out
  · repeat (first | (with_reducible refine tset ?_ (by first | (simp; done) | (simp; omega)) _) | (with_reducible refine talloc ?_ _) | (with_reducible refine tdrew ?_) | (with_reducible exact Turned.refl _ _) | (with_reducible refine tbelow ?_ (by first | assumption | exact Hb0.out)))
end Go.Proofs.Yteojndglglkgpaa
