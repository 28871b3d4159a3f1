import Derived.Test.YteojndglglkgpaaE
import Derived.Test.YteojndglglkgpaaH
import Derived.Deep.RegionWith
import Derived.Deep.DrawnRows
import Derived.Deep.DeepCutAuto
namespace Go.Proofs.Yteojndglglkgpaa
open Go.RowKit
set_option linter.unusedVariables false
set_option linter.unusedSimpArgs false
@[irreducible] def tab (l : List Int) (k : Nat) : Int := l.getD k 0
theorem tab5 (a b c d e : Int) (k : Nat) (h : k < [Value.int .i64 a, .int .i64 b, .int .i64 c, .int .i64 d, .int .i64 e].length) : [Value.int .i64 a, .int .i64 b, .int .i64 c, .int .i64 d, .int .i64 e][k] = .int .i64 (tab [a, b, c, d, e] k) := by
  simp at h
  obtain e | e | e | e | e : k = 0 ∨ k = 1 ∨ k = 2 ∨ k = 3 ∨ k = 4 := by omega
  all_goals (subst e; simp [tab])
theorem tab4 (a b c d : Int) (k : Nat) (h : k < [Value.int .i64 a, .int .i64 b, .int .i64 c, .int .i64 d].length) : [Value.int .i64 a, .int .i64 b, .int .i64 c, .int .i64 d][k] = .int .i64 (tab [a, b, c, d] k) := by
  simp at h
  obtain e | e | e | e : k = 0 ∨ k = 1 ∨ k = 2 ∨ k = 3 := by omega
  all_goals (subst e; simp [tab])
@[irreducible] def atV (R B T L t : Int) : Int := if okT R B T L t then gM T R (t - L) B else 0
@[irreducible] def atE (R B T L t : Int) : Int := erB (okT R B T L t)
theorem at_any (R B T L t : Int) (w : World) : Calls Try.prog 10 #[bV R B T L, .int .i64 t] w fun e w' => e = .returned (two (atV R B T L t) (atE R B T L t)) ∧ Below w.heap.size w w' := by
  cases h : okT R B T L t
  · have := at_no R B T L t h w
    simpa [atV, atE, h, erB] using this
  · have := at_ok R B T L t h w
    simpa [atV, atE, h, erB] using this
@[irreducible] def afE (R B T L t n : Int) : Int := erB (okN R B T L t n)
@[irreducible] def afV (R B T L t n : Int) : Int := if okN R B T L t n then waM R B n (gM T R (t - L) B) else 0
theorem after_any (R B T L t n : Int) (w : World) : Calls Try.prog 12 #[bV R B T L, .int .i64 t, .int .i64 n] w fun e w' => e = .returned (two (afV R B T L t n) (afE R B T L t n)) ∧ Below w.heap.size w w' := by
  cases h : okN R B T L t n
  · have := after_no R B T L t n h w
    simpa [afV, afE, h, erB] using this
  · have := after_ok R B T L t n h w
    simpa [afV, afE, h, erB] using this
attribute [local go_sem ↓] Go.wp_at_zero Go.wp_at_succ
set_option maxRecDepth 100000 in
set_option maxHeartbeats 60000000 in
theorem lives_any (w : World) : Calls Try.prog 16 #[] w fun e w' => e = .returned (.bool true) ∧ Below w.heap.size w w' := by
  go_enter Try.func16, Try.ntmps16
  go_wp2
  go_loopw [2] (fun i wr => ∃ k : Nat, i = .int .i64 k ∧ k ≤ 5 ∧ Below w.heap.size w wr ∧ wr.heap[w.heap.size]? = some (bO 3 10 4 5)) (fun i _ => 5 - (intOf i).toNat)
  case atStart => exact ⟨0, rfl, by omega, (Below.refl _ _).alloc (Nat.le_refl _) _, heap_alloc_new w _⟩
  case round =>
    obtain ⟨k, rfl, hk, hb, hbb⟩ := hrel
    have c0 := cell_of_block (i := 0) hbb rfl
    have c1 := cell_of_block (i := 1) hbb rfl
    have c2 := cell_of_block (i := 2) hbb rfl
    have c3 := cell_of_block (i := 3) hbb rfl
    have lb := lt_of_block hbb
    have HBB := Lib.hid hbb
    clear hbb
    by_cases hlt : k < 5
    · have z0 : (0 : Int) ≤ (k : Int) := by omega
      have z1 : (k : Int) < 5 := by omega
      have T5 := tab5 5 6 7 100 4 k
      go_upto_region 5 with fail
      go_cut [3, 4] (fun s3 s4 wx => s3 = .int .i64 (atV 3 10 4 5 (tab [5, 6, 7, 100, 4] k)) ∧ s4 = .int .i64 (atE 3 10 4 5 (tab [5, 6, 7, 100, 4] k)) ∧ Below wr.heap.size wr wx)
      case first =>
        go_region_with (first
          | (go_at_call 10; refine (at_any _ _ _ _ _ _).mono ?_; rintro e w2 ⟨rfl, hb2⟩))
        all_goals (go_wp2_with fail; go_meet; refine ⟨rfl, rfl, ?_⟩)
        all_goals repeat (first | (with_reducible exact Below.refl _ _) | (with_reducible assumption) | (with_reducible refine bset ?_ (by first | omega | (simp; done) | (simp; omega)) _) | (with_reducible refine balloc ?_ _) | (with_reducible refine bdrew ?_) | (with_reducible refine bdrewN ?_ _) | (with_reducible refine bstep ?_ (by assumption)))
      case rest =>
        obtain ⟨e3, e4, hbx⟩ := hcut
        have hbb' : wc.heap[w.heap.size]? = some (bO 3 10 4 5) := heap_below_keep hbx HBB.out
        have HX := Lib.hid hbx
        have HB1 := Lib.hid hbb'
        clear hbx hbb' c0 c1 c2 c3 T5
        obtain e | e | e | e | e : k = 0 ∨ k = 1 ∨ k = 2 ∨ k = 3 ∨ k = 4 := by omega
        all_goals subst e
        · rw [show atV 3 10 4 5 (tab [5, 6, 7, 100, 4] 0) = 4 by unfold atV tab; decide] at e3
          rw [show atE 3 10 4 5 (tab [5, 6, 7, 100, 4] 0) = 0 by unfold atE tab; decide] at e4
          subst e3 e4
          go_wp2
          go_roundw
          case rel => exact ⟨1, by go_num, by omega, balloc (bstep hb HX.out) _, heap_alloc_keep HB1.out⟩
          case measure => simp [intOf]
        · rw [show atV 3 10 4 5 (tab [5, 6, 7, 100, 4] 1) = 7 by unfold atV tab; decide] at e3
          rw [show atE 3 10 4 5 (tab [5, 6, 7, 100, 4] 1) = 0 by unfold atE tab; decide] at e4
          subst e3 e4
          go_wp2
          go_roundw
          case rel => exact ⟨2, by go_num, by omega, balloc (bstep hb HX.out) _, heap_alloc_keep HB1.out⟩
          case measure => simp [intOf]
        · rw [show atV 3 10 4 5 (tab [5, 6, 7, 100, 4] 2) = 10 by unfold atV tab; decide] at e3
          rw [show atE 3 10 4 5 (tab [5, 6, 7, 100, 4] 2) = 0 by unfold atE tab; decide] at e4
          subst e3 e4
          go_wp2
          go_roundw
          case rel => exact ⟨3, by go_num, by omega, balloc (bstep hb HX.out) _, heap_alloc_keep HB1.out⟩
          case measure => simp [intOf]
        · rw [show atV 3 10 4 5 (tab [5, 6, 7, 100, 4] 3) = 10 by unfold atV tab; decide] at e3
          rw [show atE 3 10 4 5 (tab [5, 6, 7, 100, 4] 3) = 0 by unfold atE tab; decide] at e4
          subst e3 e4
          go_wp2
          go_roundw
          case rel => exact ⟨4, by go_num, by omega, balloc (bstep hb HX.out) _, heap_alloc_keep HB1.out⟩
          case measure => simp [intOf]
        · rw [show atV 3 10 4 5 (tab [5, 6, 7, 100, 4] 4) = 0 by unfold atV tab; decide] at e3
          rw [show atE 3 10 4 5 (tab [5, 6, 7, 100, 4] 4) = 4 by unfold atE tab; decide] at e4
          subst e3 e4
          go_wp2
          go_roundw
          case rel => exact ⟨5, by go_num, by omega, balloc (bstep hb HX.out) _, heap_alloc_keep HB1.out⟩
          case measure => simp [intOf]
    · obtain rfl : k = 5 := by omega
      go_wp2_with fail
      obtain ⟨wo, rfl⟩ : ∃ wo : World, wo = wr := ⟨_, rfl⟩
      go_loopw [5] (fun i wr => ∃ k : Nat, i = .int .i64 k ∧ k ≤ 4 ∧ Below w.heap.size w wr ∧ wr.heap[w.heap.size]? = some (bO 3 10 4 5)) (fun i _ => 4 - (intOf i).toNat)
      case atStart => exact ⟨0, rfl, by omega, hb, HBB.out⟩
      case round =>
        clear c0 c1 c2 c3 lb HBB hb
        obtain ⟨k, rfl, hk2, hb, hbb⟩ := hrel
        have c0 := cell_of_block (i := 0) hbb rfl
        have c1 := cell_of_block (i := 1) hbb rfl
        have c2 := cell_of_block (i := 2) hbb rfl
        have c3 := cell_of_block (i := 3) hbb rfl
        have lb := lt_of_block hbb
        have HBB := Lib.hid hbb
        clear hbb
        by_cases hlt2 : k < 4
        · have z0 : (0 : Int) ≤ (k : Int) := by omega
          have z1 : (k : Int) < 4 := by omega
          have T4a := tab4 5 6 5 5 k
          have T4b := tab4 10 9 11 0 k
          go_upto_region 11 with fail
          go_cut [6, 7] (fun s3 s4 wx => s3 = .int .i64 (afV 3 10 4 5 (tab [5, 6, 5, 5] k) (tab [10, 9, 11, 0] k)) ∧ s4 = .int .i64 (afE 3 10 4 5 (tab [5, 6, 5, 5] k) (tab [10, 9, 11, 0] k)) ∧ Below wr.heap.size wr wx)
          case first =>
            go_region_with (first
              | (go_at_call 12; refine (after_any _ _ _ _ _ _ _).mono ?_; rintro e w2 ⟨rfl, hb2⟩))
            all_goals (go_wp2_with fail; go_meet; refine ⟨rfl, rfl, ?_⟩)
            all_goals repeat (first | (with_reducible exact Below.refl _ _) | (with_reducible assumption) | (with_reducible refine bset ?_ (by first | omega | (simp; done) | (simp; omega)) _) | (with_reducible refine balloc ?_ _) | (with_reducible refine bdrew ?_) | (with_reducible refine bdrewN ?_ _) | (with_reducible refine bstep ?_ (by assumption)))
          case rest =>
            obtain ⟨e3, e4, hbx⟩ := hcut
            have hbb' : wc.heap[w.heap.size]? = some (bO 3 10 4 5) := heap_below_keep hbx HBB.out
            have HX := Lib.hid hbx
            have HB1 := Lib.hid hbb'
            clear hbx hbb' c0 c1 c2 c3 T4a T4b
            obtain e | e | e | e : k = 0 ∨ k = 1 ∨ k = 2 ∨ k = 3 := by omega
            all_goals subst e
            · rw [show afV 3 10 4 5 (tab [5, 6, 5, 5] 0) (tab [10, 9, 11, 0] 0) = 2 by unfold afV tab; decide] at e3
              rw [show afE 3 10 4 5 (tab [5, 6, 5, 5] 0) (tab [10, 9, 11, 0] 0) = 0 by unfold afE tab; decide] at e4
              subst e3 e4
              go_wp2
              go_roundw
              case rel => exact ⟨1, by go_num, by omega, balloc (bstep hb HX.out) _, heap_alloc_keep HB1.out⟩
              case measure => simp [intOf]
            · rw [show afV 3 10 4 5 (tab [5, 6, 5, 5] 1) (tab [10, 9, 11, 0] 1) = 1 by unfold afV tab; decide] at e3
              rw [show afE 3 10 4 5 (tab [5, 6, 5, 5] 1) (tab [10, 9, 11, 0] 1) = 0 by unfold afE tab; decide] at e4
              subst e3 e4
              go_wp2
              go_roundw
              case rel => exact ⟨2, by go_num, by omega, balloc (bstep hb HX.out) _, heap_alloc_keep HB1.out⟩
              case measure => simp [intOf]
            · rw [show afV 3 10 4 5 (tab [5, 6, 5, 5] 2) (tab [10, 9, 11, 0] 2) = -1 by unfold afV tab; decide] at e3
              rw [show afE 3 10 4 5 (tab [5, 6, 5, 5] 2) (tab [10, 9, 11, 0] 2) = 0 by unfold afE tab; decide] at e4
              subst e3 e4
              go_wp2
              go_roundw
              case rel => exact ⟨3, by go_num, by omega, balloc (bstep hb HX.out) _, heap_alloc_keep HB1.out⟩
              case measure => simp [intOf]
            · rw [show afV 3 10 4 5 (tab [5, 6, 5, 5] 3) (tab [10, 9, 11, 0] 3) = 0 by unfold afV tab; decide] at e3
              rw [show afE 3 10 4 5 (tab [5, 6, 5, 5] 3) (tab [10, 9, 11, 0] 3) = 0 by unfold afE tab; decide] at e4
              subst e3 e4
              go_wp2
              go_roundw
              case rel => exact ⟨4, by go_num, by omega, balloc (bstep hb HX.out) _, heap_alloc_keep HB1.out⟩
              case measure => simp [intOf]
        · obtain rfl : k = 4 := by omega
          have HB := Lib.hid hb
          clear hb
          have y1 : okN 3 10 4 5 6 7 = true := by decide
          have y2 : okN 3 10 4 5 6 8 = true := by decide
          have g1 : gM 4 3 (6 - 5) 10 = 7 := by decide
          have Y1 := Lib.hid y1
          have Y2 := Lib.hid y2
          have G1 := Lib.hid g1
          clear y1 y2 g1
          go_wp2_with fail
          refine (take_yes _ _ _ _ _ _ Y1.out (by rw [G1.out]; decide) _).mono ?_
          rintro e w1 ⟨rfl, hb1⟩
          rw [G1.out]
          have H1 := Lib.hid (heap_below_keep hb1 HBB.out)
          have HB1 := Lib.hid hb1
          clear hb1 c0 c1 c2 c3 lb
          have b0 := cell_of_block (i := 0) H1.out rfl
          have b1 := cell_of_block (i := 1) H1.out rfl
          have b2 := cell_of_block (i := 2) H1.out rfl
          have b3 := cell_of_block (i := 3) H1.out rfl
          have lb1 := lt_of_block H1.out
          go_wp2_with fail
          refine (take_not _ _ _ _ _ _ Y2.out (by rw [G1.out]; decide) _).mono ?_
          rintro e w2 ⟨rfl, hb2⟩
          have H2 := Lib.hid (heap_below_keep hb2 (heap_alloc_keep H1.out))
          have C2 := Lib.hid (heap_below_keep hb2 (heap_alloc_new w1 (bO 3 10 0 6)))
          have HB2 := Lib.hid hb2
          clear hb2 b0 b1 b2 b3 lb1
          go_wp2_with fail
          refine (most_ok _ _ _ (by decide) _).mono ?_
          rintro e w3 ⟨rfl, hb3⟩
          rw [show gM 10 3 4 big = 22 by decide]
          have H3 := Lib.hid (heap_below_keep hb3 (heap_alloc_keep H2.out))
          have C3 := Lib.hid (heap_below_keep hb3 (heap_alloc_keep C2.out))
          have D3 := Lib.hid (heap_below_keep hb3 (heap_alloc_new w2 (bO 3 10 4 5)))
          have HB3 := Lib.hid hb3
          clear hb3
          go_wp2_with fail
          refine (most_ok _ _ _ (by decide) _).mono ?_
          rintro e w4 ⟨rfl, hb4⟩
          rw [show gM 1 2147483648 4611686018427387904 big = 9223372036854775807 by decide]
          have H4 := Lib.hid (heap_below_keep hb4 H3.out)
          have C4 := Lib.hid (heap_below_keep hb4 C3.out)
          have D4 := Lib.hid (heap_below_keep hb4 D3.out)
          have HB4 := Lib.hid hb4
          clear hb4
          go_wp2_with fail
          refine (new_ok _ _ _ (by decide) _).mono ?_
          rintro e w5 ⟨rfl, hb5⟩
          have H5 := Lib.hid (heap_below_keep hb5 H4.out)
          have C5 := Lib.hid (heap_below_keep hb5 C4.out)
          have D5 := Lib.hid (heap_below_keep hb5 D4.out)
          have HB5 := Lib.hid hb5
          clear hb5
          have lh := lt_of_block H5.out
          have lc := lt_of_block C5.out
          have ld := lt_of_block D5.out
          have h0 := cell_of_block (i := 0) H5.out rfl
          have h1 := cell_of_block (i := 1) H5.out rfl
          have h2 := cell_of_block (i := 2) H5.out rfl
          have h3 := cell_of_block (i := 3) H5.out rfl
          have c0 := cell_of_block (i := 0) C5.out rfl
          have c1 := cell_of_block (i := 1) C5.out rfl
          have c2 := cell_of_block (i := 2) C5.out rfl
          have c3 := cell_of_block (i := 3) C5.out rfl
          have d0 := cell_of_block (i := 0) D5.out rfl
          have d1 := cell_of_block (i := 1) D5.out rfl
          have d2 := cell_of_block (i := 2) D5.out rfl
          have d3 := cell_of_block (i := 3) D5.out rfl
          go_wp2_with fail
          have HS : StepsAt ((w5.alloc (bO 0 1 1 4611686018427387904)).alloc (.cells #[.int .i64 1, .int .i64 4, .int .i64 1, .int .i64 4, .int .i64 0, .int .i64 1] 62)) (some ⟨w5.heap.size + 1, 0, none⟩) (w5.heap.size + 1) 0 [(1, 4), (1, 4), (0, 1)] := by
            have hn : ((w5.alloc (bO 0 1 1 4611686018427387904)).alloc (.cells #[.int .i64 1, .int .i64 4, .int .i64 1, .int .i64 4, .int .i64 0, .int .i64 1] 62)).heap[w5.heap.size + 1]? = some (.cells #[.int .i64 1, .int .i64 4, .int .i64 1, .int .i64 4, .int .i64 0, .int .i64 1] 62 (0, 0)) := by
              have := heap_alloc_new (w5.alloc (bO 0 1 1 4611686018427387904)) (.cells #[.int .i64 1, .int .i64 4, .int .i64 1, .int .i64 4, .int .i64 0, .int .i64 1] 62)
              simpa using this
            refine ⟨fun _ => rfl, fun _ => lt_of_block hn, fun i hi => ?_, fun i hi => ?_⟩
            all_goals
              simp only [List.length_cons, List.length_nil] at hi
              obtain e | e | e : i = 0 ∨ i = 1 ∨ i = 2 := by omega
              all_goals (subst e; exact cell_of_block hn rfl)
          refine (play_run 3 10 4 5 (some ⟨w5.heap.size + 1, 0, none⟩) (w5.heap.size + 1) 0 3 [(1, 4), (1, 4), (0, 1)] (by decide) (by simp) _ HS).mono ?_
          rintro e w6 ⟨hb6, ⟨hbad, _⟩ | ⟨_, hlong, _⟩ | ⟨_, _, hnone, _⟩ | ⟨_, _, r, v, hr, hbools, rfl⟩⟩
          · exact absurd hbad (by decide)
          · exact absurd hlong (by decide)
          · exact absurd hnone (by decide)
          · rw [show playM 3 10 4 5 5 [(1, 4), (1, 4), (0, 1)] = some (1, 7, [true, true, true]) by decide] at hr
            cases hr
            rcases hbools with ⟨_, hds⟩ | ⟨g, rfl, hg1, hg2, hcells⟩
            · exact absurd hds (by decide)
            · have q0 := hcells 0 (by decide)
              have q1 := hcells 1 (by decide)
              have q2 := hcells 2 (by decide)
              simp only [List.getElem_cons_zero, List.getElem_cons_succ] at q0 q1 q2
              have HB6 := Lib.hid hb6
              clear hb6 hcells h0 h1 h2 h3 c0 c1 c2 c3 d0 d1 d2 d3 HS
              go_wp2
              go_ret
              refine ⟨rfl, ?_⟩
              have e1 := HB1.out
              have e2 := HB2.out
              have e3 := HB3.out
              have e4 := HB4.out
              have e5 := HB5.out
              have e6 := HB6.out
              have e0 := HB.out
              repeat (first | (with_reducible exact Below.refl _ _) | (with_reducible assumption) | (with_reducible refine bset ?_ (by first | omega | (simp; done) | (simp; omega)) _) | (with_reducible refine balloc ?_ _) | (with_reducible refine bdrew ?_) | (with_reducible refine bdrewN ?_ _) | (with_reducible refine bstep ?_ (by assumption)))
end Go.Proofs.Yteojndglglkgpaa
