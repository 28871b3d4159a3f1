import Derived.Test.YteojndglglkgpaaG
namespace Go.Proofs.Yteojndglglkgpaa
open Go.RowKit
set_option linter.unusedVariables false
set_option linter.unusedSimpArgs false
theorem Try.infoBool : (Try.prog.info? 4).map (fun i => (i.zero, i.size, i.bytes)) = some (some (.bool false), 1, 1) := by kernel_rfl
/-- what holds at a round's head -/
structure PlayHead (w : World) (bb ob tb base : Nat) (R B T L : Int) (xs : List (Int × Int)) (k : Nat) (tk : Value) (wr : World) : Prop where
  here : ∃ T' L' t' ds, Come R B T L xs k T' L' t' ds ∧ wr.heap[bb]? = some (bO R B T' L') ∧ wr.heap[tb]? = some (iO t') ∧ wr.ownsRow base 4 1 tk k (ds.map .bool)
  out : wr.heap[ob]? = some (bO 0 0 0 0)
  below : Below w.heap.size w wr
  base_le : base ≤ wr.heap.size
theorem step_no (R B T L t wt n : Int) (bb tb : Nat) (w : World) (hne : bb ≠ tb) (hb : w.heap[bb]? = some (bO R B T L)) (ht : w.heap[tb]? = some (iO t)) (hok : okB R B T L = true) (h3 : L ≤ t) (h4 : t ≤ 4611686018427387904)
    (h : ¬ (0 ≤ wt ∧ wt ≤ 4611686018427387904 - t ∧ 0 ≤ n)) :
    Calls Try.prog 29 #[.agg #[.int .i64 wt, .int .i64 n], ptr tb, ptr bb] w fun e w' => e = .returned (stepV false 4) ∧ Turned [bb, tb] w w' := by
  obtain ⟨a1, a2, a3, a4, a5, a6, a7, a8⟩ := okB_iff hok
  by_cases c : 0 ≤ wt ∧ wt ≤ 4611686018427387904 - t
  · have hN : okN R B T L (t + wt) n = false := by simp only [okN]; rw [Bool.and_eq_false_iff]; right; simp; omega
    exact (step_bad R B T L t wt n bb tb w hne hb ht c.1 c.2 (by omega) hN).mono fun e w' ⟨h1, _, _, h2⟩ => ⟨h1, h2⟩
  · exact (step_out R B T L t wt n bb tb w hne hb ht c (by omega) h4).mono fun e w' ⟨h1, _, _, h2⟩ => ⟨h1, h2⟩
set_option maxHeartbeats 1000000 in
theorem play_run (R B T L : Int) (p : Option Addr) (sb so cap : Nat) (xs : List (Int × Int)) (h : okB R B T L = true) (hn : xs.length ≤ 4096) (w : World) (hs : StepsAt w p sb so xs) :
    Calls Try.prog 24 #[bV R B T L, .slice p xs.length cap] w (PlayPost R B T L xs w) := by
  obtain ⟨i0, hi, hz0, hz1, hz2⟩ := info_parts Try.infoBool
  have HC := Lib.hid h
  clear h
  go_enter Try.func24, Try.ntmps24
  go_wp2_with fail
  refine (check_any _ _ _ _ _).mono ?_; rintro e w1 ⟨rfl, hb1⟩; rw [HC.out]; simp only [erB, if_true]
  have hz1' := hb1.size; simp at hz1'
  have Hb := Lib.hid hb1
  have hbb : w1.heap[w.heap.size]? = some (bO R B T L) := heap_below_keep hb1 (heap_alloc_keep (heap_alloc_new w _))
  have hob : w1.heap[w.heap.size + 1]? = some (bO 0 0 0 0) := heap_below_keep hb1 (by have := heap_alloc_new (w.alloc (bO R B T L)) (bO 0 0 0 0); simpa using this)
  have HBB := Lib.hid hbb
  have HOB := Lib.hid hob
  have c3 := cell_of_block (i := 3) hbb rfl
  clear hb1 hbb hob
  go_wp2
  go_loopw [5, 29] (fun tk i wr => ∃ k : Nat, i = .int .i64 k ∧ PlayHead w w.heap.size (w.heap.size + 1) w1.heap.size (w1.heap.size + 1) R B T L xs k tk wr) (fun _ i _ => xs.length - (intOf i).toNat)
  case atStart =>
    refine ⟨0, rfl, ⟨⟨T, L, L, [], Come.start HC.out, heap_alloc_keep HBB.out, heap_alloc_new w1 _, World.ownsRow_nil _ _ _ _⟩, heap_alloc_keep HOB.out, ?_, by simp⟩⟩
    have hb1 := Hb.out
    repeat (first | (with_reducible exact Below.refl _ _) | (with_reducible assumption) | (with_reducible refine bset ?_ (by first | omega | (simp; done) | (simp; omega)) _) | (with_reducible refine balloc ?_ _) | (with_reducible refine bdrew ?_) | (with_reducible refine bdrewN ?_ _) | (with_reducible refine bstep ?_ (by assumption)))
  case round =>
    obtain ⟨k, rfl, H⟩ := hrel
    obtain ⟨T', L', t', ds, hcome, hb', ht', hown⟩ := H.here
    by_cases hlt : k < xs.length
    · obtain rfl := hs.here (by omega)
      have hsb := hs.lt (by omega)
      have cw : wr.cell? ⟨sb, so + k * 2, none⟩ = some (.int .i64 (xs[k]).1) := by rw [H.below.cell hsb]; exact hs.wait k hlt
      have cn : wr.cell? ⟨sb, so + k * 2 + 1, none⟩ = some (.int .i64 (xs[k]).2) := by rw [H.below.cell hsb]; exact hs.take k hlt
      have HH := Lib.hid H
      have HO := Lib.hid hown
      have HB' := Lib.hid hb'
      have HT' := Lib.hid ht'
      clear H hown hb' ht'
      have lo := hcome.lo
      have hi' := hcome.hi
      obtain ⟨a1, a2, a3, a4, a5, a6, a7, a8⟩ := okB_iff hcome.ok
      have hx := hcome.next hlt
      by_cases c : 0 ≤ (xs[k]).1 ∧ (xs[k]).1 ≤ 4611686018427387904 - t' ∧ 0 ≤ (xs[k]).2
      · obtain ⟨hN, hy, hnn⟩ := hx.2 c
        by_cases g : (xs[k]).2 ≤ gM T' R (t' + (xs[k]).1 - L') B
        · clear hx
          go_wp2_with fail
          refine (step_yes R B T' L' t' _ _ w.heap.size w1.heap.size _ (by omega) (heap_alloc_keep HB'.out) (heap_alloc_keep HT'.out) c.1 c.2.1 (by omega) hN g).mono ?_
          rintro e w2 ⟨rfl, b2, t2, tur⟩
          have hown2 := ownsRow_turned (HO.out.alloc (.cells #[.int .i64 (xs[k]).1, .int .i64 (xs[k]).2] 62)) tur (by intro x hx; simp at hx; omega)
          have hsz := HH.out.base_le
          have tsz := tur.size
          simp at tsz
          have hnext := hy g
          have B2 := Lib.hid b2
          have T2 := Lib.hid t2
          have NX := Lib.hid hnext
          have TU := Lib.hid tur
          have HN := Lib.hid hN
          clear b2 t2 hnext tur hN
          go_wp2_with (at_builtin; refine wpList_append_own _ rfl _ _ 55 rfl (w1.heap.size + 1) 4 i0 (.bool false) 1 1 Try.underlying55 hi hz0 hz1 hz2 rfl (by decide) _ _ _ rfl (hown2.alloc _) ⟨w2.heap.size, 0, none⟩ 1 1 [.bool true] rfl rfl ?c1 ?c2 ?c3 ?c4 ?c5 ?_)
          case c1 => intro j u hj; match j, hj with | 0, hj => simp at hj; subst hj; exact cell_of_block (heap_alloc_new w2 _) rfl
          case c2 => simp [Value.oneCell']
          case c3 => unfold maxLen; omega
          case c4 => omega
          case c5 => simp; omega
          intro v' w3 hown3 hgrow _
          have hown2' := hown2.alloc (.cells #[.bool true] 4)
          go_wp2
          go_roundw
          case rel =>
            refine ⟨k + 1, by go_num, ⟨⟨_, _, _, _, NX.out, heap_grown_keep hgrow hown2' (heap_alloc_keep B2.out) (by omega), heap_grown_keep hgrow hown2' (heap_alloc_keep T2.out) (by omega), by simpa using hown3⟩, ?_, ?_, ?_⟩⟩
            · exact heap_grown_keep hgrow hown2' (heap_alloc_keep (heap_turned_keep TU.out (heap_alloc_keep HH.out.out) (by simp; omega))) (by omega)
            · exact Turned.below (turned_grown (talloc (((talloc (Turned.of_below HH.out.below) _).step TU.out (by intro x hx; simp at hx; right; omega))) _) hgrow hown2' (by omega))
            · have := hgrow.size; simp at this; omega
          case measure => simp [intOf]; omega
        · have g := Int.not_le.1 g
          clear hx
          go_wp2_with fail
          refine (step_not R B T' L' t' _ _ w.heap.size w1.heap.size _ (by omega) (heap_alloc_keep HB'.out) (heap_alloc_keep HT'.out) c.1 c.2.1 (by omega) hN g).mono ?_
          rintro e w2 ⟨rfl, b2, t2, tur⟩
          have hown2 := ownsRow_turned (HO.out.alloc (.cells #[.int .i64 (xs[k]).1, .int .i64 (xs[k]).2] 62)) tur (by intro x hx; simp at hx; omega)
          have hsz := HH.out.base_le
          have tsz := tur.size
          simp at tsz
          have hnext := hnn g
          have B2 := Lib.hid b2
          have T2 := Lib.hid t2
          have NX := Lib.hid hnext
          have TU := Lib.hid tur
          have HN := Lib.hid hN
          clear b2 t2 hnext tur hN
          go_wp2_with (at_builtin; refine wpList_append_own _ rfl _ _ 55 rfl (w1.heap.size + 1) 4 i0 (.bool false) 1 1 Try.underlying55 hi hz0 hz1 hz2 rfl (by decide) _ _ _ rfl (hown2.alloc _) ⟨w2.heap.size, 0, none⟩ 1 1 [.bool false] rfl rfl ?c1 ?c2 ?c3 ?c4 ?c5 ?_)
          case c1 => intro j u hj; match j, hj with | 0, hj => simp at hj; subst hj; exact cell_of_block (heap_alloc_new w2 _) rfl
          case c2 => simp [Value.oneCell']
          case c3 => unfold maxLen; omega
          case c4 => omega
          case c5 => simp; omega
          intro v' w3 hown3 hgrow _
          have hown2' := hown2.alloc (.cells #[.bool false] 4)
          go_wp2
          go_roundw
          case rel =>
            refine ⟨k + 1, by go_num, ⟨⟨_, _, _, _, NX.out, heap_grown_keep hgrow hown2' (heap_alloc_keep B2.out) (by omega), heap_grown_keep hgrow hown2' (heap_alloc_keep T2.out) (by omega), by simpa using hown3⟩, ?_, ?_, ?_⟩⟩
            · exact heap_grown_keep hgrow hown2' (heap_alloc_keep (heap_turned_keep TU.out (heap_alloc_keep HH.out.out) (by simp; omega))) (by omega)
            · exact Turned.below (turned_grown (talloc (((talloc (Turned.of_below HH.out.below) _).step TU.out (by intro x hx; simp at hx; right; omega))) _) hgrow hown2' (by omega))
            · have := hgrow.size; simp at this; omega
          case measure => simp [intOf]; omega
      · have hnone := hx.1 c
        have okk := hcome.ok
        have HNONE := Lib.hid hnone
        have OKK := Lib.hid okk
        clear hx hnone okk
        go_wp2_with fail
        refine (step_no R B T' L' t' _ _ w.heap.size w1.heap.size _ (by omega) (heap_alloc_keep HB'.out) (heap_alloc_keep HT'.out) OKK.out lo hi' c).mono ?_
        rintro e w2 ⟨rfl, tur⟩
        have hoo := heap_turned_keep tur (heap_alloc_keep HH.out.out) (by simp; omega)
        have co0 := cell_of_block (i := 0) hoo rfl
        have co1 := cell_of_block (i := 1) hoo rfl
        have co2 := cell_of_block (i := 2) hoo rfl
        have co3 := cell_of_block (i := 3) hoo rfl
        have fo0 := free_of_block (i := 0) hoo
        have fo1 := free_of_block (i := 1) hoo
        have fo2 := free_of_block (i := 2) hoo
        have fo3 := free_of_block (i := 3) hoo
        have TU := Lib.hid tur
        clear tur hoo
        go_wp2
        refine bodyPost_ret (v := playV 0 0 0 0 (.slice none 0 0) 4) ?_ rfl ⟨?_, .inr (.inr (.inl ⟨HC.out, hn, HNONE.out, rfl⟩))⟩
        · simp only [results, Try.results24]
          go_simp
        · have tb : Turned [] w w2 := (talloc (Turned.of_below HH.out.below) _).step TU.out (by intro x hx; simp at hx; right; omega)
          have tb' := tb.below
          repeat (first | (with_reducible exact Below.refl _ _) | (with_reducible assumption) | (with_reducible refine bset ?_ (by first | omega | (simp; done) | (simp; omega)) _) | (with_reducible refine balloc ?_ _) | (with_reducible refine bdrew ?_) | (with_reducible refine bdrewN ?_ _) | (with_reducible refine bstep ?_ (by assumption)))
    · obtain rfl : k = xs.length := by have := hcome.le; omega
      have hfin := hcome.finish
      obtain ⟨hl, hown⟩ := hown
      have hoo := H.out
      have co0 := cell_of_block (i := 0) hoo rfl
      have co1 := cell_of_block (i := 1) hoo rfl
      have co2 := cell_of_block (i := 2) hoo rfl
      have co3 := cell_of_block (i := 3) hoo rfl
      have fo0 := free_of_block (i := 0) hoo
      have fo1 := free_of_block (i := 1) hoo
      have fo2 := free_of_block (i := 2) hoo
      have fo3 := free_of_block (i := 3) hoo
      have cb0 := cell_of_block (i := 0) hb' rfl
      have cb1 := cell_of_block (i := 1) hb' rfl
      have cb2 := cell_of_block (i := 2) hb' rfl
      have cb3 := cell_of_block (i := 3) hb' rfl
      have HFIN := Lib.hid hfin
      have HH := Lib.hid H
      have HL := Lib.hid hcome.len
      clear hfin hoo hb' ht' H
      rcases hown with ⟨rfl, h0⟩ | ⟨g, cp, cur, rfl, hg, hcur, h1, h2, h3, h4⟩
      · have hbel := HH.out.below
        have H0 := Lib.hid h0
        have z1 : (0 : Int) ≤ (xs.length : Int) := by omega
        clear h0
        go_wp2
        go_region
        go_wp2
        refine bodyPost_ret (v := playV R B T' L' (.slice none 0 0) 0) ?_ rfl ⟨?_, .inr (.inr (.inr ⟨HC.out, hn, _, _, HFIN.out, ?_, rfl⟩))⟩
        · simp only [results, Try.results24]
          go_simp
        · repeat (first | (with_reducible exact Below.refl _ _) | (with_reducible assumption) | (with_reducible refine bset ?_ (by first | omega | (simp; done) | (simp; omega)) _) | (with_reducible refine balloc ?_ _) | (with_reducible refine bdrew ?_) | (with_reducible refine bdrewN ?_ _) | (with_reducible refine bstep ?_ (by assumption)))
        · exact .inl ⟨rfl, List.eq_nil_of_length_eq_zero (HL.out.trans H0.out)⟩
      · have hbel := HH.out.below
        have HCUR := Lib.hid hcur
        have H3 := Lib.hid h3
        have H4 := Lib.hid h4
        clear hcur h3 h4
        unfold maxLen at h2
        go_wp2
        go_region
        go_wp2
        refine bodyPost_ret (v := playV R B T' L' (.slice (some ⟨g, 0, none⟩) xs.length xs.length) 0) ?_ rfl ⟨?_, .inr (.inr (.inr ⟨HC.out, hn, _, _, HFIN.out, ?_, rfl⟩))⟩
        · simp only [results, Try.results24]
          go_simp
        · repeat (first | (with_reducible exact Below.refl _ _) | (with_reducible assumption) | (with_reducible refine bset ?_ (by first | omega | (simp; done) | (simp; omega)) _) | (with_reducible refine balloc ?_ _) | (with_reducible refine bdrew ?_) | (with_reducible refine bdrewN ?_ _) | (with_reducible refine bstep ?_ (by assumption)))
        · refine .inr ⟨g, by rw [HL.out], by omega, ?_, ?_⟩
          · have := lt_of_block HCUR.out
            simpa using this
          · intro i hj
            have hi : i < ds.length := hj
            have e1 : cur.toList[i]? = some (Value.bool ds[i]) := by
              have hll := HL.out
              have e2 : (cur.toList.take (xs.length * 1))[i]? = (ds.map Value.bool)[i]? := by rw [H4.out]
              rw [List.getElem?_take, if_pos (by omega)] at e2
              rw [e2]; simp [List.getElem?_eq_getElem hi]
            have e3 := cell_of_block (i := i) HCUR.out (by simpa using e1)
            have e4 : wr.cell? ⟨g, i, none⟩ = some (.bool ds[i]) := e3
            have hne : g ≠ w.heap.size + 1 := by omega
            clear e1 e3 HCUR
            go_simp
end Go.Proofs.Yteojndglglkgpaa
