import Derived.Test.YteojndglglkgpaaH
import Derived.Test.YteojndglglkgpaaJ
import Derived.Deep.RegionWith
import Derived.Deep.DrawnRows
import Derived.Deep.DeepCutAuto
namespace Go.Proofs.Yteojndglglkgpaa
open Go.RowKit
set_option linter.unusedVariables false
set_option linter.unusedSimpArgs false
theorem Try.infoInt : (Try.prog.info? 3).map (fun i => (i.zero, i.size, i.bytes)) = some (some (.int .i64 0), 1, 8) := by kernel_rfl
/-- 1 for what was taken -/
def one (d : Bool) : Int := if d then 1 else 0
abbrev oneV (d : Bool) : Value := .int .i64 (one d)
/-- numbers that lie in memory, from block base on -/
def Ints (w : World) (base : Nat) (v : Value) (ds : List Bool) : Prop :=
  (v = .slice none 0 0 ∧ ds = []) ∨ ∃ g cap, v = .slice (some ⟨g, 0, none⟩) ds.length cap ∧ base ≤ g ∧ g < w.heap.size ∧ ∀ i (h : i < ds.length), w.cell? ⟨g, i, none⟩ = some (oneV ds[i])
/-- behind ref's Play -/
def RefPlayPost (R B T L : Int) (xs : List (Int × Int)) (w : World) (e : Ending) (w' : World) : Prop :=
  Below w.heap.size w w' ∧
  ((okB R B T L = false ∧ e = .returned (playV 0 0 0 0 (.slice none 0 0) 4)) ∨
   (okB R B T L = true ∧ 4096 < xs.length ∧ e = .returned (playV 0 0 0 0 (.slice none 0 0) 3)) ∨
   (okB R B T L = true ∧ xs.length ≤ 4096 ∧ playM R B T L L xs = none ∧ e = .returned (playV 0 0 0 0 (.slice none 0 0) 4)) ∨
   (okB R B T L = true ∧ xs.length ≤ 4096 ∧ ∃ r v, playM R B T L L xs = some r ∧ Ints w' w.heap.size v r.2.2 ∧ e = .returned (playV R B r.1 r.2.1 v 0)))
/-- what holds at a round's head -/
structure RefHead (w : World) (bb ob base : Nat) (R B T L : Int) (xs : List (Int × Int)) (k : Nat) (t' : Int) (tk : Value) (wr : World) : Prop where
  here : ∃ T' L' ds, Come R B T L xs k T' L' t' ds ∧ wr.heap[bb]? = some (bO R B T' L') ∧ wr.ownsRow base 3 1 tk k (ds.map oneV)
  out : wr.heap[ob]? = some (bO 0 0 0 0)
  below : Below w.heap.size w wr
  base_le : base ≤ wr.heap.size
theorem heap_alloc_new_at (w : World) (o : Obj) {k : Nat} (h : k = w.heap.size) : (w.alloc o).heap[k]? = some o := by subst h; exact heap_alloc_new w o
attribute [local go_sem ↓] Go.wp_at_zero Go.wp_at_succ
set_option maxRecDepth 100000 in
set_option maxHeartbeats 4000000 in
theorem refPlay_run (R B T L : Int) (p : Option Addr) (sb so cap : Nat) (xs : List (Int × Int)) (h : okB R B T L = true) (hn : xs.length ≤ 4096) (w : World) (hs : StepsAt w p sb so xs) :
    Calls Try.prog 23 #[bV R B T L, .slice p xs.length cap] w (RefPlayPost R B T L xs w) := by
  obtain ⟨i0, hi, hz0, hz1, hz2⟩ := info_parts Try.infoInt
  obtain ⟨a1, a2, a3, a4, a5, a6, a7, a8⟩ := okB_iff h
  have HC := Lib.hid h
  have HE := Lib.hid (show erB (okB R B T L) = 0 by rw [h]; rfl)
  clear h
  go_enter Try.func23, Try.ntmps23
  go_wp2_with fail
  refine (refCheck_val _ _ _ _ _ HE.out _).mono ?_; rintro e w1 ⟨rfl, hb1⟩
  have hz1' := hb1.size; simp at hz1'
  have Hb := Lib.hid hb1
  have hbb : w1.heap[w.heap.size]? = some (bO R B T L) := heap_below_keep hb1 (heap_alloc_keep (heap_alloc_new w _))
  have hob : w1.heap[w.heap.size + 1]? = some (bO 0 0 0 0) := heap_below_keep hb1 (by have := heap_alloc_new (w.alloc (bO R B T L)) (bO 0 0 0 0); simpa using this)
  have HBB := Lib.hid hbb
  have HOB := Lib.hid hob
  have c3 := cell_of_block (i := 3) hbb rfl
  clear hb1 hbb hob
  go_wp2
  go_loopw [7, 8, 9] (fun tt tk i wr => ∃ (k : Nat) (t' : Int), i = .int .i64 k ∧ tt = .int .i64 t' ∧ RefHead w w.heap.size (w.heap.size + 1) w1.heap.size R B T L xs k t' tk wr) (fun _ _ i _ => xs.length - (intOf i).toNat)
  case atStart =>
    refine ⟨0, L, rfl, rfl, ⟨⟨T, L, [], Come.start HC.out, HBB.out, World.ownsRow_nil _ _ _ _⟩, HOB.out, ?_, by simp⟩⟩
    have hb1 := Hb.out
    repeat (first | (with_reducible exact Below.refl _ _) | (with_reducible assumption) | (with_reducible refine bset ?_ (by first | omega | (simp; done) | (simp; omega)) _) | (with_reducible refine balloc ?_ _) | (with_reducible refine bdrew ?_) | (with_reducible refine bdrewN ?_ _) | (with_reducible refine bstep ?_ (by assumption)))
  case round =>
    obtain ⟨k, t', rfl, rfl, H⟩ := hrel
    obtain ⟨T', L', ds, hcome, hb', hown⟩ := H.here
    have lo := hcome.lo
    have hi' := hcome.hi
    obtain ⟨q1, q2, q3, q4, q5, q6, q7, q8⟩ := okB_iff hcome.ok
    have b0 := cell_of_block (i := 0) hb' rfl
    have b1 := cell_of_block (i := 1) hb' rfl
    have b2 := cell_of_block (i := 2) hb' rfl
    have b3 := cell_of_block (i := 3) hb' rfl
    have fb0 := free_of_block (i := 0) hb'
    have fb1 := free_of_block (i := 1) hb'
    have fb2 := free_of_block (i := 2) hb'
    have fb3 := free_of_block (i := 3) hb'
    have lb := lt_of_block hb'
    have HB' := Lib.hid hb'
    clear hb'
    by_cases hlt : k < xs.length
    · obtain rfl := hs.here (by omega)
      have hsb := hs.lt (by omega)
      have cw : wr.cell? ⟨sb, so + k * 2, none⟩ = some (.int .i64 (xs[k]).1) := by rw [H.below.cell hsb]; exact hs.wait k hlt
      have cn : wr.cell? ⟨sb, so + k * 2 + 1, none⟩ = some (.int .i64 (xs[k]).2) := by rw [H.below.cell hsb]; exact hs.take k hlt
      have z0 : (0 : Int) ≤ (k : Int) := by omega
      have z1 : (k : Int) < (xs.length : Int) := by omega
      have hsb' : sb < wr.heap.size := by have := H.below.size; omega
      have HH := Lib.hid H
      have HO := Lib.hid hown
      clear H hown
      have hx := hcome.next hlt
      by_cases c : 0 ≤ (xs[k]).1 ∧ (xs[k]).1 ≤ 4611686018427387904 - t' ∧ 0 ≤ (xs[k]).2
      · obtain ⟨hN, hy, hnn⟩ := hx.2 c
        obtain ⟨d1, d2, d3⟩ := c
        clear hx
        by_cases g : (xs[k]).2 ≤ gM T' R (t' + (xs[k]).1 - L') B
        · have g := g
          have hnext := hy g
          obtain ⟨gg, hgg⟩ : ∃ gg, gM T' R (t' + (xs[k]).1 - L') B = gg := ⟨_, rfl⟩
          try rw [hgg] at hnext
          rw [hgg] at g
          have HN := Lib.hid hN
          have NX := Lib.hid hnext
          have HGG := Lib.hid hgg
          clear hN hnext hgg hy hnn
          go_upto_region 13 with fail
          go_cut [10, 11] (fun s10 s11 wx => ∃ g : Nat, s10 = .pointer (some ⟨g, 0, none⟩) ∧ s11 = .int .i64 (one true) ∧ Below wr.heap.size wr wx ∧ wx.heap[g]? = some (bO R B (gg - (xs[k]).2) (t' + (xs[k]).1)) ∧ wr.heap.size ≤ g)
          case first =>
            go_region_with (first | (go_at_call 17; refine (refTake_yval _ _ _ _ _ _ gg HN.out HGG.out g _).mono ?_; rintro e w2 ⟨rfl, hb2⟩; obtain ⟨hc2, hf2⟩ := bcell hb2))
            all_goals (go_wp2_with fail; go_meet)
            all_goals have hz2 := hb2.size
            all_goals simp at hz2
            all_goals refine ⟨_, rfl, rfl, ?_, ?_, ?_⟩
            all_goals first
              | omega
              | (with_reducible exact heap_alloc_new w2 _)
              | (with_reducible exact heap_setCell_same (heap_setCell_same (heap_setCell_same (heap_setCell_same (heap_below_keep hb2 (heap_alloc_new wr (bO 0 0 0 0)))))))
              | (exact heap_setCell_same (heap_setCell_same (heap_setCell_same (heap_setCell_same (heap_below_keep hb2 (heap_alloc_new wr (bO 0 0 0 0)))))))
              | skip
            all_goals repeat (first | (with_reducible exact Below.refl _ _) | (with_reducible assumption) | (with_reducible refine bset ?_ (by first | omega | (simp; done) | (simp; omega)) _) | (with_reducible refine balloc ?_ _) | (with_reducible refine bdrew ?_) | (with_reducible refine bdrewN ?_ _) | (with_reducible refine bstep ?_ (by assumption)))
          case rest =>
            obtain ⟨g0, rfl, rfl, hbx, hgx, hle⟩ := hcut
            have hbb2 := heap_below_keep hbx HB'.out
            have v0 := cell_of_block (i := 0) hbb2 rfl
            have v1 := cell_of_block (i := 1) hbb2 rfl
            have v2 := cell_of_block (i := 2) hbb2 rfl
            have v3 := cell_of_block (i := 3) hbb2 rfl
            have f0 := free_of_block (i := 0) hbb2
            have f1 := free_of_block (i := 1) hbb2
            have f2 := free_of_block (i := 2) hbb2
            have f3 := free_of_block (i := 3) hbb2
            have g0' := cell_of_block (i := 0) hgx rfl
            have g1' := cell_of_block (i := 1) hgx rfl
            have g2' := cell_of_block (i := 2) hgx rfl
            have g3' := cell_of_block (i := 3) hgx rfl
            have lg := lt_of_block hgx
            have lb2 := lt_of_block hbb2
            have hzx := hbx.size
            have hbl := HH.out.base_le
            have htur : Turned [w.heap.size] wc ((((wc.setCell ⟨w.heap.size, 0, none⟩ (.int .i64 R)).setCell ⟨w.heap.size, 1, none⟩ (.int .i64 B)).setCell ⟨w.heap.size, 2, none⟩ (.int .i64 (gg - (xs[k]).2))).setCell ⟨w.heap.size, 3, none⟩ (.int .i64 (t' + (xs[k]).1))) := by repeat (first | (with_reducible exact Turned.refl _ _) | (with_reducible assumption) | (with_reducible refine tset ?_ (by first | (simp; done) | (simp; omega)) _) | (with_reducible refine talloc ?_ _) | (with_reducible refine tdrew ?_) | (with_reducible refine tbelow ?_ (by assumption)))
            have hbb3 := heap_setCell_same (i := 3) (v := .int .i64 (t' + (xs[k]).1)) (heap_setCell_same (i := 2) (v := .int .i64 (gg - (xs[k]).2)) (heap_setCell_same (i := 1) (v := .int .i64 B) (heap_setCell_same (i := 0) (v := .int .i64 R) hbb2)))
            have hown2 := ownsRow_turned (ownsRow_below HO.out hbx) htur (by intro x hx; simp at hx; omega)
            have HBX := Lib.hid hbx
            have HTUR := Lib.hid htur
            have Htrue3 := Lib.hid hbb3
            clear hbx hgx hbb2 htur hbb3 b0 b1 b2 b3 fb0 fb1 fb2 fb3 cw cn
            go_wp2_with (at_builtin; refine wpList_append_own _ rfl _ _ 52 rfl w1.heap.size 3 i0 (.int .i64 0) 1 8 Try.underlying52 hi hz0 hz1 hz2 rfl (by decide) _ _ _ rfl (hown2.alloc _) ⟨wc.heap.size, 0, none⟩ 1 1 [oneV true] rfl rfl ?ka1 ?ka2 ?ka3 ?ka4 ?ka5 ?_)
            try (case ka1 => intro j u hj; match j, hj with | 0, hj => simp at hj; subst hj; exact cell_of_block (heap_alloc_new_at (k := wc.heap.size) _ _ (by simp [World.setCell])) rfl)
            case ka2 => first | (simp [Value.oneCell']; done) | decide
            case ka3 => unfold maxLen; omega
            case ka4 => omega
            case ka5 => first | omega | (simp; omega)
            intro v' w3 hown3 hgrow _
            have hown2' := hown2.alloc (.cells #[oneV true] 3)
            go_wp2
            go_roundw
            case rel =>
              refine ⟨k + 1, _, by go_num, rfl, ⟨⟨_, _, _, NX.out, heap_grown_keep hgrow hown2' (heap_alloc_keep Htrue3.out) (by omega), by simpa using hown3⟩, ?_, ?_, ?_⟩⟩
              · exact heap_grown_keep hgrow hown2' (heap_alloc_keep (heap_turned_keep HTUR.out (heap_below_keep HBX.out HH.out.out) (by simp))) (by omega)
              · exact Turned.below (turned_grown (talloc ((tbelow (Turned.of_below HH.out.below) HBX.out).step HTUR.out (by intro x hx; simp at hx; right; omega)) _) hgrow hown2' (by omega))
              · have := hgrow.size; first | omega | (simp at this; omega)
            case measure => simp [intOf]; omega
        · have g := Int.not_le.1 g
          have hnext := hnn g
          obtain ⟨gg, hgg⟩ : ∃ gg, gM T' R (t' + (xs[k]).1 - L') B = gg := ⟨_, rfl⟩
          try rw [hgg] at hnext
          rw [hgg] at g
          have HN := Lib.hid hN
          have NX := Lib.hid hnext
          have HGG := Lib.hid hgg
          clear hN hnext hgg hy hnn
          go_upto_region 13 with fail
          go_cut [10, 11] (fun s10 s11 wx => ∃ g : Nat, s10 = .pointer (some ⟨g, 0, none⟩) ∧ s11 = .int .i64 (one false) ∧ Below wr.heap.size wr wx ∧ wx.heap[g]? = some (bO R B T' L') ∧ wr.heap.size ≤ g)
          case first =>
            go_region_with (first | (go_at_call 17; refine (refTake_nval _ _ _ _ _ _ gg HN.out HGG.out g _).mono ?_; rintro e w2 ⟨rfl, hb2⟩; obtain ⟨hc2, hf2⟩ := bcell hb2))
            all_goals (go_wp2_with fail; go_meet)
            all_goals have hz2 := hb2.size
            all_goals simp at hz2
            all_goals refine ⟨_, rfl, rfl, ?_, ?_, ?_⟩
            all_goals first
              | omega
              | (with_reducible exact heap_alloc_new w2 _)
              | (with_reducible exact heap_setCell_same (heap_setCell_same (heap_setCell_same (heap_setCell_same (heap_below_keep hb2 (heap_alloc_new wr (bO 0 0 0 0)))))))
              | (exact heap_setCell_same (heap_setCell_same (heap_setCell_same (heap_setCell_same (heap_below_keep hb2 (heap_alloc_new wr (bO 0 0 0 0)))))))
              | skip
            all_goals repeat (first | (with_reducible exact Below.refl _ _) | (with_reducible assumption) | (with_reducible refine bset ?_ (by first | omega | (simp; done) | (simp; omega)) _) | (with_reducible refine balloc ?_ _) | (with_reducible refine bdrew ?_) | (with_reducible refine bdrewN ?_ _) | (with_reducible refine bstep ?_ (by assumption)))
          case rest =>
            obtain ⟨g0, rfl, rfl, hbx, hgx, hle⟩ := hcut
            have hbb2 := heap_below_keep hbx HB'.out
            have v0 := cell_of_block (i := 0) hbb2 rfl
            have v1 := cell_of_block (i := 1) hbb2 rfl
            have v2 := cell_of_block (i := 2) hbb2 rfl
            have v3 := cell_of_block (i := 3) hbb2 rfl
            have f0 := free_of_block (i := 0) hbb2
            have f1 := free_of_block (i := 1) hbb2
            have f2 := free_of_block (i := 2) hbb2
            have f3 := free_of_block (i := 3) hbb2
            have g0' := cell_of_block (i := 0) hgx rfl
            have g1' := cell_of_block (i := 1) hgx rfl
            have g2' := cell_of_block (i := 2) hgx rfl
            have g3' := cell_of_block (i := 3) hgx rfl
            have lg := lt_of_block hgx
            have lb2 := lt_of_block hbb2
            have hzx := hbx.size
            have hbl := HH.out.base_le
            have htur : Turned [w.heap.size] wc ((((wc.setCell ⟨w.heap.size, 0, none⟩ (.int .i64 R)).setCell ⟨w.heap.size, 1, none⟩ (.int .i64 B)).setCell ⟨w.heap.size, 2, none⟩ (.int .i64 (T'))).setCell ⟨w.heap.size, 3, none⟩ (.int .i64 (L'))) := by repeat (first | (with_reducible exact Turned.refl _ _) | (with_reducible assumption) | (with_reducible refine tset ?_ (by first | (simp; done) | (simp; omega)) _) | (with_reducible refine talloc ?_ _) | (with_reducible refine tdrew ?_) | (with_reducible refine tbelow ?_ (by assumption)))
            have hbb3 := heap_setCell_same (i := 3) (v := .int .i64 (L')) (heap_setCell_same (i := 2) (v := .int .i64 (T')) (heap_setCell_same (i := 1) (v := .int .i64 B) (heap_setCell_same (i := 0) (v := .int .i64 R) hbb2)))
            have hown2 := ownsRow_turned (ownsRow_below HO.out hbx) htur (by intro x hx; simp at hx; omega)
            have HBX := Lib.hid hbx
            have HTUR := Lib.hid htur
            have Hfalse3 := Lib.hid hbb3
            clear hbx hgx hbb2 htur hbb3 b0 b1 b2 b3 fb0 fb1 fb2 fb3 cw cn
            go_wp2_with (at_builtin; refine wpList_append_own _ rfl _ _ 52 rfl w1.heap.size 3 i0 (.int .i64 0) 1 8 Try.underlying52 hi hz0 hz1 hz2 rfl (by decide) _ _ _ rfl (hown2.alloc _) ⟨wc.heap.size, 0, none⟩ 1 1 [oneV false] rfl rfl ?kb1 ?kb2 ?kb3 ?kb4 ?kb5 ?_)
            try (case kb1 => intro j u hj; match j, hj with | 0, hj => simp at hj; subst hj; exact cell_of_block (heap_alloc_new_at (k := wc.heap.size) _ _ (by simp [World.setCell])) rfl)
            case kb2 => first | (simp [Value.oneCell']; done) | decide
            case kb3 => unfold maxLen; omega
            case kb4 => omega
            case kb5 => first | omega | (simp; omega)
            intro v' w3 hown3 hgrow _
            have hown2' := hown2.alloc (.cells #[oneV false] 3)
            go_wp2
            go_roundw
            case rel =>
              refine ⟨k + 1, _, by go_num, rfl, ⟨⟨_, _, _, NX.out, heap_grown_keep hgrow hown2' (heap_alloc_keep Hfalse3.out) (by omega), by simpa using hown3⟩, ?_, ?_, ?_⟩⟩
              · exact heap_grown_keep hgrow hown2' (heap_alloc_keep (heap_turned_keep HTUR.out (heap_below_keep HBX.out HH.out.out) (by simp))) (by omega)
              · exact Turned.below (turned_grown (talloc ((tbelow (Turned.of_below HH.out.below) HBX.out).step HTUR.out (by intro x hx; simp at hx; right; omega)) _) hgrow hown2' (by omega))
              · have := hgrow.size; first | omega | (simp at this; omega)
            case measure => simp [intOf]; omega
      · have hnone := hx.1 c
        have HNONE := Lib.hid hnone
        clear hx hnone
        have o0 := cell_of_block (i := 0) HH.out.out rfl
        have o1 := cell_of_block (i := 1) HH.out.out rfl
        have o2 := cell_of_block (i := 2) HH.out.out rfl
        have o3 := cell_of_block (i := 3) HH.out.out rfl
        have p0 := free_of_block (i := 0) HH.out.out
        have p1 := free_of_block (i := 1) HH.out.out
        have p2 := free_of_block (i := 2) HH.out.out
        have p3 := free_of_block (i := 3) HH.out.out
        have hbel := HH.out.below
        by_cases c1 : (xs[k]).1 < 0
        · go_wp2
          refine bodyPost_ret (v := playV 0 0 0 0 (.slice none 0 0) 4) ?_ rfl ⟨?_, .inr (.inr (.inl ⟨HC.out, hn, HNONE.out, rfl⟩))⟩
          · simp only [results, Try.results23]
            go_simp
          · repeat (first | (with_reducible exact Below.refl _ _) | (with_reducible assumption) | (with_reducible refine bset ?_ (by first | omega | (simp; done) | (simp; omega)) _) | (with_reducible refine balloc ?_ _) | (with_reducible refine bdrew ?_) | (with_reducible refine bdrewN ?_ _) | (with_reducible refine bstep ?_ (by assumption)))
        · by_cases c2 : (xs[k]).2 < 0
          · go_wp2
            refine bodyPost_ret (v := playV 0 0 0 0 (.slice none 0 0) 4) ?_ rfl ⟨?_, .inr (.inr (.inl ⟨HC.out, hn, HNONE.out, rfl⟩))⟩
            · simp only [results, Try.results23]
              go_simp
            · repeat (first | (with_reducible exact Below.refl _ _) | (with_reducible assumption) | (with_reducible refine bset ?_ (by first | omega | (simp; done) | (simp; omega)) _) | (with_reducible refine balloc ?_ _) | (with_reducible refine bdrew ?_) | (with_reducible refine bdrewN ?_ _) | (with_reducible refine bstep ?_ (by assumption)))
          · have c3 : 4611686018427387904 - t' < (xs[k]).1 := by omega
            go_wp2
            refine bodyPost_ret (v := playV 0 0 0 0 (.slice none 0 0) 4) ?_ rfl ⟨?_, .inr (.inr (.inl ⟨HC.out, hn, HNONE.out, rfl⟩))⟩
            · simp only [results, Try.results23]
              go_simp
            · repeat (first | (with_reducible exact Below.refl _ _) | (with_reducible assumption) | (with_reducible refine bset ?_ (by first | omega | (simp; done) | (simp; omega)) _) | (with_reducible refine balloc ?_ _) | (with_reducible refine bdrew ?_) | (with_reducible refine bdrewN ?_ _) | (with_reducible refine bstep ?_ (by assumption)))
    · obtain rfl : k = xs.length := by have := hcome.le; omega
      have hfin := hcome.finish
      have hoo := H.out
      have o0 := cell_of_block (i := 0) hoo rfl
      have o1 := cell_of_block (i := 1) hoo rfl
      have o2 := cell_of_block (i := 2) hoo rfl
      have o3 := cell_of_block (i := 3) hoo rfl
      have p0 := free_of_block (i := 0) hoo
      have p1 := free_of_block (i := 1) hoo
      have p2 := free_of_block (i := 2) hoo
      have p3 := free_of_block (i := 3) hoo
      have hbel := H.below
      have HFIN := Lib.hid hfin
      have HH := Lib.hid H
      have HO := Lib.hid hown
      have HL := Lib.hid hcome.len
      clear hfin hoo H hown
      go_wp2
      refine bodyPost_ret (v := playV R B T' L' u8 0) ?_ rfl ⟨?_, .inr (.inr (.inr ⟨HC.out, hn, _, _, HFIN.out, ?_, rfl⟩))⟩
      · simp only [results, Try.results23]
        go_simp
      · repeat (first | (with_reducible exact Below.refl _ _) | (with_reducible assumption) | (with_reducible refine bset ?_ (by first | omega | (simp; done) | (simp; omega)) _) | (with_reducible refine balloc ?_ _) | (with_reducible refine bdrew ?_) | (with_reducible refine bdrewN ?_ _) | (with_reducible refine bstep ?_ (by assumption)))
      · obtain ⟨hl, hown⟩ := HO.out
        rcases hown with ⟨rfl, h0⟩ | ⟨g, cp, cur, rfl, hg, hcur, h1, h2, h3, h4⟩
        · exact .inl ⟨rfl, List.eq_nil_of_length_eq_zero (HL.out.trans h0)⟩
        · refine .inr ⟨g, cp, by rw [HL.out], by omega, ?_, ?_⟩
          · have := lt_of_block hcur
            simpa [World.setCell] using this
          · intro i hj
            have hi : i < ds.length := hj
            have e1 : cur.toList[i]? = some (oneV ds[i]) := by
              have hll := HL.out
              have e2 : (cur.toList.take (xs.length * 1))[i]? = (ds.map oneV)[i]? := by rw [h4]
              rw [List.getElem?_take, if_pos (by omega)] at e2
              rw [e2]; simp [List.getElem?_eq_getElem hi]
            have e4 : wr.cell? ⟨g, i, none⟩ = some (oneV ds[i]) := cell_of_block hcur (by simpa using e1)
            have hne : g ≠ w.heap.size + 1 := by omega
            clear e1 hcur
            go_simp
end Go.Proofs.Yteojndglglkgpaa
