import Derived.Test.YteojndglglkgpaaQ
namespace Go.Proofs.Yteojndglglkgpaa
open Go.RowKit
set_option linter.unusedVariables false
set_option linter.unusedSimpArgs false
theorem bools_below {w w' : World} {base : Nat} {v : Value} {ds : List Bool} (h : Bools w base v ds) (hb : Below w.heap.size w w') : Bools w' base v ds := by
  rcases h with h | ⟨g, e, h1, h2, h3⟩
  · exact .inl h
  · exact .inr ⟨g, e, h1, Nat.lt_of_lt_of_le h2 hb.size, fun i hi => (hb.cell (p := ⟨g, i, none⟩) h2).trans (h3 i hi)⟩
theorem ints_below {w w' : World} {base : Nat} {v : Value} {ds : List Bool} (h : Ints w base v ds) (hb : Below w.heap.size w w') : Ints w' base v ds := by
  rcases h with h | ⟨g, c, e, h1, h2, h3⟩
  · exact .inl h
  · exact .inr ⟨g, c, e, h1, Nat.lt_of_lt_of_le h2 hb.size, fun i hi => (hb.cell (p := ⟨g, i, none⟩) h2).trans (h3 i hi)⟩
set_option maxRecDepth 100000 in
set_option maxHeartbeats 2000000 in
theorem lawPlay_long (HL : Lives) (R B T L : Int) (p : Option Addr) (n cap : Nat) (hn : 60 < n) (hm : n ≤ 9223372036854775807) (w : World) :
    Calls Try.prog 6 #[bV R B T L, .slice p n cap] w fun e w' => e = .returned (.bool true) ∧ Below w.heap.size w w' := by
  have HLV := Lib.hid HL
  clear HL
  go_enter Try.func6, Try.ntmps6
  go_wp2_with fail
  refine (HLV.out _).mono ?_
  rintro e w1 ⟨rfl, hb1⟩
  go_wp2
  go_ret
  refine ⟨rfl, ?_⟩
  repeat (first | (with_reducible exact Below.refl _ _) | (with_reducible assumption) | (with_reducible refine bset ?_ (by first | omega | (simp; done) | (simp; omega)) _) | (with_reducible refine balloc ?_ _) | (with_reducible refine bdrew ?_) | (with_reducible refine bdrewN ?_ _) | (with_reducible refine bstep ?_ (by assumption)))
theorem steps_below {w w' : World} {p : Option Addr} {sb so : Nat} {xs : List (Int × Int)} (h : StepsAt w p sb so xs) (hb : Below w.heap.size w w') : StepsAt w' p sb so xs :=
  ⟨h.here, fun hx => Nat.lt_of_lt_of_le (h.lt hx) hb.size, fun i hi => (hb.cell (p := ⟨sb, so + i * 2, none⟩) (h.lt (by omega))).trans (h.wait i hi), fun i hi => (hb.cell (p := ⟨sb, so + i * 2 + 1, none⟩) (h.lt (by omega))).trans (h.take i hi)⟩
/-- what both make of the steps -/
inductive Same (R B T L : Int) (xs : List (Int × Int)) (w : World) (x y : Value) : Prop where
  | bad (h : x = playV 0 0 0 0 (.slice none 0 0) 4) (g : y = playV 0 0 0 0 (.slice none 0 0) 4)
  | good (r : Int × Int × List Bool) (v u : Value) (hl : r.2.2.length ≤ 60) (h1 : Ints w 0 v r.2.2) (h2 : Bools w 0 u r.2.2) (h : x = playV R B r.1 r.2.1 v 0) (g : y = playV R B r.1 r.2.1 u 0)
theorem playM_len {R B : Int} : ∀ {xs : List (Int × Int)} {T L t : Int} {r : Int × Int × List Bool}, playM R B T L t xs = some r → r.2.2.length = xs.length
  | [], _, _, _, _, h => by simp [playM] at h; subst h; rfl
  | x :: xs, T, L, t, r, h => by
    unfold playM at h
    split at h
    · split at h
      · obtain ⟨q, hq, rfl⟩ := Option.map_eq_some_iff.1 h
        simp [playM_len hq]
      · obtain ⟨q, hq, rfl⟩ := Option.map_eq_some_iff.1 h
        simp [playM_len hq]
    · cases h
theorem Ints.uni {w : World} {base : Nat} {v : Value} {ds : List Bool} (h : Ints w base v ds) :
    ∃ p g cap, v = .slice p ds.length cap ∧ (0 < ds.length → p = some ⟨g, 0, none⟩ ∧ g < w.heap.size ∧ ∀ i (h : i < ds.length), w.cell? ⟨g, i, none⟩ = some (oneV ds[i])) := by
  rcases h with ⟨rfl, rfl⟩ | ⟨g, c, rfl, h1, h2, h3⟩
  · exact ⟨none, 0, 0, rfl, fun h => absurd h (by simp)⟩
  · exact ⟨_, g, c, rfl, fun _ => ⟨rfl, h2, h3⟩⟩
theorem Bools.uni {w : World} {base : Nat} {v : Value} {ds : List Bool} (h : Bools w base v ds) :
    ∃ p g, v = .slice p ds.length ds.length ∧ (0 < ds.length → p = some ⟨g, 0, none⟩ ∧ g < w.heap.size ∧ ∀ i (h : i < ds.length), w.cell? ⟨g, i, none⟩ = some (.bool ds[i])) := by
  rcases h with ⟨rfl, rfl⟩ | ⟨g, rfl, h1, h2, h3⟩
  · exact ⟨none, 0, rfl, fun h => absurd h (by simp)⟩
  · exact ⟨_, g, rfl, fun _ => ⟨rfl, h2, h3⟩⟩
theorem refPlay_invalid (R B T L : Int) (p : Option Addr) (n cap : Nat) (h : okB R B T L = false) (w : World) :
    Calls Try.prog 23 #[bV R B T L, .slice p n cap] w fun e w' => e = .returned (playV 0 0 0 0 (.slice none 0 0) 4) ∧ Below w.heap.size w w' := by
  have HE := Lib.hid (show erB (okB R B T L) = 4 by rw [h]; rfl)
  clear h
  go_enter Try.func23, Try.ntmps23
  go_wp2_with fail
  refine (refCheck_val _ _ _ _ _ HE.out _).mono ?_; rintro e w1 ⟨rfl, hb1⟩
  have hz1 := hb1.size; simp at hz1; obtain ⟨hc1, hf1⟩ := bcell hb1; have hk1 := fun o => hc1 (w.heap.size + 1) o (by first | omega | (simp; done) | (simp; omega)); have hg1 := fun o => hf1 (w.heap.size + 1) o (by first | omega | (simp; done) | (simp; omega))
  go_wp2
  refine bodyPost_ret (v := playV 0 0 0 0 (.slice none 0 0) 4) ?_ rfl ⟨rfl, ?_⟩
  · simp only [results, Try.results23]
    go_simp
  · repeat (first | (with_reducible exact Below.refl _ _) | (with_reducible assumption) | (with_reducible refine bset ?_ (by first | omega | (simp; done) | (simp; omega)) _) | (with_reducible refine balloc ?_ _) | (with_reducible refine bdrew ?_) | (with_reducible refine bdrewN ?_ _) | (with_reducible refine bstep ?_ (by assumption)))
theorem refPlay_any (R B T L : Int) (p : Option Addr) (sb so cap : Nat) (xs : List (Int × Int)) (hn : xs.length ≤ 4096) (w : World) (hs : StepsAt w p sb so xs) :
    Calls Try.prog 23 #[bV R B T L, .slice p xs.length cap] w (RefPlayPost R B T L xs w) := by
  cases h : okB R B T L
  · exact (refPlay_invalid R B T L p xs.length cap h w).mono fun e w' ⟨h1, h2⟩ => ⟨h2, .inl ⟨h, h1⟩⟩
  · exact refPlay_run R B T L p sb so cap xs h hn w hs
theorem play_any (R B T L : Int) (p : Option Addr) (sb so cap : Nat) (xs : List (Int × Int)) (hn : xs.length ≤ 4096) (w : World) (hs : StepsAt w p sb so xs) :
    Calls Try.prog 24 #[bV R B T L, .slice p xs.length cap] w (PlayPost R B T L xs w) := by
  cases h : okB R B T L
  · exact (play_invalid R B T L p xs.length cap h w).mono fun e w' ⟨h1, h2⟩ => ⟨h2, .inl ⟨h, h1⟩⟩
  · exact play_run R B T L p sb so cap xs h hn w hs
set_option maxRecDepth 100000 in
set_option maxHeartbeats 4000000 in
theorem lawPlay_short (HL : Lives) (R B T L : Int) (p : Option Addr) (sb so cap : Nat) (xs : List (Int × Int)) (hn : xs.length ≤ 60) (w : World) (hs : StepsAt w p sb so xs) :
    Calls Try.prog 6 #[bV R B T L, .slice p xs.length cap] w fun e w' => e = .returned (.bool true) ∧ Below w.heap.size w w' := by
  have HLV := Lib.hid HL
  clear HL
  go_enter Try.func6, Try.ntmps6
  go_wp2_with fail
  refine (refPlay_any R B T L p sb so cap xs (by omega) _ (steps_below hs ((Below.refl _ _).alloc (Nat.le_refl _) _))).mono ?_
  rintro e w1 ⟨hb1, hp1⟩
  have B1 := Lib.hid (heap_below_keep hb1 (heap_alloc_new w (bO R B T L)))
  have hs1 := steps_below (steps_below hs ((Below.refl _ _).alloc (Nat.le_refl _) _)) hb1
  have HB1 := Lib.hid hb1
  have b0 := cell_of_block (i := 0) B1.out rfl
  have b1 := cell_of_block (i := 1) B1.out rfl
  have b2 := cell_of_block (i := 2) B1.out rfl
  have b3 := cell_of_block (i := 3) B1.out rfl
  have lb1 := lt_of_block B1.out
  clear hb1
  rcases hp1 with ⟨hbad, rfl⟩ | ⟨_, hlong, rfl⟩ | ⟨hok, hle, hnone, rfl⟩ | ⟨hok, hle, ⟨r1, r2, ds⟩, v, hr, hints, he⟩
  · have HBAD := Lib.hid hbad
    clear hbad
    go_wp2_with fail
    refine (play_any R B T L p sb so cap xs (by omega) _ (steps_below hs1 ((Below.refl _ _).alloc (Nat.le_refl _) _))).mono ?_
    rintro e w2 ⟨hb2, hp2⟩
    rcases hp2 with ⟨_, rfl⟩ | ⟨h9, _⟩ | ⟨h9, _⟩ | ⟨h9, _⟩
    · have C2 := Lib.hid (heap_below_keep hb2 (heap_alloc_new w1 (bO 0 0 0 0)))
      have c0 := cell_of_block (i := 0) C2.out rfl
      have c1 := cell_of_block (i := 1) C2.out rfl
      have c2 := cell_of_block (i := 2) C2.out rfl
      have c3 := cell_of_block (i := 3) C2.out rfl
      have lc2 := lt_of_block C2.out
      have HB2 := Lib.hid hb2
      clear hb2 b0 b1 b2 b3 hs1
      go_wp2_with fail
      go_loopw [11] (fun i wr => i = .int .i64 0 ∧ Below w.heap.size w wr) (fun _ _ => 0)
      case atStart =>
        refine ⟨rfl, ?_⟩
        have hb1 := HB1.out
        have hb2 := HB2.out
        repeat (first | (with_reducible exact Below.refl _ _) | (with_reducible assumption) | (with_reducible refine bset ?_ (by first | omega | (simp; done) | (simp; omega)) _) | (with_reducible refine balloc ?_ _) | (with_reducible refine bdrew ?_) | (with_reducible refine bdrewN ?_ _) | (with_reducible refine bstep ?_ (by assumption)))
      case round =>
        obtain ⟨rfl, hbr⟩ := hrel
        go_wp2_with fail
        refine (HLV.out _).mono ?_
        rintro e w3 ⟨rfl, hb3⟩
        go_wp2
        go_ret
        refine ⟨rfl, ?_⟩
        repeat (first | (with_reducible exact Below.refl _ _) | (with_reducible assumption) | (with_reducible refine bset ?_ (by first | omega | (simp; done) | (simp; omega)) _) | (with_reducible refine balloc ?_ _) | (with_reducible refine bdrew ?_) | (with_reducible refine bdrewN ?_ _) | (with_reducible refine bstep ?_ (by assumption)))
    all_goals (rw [HBAD.out] at h9; cases h9)
  · omega
  · have HOK := Lib.hid hok
    have HNONE := Lib.hid hnone
    clear hok hnone
    go_wp2_with fail
    refine (play_any R B T L p sb so cap xs (by omega) _ (steps_below hs1 ((Below.refl _ _).alloc (Nat.le_refl _) _))).mono ?_
    rintro e w2 ⟨hb2, hp2⟩
    rcases hp2 with ⟨h9, _⟩ | ⟨_, h9, _⟩ | ⟨_, _, _, rfl⟩ | ⟨_, _, r, v, h9, _⟩
    · rw [HOK.out] at h9; cases h9
    · omega
    · have C2 := Lib.hid (heap_below_keep hb2 (heap_alloc_new w1 (bO 0 0 0 0)))
      have c0 := cell_of_block (i := 0) C2.out rfl
      have c1 := cell_of_block (i := 1) C2.out rfl
      have c2 := cell_of_block (i := 2) C2.out rfl
      have c3 := cell_of_block (i := 3) C2.out rfl
      have lc2 := lt_of_block C2.out
      have HB2 := Lib.hid hb2
      clear hb2 b0 b1 b2 b3 hs1
      go_wp2_with fail
      go_loopw [11] (fun i wr => i = .int .i64 0 ∧ Below w.heap.size w wr) (fun _ _ => 0)
      case atStart =>
        refine ⟨rfl, ?_⟩
        have hb1 := HB1.out
        have hb2 := HB2.out
        repeat (first | (with_reducible exact Below.refl _ _) | (with_reducible assumption) | (with_reducible refine bset ?_ (by first | omega | (simp; done) | (simp; omega)) _) | (with_reducible refine balloc ?_ _) | (with_reducible refine bdrew ?_) | (with_reducible refine bdrewN ?_ _) | (with_reducible refine bstep ?_ (by assumption)))
      case round =>
        obtain ⟨rfl, hbr⟩ := hrel
        go_wp2_with fail
        refine (HLV.out _).mono ?_
        rintro e w3 ⟨rfl, hb3⟩
        go_wp2
        go_ret
        refine ⟨rfl, ?_⟩
        repeat (first | (with_reducible exact Below.refl _ _) | (with_reducible assumption) | (with_reducible refine bset ?_ (by first | omega | (simp; done) | (simp; omega)) _) | (with_reducible refine balloc ?_ _) | (with_reducible refine bdrew ?_) | (with_reducible refine bdrewN ?_ _) | (with_reducible refine bstep ?_ (by assumption)))
    · rw [HNONE.out] at h9; cases h9
  · dsimp only at hints he
    subst he
    have HOK := Lib.hid hok
    have HR := Lib.hid hr
    clear hok hr
    go_wp2_with fail
    refine (play_any R B T L p sb so cap xs (by omega) _ (steps_below hs1 ((Below.refl _ _).alloc (Nat.le_refl _) _))).mono ?_
    rintro e w2 ⟨hb2, hp2⟩
    rcases hp2 with ⟨h9, _⟩ | ⟨_, h9, _⟩ | ⟨_, _, h9, _⟩ | ⟨_, _, ⟨s1, s2, es⟩, u, h9, hbools, he⟩
    · rw [HOK.out] at h9; cases h9
    · omega
    · rw [HR.out] at h9; cases h9
    · have hrr := Option.some.inj (HR.out.symm.trans h9)
      simp only [Prod.mk.injEq] at hrr
      obtain ⟨rfl, rfl, rfl⟩ := hrr
      dsimp only at hbools he
      subst he
      clear h9
      obtain ⟨q, gi, ci, rfl, hi⟩ := hints.uni
      obtain ⟨q', gb, rfl, hbo⟩ := hbools.uni
      have hlen : ds.length = xs.length := playM_len HR.out
      have C2 := Lib.hid (heap_below_keep hb2 (heap_alloc_new w1 (bO R B r1 r2)))
      have c0 := cell_of_block (i := 0) C2.out rfl
      have c1 := cell_of_block (i := 1) C2.out rfl
      have c2 := cell_of_block (i := 2) C2.out rfl
      have c3 := cell_of_block (i := 3) C2.out rfl
      have lc2 := lt_of_block C2.out
      have HB2 := Lib.hid hb2
      have HI := Lib.hid hi
      have HBO := Lib.hid hbo
      have sz2 := hb2.size
      simp at sz2
      clear hb2 b0 b1 b2 b3 hs1 hi hbo hints hbools
      go_wp2_with fail
      go_loopw [11] (fun i wr => ∃ k : Nat, i = .int .i64 k ∧ k ≤ xs.length ∧ Below w2.heap.size w2 wr) (fun i _ => xs.length - (intOf i).toNat)
      case atStart => exact ⟨0, rfl, by omega, (Below.refl _ _).alloc (Nat.le_refl _) _⟩
      case round =>
        obtain ⟨k, rfl, hk, hbr⟩ := hrel
        by_cases hlt : k < xs.length
        · obtain ⟨rfl, hgi, hci⟩ := HI.out (by omega)
          obtain ⟨rfl, hgb, hcb⟩ := HBO.out (by omega)
          have z0 : (0 : Int) ≤ (k : Int) := by omega
          have z1 : (k : Int) < (xs.length : Int) := by omega
          have hlt' : k < ds.length := by omega
          have x1 : wr.cell? ⟨gi, k, none⟩ = some (oneV ds[k]) := by rw [hbr.cell (by show gi < w2.heap.size; omega), HB2.out.cell (p := ⟨gi, k, none⟩) (by simp; omega)]; exact (((Below.refl w1.heap.size w1).alloc (Nat.le_refl _) _).cell (p := ⟨gi, k, none⟩) hgi).trans (hci k hlt')
          have x2 : wr.cell? ⟨gb, k, none⟩ = some (.bool ds[k]) := by rw [hbr.cell (by show gb < w2.heap.size; omega)]; exact hcb k hlt'
          clear hci hcb
          have hsr := hbr.size
          have HBR := Lib.hid hbr
          clear hbr c0 c1 c2 c3
          cases hd : ds[k]
          all_goals
            rw [hd] at x1 x2
            simp only [oneV, one, Bool.false_eq_true, if_false, if_true] at x1
            go_wp2_with fail
            go_region
            go_wp2
            go_roundw
            case rel => exact ⟨k + 1, by go_num, by omega, bdrew HBR.out⟩
            case measure => simp [intOf]; omega
        · obtain rfl : k = xs.length := by omega
          have hb1 := HB1.out
          have hb2 := HB2.out
          go_wp2_with fail
          refine (HLV.out _).mono ?_
          rintro e w3 ⟨rfl, hb3⟩
          go_wp2
          go_ret
          refine ⟨rfl, ?_⟩
          repeat (first | (with_reducible exact Below.refl _ _) | (with_reducible assumption) | (with_reducible refine bset ?_ (by first | omega | (simp; done) | (simp; omega)) _) | (with_reducible refine balloc ?_ _) | (with_reducible refine bdrew ?_) | (with_reducible refine bdrewN ?_ _) | (with_reducible refine bstep ?_ (by assumption)))
end Go.Proofs.Yteojndglglkgpaa
