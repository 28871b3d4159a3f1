import Derived.Test.YteojndglglkgpaaF
namespace Go.Proofs.Yteojndglglkgpaa
open Go.RowKit
set_option linter.unusedVariables false
set_option linter.unusedSimpArgs false

/-- what steps do: the tokens and the time behind them, and which were taken; none: a step is not right -/
def playM (R B : Int) : Int → Int → Int → List (Int × Int) → Option (Int × Int × List Bool)
  | T, L, _, [] => some (T, L, [])
  | T, L, t, x :: xs =>
    if 0 ≤ x.1 ∧ x.1 ≤ 4611686018427387904 - t ∧ 0 ≤ x.2 then
      if x.2 ≤ gM T R (t + x.1 - L) B then (playM R B (gM T R (t + x.1 - L) B - x.2) (t + x.1) (t + x.1) xs).map fun r => (r.1, r.2.1, true :: r.2.2)
      else (playM R B T L (t + x.1) xs).map fun r => (r.1, r.2.1, false :: r.2.2)
    else none
/-- steps that lie in memory -/
structure StepsAt (w : World) (p : Option Addr) (sb so : Nat) (xs : List (Int × Int)) : Prop where
  here : 0 < xs.length → p = some ⟨sb, so, none⟩
  lt : 0 < xs.length → sb < w.heap.size
  wait : ∀ i (h : i < xs.length), w.cell? ⟨sb, so + i * 2, none⟩ = some (.int .i64 (xs[i]).1)
  take : ∀ i (h : i < xs.length), w.cell? ⟨sb, so + i * 2 + 1, none⟩ = some (.int .i64 (xs[i]).2)
/-- bools that lie in memory, from block base on, no place to spare -/
def Bools (w : World) (base : Nat) (v : Value) (ds : List Bool) : Prop :=
  (v = .slice none 0 0 ∧ ds = []) ∨ ∃ g, v = .slice (some ⟨g, 0, none⟩) ds.length ds.length ∧ base ≤ g ∧ g < w.heap.size ∧ ∀ i (h : i < ds.length), w.cell? ⟨g, i, none⟩ = some (.bool ds[i])
abbrev playV (R B T L : Int) (v : Value) (e : Int) : Value := .tuple #[bV R B T L, v, .int .i64 e]
/-- behind Play -/
def PlayPost (R B T L : Int) (xs : List (Int × Int)) (w : World) (e : Ending) (w' : World) : Prop :=
  Below w.heap.size w w' ∧
  ((okB R B T L = false ∧ e = .returned (playV 0 0 0 0 (.slice none 0 0) 4)) ∨
   (okB R B T L = true ∧ 4096 < xs.length ∧ e = .returned (playV 0 0 0 0 (.slice none 0 0) 3)) ∨
   (okB R B T L = true ∧ xs.length ≤ 4096 ∧ playM R B T L L xs = none ∧ e = .returned (playV 0 0 0 0 (.slice none 0 0) 4)) ∨
   (okB R B T L = true ∧ xs.length ≤ 4096 ∧ ∃ r v, playM R B T L L xs = some r ∧ Bools w' w.heap.size v r.2.2 ∧ e = .returned (playV R B r.1 r.2.1 v 0)))

set_option maxHeartbeats 1000000 in
theorem play_invalid (R B T L : Int) (p : Option Addr) (n cap : Nat) (h : okB R B T L = false) (w : World) :
    Calls Try.prog 24 #[bV R B T L, .slice p n cap] w fun e w' => e = .returned (playV 0 0 0 0 (.slice none 0 0) 4) ∧ Below w.heap.size w w' := by
  have HC := Lib.hid h
  clear h
  go_enter Try.func24, Try.ntmps24
  go_wp2_with fail
  refine (check_any _ _ _ _ _).mono ?_; rintro e w1 ⟨rfl, hb1⟩; rw [HC.out]; simp only [erB, Bool.false_eq_true, if_false]; have hz1 := hb1.size; simp at hz1; obtain ⟨hc1, hf1⟩ := bcell hb1; have hk1 := fun o => hc1 (w.heap.size + 1) o (by first | omega | (simp; done) | (simp; omega)); have hg1 := fun o => hf1 (w.heap.size + 1) o (by first | omega | (simp; done) | (simp; omega))
  go_wp2
  refine bodyPost_ret (v := playV 0 0 0 0 (.slice none 0 0) 4) ?_ rfl ⟨rfl, ?_⟩
  · simp only [results, Try.results24]
    go_simp
  · repeat (first | (with_reducible exact Below.refl _ _) | (with_reducible assumption) | (with_reducible refine bset ?_ (by first | omega | (simp; done) | (simp; omega)) _) | (with_reducible refine balloc ?_ _) | (with_reducible refine bdrew ?_) | (with_reducible refine bdrewN ?_ _) | (with_reducible refine bstep ?_ (by assumption)))
set_option maxHeartbeats 1000000 in
theorem play_long (R B T L : Int) (p : Option Addr) (n cap : Nat) (h : okB R B T L = true) (hn : 4096 < n) (hm : n ≤ 9223372036854775807) (w : World) :
    Calls Try.prog 24 #[bV R B T L, .slice p n cap] w fun e w' => e = .returned (playV 0 0 0 0 (.slice none 0 0) 3) ∧ Below w.heap.size w w' := by
  have HC := Lib.hid h
  clear h
  go_enter Try.func24, Try.ntmps24
  go_wp2_with fail
  refine (check_any _ _ _ _ _).mono ?_; rintro e w1 ⟨rfl, hb1⟩; rw [HC.out]; simp only [erB, if_true]; have hz1 := hb1.size; simp at hz1; obtain ⟨hc1, hf1⟩ := bcell hb1; have hk1 := fun o => hc1 (w.heap.size + 1) o (by first | omega | (simp; done) | (simp; omega)); have hg1 := fun o => hf1 (w.heap.size + 1) o (by first | omega | (simp; done) | (simp; omega))
  go_wp2
  refine bodyPost_ret (v := playV 0 0 0 0 (.slice none 0 0) 3) ?_ rfl ⟨rfl, ?_⟩
  · simp only [results, Try.results24]
    go_simp
  · repeat (first | (with_reducible exact Below.refl _ _) | (with_reducible assumption) | (with_reducible refine bset ?_ (by first | omega | (simp; done) | (simp; omega)) _) | (with_reducible refine balloc ?_ _) | (with_reducible refine bdrew ?_) | (with_reducible refine bdrewN ?_ _) | (with_reducible refine bstep ?_ (by assumption)))

theorem playM_yes {R B T L t : Int} {x : Int × Int} {xs : List (Int × Int)} (h : 0 ≤ x.1 ∧ x.1 ≤ 4611686018427387904 - t ∧ 0 ≤ x.2) (g : x.2 ≤ gM T R (t + x.1 - L) B) :
    playM R B T L t (x :: xs) = (playM R B (gM T R (t + x.1 - L) B - x.2) (t + x.1) (t + x.1) xs).map fun r => (r.1, r.2.1, true :: r.2.2) := by rw [playM, if_pos h, if_pos g]
theorem playM_not {R B T L t : Int} {x : Int × Int} {xs : List (Int × Int)} (h : 0 ≤ x.1 ∧ x.1 ≤ 4611686018427387904 - t ∧ 0 ≤ x.2) (g : gM T R (t + x.1 - L) B < x.2) :
    playM R B T L t (x :: xs) = (playM R B T L (t + x.1) xs).map fun r => (r.1, r.2.1, false :: r.2.2) := by rw [playM, if_pos h, if_neg (by omega)]
theorem playM_bad {R B T L t : Int} {x : Int × Int} {xs : List (Int × Int)} (h : ¬ (0 ≤ x.1 ∧ x.1 ≤ 4611686018427387904 - t ∧ 0 ≤ x.2)) :
    playM R B T L t (x :: xs) = none := by rw [playM, if_neg h]
/-- how far a run has come -/
structure Come (R B T L : Int) (xs : List (Int × Int)) (k : Nat) (T' L' t' : Int) (ds : List Bool) : Prop where
  eq : playM R B T L L xs = (playM R B T' L' t' (xs.drop k)).map fun r => (r.1, r.2.1, ds ++ r.2.2)
  len : ds.length = k
  le : k ≤ xs.length
  ok : okB R B T' L' = true
  lo : L' ≤ t'
  hi : t' ≤ 4611686018427387904
theorem Come.start {R B T L : Int} {xs : List (Int × Int)} (h : okB R B T L = true) : Come R B T L xs 0 T L L [] := by
  obtain ⟨a1, a2, a3, a4, a5, a6, a7, a8⟩ := okB_iff h
  exact ⟨by simp, rfl, Nat.zero_le _, h, Int.le_refl _, a8⟩
theorem Come.next {R B T L : Int} {xs : List (Int × Int)} {k : Nat} {T' L' t' : Int} {ds : List Bool} (c : Come R B T L xs k T' L' t' ds) (hk : k < xs.length) :
    ((¬ (0 ≤ (xs[k]).1 ∧ (xs[k]).1 ≤ 4611686018427387904 - t' ∧ 0 ≤ (xs[k]).2)) → playM R B T L L xs = none) ∧
    ((0 ≤ (xs[k]).1 ∧ (xs[k]).1 ≤ 4611686018427387904 - t' ∧ 0 ≤ (xs[k]).2) →
      okN R B T' L' (t' + (xs[k]).1) (xs[k]).2 = true ∧
      ((xs[k]).2 ≤ gM T' R (t' + (xs[k]).1 - L') B → Come R B T L xs (k + 1) (gM T' R (t' + (xs[k]).1 - L') B - (xs[k]).2) (t' + (xs[k]).1) (t' + (xs[k]).1) (ds ++ [true])) ∧
      (gM T' R (t' + (xs[k]).1 - L') B < (xs[k]).2 → Come R B T L xs (k + 1) T' L' (t' + (xs[k]).1) (ds ++ [false]))) := by
  have hd : xs.drop k = xs[k] :: xs.drop (k + 1) := List.drop_eq_getElem_cons hk
  have e := c.eq
  rw [hd] at e
  obtain ⟨a1, a2, a3, a4, a5, a6, a7, a8⟩ := okB_iff c.ok
  have l1 := c.lo
  have l2 := c.hi
  have l3 := c.len
  refine ⟨fun h => by rw [e, playM_bad h]; rfl, fun h => ⟨?_, fun g => ?_, fun g => ?_⟩⟩
  · simp only [okN, okT, c.ok, inB_true (n := t' + (xs[k]).1) (a := L') (b := 4611686018427387904) (by omega), Bool.true_and, decide_eq_true_eq]; omega
  · rw [playM_yes h g] at e
    have h2 : gM T' R (t' + (xs[k]).1 - L') B ≤ B := gM_le
    refine ⟨by rw [e, Option.map_map]; congr 1; funext r; simp, by simp [l3], hk, okB_true (by omega), Int.le_refl _, by omega⟩
  · rw [playM_not h g] at e
    exact ⟨by rw [e, Option.map_map]; congr 1; funext r; simp, by simp [l3], hk, c.ok, by omega, by omega⟩
theorem Come.finish {R B T L : Int} {xs : List (Int × Int)} {T' L' t' : Int} {ds : List Bool} (c : Come R B T L xs xs.length T' L' t' ds) : playM R B T L L xs = some (T', L', ds) := by
  rw [c.eq]; simp [playM]
end Go.Proofs.Yteojndglglkgpaa
