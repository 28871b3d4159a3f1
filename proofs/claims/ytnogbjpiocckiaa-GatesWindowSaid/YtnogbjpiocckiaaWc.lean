import Derived.Test.YtnogbjpiocckiaaWb
import Derived.Test.YtnogbjpiocckiaaLv
import Derived.BigQuiet
import Derived.Deep.RegionHeld3
import Derived.Deep.CutRange
import Derived.Maps.AppendAt
import Derived.RegionTactic
namespace Go.Proofs.Ytnogbjpiocckiaa
open Go.RowKit
set_option linter.unusedVariables false
set_option linter.unusedSimpArgs false
/-- four small numbers each, that lie in memory -/
structure QuadsAt (w : World) (p : Option Addr) (sb so : Nat) (xs : List (Int × Int × Int × Int)) : Prop where
  here : 0 < xs.length → p = some ⟨sb, so, none⟩
  lt : 0 < xs.length → sb < w.heap.size
  c0 : ∀ i (h : i < xs.length), w.cell? ⟨sb, so + i * 4, none⟩ = some (.int .u8 (xs[i]).1)
  c1 : ∀ i (h : i < xs.length), w.cell? ⟨sb, so + i * 4 + 1, none⟩ = some (.int .u8 (xs[i]).2.1)
  c2 : ∀ i (h : i < xs.length), w.cell? ⟨sb, so + i * 4 + 2, none⟩ = some (.int .u8 (xs[i]).2.2.1)
  c3 : ∀ i (h : i < xs.length), w.cell? ⟨sb, so + i * 4 + 3, none⟩ = some (.int .u8 (xs[i]).2.2.2)
  small : ∀ i (h : i < xs.length), 0 ≤ (xs[i]).1 ∧ (xs[i]).1 ≤ 255 ∧ 0 ≤ (xs[i]).2.1 ∧ (xs[i]).2.1 ≤ 255 ∧ 0 ≤ (xs[i]).2.2.1 ∧ (xs[i]).2.2.1 ≤ 255 ∧ 0 ≤ (xs[i]).2.2.2 ∧ (xs[i]).2.2.2 ≤ 255
abbrev gO (R B T L C W : Int) (E : Bool) : Obj := .cells #[.int .i64 R, .int .i64 B, .int .i64 T, .int .i64 L, .int .i64 C, .int .i64 W, .bool E] 25 (0, 0)
abbrev rows (l : List Int) : List Value := l.map (Value.int .i64)
theorem release_at {R B S L C W k q : Int} {E : Bool} (he : k = q) (hok : okB R B S L = true) (hC : 1 ≤ C ∧ C ≤ 64) (hW : 0 ≤ W ∧ W ≤ C) (hk : 0 ≤ q ∧ q ≤ W) (w : World) :
    Calls Try.prog 11 #[gV R B S L C W E, .int .i64 k] w fun e w' => e = .returned (.tuple #[gV R B S L C (W - q) E, .int .i64 0]) ∧ Below w.heap.size w w' := by
  subst he; exact release_val hok hC hW hk w
theorem set7 {w : World} {b : Nat} {R B S L C W R' B' S' L' C' W' : Int} {E E' : Bool} (h : w.heap[b]? = some (gO R B S L C W E)) :
    (((((((w.setCell ⟨b, 0, none⟩ (.int .i64 R')).setCell ⟨b, 1, none⟩ (.int .i64 B')).setCell ⟨b, 2, none⟩ (.int .i64 S')).setCell ⟨b, 3, none⟩ (.int .i64 L')).setCell ⟨b, 4, none⟩ (.int .i64 C')).setCell ⟨b, 5, none⟩ (.int .i64 W')).setCell ⟨b, 6, none⟩ (.bool E')).heap[b]? = some (gO R' B' S' L' C' W' E') := by
  have h1 : (w.setCell ⟨b, 0, none⟩ (.int .i64 R')).heap[b]? = some (.cells #[.int .i64 R', .int .i64 B, .int .i64 S, .int .i64 L, .int .i64 C, .int .i64 W, .bool E] 25 (0, 0)) := heap_setCell_same h
  have h2 : ((w.setCell ⟨b, 0, none⟩ (.int .i64 R')).setCell ⟨b, 1, none⟩ (.int .i64 B')).heap[b]? = some (.cells #[.int .i64 R', .int .i64 B', .int .i64 S, .int .i64 L, .int .i64 C, .int .i64 W, .bool E] 25 (0, 0)) := heap_setCell_same h1
  have h3 : (((w.setCell ⟨b, 0, none⟩ (.int .i64 R')).setCell ⟨b, 1, none⟩ (.int .i64 B')).setCell ⟨b, 2, none⟩ (.int .i64 S')).heap[b]? = some (.cells #[.int .i64 R', .int .i64 B', .int .i64 S', .int .i64 L, .int .i64 C, .int .i64 W, .bool E] 25 (0, 0)) := heap_setCell_same h2
  have h4 : ((((w.setCell ⟨b, 0, none⟩ (.int .i64 R')).setCell ⟨b, 1, none⟩ (.int .i64 B')).setCell ⟨b, 2, none⟩ (.int .i64 S')).setCell ⟨b, 3, none⟩ (.int .i64 L')).heap[b]? = some (.cells #[.int .i64 R', .int .i64 B', .int .i64 S', .int .i64 L', .int .i64 C, .int .i64 W, .bool E] 25 (0, 0)) := heap_setCell_same h3
  have h5 : (((((w.setCell ⟨b, 0, none⟩ (.int .i64 R')).setCell ⟨b, 1, none⟩ (.int .i64 B')).setCell ⟨b, 2, none⟩ (.int .i64 S')).setCell ⟨b, 3, none⟩ (.int .i64 L')).setCell ⟨b, 4, none⟩ (.int .i64 C')).heap[b]? = some (.cells #[.int .i64 R', .int .i64 B', .int .i64 S', .int .i64 L', .int .i64 C', .int .i64 W, .bool E] 25 (0, 0)) := heap_setCell_same h4
  have h6 : ((((((w.setCell ⟨b, 0, none⟩ (.int .i64 R')).setCell ⟨b, 1, none⟩ (.int .i64 B')).setCell ⟨b, 2, none⟩ (.int .i64 S')).setCell ⟨b, 3, none⟩ (.int .i64 L')).setCell ⟨b, 4, none⟩ (.int .i64 C')).setCell ⟨b, 5, none⟩ (.int .i64 W')).heap[b]? = some (.cells #[.int .i64 R', .int .i64 B', .int .i64 S', .int .i64 L', .int .i64 C', .int .i64 W', .bool E] 25 (0, 0)) := heap_setCell_same h5
  have h7 : (((((((w.setCell ⟨b, 0, none⟩ (.int .i64 R')).setCell ⟨b, 1, none⟩ (.int .i64 B')).setCell ⟨b, 2, none⟩ (.int .i64 S')).setCell ⟨b, 3, none⟩ (.int .i64 L')).setCell ⟨b, 4, none⟩ (.int .i64 C')).setCell ⟨b, 5, none⟩ (.int .i64 W')).setCell ⟨b, 6, none⟩ (.bool E')).heap[b]? = some (.cells #[.int .i64 R', .int .i64 B', .int .i64 S', .int .i64 L', .int .i64 C', .int .i64 W', .bool E'] 25 (0, 0)) := heap_setCell_same h6
  exact h7
theorem alloc_at {w : World} {o : Obj} {n : Nat} (h : w.heap.size = n) : (w.alloc o).heap[n]? = some o := by subst h; exact heap_alloc_new w o
theorem set7_ne {w : World} {b c : Nat} {x : Option Obj} {R B S L C W : Int} {E : Bool} (hn : c ≠ b) (h : w.heap[c]? = x) : (((((((w.setCell ⟨b, 0, none⟩ (.int .i64 R)).setCell ⟨b, 1, none⟩ (.int .i64 B)).setCell ⟨b, 2, none⟩ (.int .i64 S)).setCell ⟨b, 3, none⟩ (.int .i64 L)).setCell ⟨b, 4, none⟩ (.int .i64 C)).setCell ⟨b, 5, none⟩ (.int .i64 W)).setCell ⟨b, 6, none⟩ (.bool E)).heap[c]? = x :=
  heap_setCell_ne (heap_setCell_ne (heap_setCell_ne (heap_setCell_ne (heap_setCell_ne (heap_setCell_ne (heap_setCell_ne h hn) hn) hn) hn) hn) hn) hn
theorem set2_ne {w : World} {b c : Nat} {x : Option Obj} {A : Bool} {d : Int} (hn : c ≠ b) (h : w.heap[c]? = x) : ((w.setCell ⟨b, 0, none⟩ (.bool A)).setCell ⟨b, 1, none⟩ (.int .i64 d)).heap[c]? = x :=
  heap_setCell_ne (heap_setCell_ne h hn) hn
theorem set2 {w : World} {b : Nat} {A A' : Bool} {d d' : Int} (h : w.heap[b]? = some (.cells #[.bool A, .int .i64 d] 28 (0, 0))) : ((w.setCell ⟨b, 0, none⟩ (.bool A')).setCell ⟨b, 1, none⟩ (.int .i64 d')).heap[b]? = some (.cells #[.bool A', .int .i64 d'] 28 (0, 0)) := by
  have h1 : (w.setCell ⟨b, 0, none⟩ (.bool A')).heap[b]? = some (.cells #[.bool A', .int .i64 d] 28 (0, 0)) := heap_setCell_same h
  exact heap_setCell_same h1
abbrev put7 (w : World) (b : Nat) (R B S L C W : Int) (E : Bool) : World := (((((((w.setCell ⟨b, 0, none⟩ (.int .i64 R)).setCell ⟨b, 1, none⟩ (.int .i64 B)).setCell ⟨b, 2, none⟩ (.int .i64 S)).setCell ⟨b, 3, none⟩ (.int .i64 L)).setCell ⟨b, 4, none⟩ (.int .i64 C)).setCell ⟨b, 5, none⟩ (.int .i64 W)).setCell ⟨b, 6, none⟩ (.bool E))
theorem turned7 (w : World) (b : Nat) (R B S L C W : Int) (E : Bool) : Turned [b] w (put7 w b R B S L C W E) :=
  tset (tset (tset (tset (tset (tset (tset (Turned.refl [b] w) (.inl (by simp)) _) (.inl (by simp)) _) (.inl (by simp)) _) (.inl (by simp)) _) (.inl (by simp)) _) (.inl (by simp)) _) (.inl (by simp)) _
theorem below7 {n : Nat} {a w : World} (h : Below n a w) {b : Nat} (hb : n ≤ b) (R B S L C W : Int) (E : Bool) : Below n a (put7 w b R B S L C W E) :=
  ((((((h.setCell (p := ⟨b, 0, none⟩) hb _).setCell (p := ⟨b, 1, none⟩) hb _).setCell (p := ⟨b, 2, none⟩) hb _).setCell (p := ⟨b, 3, none⟩) hb _).setCell (p := ⟨b, 4, none⟩) hb _).setCell (p := ⟨b, 5, none⟩) hb _).setCell (p := ⟨b, 6, none⟩) hb _
theorem GW.ask {R B T L t t2 S2 L2 n : Int} {A : Bool} {ts ns : List Int} {X Y : Prop} (h : GW R B ts ns T L t) (h1 : t ≤ t2) (h2 : t2 ≤ 4611686018427387904) (hn : 0 ≤ n ∧ n ≤ 7)
    (ha : (A = true ∧ n ≤ gM T R (t2 - L) B ∧ X ∧ S2 = gM T R (t2 - L) B - n ∧ L2 = t2 ∧ Y) ∨ (A = false ∧ S2 = T ∧ L2 = L ∧ Y ∨ (A = false ∧ S2 = T ∧ L2 = L))) : GW R B (ts ++ [t2]) (ns ++ [if A = true then n else 0]) S2 L2 t2 := by
  obtain ⟨a1, a2, a3, a4, a5, a6, a7, a8⟩ := okB_iff h.ok
  have hlo := h.lo
  have no : ∀ {A' : Bool}, A' = false → S2 = T → L2 = L → GW R B (ts ++ [t2]) (ns ++ [if A' = true then n else 0]) S2 L2 t2 := by
    rintro A' rfl rfl rfl
    exact h.step h1 h2 (by simp) h.ok (by omega) (by simp)
  rcases ha with ⟨rA, q1, -, rS, rL, -⟩ | ⟨r1, r2, r3, -⟩ | ⟨r1, r2, r3⟩
  · have hle : gM T R (t2 - L) B ≤ B := gM_le
    rw [rA, rS, rL, if_pos rfl]
    refine h.step h1 h2 hn (okB_true ⟨a1, a2, a3, a4, by omega, by omega, by omega, h2⟩) (Int.le_refl _) ?_
    generalize gM T R (t2 - L) B = g at *
    rw [Int.sub_self]
    unfold gM
    rw [Int.mul_zero, Int.add_zero, if_neg (by omega)]
    omega
  · exact no r1 r2 r3
  · exact no r1 r2 r3
set_option maxRecDepth 100000 in
open Go.Proofs.Ytnogbjpiocckiaa.Vx in
theorem ask_det {R B S L C W t n k : Int} {E : Bool} (hok : okB R B S L = true) (hC : 1 ≤ C ∧ C ≤ 64) (hW : 0 ≤ W ∧ W ≤ C) (ht : L ≤ t) (ht2 : t ≤ 4611686018427387904) (hn : 0 ≤ n) (hk : 0 ≤ k ∧ k ≤ 64) :
    ∃ (A : Bool) (S2 L2 W2 d : Int), ((A = true ∧ n ≤ gM S R (t - L) B ∧ W + k ≤ C ∧ S2 = gM S R (t - L) B - n ∧ L2 = t ∧ W2 = W + k) ∨ (A = false ∧ S2 = S ∧ L2 = L ∧ W2 = W)) ∧
      ∀ w : World, Calls Try.prog 9 #[gV R B S L C W E, .int .i64 t, .int .i64 n, .int .i64 k] w fun e w' => e = .returned (.tuple #[gV R B S2 L2 C W2 E, .agg #[.bool A, .int .i64 d], .int .i64 0]) ∧ Below w.heap.size w w' := by
  obtain ⟨a1, a2, a3, a4, a5, a6, a7, a8⟩ := okB_iff hok
  have hb : T.b (sg R B S L C W t n k E) (okX (.var 0) (.var 1) (.var 2) (.var 3) (.var 4) (.var 5) (.var 6) (.var 7) (.var 8)) = true := by
    refine (andL_b _).2 ?_
    simp only [okG, List.cons_append, List.nil_append, List.forall_mem_cons]
    repeat' refine And.intro (leB_t.2 ?_) ?_
    all_goals first
      | (intro q hq; simp at hq)
      | (simp only [T.i, sg, envF, List.getD_cons_zero, List.getD_cons_succ]; omega)
  have key := fun w => gateAsk_any R B S L C W E t n k _ rfl w
  simp only [T.ite_ti hb, T.ite_tb hb] at key
  by_cases hy : T.b (sg R B S L C W t n k E) (yesX (.var 0) (.var 1) (.var 2) (.var 3) (.var 4) (.var 5) (.var 6) (.var 7) (.var 8)) = true
  · simp only [T.ite_ti hy, T.ite_tb hy, hy] at key
    have hy2 := hy
    simp only [yesX, mkAnd_b, Bool.and_eq_true] at hy2
    obtain ⟨y1, y2⟩ := hy2
    exact ⟨true, _, _, _, _, .inl ⟨rfl, leB_t.1 y1, leB_t.1 y2, rfl, rfl, rfl⟩, key⟩
  · rw [Bool.not_eq_true] at hy
    simp only [T.ite_fi hy, hy] at key
    exact ⟨false, _, _, _, _, .inr ⟨rfl, rfl, rfl, rfl⟩, key⟩
theorem own_apart {a b : Option Nat} (h : a = none ∨ a ≠ b) : b = none ∨ b ≠ a := by
  rcases h with rfl | h
  · cases b
    · exact .inl rfl
    · exact .inr (by simp)
  · exact .inr (fun e => h e.symm)
theorem own_apart3 {a b a' : Option Nat} {n : Nat} {base : Nat} (hb : ∀ k, b = some k → base ≤ k ∧ k < n) (h : a = none ∨ a ≠ b) (hat : a' = a ∨ a' = some n) : a' = none ∨ a' ≠ b := by
  rcases hat with rfl | rfl
  · exact h
  · refine .inr fun e => ?_
    have := hb n e.symm
    omega
theorem own_apart4 {a b b' : Option Nat} {n : Nat} {base : Nat} (ha : ∀ k, a = some k → base ≤ k ∧ k < n) (h : a = none ∨ a ≠ b) (hat : b' = b ∨ b' = some n) : a = none ∨ a ≠ b' := by
  rcases hat with rfl | rfl
  · exact h
  · refine .inr fun e => ?_
    have := ha n e
    omega
theorem row_ints {w : World} {base : Nat} {e : TypeId} {v : Value} {l : List Int} (h : w.ownsRow base e 1 v l.length (rows l)) :
    ∃ q g cap, v = .slice q l.length cap ∧ (0 < l.length → q = some ⟨g, 0, none⟩ ∧ g < w.heap.size) ∧ ∀ i (h : i < l.length), w.cell? ⟨g, i, none⟩ = some (.int .i64 l[i]) := by
  obtain ⟨hl, h | ⟨g, cap, cur, hv, hb, hg, h1, h2, h3, h4⟩⟩ := h
  · obtain ⟨rfl, h0⟩ := h
    exact ⟨none, 0, 0, by rw [h0], fun h => absurd h (by omega), fun i h => absurd h (by omega)⟩
  · refine ⟨_, g, cap, hv, fun _ => ⟨rfl, lt_of_block hg⟩, fun i hi => cell_of_block hg ?_⟩
    have hx : (rows l)[i]? = some (.int .i64 l[i]) := by simp [rows, hi]
    rw [← h4, List.getElem?_take, if_pos (by omega)] at hx
    simpa using hx
theorem most_same (R B t : Int) (h : okB R B B t = true) (w : World) :
    Calls Try.prog 20 #[.int .i64 R, .int .i64 B, .int .i64 t] w fun e w' => e = .returned (.int .i64 (gM B R t 9223372036854775807)) ∧ w' = w :=
  (refMost_val' R B t h w).mono fun e w' ⟨h1, h2⟩ => ⟨h1, h2.symm⟩
theorem getD_get {l : List Int} {k : Nat} (h : k < l.length) : l.getD k 0 = l[k] := by
  rw [List.getD_eq_getElem?_getD, List.getElem?_eq_getElem h]; rfl
theorem winN_next {ns : List Int} {i k : Nat} (h : i ≤ k) (hk : k < ns.length) : winN ns i (k + 1) = winN ns i k + ns[k] := by
  rw [winN, if_pos h, getD_get hk]
/-- what holds at the head of the loop that asks -/
structure AskHead (w : World) (ob : Nat) (R B C : Int) (E : Bool) (xs : List (Int × Int × Int × Int)) (k : Nat) (t' : Int) (tv sv : Value) (wr : World) : Prop where
  here : ∃ ts ns T L W, ts.length = k ∧ GW R B ts ns T L t' ∧ 0 ≤ W ∧ W ≤ C ∧ wr.heap[ob]? = some (gO R B T L C W E) ∧ wr.ownsRow (ob + 1) 2 1 tv k (rows ts) ∧ wr.ownsRow (ob + 1) 2 1 sv k (rows ns) ∧ (tv.ownBlock = none ∨ tv.ownBlock ≠ sv.ownBlock)
  below : Below w.heap.size w wr
  base : w.heap.size ≤ ob
  base_lt : ob < wr.heap.size
  le : k ≤ xs.length
  few : k ≤ 24
set_option maxRecDepth 100000 in
set_option maxHeartbeats 20000000 in
theorem lawWindow_any {r b t l g c v : Int} {E : Bool} (hx : OkX r b t l g) (h0 : 0 ≤ c) (h1 : c ≤ 255) (v0 : 0 ≤ v) (v1 : v ≤ 255) (p : Option Addr) (sb so cap : Nat) (xs : List (Int × Int × Int × Int)) (w : World) (hs : QuadsAt w p sb so xs) (hn : xs.length ≤ 9223372036854775807) :
    Calls Try.prog 6 #[gIn r b t l g c v E, .slice p xs.length cap] w fun e w' => e = .returned (.bool true) ∧ Below w.heap.size w w' := by
  have hok := of_ok hx
  have hcap := capG_bnd h0
  have hwait := waitG_bnd h0 v0
  obtain ⟨a1, a2, a3, a4, a5, a6, a7, a8⟩ := okB_iff hok
  have HOK := Lib.hid hok
  clear hok
  obtain ⟨i0, hi, hz0, hz1, hz2⟩ := info_parts (P := Try.prog) (e := 2) (z := .int .i64 0) (size := 1) (bytes := 8) (by kernel_rfl)
  go_enter Try.func6, Try.ntmps6
  go_wp2_with fail
  refine (ofG_any hx h0 h1 v0 v1 _).mono ?_
  rintro e w1 ⟨rfl, hb1⟩
  generalize ofR r g = R at *
  generalize ofB b g = B at *
  generalize ofT b t g = T at *
  generalize ofL l g = L at *
  generalize capG c = C at *
  generalize waitG c v = W at *
  have B1 := Lib.hid hb1
  have sz1 := hb1.size
  clear hb1
  go_wp2_with fail
  have HOB := Lib.hid (heap_alloc_new w1 (gO R B T L C W E))
  go_loopw [6, 7, 8, 9] (fun tt tv sv i wr => ∃ (k : Nat) (t' : Int), i = .int .i64 k ∧ tt = .int .i64 t' ∧ AskHead w w1.heap.size R B C E xs k t' tv sv wr) (fun _ _ _ i _ => xs.length - (intOf i).toNat)
  case atStart =>
    refine ⟨0, L, rfl, rfl, ⟨⟨[], [], T, L, W, rfl, GW.start HOK.out, hwait.1, hwait.2, HOB.out, World.ownsRow_nil _ _ _ _, World.ownsRow_nil _ _ _ _, Or.inl rfl⟩, ?_, ?_, by simp, Nat.zero_le _, by omega⟩⟩
    · have hb1 := B1.out
      repeat (first | (with_reducible exact Below.refl _ _) | (with_reducible assumption) | (with_reducible refine bset ?_ (by first | omega | (simp; done) | (simp; omega)) _) | (with_reducible refine balloc ?_ _) | (with_reducible refine bdrew ?_) | (with_reducible refine bdrewN ?_ _) | (with_reducible refine bstep ?_ (by assumption)))
    · simp at sz1; omega
  case round =>
    obtain ⟨k, t', rfl, rfl, H⟩ := hrel
    obtain ⟨ts, ns, T1, L1, W1, hlen, hgw, hw0, hw1, hob, hot, hos, hdis⟩ := H.here
    by_cases hlt : k < xs.length ∧ k < 24
    · obtain ⟨hlt, hlt2⟩ := hlt
      obtain rfl := hs.here (by omega)
      have hsb := hs.lt (by omega)
      have e0 : wr.cell? ⟨sb, so + k * 4, none⟩ = some (.int .u8 (xs[k]).1) := by rw [H.below.cell hsb]; exact hs.c0 k hlt
      have e1 : wr.cell? ⟨sb, so + k * 4 + 1, none⟩ = some (.int .u8 (xs[k]).2.1) := by rw [H.below.cell hsb]; exact hs.c1 k hlt
      have e2 : wr.cell? ⟨sb, so + k * 4 + 2, none⟩ = some (.int .u8 (xs[k]).2.2.1) := by rw [H.below.cell hsb]; exact hs.c2 k hlt
      have e3 : wr.cell? ⟨sb, so + k * 4 + 3, none⟩ = some (.int .u8 (xs[k]).2.2.2) := by rw [H.below.cell hsb]; exact hs.c3 k hlt
      obtain ⟨s1, s2, s3, s4, s5, s6, s7, s8⟩ := hs.small k hlt
      have z0 : (0 : Int) ≤ (k : Int) := by omega
      have z1 : (k : Int) < (xs.length : Int) := by omega
      have z2 : (k : Int) < 24 := by omega
      have hsb' : sb < wr.heap.size := by have := H.below.size; omega
      have hbase := H.base
      have hbase2 := H.base_lt
      have g5 := cell_of_block (i := 5) hob rfl
      have g0 := cell_of_block (i := 0) hob rfl
      have g1 := cell_of_block (i := 1) hob rfl
      have g2 := cell_of_block (i := 2) hob rfl
      have g3 := cell_of_block (i := 3) hob rfl
      have g4 := cell_of_block (i := 4) hob rfl
      have g6 := cell_of_block (i := 6) hob rfl
      have HH := Lib.hid H
      have HT := Lib.hid hot
      have HS := Lib.hid hos
      have HG := Lib.hid hgw
      have HOB1 := Lib.hid hob
      have hl0 := hgw.lo
      have hl1 := hgw.hi
      have HOK1 := Lib.hid hgw.ok
      obtain ⟨p1, p2, p3, p4, p5, p6, p7, p8⟩ := okB_iff hgw.ok
      clear H hot hos hgw hob
      generalize (xs[k]).1 = u0 at *
      generalize (xs[k]).2.1 = u1 at *
      generalize (xs[k]).2.2.1 = u2 at *
      generalize (xs[k]).2.2.2 = u3 at *
      obtain ⟨t2, ht2⟩ : ∃ t2, (if 4611686018427387904 < t' + u0 % 6 then 4611686018427387904 else t' + u0 % 6) = t2 := ⟨_, rfl⟩
      obtain ⟨q, hq⟩ : ∃ q, (if W1 < IntKind.i64.wrap (u3.tmod 4) then W1 else IntKind.i64.wrap (u3.tmod 4)) = q := ⟨_, rfl⟩
      have hw4 : IntKind.i64.wrap (u3.tmod 4) = u3 % 4 := by
        rw [Int.tmod_eq_emod_of_nonneg (by omega)]
        unfold IntKind.wrap
        simp [IntKind.bits, IntKind.signed]
        omega
      have hqb : 0 ≤ q ∧ q ≤ W1 := by
        rw [hw4] at hq
        by_cases hc : W1 < u3 % 4
        · rw [if_pos hc] at hq; omega
        · rw [if_neg hc] at hq; omega
      have HQ := Lib.hid hq
      have HT2 := Lib.hid ht2
      have ht2b : t' ≤ t2 ∧ t2 ≤ 4611686018427387904 := by split at ht2 <;> omega
      clear hq hw4 ht2
      go_upto_region 8 with (fail)
      go_cut [6, 10, 11] from 24 to 113 (fun tv p e wx => tv = .int .i64 t2 ∧ e = .int .i64 0 ∧ ∃ b, p = .pointer (some ⟨b, 0, none⟩) ∧ wr.heap.size ≤ b ∧ wx.heap[b]? = some (gO R B T1 L1 C (W1 - q) E) ∧ Below wr.heap.size wr wx)
      case first =>
        have K : ∀ w', Below wr.heap.size wr w' → (Below wr.heap.size wr w' ∧ w'.cell? ⟨w1.heap.size, 0, none⟩ = some (.int .i64 R) ∧ w'.cell? ⟨w1.heap.size, 1, none⟩ = some (.int .i64 B) ∧ w'.cell? ⟨w1.heap.size, 2, none⟩ = some (.int .i64 T1) ∧ w'.cell? ⟨w1.heap.size, 3, none⟩ = some (.int .i64 L1) ∧ w'.cell? ⟨w1.heap.size, 4, none⟩ = some (.int .i64 C) ∧ w'.cell? ⟨w1.heap.size, 5, none⟩ = some (.int .i64 W1) ∧ w'.cell? ⟨w1.heap.size, 6, none⟩ = some (.bool E) ∧ w'.cell? ⟨sb, so + k * 4 + 3, none⟩ = some (.int .u8 u3)) := fun w' hB =>
          ⟨hB, (hB.cell (p := ⟨w1.heap.size, 0, none⟩) hbase2).trans g0, (hB.cell (p := ⟨w1.heap.size, 1, none⟩) hbase2).trans g1, (hB.cell (p := ⟨w1.heap.size, 2, none⟩) hbase2).trans g2, (hB.cell (p := ⟨w1.heap.size, 3, none⟩) hbase2).trans g3, (hB.cell (p := ⟨w1.heap.size, 4, none⟩) hbase2).trans g4, (hB.cell (p := ⟨w1.heap.size, 5, none⟩) hbase2).trans g5, (hB.cell (p := ⟨w1.heap.size, 6, none⟩) hbase2).trans g6, (hB.cell (p := ⟨sb, so + k * 4 + 3, none⟩) hsb').trans e3⟩
        have HK := Lib.hid K
        clear K
        rw [HT2.out]
        by_cases hc : W1 < IntKind.i64.wrap (u3.tmod 4)
        · have HE := Lib.hid (show W1 = q by rw [← HQ.out, if_pos hc])
          go_region_held3 (fun w' => Below wr.heap.size wr w' ∧ w'.cell? ⟨w1.heap.size, 0, none⟩ = some (.int .i64 R) ∧ w'.cell? ⟨w1.heap.size, 1, none⟩ = some (.int .i64 B) ∧ w'.cell? ⟨w1.heap.size, 2, none⟩ = some (.int .i64 T1) ∧ w'.cell? ⟨w1.heap.size, 3, none⟩ = some (.int .i64 L1) ∧ w'.cell? ⟨w1.heap.size, 4, none⟩ = some (.int .i64 C) ∧ w'.cell? ⟨w1.heap.size, 5, none⟩ = some (.int .i64 W1) ∧ w'.cell? ⟨w1.heap.size, 6, none⟩ = some (.bool E) ∧ w'.cell? ⟨sb, so + k * 4 + 3, none⟩ = some (.int .u8 u3))
            ((refine HK.out _ ?_; repeat (first | (with_reducible assumption) | (with_reducible refine balloc ?_ _) | (with_reducible refine bdrew ?_) | (with_reducible exact Below.refl _ _) | (with_reducible refine bset ?_ (by first | exact Nat.le_refl _ | omega | (simp; done) | (simp; omega)) _) | (with_reducible refine bstep ?_ (by assumption)) | (with_reducible exact (And.left (by assumption))))))
            (first | (go_at_call 11; refine (release_at HE.out HOK1.out hcap ⟨hw0, hw1⟩ hqb _).mono ?_; rintro e w2 ⟨rfl, hb2⟩; have hb3 : Below (wr.alloc (gO 0 0 0 0 0 0 false)).drew.heap.size (wr.alloc (gO 0 0 0 0 0 0 false)).drew w2 := (by with_reducible assumption); have X : w2.heap[wr.heap.size]? = some (gO 0 0 0 0 0 0 false) := heap_below_keep hb3 (show (wr.alloc (gO 0 0 0 0 0 0 false)).drew.heap[wr.heap.size]? = some (gO 0 0 0 0 0 0 false) from heap_alloc_new wr (gO 0 0 0 0 0 0 false)); have d0 := cell_of_block (i := 0) X rfl; have f0 := free_of_block (i := 0) X; have d1 := cell_of_block (i := 1) X rfl; have f1 := free_of_block (i := 1) X; have d2 := cell_of_block (i := 2) X rfl; have f2 := free_of_block (i := 2) X; have d3 := cell_of_block (i := 3) X rfl; have f3 := free_of_block (i := 3) X; have d4 := cell_of_block (i := 4) X rfl; have f4 := free_of_block (i := 4) X; have d5 := cell_of_block (i := 5) X rfl; have f5 := free_of_block (i := 5) X; have d6 := cell_of_block (i := 6) X rfl; have f6 := free_of_block (i := 6) X; have lx := lt_of_block X; have HX := Lib.hid X; clear X) | (go_at_call 11; refine (release_at HE.out HOK1.out hcap ⟨hw0, hw1⟩ hqb _).mono ?_; rintro e w2 ⟨rfl, hb2⟩))
          all_goals go_wp2_with fail
          all_goals go_meet
          all_goals (case rel =>
            refine ⟨by with_reducible rfl, by with_reducible rfl, ?_⟩
            first
            | exact ⟨wr.heap.size, by with_reducible rfl, Nat.le_refl _, by with_reducible exact set7 HX.out, by with_reducible exact And.left (by assumption)⟩
            | exact ⟨w2.heap.size, by with_reducible rfl, hb2.size, by with_reducible exact heap_alloc_new w2 _, by with_reducible exact And.left (by assumption)⟩)
        · have HE := Lib.hid (show IntKind.i64.wrap (u3.tmod 4) = q by rw [← HQ.out, if_neg hc])
          go_region_held3 (fun w' => Below wr.heap.size wr w' ∧ w'.cell? ⟨w1.heap.size, 0, none⟩ = some (.int .i64 R) ∧ w'.cell? ⟨w1.heap.size, 1, none⟩ = some (.int .i64 B) ∧ w'.cell? ⟨w1.heap.size, 2, none⟩ = some (.int .i64 T1) ∧ w'.cell? ⟨w1.heap.size, 3, none⟩ = some (.int .i64 L1) ∧ w'.cell? ⟨w1.heap.size, 4, none⟩ = some (.int .i64 C) ∧ w'.cell? ⟨w1.heap.size, 5, none⟩ = some (.int .i64 W1) ∧ w'.cell? ⟨w1.heap.size, 6, none⟩ = some (.bool E) ∧ w'.cell? ⟨sb, so + k * 4 + 3, none⟩ = some (.int .u8 u3))
            ((refine HK.out _ ?_; repeat (first | (with_reducible assumption) | (with_reducible refine balloc ?_ _) | (with_reducible refine bdrew ?_) | (with_reducible exact Below.refl _ _) | (with_reducible refine bset ?_ (by first | exact Nat.le_refl _ | omega | (simp; done) | (simp; omega)) _) | (with_reducible refine bstep ?_ (by assumption)) | (with_reducible exact (And.left (by assumption))))))
            (first | (go_at_call 11; refine (release_at HE.out HOK1.out hcap ⟨hw0, hw1⟩ hqb _).mono ?_; rintro e w2 ⟨rfl, hb2⟩; have hb3 : Below (wr.alloc (gO 0 0 0 0 0 0 false)).drew.heap.size (wr.alloc (gO 0 0 0 0 0 0 false)).drew w2 := (by with_reducible assumption); have X : w2.heap[wr.heap.size]? = some (gO 0 0 0 0 0 0 false) := heap_below_keep hb3 (show (wr.alloc (gO 0 0 0 0 0 0 false)).drew.heap[wr.heap.size]? = some (gO 0 0 0 0 0 0 false) from heap_alloc_new wr (gO 0 0 0 0 0 0 false)); have d0 := cell_of_block (i := 0) X rfl; have f0 := free_of_block (i := 0) X; have d1 := cell_of_block (i := 1) X rfl; have f1 := free_of_block (i := 1) X; have d2 := cell_of_block (i := 2) X rfl; have f2 := free_of_block (i := 2) X; have d3 := cell_of_block (i := 3) X rfl; have f3 := free_of_block (i := 3) X; have d4 := cell_of_block (i := 4) X rfl; have f4 := free_of_block (i := 4) X; have d5 := cell_of_block (i := 5) X rfl; have f5 := free_of_block (i := 5) X; have d6 := cell_of_block (i := 6) X rfl; have f6 := free_of_block (i := 6) X; have lx := lt_of_block X; have HX := Lib.hid X; clear X) | (go_at_call 11; refine (release_at HE.out HOK1.out hcap ⟨hw0, hw1⟩ hqb _).mono ?_; rintro e w2 ⟨rfl, hb2⟩))
          all_goals go_wp2_with fail
          all_goals go_meet
          all_goals (case rel =>
            refine ⟨by with_reducible rfl, by with_reducible rfl, ?_⟩
            first
            | exact ⟨wr.heap.size, by with_reducible rfl, Nat.le_refl _, by with_reducible exact set7 HX.out, by with_reducible exact And.left (by assumption)⟩
            | exact ⟨w2.heap.size, by with_reducible rfl, hb2.size, by with_reducible exact heap_alloc_new w2 _, by with_reducible exact And.left (by assumption)⟩)
      case rest =>
        rename World => wd
        obtain ⟨rfl, rfl, b1, rfl, hb1, hX1, hBc⟩ := hcut
        have x0 := cell_of_block (i := 0) hX1 rfl
        have x1 := cell_of_block (i := 1) hX1 rfl
        have x2 := cell_of_block (i := 2) hX1 rfl
        have x3 := cell_of_block (i := 3) hX1 rfl
        have x4 := cell_of_block (i := 4) hX1 rfl
        have x5 := cell_of_block (i := 5) hX1 rfl
        have x6 := cell_of_block (i := 6) hX1 rfl
        have lb1 := lt_of_block hX1
        have y1 := (hBc.cell (p := ⟨sb, so + k * 4 + 1, none⟩) hsb').trans e1
        have y2 := (hBc.cell (p := ⟨sb, so + k * 4 + 2, none⟩) hsb').trans e2
        have hszc := hBc.size
        have hsbc : sb < wd.heap.size := by omega
        have HBC := Lib.hid hBc
        have HOBC := Lib.hid (heap_below_keep hBc HOB1.out)
        have hwn : IntKind.i64.wrap (u1.tmod 8) = u1 % 8 := by
          rw [Int.tmod_eq_emod_of_nonneg (by omega)]
          unfold IntKind.wrap
          simp [IntKind.bits, IntKind.signed]
          omega
        have hwk : IntKind.i64.wrap (u2.tmod 4) = u2 % 4 := by
          rw [Int.tmod_eq_emod_of_nonneg (by omega)]
          unfold IntKind.wrap
          simp [IntKind.bits, IntKind.signed]
          omega
        obtain ⟨A, S2, L2, W2, d, hans, hcall⟩ := ask_det (W := W1 - q) (t := t2) (n := IntKind.i64.wrap (u1.tmod 8)) (k := IntKind.i64.wrap (u2.tmod 4)) HOK1.out hcap ⟨by omega, by omega⟩ (by omega) ht2b.2 (by rw [hwn]; omega) (by rw [hwk]; omega) (E := E)
        rw [hwn, hwk] at hans
        have HANS := Lib.hid hans
        have hw2 : 0 ≤ W2 ∧ W2 ≤ C := by
          rcases hans with ⟨-, -, h1, -, -, rfl⟩ | ⟨-, -, -, rfl⟩ <;> omega
        clear hwn hwk hans hX1 hBc g0 g1 g2 g3 g4 g5 g6 e0 e1 e2 e3
        go_upto_region 11 with (fail)
        go_cut [12, 13, 14] from 24 to 113 (fun p v e wx => e = .int .i64 0 ∧ ∃ b c, p = .pointer (some ⟨b, 0, none⟩) ∧ v = .pointer (some ⟨c, 0, none⟩) ∧ wd.heap.size ≤ b ∧ wx.heap[b]? = some (gO R B S2 L2 C W2 E) ∧ wx.heap[c]? = some (.cells #[.bool A, .int .i64 d] 28 (0, 0)) ∧ Below wd.heap.size wd wx)
        case first =>
          have K : ∀ w', Below wd.heap.size wd w' → (fun w' => Below wd.heap.size wd w' ∧ w'.cell? ⟨b1, 0, none⟩ = some (.int .i64 R) ∧ w'.cell? ⟨b1, 1, none⟩ = some (.int .i64 B) ∧ w'.cell? ⟨b1, 2, none⟩ = some (.int .i64 T1) ∧ w'.cell? ⟨b1, 3, none⟩ = some (.int .i64 L1) ∧ w'.cell? ⟨b1, 4, none⟩ = some (.int .i64 C) ∧ w'.cell? ⟨b1, 5, none⟩ = some (.int .i64 (W1 - q)) ∧ w'.cell? ⟨b1, 6, none⟩ = some (.bool E) ∧ w'.cell? ⟨sb, so + k * 4 + 1, none⟩ = some (.int .u8 u1) ∧ w'.cell? ⟨sb, so + k * 4 + 2, none⟩ = some (.int .u8 u2)) w' := fun w' hB => ⟨hB, (hB.cell (p := ⟨b1, 0, none⟩) lb1).trans x0, (hB.cell (p := ⟨b1, 1, none⟩) lb1).trans x1, (hB.cell (p := ⟨b1, 2, none⟩) lb1).trans x2, (hB.cell (p := ⟨b1, 3, none⟩) lb1).trans x3, (hB.cell (p := ⟨b1, 4, none⟩) lb1).trans x4, (hB.cell (p := ⟨b1, 5, none⟩) lb1).trans x5, (hB.cell (p := ⟨b1, 6, none⟩) lb1).trans x6, (hB.cell (p := ⟨sb, so + k * 4 + 1, none⟩) hsbc).trans y1, (hB.cell (p := ⟨sb, so + k * 4 + 2, none⟩) hsbc).trans y2⟩
          have HK := Lib.hid K
          clear K
          go_region_held3 (fun w' => Below wd.heap.size wd w' ∧ w'.cell? ⟨b1, 0, none⟩ = some (.int .i64 R) ∧ w'.cell? ⟨b1, 1, none⟩ = some (.int .i64 B) ∧ w'.cell? ⟨b1, 2, none⟩ = some (.int .i64 T1) ∧ w'.cell? ⟨b1, 3, none⟩ = some (.int .i64 L1) ∧ w'.cell? ⟨b1, 4, none⟩ = some (.int .i64 C) ∧ w'.cell? ⟨b1, 5, none⟩ = some (.int .i64 (W1 - q)) ∧ w'.cell? ⟨b1, 6, none⟩ = some (.bool E) ∧ w'.cell? ⟨sb, so + k * 4 + 1, none⟩ = some (.int .u8 u1) ∧ w'.cell? ⟨sb, so + k * 4 + 2, none⟩ = some (.int .u8 u2))
            ((refine HK.out _ ?_; repeat (first | (with_reducible assumption) | (with_reducible refine balloc ?_ _) | (with_reducible refine bdrew ?_) | (with_reducible exact Below.refl _ _) | (with_reducible refine bset ?_ (by first | exact Nat.le_refl _ | omega | (simp; done) | (simp; omega)) _) | (with_reducible refine bstep ?_ (by assumption)) | (with_reducible exact (And.left (by assumption))))))
            (first | (go_at_call 9; refine (hcall _).mono ?_; rintro e w2 ⟨rfl, hb2⟩; have hb3 : Below ((wd.alloc (gO 0 0 0 0 0 0 false)).alloc (.cells #[.bool false, .int .i64 0] 28)).drew.heap.size ((wd.alloc (gO 0 0 0 0 0 0 false)).alloc (.cells #[.bool false, .int .i64 0] 28)).drew w2 := (by with_reducible assumption); have X : w2.heap[wd.heap.size]? = some (gO 0 0 0 0 0 0 false) := heap_below_keep hb3 (show ((wd.alloc (gO 0 0 0 0 0 0 false)).alloc (.cells #[.bool false, .int .i64 0] 28)).drew.heap[wd.heap.size]? = some (gO 0 0 0 0 0 0 false) from heap_alloc_keep (heap_alloc_new wd (gO 0 0 0 0 0 0 false))); have d0 := cell_of_block (i := 0) X rfl; have df0 := free_of_block (i := 0) X; have d1 := cell_of_block (i := 1) X rfl; have df1 := free_of_block (i := 1) X; have d2 := cell_of_block (i := 2) X rfl; have df2 := free_of_block (i := 2) X; have d3 := cell_of_block (i := 3) X rfl; have df3 := free_of_block (i := 3) X; have d4 := cell_of_block (i := 4) X rfl; have df4 := free_of_block (i := 4) X; have d5 := cell_of_block (i := 5) X rfl; have df5 := free_of_block (i := 5) X; have d6 := cell_of_block (i := 6) X rfl; have df6 := free_of_block (i := 6) X; have lx := lt_of_block X; have HX := Lib.hid X; clear X; have Y : w2.heap[wd.heap.size + 1]? = some (.cells #[.bool false, .int .i64 0] 28) := heap_below_keep hb3 (show ((wd.alloc (gO 0 0 0 0 0 0 false)).alloc (.cells #[.bool false, .int .i64 0] 28)).drew.heap[wd.heap.size + 1]? = some (.cells #[.bool false, .int .i64 0] 28) from by have h := heap_alloc_new (wd.alloc (gO 0 0 0 0 0 0 false)) (.cells #[.bool false, .int .i64 0] 28); rw [show (wd.alloc (gO 0 0 0 0 0 0 false)).heap.size = wd.heap.size + 1 by simp] at h; exact h); have v0 := cell_of_block (i := 0) Y rfl; have vf0 := free_of_block (i := 0) Y; have v1 := cell_of_block (i := 1) Y rfl; have vf1 := free_of_block (i := 1) Y; have ly := lt_of_block Y; have HY := Lib.hid Y; clear Y) | (go_at_call 9; refine (hcall _).mono ?_; rintro e w2 ⟨rfl, hb2⟩; have hb3 : Below ((wd.alloc (.cells #[.bool false, .int .i64 0] 28)).alloc (gO 0 0 0 0 0 0 false)).drew.heap.size ((wd.alloc (.cells #[.bool false, .int .i64 0] 28)).alloc (gO 0 0 0 0 0 0 false)).drew w2 := (by with_reducible assumption); have X : w2.heap[wd.heap.size + 1]? = some (gO 0 0 0 0 0 0 false) := heap_below_keep hb3 (show ((wd.alloc (.cells #[.bool false, .int .i64 0] 28)).alloc (gO 0 0 0 0 0 0 false)).drew.heap[wd.heap.size + 1]? = some (gO 0 0 0 0 0 0 false) from by have h := heap_alloc_new (wd.alloc (.cells #[.bool false, .int .i64 0] 28)) (gO 0 0 0 0 0 0 false); rw [show (wd.alloc (.cells #[.bool false, .int .i64 0] 28)).heap.size = wd.heap.size + 1 by simp] at h; exact h); have d0 := cell_of_block (i := 0) X rfl; have df0 := free_of_block (i := 0) X; have d1 := cell_of_block (i := 1) X rfl; have df1 := free_of_block (i := 1) X; have d2 := cell_of_block (i := 2) X rfl; have df2 := free_of_block (i := 2) X; have d3 := cell_of_block (i := 3) X rfl; have df3 := free_of_block (i := 3) X; have d4 := cell_of_block (i := 4) X rfl; have df4 := free_of_block (i := 4) X; have d5 := cell_of_block (i := 5) X rfl; have df5 := free_of_block (i := 5) X; have d6 := cell_of_block (i := 6) X rfl; have df6 := free_of_block (i := 6) X; have lx := lt_of_block X; have HX := Lib.hid X; clear X; have Y : w2.heap[wd.heap.size]? = some (.cells #[.bool false, .int .i64 0] 28) := heap_below_keep hb3 (show ((wd.alloc (.cells #[.bool false, .int .i64 0] 28)).alloc (gO 0 0 0 0 0 0 false)).drew.heap[wd.heap.size]? = some (.cells #[.bool false, .int .i64 0] 28) from heap_alloc_keep (heap_alloc_new wd (.cells #[.bool false, .int .i64 0] 28))); have v0 := cell_of_block (i := 0) Y rfl; have vf0 := free_of_block (i := 0) Y; have v1 := cell_of_block (i := 1) Y rfl; have vf1 := free_of_block (i := 1) Y; have ly := lt_of_block Y; have HY := Lib.hid Y; clear Y) | (go_at_call 9; refine (hcall _).mono ?_; rintro e w2 ⟨rfl, hb2⟩; have hb3 : Below (wd.alloc (gO 0 0 0 0 0 0 false)).drew.heap.size (wd.alloc (gO 0 0 0 0 0 0 false)).drew w2 := (by with_reducible assumption); have X : w2.heap[wd.heap.size]? = some (gO 0 0 0 0 0 0 false) := heap_below_keep hb3 (show (wd.alloc (gO 0 0 0 0 0 0 false)).drew.heap[wd.heap.size]? = some (gO 0 0 0 0 0 0 false) from heap_alloc_new wd (gO 0 0 0 0 0 0 false)); have d0 := cell_of_block (i := 0) X rfl; have df0 := free_of_block (i := 0) X; have d1 := cell_of_block (i := 1) X rfl; have df1 := free_of_block (i := 1) X; have d2 := cell_of_block (i := 2) X rfl; have df2 := free_of_block (i := 2) X; have d3 := cell_of_block (i := 3) X rfl; have df3 := free_of_block (i := 3) X; have d4 := cell_of_block (i := 4) X rfl; have df4 := free_of_block (i := 4) X; have d5 := cell_of_block (i := 5) X rfl; have df5 := free_of_block (i := 5) X; have d6 := cell_of_block (i := 6) X rfl; have df6 := free_of_block (i := 6) X; have lx := lt_of_block X; have HX := Lib.hid X; clear X) | (go_at_call 9; refine (hcall _).mono ?_; rintro e w2 ⟨rfl, hb2⟩; have hb3 : Below (wd.alloc (.cells #[.bool false, .int .i64 0] 28)).drew.heap.size (wd.alloc (.cells #[.bool false, .int .i64 0] 28)).drew w2 := (by with_reducible assumption); have Y : w2.heap[wd.heap.size]? = some (.cells #[.bool false, .int .i64 0] 28) := heap_below_keep hb3 (show (wd.alloc (.cells #[.bool false, .int .i64 0] 28)).drew.heap[wd.heap.size]? = some (.cells #[.bool false, .int .i64 0] 28) from heap_alloc_new wd (.cells #[.bool false, .int .i64 0] 28)); have v0 := cell_of_block (i := 0) Y rfl; have vf0 := free_of_block (i := 0) Y; have v1 := cell_of_block (i := 1) Y rfl; have vf1 := free_of_block (i := 1) Y; have ly := lt_of_block Y; have HY := Lib.hid Y; clear Y) | (go_at_call 9; refine (hcall _).mono ?_; rintro e w2 ⟨rfl, hb2⟩))
          all_goals go_wp2_with fail
          all_goals go_meet
          all_goals (case rel =>
            refine ⟨by with_reducible rfl, ?_⟩
            first
            | exact ⟨w2.heap.size, w2.heap.size + 1, by with_reducible rfl, by with_reducible rfl, by (have := hb2.size; simp at this; omega), by with_reducible exact heap_alloc_keep (heap_alloc_new w2 _), by with_reducible exact alloc_at (by simp), by with_reducible exact And.left (by assumption)⟩
            | exact ⟨w2.heap.size + 1, w2.heap.size, by with_reducible rfl, by with_reducible rfl, by (have := hb2.size; simp at this; omega), by with_reducible exact alloc_at (by simp), by with_reducible exact heap_alloc_keep (heap_alloc_new w2 _), by with_reducible exact And.left (by assumption)⟩
            | exact ⟨wd.heap.size, w2.heap.size, by with_reducible rfl, by with_reducible rfl, Nat.le_refl _, by with_reducible exact heap_alloc_keep (set7 HX.out), by with_reducible exact alloc_at (by simp), by with_reducible exact And.left (by assumption)⟩
            | exact ⟨w2.heap.size, wd.heap.size, by with_reducible rfl, by with_reducible rfl, by (have := hb2.size; simp at this; omega), by with_reducible exact alloc_at (by simp), by with_reducible exact heap_alloc_keep (set2 HY.out), by with_reducible exact And.left (by assumption)⟩
            | exact ⟨wd.heap.size, wd.heap.size + 1, by with_reducible rfl, by with_reducible rfl, Nat.le_refl _, by with_reducible exact set2_ne (by omega) (set7 HX.out), by with_reducible exact set2 (set7_ne (by omega) HY.out), by with_reducible exact And.left (by assumption)⟩
            | exact ⟨wd.heap.size + 1, wd.heap.size, by with_reducible rfl, by with_reducible rfl, by omega, by with_reducible exact set2_ne (by omega) (set7 HX.out), by with_reducible exact set2 (set7_ne (by omega) HY.out), by with_reducible exact And.left (by assumption)⟩)
        case rest =>
          obtain ⟨rfl, b2, c2, rfl, rfl, hb2', hXg, hXv, hB2⟩ := hcut
          have hb2l := lt_of_block hXg
          have HOBW := Lib.hid (heap_below_keep hB2 HOBC.out)
          have o0 := free_of_block (i := 0) HOBW.out
          have o1 := free_of_block (i := 1) HOBW.out
          have o2 := free_of_block (i := 2) HOBW.out
          have o3 := free_of_block (i := 3) HOBW.out
          have o4 := free_of_block (i := 4) HOBW.out
          have o5 := free_of_block (i := 5) HOBW.out
          have o6 := free_of_block (i := 6) HOBW.out
          have p0 := cell_of_block (i := 0) HOBW.out rfl
          have p1' := cell_of_block (i := 1) HOBW.out rfl
          have p2' := cell_of_block (i := 2) HOBW.out rfl
          have p3' := cell_of_block (i := 3) HOBW.out rfl
          have p4' := cell_of_block (i := 4) HOBW.out rfl
          have p5' := cell_of_block (i := 5) HOBW.out rfl
          have p6' := cell_of_block (i := 6) HOBW.out rfl
          have q0 := cell_of_block (i := 0) hXg rfl
          have q1 := cell_of_block (i := 1) hXg rfl
          have q2 := cell_of_block (i := 2) hXg rfl
          have q3 := cell_of_block (i := 3) hXg rfl
          have q4 := cell_of_block (i := 4) hXg rfl
          have q5 := cell_of_block (i := 5) hXg rfl
          have q6 := cell_of_block (i := 6) hXg rfl
          have v0' := cell_of_block (i := 0) hXv rfl
          have hcv : ¬ c2 = w1.heap.size := by
            intro e
            rw [e, HOBW.out] at hXv
            simp at hXv
          have y1' := (hB2.cell (p := ⟨sb, so + k * 4 + 1, none⟩) hsbc).trans y1
          have hne : ¬ sb = w1.heap.size := by have := hs.lt (by omega); omega
          have hszw := hB2.size
          have HBW := Lib.hid (show Below w.heap.size w wc from (HH.out.below.trans (HBC.out.mono (by have := HH.out.below.size; omega))).trans (hB2.mono (by have := HH.out.below.size; omega)))
          have HT2' := Lib.hid (ownsRow_below (ownsRow_below HT.out HBC.out) hB2)
          have HS2' := Lib.hid (ownsRow_below (ownsRow_below HS.out HBC.out) hB2)
          have hlow : w1.heap.size < wc.heap.size := lt_of_block HOBW.out
          have HXG := Lib.hid hXg
          have hW0 : ¬ W2 < 0 := by omega
          have hW1 : ¬ C < W2 := by omega
          clear hXg hXv hB2 x0 x1 x2 x3 x4 x5 x6 y1 y2 hcall
          have HGW4 := Lib.hid (GW.ask HG.out ht2b.1 ht2b.2 (n := u1 % 8) (by omega) (HANS.out.imp id (fun h => .inr ⟨h.1, h.2.1, h.2.2.1⟩)))
          clear HANS
          cases A
          · go_upto_region 18 with (fail)
            obtain ⟨wq, hwq⟩ : ∃ x, (((((((wc.setCell ⟨w1.heap.size, 0, none⟩ (.int .i64 R)).setCell ⟨w1.heap.size, 1, none⟩ (.int .i64 B)).setCell ⟨w1.heap.size, 2, none⟩ (.int .i64 S2)).setCell ⟨w1.heap.size, 3, none⟩ (.int .i64 L2)).setCell ⟨w1.heap.size, 4, none⟩ (.int .i64 C)).setCell ⟨w1.heap.size, 5, none⟩ (.int .i64 W2)).setCell ⟨w1.heap.size, 6, none⟩ (.bool E)) = x := ⟨_, rfl⟩
            have sq : wq.heap.size = wc.heap.size := by rw [← hwq]; simp
            have hwp : put7 wc w1.heap.size R B S2 L2 C W2 E = wq := hwq
            have HTQ := Lib.hid (hwp ▸ ownsRow_turned HT2'.out (turned7 wc w1.heap.size R B S2 L2 C W2 E) (by intro x hx; simp at hx; omega))
            have HSQ := Lib.hid (hwp ▸ ownsRow_turned HS2'.out (turned7 wc w1.heap.size R B S2 L2 C W2 E) (by intro x hx; simp at hx; omega))
            have HGQ := Lib.hid (show wq.heap[w1.heap.size]? = some (gO R B S2 L2 C W2 E) from hwp ▸ set7 HOBW.out)
            have HBQ := Lib.hid (show Below w.heap.size w wq from hwp ▸ below7 HBW.out hbase R B S2 L2 C W2 E)
            rw [hwq]
            clear hwq hwp o0 o1 o2 o3 o4 o5 o6 p0 p1' p2' p3' p4' p5' p6' q0 q1 q2 q3 q4 q5 q6 v0' y1'
            have hlq : w1.heap.size < wq.heap.size := by omega
            have hzq := HBQ.out.size
            clear sq
            have HTW := Lib.hid (HTQ.out.alloc (.cells #[.int .i64 t2] 2))
            have HSW := Lib.hid (HSQ.out.alloc (.cells #[.int .i64 t2] 2))
            go_wp2_with (at_builtin; refine wpList_append_own_at _ rfl _ _ 57 rfl (w1.heap.size + 1) 2 i0 (.int .i64 0) 1 8 Try.underlying57 hi hz0 hz1 hz2 rfl (by decide) _ _ _ rfl HTW.out ⟨wq.heap.size, 0, none⟩ 1 1 [.int .i64 t2] rfl rfl ?c1 ?c2 ?c3 ?c4 ?c5 ?_)
            try (case c1 => intro j x hj; match j, hj with | 0, hj => simp at hj; subst hj; exact cell_of_block (alloc_at (by simp)) rfl)
            try (case c2 => simp [Value.oneCell'])
            try (case c3 => unfold maxLen; omega)
            try (case c4 => omega)
            try (case c5 => first | omega | (simp; omega))
            intro v' w3 hown3 hgrow3 _ hat3
            have HS3 := Lib.hid ((HSW.out.kept hgrow3 (own_apart hdis)).alloc (.cells #[.int .i64 0] 2))
            have hdis3 := own_apart3 (n := wq.heap.size + 1) (base := w1.heap.size + 1) (fun k h => ⟨(HSW.out.lt k h).1, by have := (HSW.out.lt k h).2; simpa using this⟩) hdis hat3
            have HT3 := Lib.hid (hown3.alloc (.cells #[.int .i64 0] 2))
            have hlt3 := HT3.out.lt
            have HB3 := Lib.hid ((HBQ.out.alloc hzq (.cells #[.int .i64 t2] 2)).grown hgrow3 (by simp; omega) (fun k hk => by have := (HTW.out.lt k hk).1; omega))
            have HG3 := Lib.hid (heap_grown_keep hgrow3 HTW.out (heap_alloc_keep HGQ.out) (by omega))
            have hlg := lt_of_block HG3.out
            have hz3 := HB3.out.size
            clear hown3 hgrow3
            go_wp2_with (at_builtin; refine wpList_append_own_at _ rfl _ _ 57 rfl (w1.heap.size + 1) 2 i0 (.int .i64 0) 1 8 Try.underlying57 hi hz0 hz1 hz2 rfl (by decide) _ _ _ rfl HS3.out ⟨w3.heap.size, 0, none⟩ 1 1 [.int .i64 0] rfl rfl ?d1 ?d2 ?d3 ?d4 ?d5 ?_)
            try (case d1 => intro j x hj; match j, hj with | 0, hj => simp at hj; subst hj; exact cell_of_block (alloc_at (by simp)) rfl)
            try (case d2 => simp [Value.oneCell'])
            try (case d3 => unfold maxLen; omega)
            try (case d4 => omega)
            try (case d5 => first | omega | (simp; omega))
            intro v2 w4 hown4 hgrow4 _ hat4
            have HT4 := Lib.hid (HT3.out.kept hgrow4 hdis3)
            have hdis4 := own_apart4 (n := w3.heap.size + 1) (base := w1.heap.size + 1) (fun k h => ⟨(hlt3 k h).1, by have := (hlt3 k h).2; simpa using this⟩) hdis3 hat4
            have HS4 := Lib.hid hown4
            have HB4 := Lib.hid ((HB3.out.alloc hz3 (.cells #[.int .i64 0] 2)).grown hgrow4 (by simp; omega) (fun k hk => by have := (HS3.out.lt k hk).1; omega))
            have HG4 := Lib.hid (heap_grown_keep hgrow4 HS3.out (heap_alloc_keep HG3.out) (by omega))
            clear hown4 hgrow4
            go_wp2
            go_roundw
            case rel =>
              have hgw4 := HGW4.out
              have hT := HT4.out
              have hS := HS4.out
              rw [show rows ts ++ [Value.int .i64 t2] = rows (ts ++ [t2]) by simp [rows]] at hT
              rw [show rows ns ++ [Value.int .i64 0] = rows (ns ++ [0]) by simp [rows]] at hS
              refine ⟨k + 1, t2, by go_num, rfl, ⟨⟨ts ++ [t2], ns ++ [0], S2, L2, W2, by simp [hlen], by simpa using hgw4, hw2.1, hw2.2, HG4.out, hT, hS, hdis4⟩, HB4.out, hbase, lt_of_block HG4.out, by omega, by omega⟩⟩
            case measure => simp [intOf]; omega
          · go_upto_region 18 with (fail)
            obtain ⟨wq, hwq⟩ : ∃ x, (((((((wc.setCell ⟨w1.heap.size, 0, none⟩ (.int .i64 R)).setCell ⟨w1.heap.size, 1, none⟩ (.int .i64 B)).setCell ⟨w1.heap.size, 2, none⟩ (.int .i64 S2)).setCell ⟨w1.heap.size, 3, none⟩ (.int .i64 L2)).setCell ⟨w1.heap.size, 4, none⟩ (.int .i64 C)).setCell ⟨w1.heap.size, 5, none⟩ (.int .i64 W2)).setCell ⟨w1.heap.size, 6, none⟩ (.bool E)) = x := ⟨_, rfl⟩
            have sq : wq.heap.size = wc.heap.size := by rw [← hwq]; simp
            have hwp : put7 wc w1.heap.size R B S2 L2 C W2 E = wq := hwq
            have HTQ := Lib.hid (hwp ▸ ownsRow_turned HT2'.out (turned7 wc w1.heap.size R B S2 L2 C W2 E) (by intro x hx; simp at hx; omega))
            have HSQ := Lib.hid (hwp ▸ ownsRow_turned HS2'.out (turned7 wc w1.heap.size R B S2 L2 C W2 E) (by intro x hx; simp at hx; omega))
            have HGQ := Lib.hid (show wq.heap[w1.heap.size]? = some (gO R B S2 L2 C W2 E) from hwp ▸ set7 HOBW.out)
            have HBQ := Lib.hid (show Below w.heap.size w wq from hwp ▸ below7 HBW.out hbase R B S2 L2 C W2 E)
            rw [hwq]
            clear hwq hwp o0 o1 o2 o3 o4 o5 o6 p0 p1' p2' p3' p4' p5' p6' q0 q1 q2 q3 q4 q5 q6 v0' y1'
            have hlq : w1.heap.size < wq.heap.size := by omega
            have hzq := HBQ.out.size
            clear sq
            have HTW := Lib.hid (HTQ.out.alloc (.cells #[.int .i64 t2] 2))
            have HSW := Lib.hid (HSQ.out.alloc (.cells #[.int .i64 t2] 2))
            go_wp2_with (at_builtin; refine wpList_append_own_at _ rfl _ _ 57 rfl (w1.heap.size + 1) 2 i0 (.int .i64 0) 1 8 Try.underlying57 hi hz0 hz1 hz2 rfl (by decide) _ _ _ rfl HTW.out ⟨wq.heap.size, 0, none⟩ 1 1 [.int .i64 t2] rfl rfl ?e1 ?e2 ?e3 ?e4 ?e5 ?_)
            try (case e1 => intro j x hj; match j, hj with | 0, hj => simp at hj; subst hj; exact cell_of_block (alloc_at (by simp)) rfl)
            try (case e2 => simp [Value.oneCell'])
            try (case e3 => unfold maxLen; omega)
            try (case e4 => omega)
            try (case e5 => first | omega | (simp; omega))
            intro v' w3 hown3 hgrow3 _ hat3
            have HS3 := Lib.hid ((HSW.out.kept hgrow3 (own_apart hdis)).alloc (.cells #[.int .i64 (u1 % 8)] 2))
            have hdis3 := own_apart3 (n := wq.heap.size + 1) (base := w1.heap.size + 1) (fun k h => ⟨(HSW.out.lt k h).1, by have := (HSW.out.lt k h).2; simpa using this⟩) hdis hat3
            have HT3 := Lib.hid (hown3.alloc (.cells #[.int .i64 (u1 % 8)] 2))
            have hlt3 := HT3.out.lt
            have HB3 := Lib.hid ((HBQ.out.alloc hzq (.cells #[.int .i64 t2] 2)).grown hgrow3 (by simp; omega) (fun k hk => by have := (HTW.out.lt k hk).1; omega))
            have HG3 := Lib.hid (heap_grown_keep hgrow3 HTW.out (heap_alloc_keep HGQ.out) (by omega))
            have hlg := lt_of_block HG3.out
            have hz3 := HB3.out.size
            clear hown3 hgrow3
            go_wp2_with (at_builtin; refine wpList_append_own_at _ rfl _ _ 57 rfl (w1.heap.size + 1) 2 i0 (.int .i64 0) 1 8 Try.underlying57 hi hz0 hz1 hz2 rfl (by decide) _ _ _ rfl HS3.out ⟨w3.heap.size, 0, none⟩ 1 1 [.int .i64 (u1 % 8)] rfl rfl ?f1 ?f2 ?f3 ?f4 ?f5 ?_)
            try (case f1 => intro j x hj; match j, hj with | 0, hj => simp at hj; subst hj; exact cell_of_block (alloc_at (by simp)) rfl)
            try (case f2 => simp [Value.oneCell'])
            try (case f3 => unfold maxLen; omega)
            try (case f4 => omega)
            try (case f5 => first | omega | (simp; omega))
            intro v2 w4 hown4 hgrow4 _ hat4
            have HT4 := Lib.hid (HT3.out.kept hgrow4 hdis3)
            have hdis4 := own_apart4 (n := w3.heap.size + 1) (base := w1.heap.size + 1) (fun k h => ⟨(hlt3 k h).1, by have := (hlt3 k h).2; simpa using this⟩) hdis3 hat4
            have HS4 := Lib.hid hown4
            have HB4 := Lib.hid ((HB3.out.alloc hz3 (.cells #[.int .i64 (u1 % 8)] 2)).grown hgrow4 (by simp; omega) (fun k hk => by have := (HS3.out.lt k hk).1; omega))
            have HG4 := Lib.hid (heap_grown_keep hgrow4 HS3.out (heap_alloc_keep HG3.out) (by omega))
            clear hown4 hgrow4
            go_wp2
            go_roundw
            case rel =>
              have hgw4 := HGW4.out
              have hT := HT4.out
              have hS := HS4.out
              rw [show rows ts ++ [Value.int .i64 t2] = rows (ts ++ [t2]) by simp [rows]] at hT
              rw [show rows ns ++ [Value.int .i64 (u1 % 8)] = rows (ns ++ [(u1 % 8)]) by simp [rows]] at hS
              refine ⟨k + 1, t2, by go_num, rfl, ⟨⟨ts ++ [t2], ns ++ [(u1 % 8)], S2, L2, W2, by simp [hlen], by simpa using hgw4, hw2.1, hw2.2, HG4.out, hT, hS, hdis4⟩, HB4.out, hbase, lt_of_block HG4.out, by omega, by omega⟩⟩
            case measure => simp [intOf]; omega
    · obtain rfl : ts.length = k := hlen
      obtain ⟨qa, ga, ca, rfl, hta, hca⟩ := row_ints hot
      have hos' := hos
      rw [← hgw.len] at hos'
      obtain ⟨qb, gb, cb, rfl, htb, hcb⟩ := row_ints hos'
      have HG := Lib.hid hgw
      have HOBA := Lib.hid hob
      have HLE := Lib.hid hgw.len
      have HH := Lib.hid H.below
      have hfew := H.few
      have hln := H.le
      have HTA := Lib.hid hta
      have HCA := Lib.hid hca
      have HTB := Lib.hid htb
      have HCB := Lib.hid hcb
      obtain ⟨p1, p2, p3, p4, p5, p6, p7, p8⟩ := okB_iff hgw.ok
      have hl0 : 0 ≤ ts.length := Nat.zero_le _
      have hcase : (ts.length < xs.length ∧ ¬ (ts.length : Int) < 24) ∨ ¬ ts.length < xs.length := by omega
      clear hot hos hos' hgw hob H hdis hta hca htb hcb
      rename World => wa
      rcases hcase with ⟨hl1, hl2⟩ | hl1
      · have z1 : (ts.length : Int) < (xs.length : Int) := by omega
        clear hlt
        go_wp2_with fail
        go_loopw [16] (fun i wx => ∃ I : Nat, i = .int .i64 I ∧ I ≤ ts.length ∧ Below wa.heap.size wa wx) (fun i _ => ts.length - (intOf i).toNat)
        case atStart => exact ⟨0, rfl, by omega, Below.refl _ _⟩
        case round =>
          obtain ⟨I, rfl, hI, hbi⟩ := hrel
          by_cases hltI : I < ts.length
          · have y0 : (0 : Int) ≤ (I : Int) := by omega
            have y1 : (I : Int) < (ts.length : Int) := by omega
            have HBI := Lib.hid hbi
            clear hbi
            go_wp2_with fail
            go_loopw [17, 18] (fun sm k wx => ∃ K : Nat, k = .int .i64 K ∧ I ≤ K ∧ K ≤ ts.length ∧ sm = .int .i64 (winN ns I K) ∧ Below wa.heap.size wa wx) (fun _ k _ => ts.length - (intOf k).toNat)
            case atStart => exact ⟨I, rfl, Nat.le_refl _, by omega, by rw [winN_zero (Nat.le_refl _)], HBI.out⟩
            case round =>
              obtain ⟨K, rfl, k1, k2, rfl, hbk⟩ := hrel
              by_cases hK : K < ts.length
              · have hKn : K < ns.length := by have := HLE.out; omega
                obtain ⟨rfl, hga⟩ := HTA.out (by omega)
                obtain ⟨rfl, hgb⟩ := HTB.out (by omega)
                have x1 := (hbk.cell (p := ⟨ga, K, none⟩) hga).trans (HCA.out K hK)
                have x2 := (hbk.cell (p := ⟨ga, I, none⟩) hga).trans (HCA.out I hltI)
                have x3 := (hbk.cell (p := ⟨gb, K, none⟩) hgb).trans (HCB.out K hKn)
                have hob3 := heap_below_keep hbk HOBA.out
                have c0 := cell_of_block (i := 0) hob3 rfl
                have c1 := cell_of_block (i := 1) hob3 rfl
                have eS := winN_next (ns := ns) (i := I) k1 hKn
                have f1 := winN_small HG.out I K
                have f2 := winN_small HG.out I (K + 1)
                have hle := HG.out.le k1 hK (by omega)
                have hpK := HG.out.past K hK
                have hpI := HG.out.past I hltI
                have hti := (HG.out.win I K k1 hK).2
                have ht62 := HG.out.hi
                rw [getD_get hK] at hle hpK hti
                rw [getD_get hltI] at hle hpI hti
                have y2 : (0 : Int) ≤ (K : Int) := by omega
                have y3 : (K : Int) < (ts.length : Int) := by omega
                have y4 : (K : Int) < (ns.length : Int) := by omega
                have HMK := Lib.hid (show okB R B B (ts[K] - ts[I]) = true from okB_true (by omega))
                have HBK := Lib.hid hbk
                have HES := Lib.hid eS
                rw [eS] at hle f2
                clear hob3 hbk eS
                obtain ⟨M, hM⟩ : ∃ M, gM B R (ts[K] - ts[I]) 9223372036854775807 = M := ⟨_, rfl⟩
                rw [hM] at hle
                have HM := Lib.hid hM
                clear hM
                have hMs : ∀ w : World, Calls Try.prog 20 #[.int .i64 R, .int .i64 B, .int .i64 (ts[K] - ts[I])] w fun e w' => e = .returned (.int .i64 M) ∧ w' = w := fun w => by
                  have := most_same R B _ HMK.out w
                  rw [HM.out] at this
                  exact this
                have HMS := Lib.hid hMs
                clear hMs
                generalize ts[K] = tK at *
                generalize ts[I] = tI at *
                generalize ns[K] = nK at *
                generalize hS1 : winN ns I K = S1 at *
                go_wp2_with fail
                go_quiet ((go_at_call 20; exact Calls.quiet_of_same (HMS.out _)))
                go_wp2
                go_roundw
                case rel => exact ⟨K + 1, by go_num, by omega, by omega, by rw [HES.out], bdrewN HBK.out _⟩
                case measure => simp [intOf]; omega
              · obtain rfl : K = ts.length := by omega
                have y3 : ¬ (ts.length : Int) < (ts.length : Int) := by omega
                have HBK := Lib.hid hbk
                clear hbk
                go_wp2
                go_roundw
                case rel => exact ⟨I + 1, by go_num, by omega, HBK.out⟩
                case measure => simp [intOf]; omega
          · obtain rfl : I = ts.length := by omega
            have HBI := Lib.hid hbi
            clear hbi
            go_wp2_with fail
            refine (lives_any _).mono ?_
            rintro e w5 ⟨rfl, hb5⟩
            go_wp2
            go_ret
            exact ⟨rfl, bstep (HH.out.trans (HBI.out.mono HH.out.size)) hb5⟩
      · have z1 : ¬ (ts.length : Int) < (xs.length : Int) := by omega
        clear hlt
        go_wp2_with fail
        go_loopw [16] (fun i wx => ∃ I : Nat, i = .int .i64 I ∧ I ≤ ts.length ∧ Below wa.heap.size wa wx) (fun i _ => ts.length - (intOf i).toNat)
        case atStart => exact ⟨0, rfl, by omega, Below.refl _ _⟩
        case round =>
          obtain ⟨I, rfl, hI, hbi⟩ := hrel
          by_cases hltI : I < ts.length
          · have y0 : (0 : Int) ≤ (I : Int) := by omega
            have y1 : (I : Int) < (ts.length : Int) := by omega
            have HBI := Lib.hid hbi
            clear hbi
            go_wp2_with fail
            go_loopw [17, 18] (fun sm k wx => ∃ K : Nat, k = .int .i64 K ∧ I ≤ K ∧ K ≤ ts.length ∧ sm = .int .i64 (winN ns I K) ∧ Below wa.heap.size wa wx) (fun _ k _ => ts.length - (intOf k).toNat)
            case atStart => exact ⟨I, rfl, Nat.le_refl _, by omega, by rw [winN_zero (Nat.le_refl _)], HBI.out⟩
            case round =>
              obtain ⟨K, rfl, k1, k2, rfl, hbk⟩ := hrel
              by_cases hK : K < ts.length
              · have hKn : K < ns.length := by have := HLE.out; omega
                obtain ⟨rfl, hga⟩ := HTA.out (by omega)
                obtain ⟨rfl, hgb⟩ := HTB.out (by omega)
                have x1 := (hbk.cell (p := ⟨ga, K, none⟩) hga).trans (HCA.out K hK)
                have x2 := (hbk.cell (p := ⟨ga, I, none⟩) hga).trans (HCA.out I hltI)
                have x3 := (hbk.cell (p := ⟨gb, K, none⟩) hgb).trans (HCB.out K hKn)
                have hob3 := heap_below_keep hbk HOBA.out
                have c0 := cell_of_block (i := 0) hob3 rfl
                have c1 := cell_of_block (i := 1) hob3 rfl
                have eS := winN_next (ns := ns) (i := I) k1 hKn
                have f1 := winN_small HG.out I K
                have f2 := winN_small HG.out I (K + 1)
                have hle := HG.out.le k1 hK (by omega)
                have hpK := HG.out.past K hK
                have hpI := HG.out.past I hltI
                have hti := (HG.out.win I K k1 hK).2
                have ht62 := HG.out.hi
                rw [getD_get hK] at hle hpK hti
                rw [getD_get hltI] at hle hpI hti
                have y2 : (0 : Int) ≤ (K : Int) := by omega
                have y3 : (K : Int) < (ts.length : Int) := by omega
                have y4 : (K : Int) < (ns.length : Int) := by omega
                have HMK := Lib.hid (show okB R B B (ts[K] - ts[I]) = true from okB_true (by omega))
                have HBK := Lib.hid hbk
                have HES := Lib.hid eS
                rw [eS] at hle f2
                clear hob3 hbk eS
                obtain ⟨M, hM⟩ : ∃ M, gM B R (ts[K] - ts[I]) 9223372036854775807 = M := ⟨_, rfl⟩
                rw [hM] at hle
                have HM := Lib.hid hM
                clear hM
                have hMs : ∀ w : World, Calls Try.prog 20 #[.int .i64 R, .int .i64 B, .int .i64 (ts[K] - ts[I])] w fun e w' => e = .returned (.int .i64 M) ∧ w' = w := fun w => by
                  have := most_same R B _ HMK.out w
                  rw [HM.out] at this
                  exact this
                have HMS := Lib.hid hMs
                clear hMs
                generalize ts[K] = tK at *
                generalize ts[I] = tI at *
                generalize ns[K] = nK at *
                generalize hS1 : winN ns I K = S1 at *
                go_wp2_with fail
                go_quiet ((go_at_call 20; exact Calls.quiet_of_same (HMS.out _)))
                go_wp2
                go_roundw
                case rel => exact ⟨K + 1, by go_num, by omega, by omega, by rw [HES.out], bdrewN HBK.out _⟩
                case measure => simp [intOf]; omega
              · obtain rfl : K = ts.length := by omega
                have y3 : ¬ (ts.length : Int) < (ts.length : Int) := by omega
                have HBK := Lib.hid hbk
                clear hbk
                go_wp2
                go_roundw
                case rel => exact ⟨I + 1, by go_num, by omega, HBK.out⟩
                case measure => simp [intOf]; omega
          · obtain rfl : I = ts.length := by omega
            have HBI := Lib.hid hbi
            clear hbi
            go_wp2_with fail
            refine (lives_any _).mono ?_
            rintro e w5 ⟨rfl, hb5⟩
            go_wp2
            go_ret
            exact ⟨rfl, bstep (HH.out.trans (HBI.out.mono HH.out.size)) hb5⟩
end Go.Proofs.Ytnogbjpiocckiaa
