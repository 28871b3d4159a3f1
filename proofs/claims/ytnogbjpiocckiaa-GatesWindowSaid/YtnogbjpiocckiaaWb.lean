/-
  GatesWindow: what the gates' functions answer, in numbers.
-/
import Derived.Test.YtnogbjpiocckiaaLs
import Derived.Test.YtnogbjpiocckiaaWa
namespace Go.Proofs.Ytnogbjpiocckiaa
open Go.Proofs.Ytnogbjpiocckiaa.Vx Go.RowKit
set_option maxRecDepth 100000
set_option linter.unusedVariables false
set_option linter.unusedSimpArgs false
def capG (c : Int) : Int := 1 + c.tmod 64
def waitG (c w : Int) : Int := w.tmod (1 + c.tmod 64 + 1)
theorem capG_bnd {c : Int} (h : 0 ≤ c) : 1 ≤ capG c ∧ capG c ≤ 64 := by
  have m1 : 0 ≤ c.tmod 64 := Int.tmod_nonneg _ h
  have m2 : c.tmod 64 < 64 := Int.tmod_lt_of_pos _ (by omega)
  unfold capG; omega
theorem waitG_bnd {c w : Int} (h : 0 ≤ c) (hw : 0 ≤ w) : 0 ≤ waitG c w ∧ waitG c w ≤ capG c := by
  have m1 : 0 ≤ c.tmod 64 := Int.tmod_nonneg _ h
  have m3 : 0 ≤ w.tmod (1 + c.tmod 64 + 1) := Int.tmod_nonneg _ hw
  have m4 : w.tmod (1 + c.tmod 64 + 1) < 1 + c.tmod 64 + 1 := Int.tmod_lt_of_pos _ (by omega)
  unfold capG waitG; omega
abbrev gV (R B T L C W : Int) (E : Bool) : Value := .agg #[.int .i64 R, .int .i64 B, .int .i64 T, .int .i64 L, .int .i64 C, .int .i64 W, .bool E]
abbrev gIn (r b t l g c w : Int) (E : Bool) : Value := .agg #[.int .u8 r, .int .u8 b, .int .u8 t, .int .u16 l, .int .u8 g, .int .u8 c, .int .u8 w, .bool E]
theorem ofG_any {r b t l g c w : Int} {E : Bool} (hx : OkX r b t l g) (c0 : 0 ≤ c) (c1 : c ≤ 255) (w0 : 0 ≤ w) (w1 : w ≤ 255) (W : World) :
    Calls Try.prog 19 #[gIn r b t l g c w E] W fun e w' => e = .returned (gV (ofR r g) (ofB b g) (ofT b t g) (ofL l g) (capG c) (waitG c w) E) ∧ Below W.heap.size W w' :=
  calls_value' follows funsOk (envF [r, b, t, l, g, c, w, 0, 0, 0] [E]) (cs := ctrs4) (ctrs4Ok _ _) (n := 1000) (f := 19) (args := [argX]) (pc := pcR) (r := .agg [.int .i64 xR, .int .i64 xB, .int .i64 xS, .int .i64 xL, .int .i64 xC, .int .i64 xW, .bool (.bvar 0)]) (gs := [])
    (by kernel_rfl) nilOk (xs := [gIn r b t l g c w E]) rfl (pcR_ok hx ⟨c0, c1, w0, w1, by omega, by omega, by omega, by omega, by omega, by omega⟩) (by kernel_rfl) rfl W
theorem T.ite_ti {σ : Env} {p a b : T} (h : T.b σ p = true) : T.i σ (.ite p a b) = T.i σ a := by simp only [T.i, h, if_true]
theorem T.ite_tb {σ : Env} {p a b : T} (h : T.b σ p = true) : T.b σ (.ite p a b) = T.b σ a := by simp only [T.b, h, if_true]
theorem T.ite_fi {σ : Env} {p a b : T} (h : T.b σ p = false) : T.i σ (.ite p a b) = T.i σ b := by simp only [T.i, h, Bool.false_eq_true, if_false]
theorem release_val {R B S L C W k : Int} {E : Bool} (hok : okB R B S L = true) (hC : 1 ≤ C ∧ C ≤ 64) (hW : 0 ≤ W ∧ W ≤ C) (hk : 0 ≤ k ∧ k ≤ W) (w : World) :
    Calls Try.prog 11 #[gV R B S L C W E, .int .i64 k] w fun e w' => e = .returned (.tuple #[gV R B S L C (W - k) E, .int .i64 0]) ∧ Below w.heap.size w w' := by
  obtain ⟨a1, a2, a3, a4, a5, a6, a7, a8⟩ := okB_iff hok
  have hb : T.b (sg R B S L C W 0 0 k E) (okRel (.var 0) (.var 1) (.var 2) (.var 3) (.var 4) (.var 5) (.var 8)) = true := by
    refine (andL_b _).2 ?_
    simp only [okG, List.cons_append, List.nil_append, List.forall_mem_cons]
    repeat' refine And.intro (leB_t.2 ?_) ?_
    all_goals first
      | (intro q hq; simp at hq)
      | (simp only [T.i, sg, envF, List.getD_cons_zero, List.getD_cons_succ]; omega)
  refine (release_any R B S L C W E k _ rfl w).mono ?_
  rintro e w' ⟨rfl, hb'⟩
  refine ⟨?_, hb'⟩
  simp only [T.ite_ti hb, T.ite_tb hb]
  rfl
theorem ask_val {R B S L C W t n k : Int} {E : Bool} (hok : okB R B S L = true) (hC : 1 ≤ C ∧ C ≤ 64) (hW : 0 ≤ W ∧ W ≤ C) (ht : L ≤ t) (ht2 : t ≤ 4611686018427387904) (hn : 0 ≤ n) (hk : 0 ≤ k ∧ k ≤ 64) (w : World) :
    Calls Try.prog 9 #[gV R B S L C W E, .int .i64 t, .int .i64 n, .int .i64 k] w fun e w' =>
      ((n ≤ gM S R (t - L) B ∧ W + k ≤ C ∧ e = .returned (.tuple #[gV R B (gM S R (t - L) B - n) t C (W + k) E, .agg #[.bool true, .int .i64 0], .int .i64 0])) ∨ (∃ d, e = .returned (.tuple #[gV R B S L C W E, .agg #[.bool false, .int .i64 d], .int .i64 0]))) ∧ Below w.heap.size w w' := by
  obtain ⟨a1, a2, a3, a4, a5, a6, a7, a8⟩ := okB_iff hok
  have hb : T.b (sg R B S L C W t n k E) (okX (.var 0) (.var 1) (.var 2) (.var 3) (.var 4) (.var 5) (.var 6) (.var 7) (.var 8)) = true := by
    refine (andL_b _).2 ?_
    simp only [okG, List.cons_append, List.nil_append, List.forall_mem_cons]
    repeat' refine And.intro (leB_t.2 ?_) ?_
    all_goals first
      | (intro q hq; simp at hq)
      | (simp only [T.i, sg, envF, List.getD_cons_zero, List.getD_cons_succ]; omega)
  refine (gateAsk_any R B S L C W E t n k _ rfl w).mono ?_
  rintro e w' ⟨rfl, hb'⟩
  refine ⟨?_, hb'⟩
  simp only [T.ite_ti hb, T.ite_tb hb]
  by_cases hy : T.b (sg R B S L C W t n k E) (yesX (.var 0) (.var 1) (.var 2) (.var 3) (.var 4) (.var 5) (.var 6) (.var 7) (.var 8)) = true
  · refine Or.inl ?_
    simp only [T.ite_ti hy, T.ite_tb hy, hy]
    simp only [yesX, mkAnd_b, Bool.and_eq_true] at hy
    obtain ⟨y1, y2⟩ := hy
    exact ⟨leB_t.1 y1, leB_t.1 y2, rfl⟩
  · refine Or.inr ⟨T.i (sg R B S L C W t n k E) (aftX (.var 0) (.var 1) (.var 2) (.var 3) (.bvar 0) (.var 6) (.var 7)), ?_⟩
    rw [Bool.not_eq_true] at hy
    simp only [T.ite_fi hy, hy]
    rfl
theorem refMost_val' (R B t : Int) (h : okB R B B t = true) (w : World) :
    Calls Try.prog 20 #[.int .i64 R, .int .i64 B, .int .i64 t] w fun e w' => e = .returned (.int .i64 (gM B R t 9223372036854775807)) ∧ w = w' := refMost_ok R B t h w
end Go.Proofs.Ytnogbjpiocckiaa
