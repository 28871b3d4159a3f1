/-
  GatesRetry.
-/
import Derived.Test.YtnogbjpiocckiaaLr
namespace Go.Proofs.Ytnogbjpiocckiaa
open Go.Proofs.Ytnogbjpiocckiaa.Vx Go.RowKit
set_option maxRecDepth 100000
abbrev hvQ (t : T) : T := .fni 0 (c4 xS xR (.sub t xL) xB)
abbrev waQ : T := .fni 1 (c4 xR xB (.var 7) (hvQ xT))
abbrev tnQ : T := .add xT waQ
def baseQ : List T := [.le (.int 0) xR, .le xR (.int 2147483648), .le (.int 1) xB, .le xB (.int 2147483648), .le (.int 0) xS, .le xS xB, .le xL xT, .le xT (.int 4611686018427387904), .le (.int 0) (.var 7)]
def retryVs : Vcs := [
  ([.not (.beq (.ite (okX xR xB xS xL xC xW xT (.var 7) xK) (.bool false) (.bool false)) (.bool false))], .bool false),
  (baseQ ++ [.le (.var 7) (hvQ (.int 4611686018427387904)), .eq waQ (.int (-1))], .bool false),
  (baseQ ++ [.not (.and (.le xL tnQ) (.le tnQ (.int 4611686018427387904))), .le (.add waQ xT) (.int 4611686018427387904), .not (.eq waQ (.int (-1)))], .bool false),
  (baseQ ++ [.not (.le (.var 7) (hvQ tnQ)), .not (.eq waQ (.int (-1)))], .bool false),
  (baseQ ++ [.le (.var 7) (hvQ (.sub tnQ (.int 1))), .not (.le waQ (.int 0))], .bool false),
  (baseQ ++ [.not (.le xL (.sub tnQ (.int 1))), .not (.le waQ (.int 0))], .bool false)]
section
variable {R B S n d : Int} (h1 : 0 ≤ R) (h2 : R ≤ 2147483648) (h4 : B ≤ 2147483648) (h5 : 0 ≤ S) (h6 : S ≤ B) (h7 : 0 ≤ d) (h8 : 0 ≤ n)
include h1 h2 h4 h5 h6 h7 h8
theorem num_spec : (waC R B n (gM S R d B) = 0 ∧ n ≤ gM S R d B) ∨ (waC R B n (gM S R d B) = -1 ∧ gM S R d B < n ∧ (B < n ∨ R = 0)) ∨
    (1 ≤ waC R B n (gM S R d B) ∧ n ≤ gM S R (d + waC R B n (gM S R d B)) B ∧ gM S R (d + (waC R B n (gM S R d B) - 1)) B < n) := by
  have g1 := gM_ge h6 h1 h7
  have g2 : gM S R d B ≤ B := gM_le
  rw [waC_gM h1 h2 h4 h5 h6 h7]
  rcases wa_spec (R := R) (B := B) (n := n) (g := gM S R d B) (by omega) g2 h1 h4 h8 with h | h | ⟨c1, c2, c3, c4⟩
  · exact .inl h
  · exact .inr (.inl h)
  · refine .inr (.inr ⟨c1, ?_, ?_⟩)
    · rwa [gM_add h6 h1 h7 (by omega)] at c3
    · rwa [gM_add h6 h1 h7 (by omega)] at c4
theorem num_never {d2 : Int} (hd : 0 ≤ d2) (hw : waC R B n (gM S R d B) = -1) : ¬ n ≤ gM S R d2 B := by
  intro hn
  have g2 : gM S R d2 B ≤ B := gM_le
  rcases num_spec h1 h2 h4 h5 h6 h7 h8 with h | ⟨-, h, hB | hR⟩ | h
  · omega
  · omega
  · subst hR
    have e1 : gM S 0 d B = S := by unfold gM; simp; omega
    have e2 : gM S 0 d2 B = S := by unfold gM; simp; omega
    omega
  · omega
end
theorem retry_vc (l : List Int) (b : List Bool) : VOk (envF l b) retryVs := by
  intro x hx hp
  exfalso
  have hb := waC_bnd (T.i (envF l b) xR) (T.i (envF l b) xB) (T.i (envF l b) (.var 7)) (T.i (envF l b) (hvQ xT))
  simp only [retryVs, List.mem_cons, List.not_mem_nil, or_false] at hx
  rcases hx with rfl | rfl | rfl | rfl | rfl | rfl
  · have := hp _ (List.mem_singleton.2 rfl)
    simp [T.b] at this
  all_goals
    simp only [baseQ, List.cons_append, List.nil_append, List.mem_cons, List.not_mem_nil, or_false, forall_eq_or_imp, forall_eq] at hp
  · obtain ⟨q1, q2, q3, q4, q5, q6, q7, q8, q9, a, e⟩ := hp
    replace q1 := leB_t.1 q1; replace q2 := leB_t.1 q2; replace q3 := leB_t.1 q3; replace q4 := leB_t.1 q4; replace q5 := leB_t.1 q5; replace q6 := leB_t.1 q6; replace q7 := leB_t.1 q7; replace q8 := leB_t.1 q8; replace q9 := leB_t.1 q9
    replace a := leB_t.1 a
    replace e := eqB_t.1 e
    have z : T.i (envF l b) xT ≤ 4611686018427387904 := q8
    exact num_never (d := T.i (envF l b) xT - T.i (envF l b) xL) (d2 := 4611686018427387904 - T.i (envF l b) xL) q1 q2 q4 q5 q6 (by omega) q9 (by omega) e a
  · obtain ⟨q1, q2, q3, q4, q5, q6, q7, q8, q9, a, c, e⟩ := hp
    have a' : (T.b (envF l b) (.le xL tnQ) && T.b (envF l b) (.le tnQ (.int 4611686018427387904))) = false := by simpa only [T.b, Bool.not_eq_true'] using a
    have e' := eqB_f.1 (show eqB (T.i (envF l b) waQ) (-1) = false by simpa only [T.b, T.i, Bool.not_eq_true'] using e)
    replace q7 := leB_t.1 q7
    replace c : T.i (envF l b) waQ + T.i (envF l b) xT ≤ 4611686018427387904 := leB_t.1 c
    have hb : -1 ≤ T.i (envF l b) waQ ∧ T.i (envF l b) waQ ≤ 4294967296 := hb
    have k1 : T.b (envF l b) (.le xL tnQ) = true := leB_t.2 (show T.i (envF l b) xL ≤ T.i (envF l b) xT + T.i (envF l b) waQ by omega)
    have k2 : T.b (envF l b) (.le tnQ (.int 4611686018427387904)) = true := leB_t.2 (show T.i (envF l b) xT + T.i (envF l b) waQ ≤ 4611686018427387904 by omega)
    rw [k1, k2] at a'
    simp at a'
  · obtain ⟨q1, q2, q3, q4, q5, q6, q7, q8, q9, a, e⟩ := hp
    replace q1 := leB_t.1 q1; replace q2 := leB_t.1 q2; replace q3 := leB_t.1 q3; replace q4 := leB_t.1 q4; replace q5 := leB_t.1 q5; replace q6 := leB_t.1 q6; replace q7 := leB_t.1 q7; replace q9 := leB_t.1 q9
    have e' := eqB_f.1 (show eqB (T.i (envF l b) waQ) (-1) = false by simpa only [T.b, T.i, Bool.not_eq_true'] using e)
    have a' := leB_f.1 (show leB (T.i (envF l b) (.var 7)) (T.i (envF l b) (hvQ tnQ)) = false by simpa only [T.b, Bool.not_eq_true'] using a)
    have sp := num_spec (d := T.i (envF l b) xT - T.i (envF l b) xL) (n := T.i (envF l b) (.var 7)) q1 q2 q4 q5 q6 (by omega) q9
    have ew : waC (T.i (envF l b) xR) (T.i (envF l b) xB) (T.i (envF l b) (.var 7)) (gM (T.i (envF l b) xS) (T.i (envF l b) xR) (T.i (envF l b) xT - T.i (envF l b) xL) (T.i (envF l b) xB)) = T.i (envF l b) waQ := rfl
    rw [ew] at sp
    have eh : T.i (envF l b) (hvQ tnQ) = gM (T.i (envF l b) xS) (T.i (envF l b) xR) ((T.i (envF l b) xT + T.i (envF l b) waQ) - T.i (envF l b) xL) (T.i (envF l b) xB) := rfl
    rw [eh, show (T.i (envF l b) xT + T.i (envF l b) waQ) - T.i (envF l b) xL = (T.i (envF l b) xT - T.i (envF l b) xL) + T.i (envF l b) waQ by omega] at a'
    rcases sp with ⟨s1, s2⟩ | ⟨s1, s2⟩ | ⟨s1, s2, s3⟩
    · rw [s1, Int.add_zero] at a'; omega
    · exact e' s1
    · omega
  · obtain ⟨q1, q2, q3, q4, q5, q6, q7, q8, q9, a, e⟩ := hp
    replace q1 := leB_t.1 q1; replace q2 := leB_t.1 q2; replace q3 := leB_t.1 q3; replace q4 := leB_t.1 q4; replace q5 := leB_t.1 q5; replace q6 := leB_t.1 q6; replace q7 := leB_t.1 q7; replace q9 := leB_t.1 q9
    have e' := leB_f.1 (show leB (T.i (envF l b) waQ) 0 = false by simpa only [T.b, T.i, Bool.not_eq_true'] using e)
    have a' : T.i (envF l b) (.var 7) ≤ T.i (envF l b) (hvQ (.sub tnQ (.int 1))) := leB_t.1 a
    have sp := num_spec (d := T.i (envF l b) xT - T.i (envF l b) xL) (n := T.i (envF l b) (.var 7)) q1 q2 q4 q5 q6 (by omega) q9
    have ew : waC (T.i (envF l b) xR) (T.i (envF l b) xB) (T.i (envF l b) (.var 7)) (gM (T.i (envF l b) xS) (T.i (envF l b) xR) (T.i (envF l b) xT - T.i (envF l b) xL) (T.i (envF l b) xB)) = T.i (envF l b) waQ := rfl
    rw [ew] at sp
    have eh : T.i (envF l b) (hvQ (.sub tnQ (.int 1))) = gM (T.i (envF l b) xS) (T.i (envF l b) xR) (((T.i (envF l b) xT + T.i (envF l b) waQ) - 1) - T.i (envF l b) xL) (T.i (envF l b) xB) := rfl
    rw [eh, show ((T.i (envF l b) xT + T.i (envF l b) waQ) - 1) - T.i (envF l b) xL = (T.i (envF l b) xT - T.i (envF l b) xL) + (T.i (envF l b) waQ - 1) by omega] at a'
    rcases sp with ⟨s1, s2⟩ | ⟨s1, s2⟩ | ⟨s1, s2, s3⟩
    · omega
    · omega
    · omega
  · obtain ⟨q1, q2, q3, q4, q5, q6, q7, q8, q9, a, e⟩ := hp
    replace q7 := leB_t.1 q7
    have e' := leB_f.1 (show leB (T.i (envF l b) waQ) 0 = false by simpa only [T.b, T.i, Bool.not_eq_true'] using e)
    have a' := leB_f.1 (show leB (T.i (envF l b) xL) (T.i (envF l b) (.sub tnQ (.int 1))) = false by simpa only [T.b, Bool.not_eq_true'] using a)
    have e1 : T.i (envF l b) (.sub tnQ (.int 1)) = (T.i (envF l b) xT + T.i (envF l b) waQ) - 1 := rfl
    rw [e1] at a'
    omega
structure OkZ (c w n z0 z1 : Int) : Prop where
  c0 : 0 ≤ c
  c1 : c ≤ 255
  w0 : 0 ≤ w
  w1 : w ≤ 255
  n0 : 0 ≤ n
  n1 : n ≤ 4294967295
  y0 : 0 ≤ z0
  y1 : z0 ≤ 255
  x0 : 0 ≤ z1
  x1 : z1 ≤ 255
theorem pcR_ok {r b t l g c w n z0 z1 : Int} {E : Bool} (hx : OkX r b t l g) (hz : OkZ c w n z0 z1) : ∀ q ∈ pcR, T.b (envF [r, b, t, l, g, c, w, n, z0, z1] [E]) q = true := by
  obtain ⟨b1, b2, b3, b4, b5, b6, b7, b8⟩ := of_bnd hx
  obtain ⟨r0, r1, bb0, bb1, t0, t1, l0, l1, g0, g1⟩ := hx
  obtain ⟨c0, c1, w0, w1, n0, n1, y0, y1, x0, x1⟩ := hz
  have m1 : 0 ≤ c.tmod 64 := Int.tmod_nonneg _ c0
  have m2 : c.tmod 64 < 64 := Int.tmod_lt_of_pos _ (by omega)
  have m3 : 0 ≤ w.tmod (1 + c.tmod 64 + 1) := Int.tmod_nonneg _ w0
  have m4 : w.tmod (1 + c.tmod 64 + 1) < 1 + c.tmod 64 + 1 := Int.tmod_lt_of_pos _ (by omega)
  have m5 : 0 ≤ z0.tmod (1 + c.tmod 64 + 1) := Int.tmod_nonneg _ y0
  have m6 : z0.tmod (1 + c.tmod 64 + 1) < 1 + c.tmod 64 + 1 := Int.tmod_lt_of_pos _ (by omega)
  simp only [pcR, pcX, bnd, List.cons_append, List.nil_append, List.forall_mem_cons]
  repeat' refine And.intro (leB_t.2 ?_) ?_
  all_goals try simp only [T.i, T.b, oR, oB, oT, oL, c2, c3, T.l, envF, fns, List.getD_cons_zero, List.getD_cons_succ, Bool.not_eq_true', leB_f]
  all_goals first
    | assumption
    | omega
    | (split <;> omega)
    | (intro q hq; simp at hq)
theorem lawRetry_any {r b t l g c w n z0 z1 : Int} {E : Bool} (hx : OkX r b t l g) (hz : OkZ c w n z0 z1) (W : World) :
    Calls Try.prog 5 #[.agg #[.int .u8 r, .int .u8 b, .int .u8 t, .int .u16 l, .int .u8 g, .int .u8 c, .int .u8 w, .bool E], .int .u32 n, .agg #[.int .u8 z0, .int .u8 z1]] W fun e w' => e = .returned (.bool true) ∧ Below W.heap.size W w' :=
  calls_goals' follows funsOk (envF [r, b, t, l, g, c, w, n, z0, z1] [E]) (cs := ctrs4) (ctrs4Ok _ _) (n := 1000) (f := 5) (args := [argX, .int .u32 (.var 7), .agg [.int .u8 (.var 8), .int .u8 (.var 9)]]) (pc := pcR) (gs := retryVs)
    (by kernel_rfl) (retry_vc _ _) (xs := [.agg #[.int .u8 r, .int .u8 b, .int .u8 t, .int .u16 l, .int .u8 g, .int .u8 c, .int .u8 w, .bool E], .int .u32 n, .agg #[.int .u8 z0, .int .u8 z1]]) rfl (pcR_ok hx hz) W
end Go.Proofs.Ytnogbjpiocckiaa
