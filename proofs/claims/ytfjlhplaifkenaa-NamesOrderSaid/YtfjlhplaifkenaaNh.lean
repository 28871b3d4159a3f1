/-
  NamesOrder: the two orders of goals, of subjects and of objects give what the fields' orders say.
-/
import Derived.Test.YtfjlhplaifkenaaNg
namespace Go.Proofs.Ytfjlhplaifkenaa
open Go.Proofs.Ytfjlhplaifkenaa.Vx Go.RowKit
set_option maxRecDepth 100000
def vG : Vcs := [([.eq (.cmp (.svar 2) (.svar 5)) (.int 0)], .eq (.int 0) (.cmp (.svar 2) (.svar 5)))]
def vO : Vcs := [([.eq (.cmp (.svar 1) (.svar 3)) (.int 0)], .eq (.int 0) (.cmp (.svar 1) (.svar 3)))]
def lenF (i : Nat) : T := .le (.len (.svar i)) (.int 1000000000)
def vG2 : Vcs := [([.not (.seq (.svar 0) (.svar 3))], .eq (.cmp (.svar 0) (.svar 3)) cgV),
  ([.seq (.svar 0) (.svar 3), .not (.and (.seq (.svar 0) (.svar 3)) (.seq (.svar 1) (.svar 4)))], .eq (.cmp (.svar 1) (.svar 4)) cgV),
  ([.seq (.svar 0) (.svar 3), .not (.seq (.svar 1) (.svar 4))], .eq (.cmp (.svar 1) (.svar 4)) cgV),
  ([.seq (.svar 0) (.svar 3), .seq (.svar 1) (.svar 4)], .eq (.cmp (.svar 2) (.svar 5)) cgV)]
def vO2 : Vcs := [([.not (.seq (.svar 0) (.svar 2))], .eq (.cmp (.svar 0) (.svar 2)) coV),
  ([.seq (.svar 0) (.svar 2)], .eq (.cmp (.svar 1) (.svar 3)) coV)]
theorem vG_ok (σ : Env) : VOk σ vG := by
  intro x hx hp
  simp only [vG, List.mem_cons, List.not_mem_nil, or_false] at hx
  subst hx
  simp only [List.mem_cons, List.not_mem_nil, or_false, forall_eq, T.b, T.i, eqB_t] at hp ⊢
  exact hp.symm
theorem vO_ok (σ : Env) : VOk σ vO := by
  intro x hx hp
  simp only [vO, List.mem_cons, List.not_mem_nil, or_false] at hx
  subst hx
  simp only [List.mem_cons, List.not_mem_nil, or_false, forall_eq, T.b, T.i, eqB_t] at hp ⊢
  exact hp.symm
theorem seq_cmp (σ : Env) (a b : T) : sEqB (T.s σ a) (T.s σ b) = true ↔ T.i σ (.cmp a b) = 0 := by
  simp only [T.i, cmp_zero, sEqB, decide_eq_true_eq]
theorem ite_i (σ : Env) (c a b : T) : T.i σ (.ite c a b) = if T.b σ c = true then T.i σ a else T.i σ b := by rw [T.i]
theorem eq0_b {σ : Env} {a : T} : T.b σ (.eq a (.int 0)) = true ↔ T.i σ a = 0 := by
  rw [T.b, eqB_t]; exact Iff.rfl
theorem eq_b {σ : Env} {a b : T} : T.b σ (.eq a b) = true ↔ T.i σ a = T.i σ b := by rw [T.b, eqB_t]
theorem cgT_i (σ : Env) (a b c x y z : T) : T.i σ (cgT a b c x y z) = if T.i σ (.cmp a x) = 0 then (if T.i σ (.cmp b y) = 0 then T.i σ (.cmp c z) else T.i σ (.cmp b y)) else T.i σ (.cmp a x) := by
  by_cases h1 : T.i σ (.cmp a x) = 0
  · rw [cgT, ite_i, if_pos (eq0_b.2 h1), if_pos h1, ite_i]
    by_cases h2 : T.i σ (.cmp b y) = 0
    · rw [if_pos (eq0_b.2 h2), if_pos h2]
    · rw [if_neg (fun h => h2 (eq0_b.1 h)), if_neg h2]
  · rw [cgT, ite_i, if_neg (fun h => h1 (eq0_b.1 h)), if_neg h1]
theorem coT_i (σ : Env) (a b x y : T) : T.i σ (coT a b x y) = if T.i σ (.cmp a x) = 0 then T.i σ (.cmp b y) else T.i σ (.cmp a x) := by
  by_cases h1 : T.i σ (.cmp a x) = 0
  · rw [coT, ite_i, if_pos (eq0_b.2 h1), if_pos h1]
  · rw [coT, ite_i, if_neg (fun h => h1 (eq0_b.1 h)), if_neg h1]
theorem vG2_ok (σ : Env) : VOk σ vG2 := by
  intro x hx hp
  have e0 := seq_cmp σ (.svar 0) (.svar 3)
  have e1 := seq_cmp σ (.svar 1) (.svar 4)
  simp only [vG2, List.mem_cons, List.not_mem_nil, or_false] at hx
  rcases hx with rfl | rfl | rfl | rfl <;>
  · simp only [List.mem_cons, List.not_mem_nil, or_false, forall_eq_or_imp, forall_eq, T.b, Bool.not_eq_true', Bool.and_eq_false_iff] at hp
    simp only [← Bool.not_eq_true, e0, e1] at hp
    rw [eq_b, cgV, cgT_i]
    first
      | (obtain ⟨h1, h2⟩ := hp; have h3 := h2.resolve_left (fun h => h h1); rw [if_pos h1, if_neg h3])
      | (simp_all; done)
theorem vO2_ok (σ : Env) : VOk σ vO2 := by
  intro x hx hp
  have e0 := seq_cmp σ (.svar 0) (.svar 2)
  simp only [vO2, List.mem_cons, List.not_mem_nil, or_false] at hx
  rcases hx with rfl | rfl <;>
  · simp only [List.mem_cons, List.not_mem_nil, or_false, forall_eq, T.b, Bool.not_eq_true'] at hp
    simp only [← Bool.not_eq_true, e0] at hp
    rw [eq_b, coV, coT_i]
    simp_all
def ctrsO : List Ctr := [ctrOrd]
theorem ctrsOOk (σ : Env) : CtrsOk Try.prog σ ctrsO := ordOk .nil
theorem cgV_i (a b c x y z : ByteArray) : T.i (envN [a, b, c, x, y, z]) cgV = cgN a b c x y z := by
  rw [cgV, cgT_i]; rfl
theorem coV_i (a b x y : ByteArray) : T.i (envN [a, b, x, y]) coV = coN a b x y := by
  rw [coV, coT_i]; rfl
theorem cg_any (a b c x y z : ByteArray) (w : World) : Calls Try.prog 26 #[.agg #[.string a, .string b, .string c], .agg #[.string x, .string y, .string z]] w fun e w' => e = .returned (.int .i64 (cgN a b c x y z)) ∧ Below w.heap.size w w' :=
  calls_value' follows funsOk (envN [a, b, c, x, y, z]) .nil (n := 1000) (f := 26) (args := [.agg [s0, s1, s2], .agg [s3, s4, s5]]) (pc := []) (r := .int .i64 cgV) (gs := vG)
    (by kernel_rfl) (vG_ok _) (xs := [.agg #[.string a, .string b, .string c], .agg #[.string x, .string y, .string z]]) rfl (fun t ht => by simp at ht) rfl (z := .int .i64 (cgN a b c x y z)) (congrArg (fun n => some (Value.int .i64 n)) (cgV_i a b c x y z)) w
theorem refCg_any (a b c x y z : ByteArray) (ha : (a.size : Int) ≤ 1000000000) (hb : (b.size : Int) ≤ 1000000000) (hc : (c.size : Int) ≤ 1000000000) (w : World) : Calls Try.prog 27 #[.agg #[.string a, .string b, .string c], .agg #[.string x, .string y, .string z]] w fun e w' => e = .returned (.int .i64 (cgN a b c x y z)) ∧ Below w.heap.size w w' :=
  calls_value' follows funsOk (envN [a, b, c, x, y, z]) (ctrsOOk _) (n := 1000) (f := 27) (args := [.agg [s0, s1, s2], .agg [s3, s4, s5]]) (pc := [lenF 0, lenF 1, lenF 2]) (r := .int .i64 cgV) (gs := vG2)
    (by kernel_rfl) (vG2_ok _) (xs := [.agg #[.string a, .string b, .string c], .agg #[.string x, .string y, .string z]]) rfl (fun t ht => by simp only [List.mem_cons, List.not_mem_nil, or_false] at ht; rcases ht with rfl | rfl | rfl <;> (simp only [lenF, T.b, T.i, T.s, leB_t]; first | exact ha | exact hb | exact hc)) rfl (z := .int .i64 (cgN a b c x y z)) (congrArg (fun n => some (Value.int .i64 n)) (cgV_i a b c x y z)) w
theorem cs_any (a b c x y z : ByteArray) (w : World) : Calls Try.prog 28 #[.agg #[.string a, .string b, .string c], .agg #[.string x, .string y, .string z]] w fun e w' => e = .returned (.int .i64 (cgN a b c x y z)) ∧ Below w.heap.size w w' :=
  calls_value' follows funsOk (envN [a, b, c, x, y, z]) .nil (n := 1000) (f := 28) (args := [.agg [s0, s1, s2], .agg [s3, s4, s5]]) (pc := []) (r := .int .i64 cgV) (gs := vG)
    (by kernel_rfl) (vG_ok _) (xs := [.agg #[.string a, .string b, .string c], .agg #[.string x, .string y, .string z]]) rfl (fun t ht => by simp at ht) rfl (z := .int .i64 (cgN a b c x y z)) (congrArg (fun n => some (Value.int .i64 n)) (cgV_i a b c x y z)) w
theorem refCs_any (a b c x y z : ByteArray) (ha : (a.size : Int) ≤ 1000000000) (hb : (b.size : Int) ≤ 1000000000) (hc : (c.size : Int) ≤ 1000000000) (w : World) : Calls Try.prog 29 #[.agg #[.string a, .string b, .string c], .agg #[.string x, .string y, .string z]] w fun e w' => e = .returned (.int .i64 (cgN a b c x y z)) ∧ Below w.heap.size w w' :=
  calls_value' follows funsOk (envN [a, b, c, x, y, z]) (ctrsOOk _) (n := 1000) (f := 29) (args := [.agg [s0, s1, s2], .agg [s3, s4, s5]]) (pc := [lenF 0, lenF 1, lenF 2]) (r := .int .i64 cgV) (gs := vG2)
    (by kernel_rfl) (vG2_ok _) (xs := [.agg #[.string a, .string b, .string c], .agg #[.string x, .string y, .string z]]) rfl (fun t ht => by simp only [List.mem_cons, List.not_mem_nil, or_false] at ht; rcases ht with rfl | rfl | rfl <;> (simp only [lenF, T.b, T.i, T.s, leB_t]; first | exact ha | exact hb | exact hc)) rfl (z := .int .i64 (cgN a b c x y z)) (congrArg (fun n => some (Value.int .i64 n)) (cgV_i a b c x y z)) w
theorem co_any (a b x y : ByteArray) (w : World) : Calls Try.prog 30 #[.agg #[.string a, .string b], .agg #[.string x, .string y]] w fun e w' => e = .returned (.int .i64 (coN a b x y)) ∧ Below w.heap.size w w' :=
  calls_value' follows funsOk (envN [a, b, x, y]) .nil (n := 1000) (f := 30) (args := [.agg [s0, s1], .agg [s2, s3]]) (pc := []) (r := .int .i64 coV) (gs := vO)
    (by kernel_rfl) (vO_ok _) (xs := [.agg #[.string a, .string b], .agg #[.string x, .string y]]) rfl (fun t ht => by simp at ht) rfl (z := .int .i64 (coN a b x y)) (congrArg (fun n => some (Value.int .i64 n)) (coV_i a b x y)) w
theorem refCo_any (a b x y : ByteArray) (ha : (a.size : Int) ≤ 1000000000) (hb : (b.size : Int) ≤ 1000000000) (w : World) : Calls Try.prog 31 #[.agg #[.string a, .string b], .agg #[.string x, .string y]] w fun e w' => e = .returned (.int .i64 (coN a b x y)) ∧ Below w.heap.size w w' :=
  calls_value' follows funsOk (envN [a, b, x, y]) (ctrsOOk _) (n := 1000) (f := 31) (args := [.agg [s0, s1], .agg [s2, s3]]) (pc := [lenF 0, lenF 1]) (r := .int .i64 coV) (gs := vO2)
    (by kernel_rfl) (vO2_ok _) (xs := [.agg #[.string a, .string b], .agg #[.string x, .string y]]) rfl (fun t ht => by simp only [List.mem_cons, List.not_mem_nil, or_false] at ht; rcases ht with rfl | rfl <;> (simp only [lenF, T.b, T.i, T.s, leB_t]; first | exact ha | exact hb)) rfl (z := .int .i64 (coN a b x y)) (congrArg (fun n => some (Value.int .i64 n)) (coV_i a b x y)) w
end Go.Proofs.Ytfjlhplaifkenaa
