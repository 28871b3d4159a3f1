/-
  Contracts: what is grown, and the wait that is found by halving.
-/
import Derived.Test.YtnogbjpiocckiaaLv
import Derived.Test.YtnogbjpiocckiaaD
import Derived.Test.YtnogbjpiocckiaaE
import Derived.Test.YtnogbjpiocckiaaMg
namespace Go.Proofs.Ytnogbjpiocckiaa
open Go.Proofs.Ytnogbjpiocckiaa.Vx Go.RowKit
theorem wa_le {R B n g : Int} (hR : 0 ≤ R) (hR' : R ≤ 2147483648) (hB : B ≤ 2147483648) (hg : 0 ≤ g) : waM R B n g ≤ 4294967296 ∧ -1 ≤ waM R B n g := by
  unfold waM
  split
  · omega
  · split
    · omega
    · rename_i h1 h2
      have h3 : 0 < R := by omega
      have h4 : 0 ≤ n - g + R - 1 := by omega
      have := Int.ediv_le_self R h4
      have := Int.ediv_nonneg h4 hR
      omega
/-- the wait, kept in its bounds -/
def waC (R B n g : Int) : Int := if waM R B n g < -1 then -1 else if 4294967296 < waM R B n g then 4294967296 else waM R B n g
theorem waC_bnd (R B n g : Int) : -1 ≤ waC R B n g ∧ waC R B n g ≤ 4294967296 := by
  unfold waC; split
  · omega
  · split <;> omega
theorem waC_eq {R B n g : Int} (hR : 0 ≤ R) (hR' : R ≤ 2147483648) (hB : B ≤ 2147483648) (hg : 0 ≤ g) : waC R B n g = waM R B n g := by
  have := wa_le (n := n) hR hR' hB hg
  unfold waC
  rw [if_neg (by omega), if_neg (by omega)]
theorem waC_gM {R B S n d : Int} (hR : 0 ≤ R) (hR' : R ≤ 2147483648) (hB : B ≤ 2147483648) (hS : 0 ≤ S) (hSB : S ≤ B) (hd : 0 ≤ d) : waC R B n (gM S R d B) = waM R B n (gM S R d B) :=
  waC_eq hR hR' hB (by have := gM_ge hSB hR hd; omega)
def c4 (a b c d : T) : T := .cons a (.cons b (.cons c (.cons d .nil)))
def fns : Nat → List Int → Int
  | 0, l => gM (l.getD 0 0) (l.getD 1 0) (l.getD 2 0) (l.getD 3 0)
  | 1, l => waC (l.getD 0 0) (l.getD 1 0) (l.getD 2 0) (l.getD 3 0)
  | 2, l => ofR (l.getD 0 0) (l.getD 1 0)
  | 3, l => ofB (l.getD 0 0) (l.getD 1 0)
  | 4, l => ofT (l.getD 0 0) (l.getD 1 0) (l.getD 2 0)
  | 5, l => ofL (l.getD 0 0) (l.getD 1 0)
  | _, _ => 0
def envF (l : List Int) (b : List Bool) : Env := ⟨fun i => l.getD i 0, fun i => b.getD i false, fun _ => ByteArray.empty, fun _ => undef, fns, fun _ _ => false, fun _ _ => false⟩
theorem c4_l (σ : Env) (a b c d : T) : T.l σ (c4 a b c d) = [T.i σ a, T.i σ b, T.i σ c, T.i σ d] := rfl
def ctrGrown : Ctr := ⟨38, fun l => match l with
  | [.int .i64 a, .int .i64 b, .int .i64 c, .int .i64 d] => some (.int .i64 (.fni 0 (c4 a b c d)), [mkLe (.int 0) a, mkLe a d, mkLe d (.int 9223372036854775807), mkLe (.int 0) b, mkLe b (.int 9223372036854775807), mkLe (.int 0) c, mkLe c (.int 9223372036854775807)], [mkLe a (.fni 0 (c4 a b c d)), mkLe (.fni 0 (c4 a b c d)) d])
  | _ => none⟩
def ctrRefGrown : Ctr := ⟨32, fun l => match l with
  | [.int .i64 a, .int .i64 d, .int .i64 b, .int .i64 c] => some (.int .i64 (.fni 0 (c4 a b c d)), [mkLe (.int 0) a, mkLe a d, mkLe d (.int 9223372036854775807), mkLe (.int 0) b, mkLe b (.int 2147483648), mkLe (.int 0) c, mkLe c (.int 4611686018427387904)], [mkLe a (.fni 0 (c4 a b c d)), mkLe (.fni 0 (c4 a b c d)) d])
  | _ => none⟩
def ctrRefAfter : Ctr := ⟨23, fun l => match l with
  | [.agg [.int .i64 R, .int .i64 B, .int .i64 S, .int .i64 L], .int .i64 t, .int .i64 n] =>
    some (.int .i64 (.fni 1 (c4 R B n (.fni 0 (c4 S R (.sub t L) B)))), [mkLe (.int 0) R, mkLe R (.int 2147483648), mkLe (.int 1) B, mkLe B (.int 2147483648), mkLe (.int 0) S, mkLe S B, mkLe (.int 0) L, mkLe L (.int 4611686018427387904), mkLe L t, mkLe t (.int 4611686018427387904), mkLe (.int 0) n], [.le (.int (-1)) (.fni 1 (c4 R B n (.fni 0 (c4 S R (.sub t L) B)))), .le (.fni 1 (c4 R B n (.fni 0 (c4 S R (.sub t L) B)))) (.int 4294967296)])
  | _ => none⟩
theorem grownOk {l : List Int} {b : List Bool} {cs : List Ctr} (h : CtrsOk Try.prog (envF l b) cs) : CtrsOk Try.prog (envF l b) (ctrGrown :: cs) := .cons (fun args v conds fs xs x ρ h hv hx hd => by
  simp only [ctrGrown] at h
  split at h
  · simp only [Option.some.injEq, Prod.mk.injEq] at h
    obtain ⟨rfl, rfl, rfl⟩ := h
    simp only [denL, den, Option.map_some, Option.bind_some, Option.some.injEq] at hx hd
    subst hx; subst hd
    simp only [List.mem_cons, List.not_mem_nil, or_false, forall_eq_or_imp, forall_eq, mkLe_b, leB_t, T.i] at hv
    obtain ⟨h1, h2, h3, h4, h5, h6, h7⟩ := hv
    refine ⟨?_, grown_any _ _ _ _ h1 h2 h3 h4 h5 h6 h7⟩
    simp only [List.mem_cons, List.not_mem_nil, or_false, forall_eq_or_imp, forall_eq, mkLe_b, leB_t, T.i, c4_l]
    exact ⟨gM_ge h2 h4 h6, gM_le⟩
  · simp at h) h
theorem refGrownOk {l : List Int} {b : List Bool} {cs : List Ctr} (h : CtrsOk Try.prog (envF l b) cs) : CtrsOk Try.prog (envF l b) (ctrRefGrown :: cs) := .cons (fun args v conds fs xs x ρ h hv hx hd => by
  simp only [ctrRefGrown] at h
  split at h
  · simp only [Option.some.injEq, Prod.mk.injEq] at h
    obtain ⟨rfl, rfl, rfl⟩ := h
    simp only [denL, den, Option.map_some, Option.bind_some, Option.some.injEq] at hx hd
    subst hx; subst hd
    simp only [List.mem_cons, List.not_mem_nil, or_false, forall_eq_or_imp, forall_eq, mkLe_b, leB_t, T.i] at hv
    obtain ⟨h1, h2, h3, h4, h5, h6, h7⟩ := hv
    refine ⟨?_, fun w => (refGrown_any _ _ _ _ h1 h2 h3 h4 h5 h6 h7 w).mono ?_⟩
    · simp only [List.mem_cons, List.not_mem_nil, or_false, forall_eq_or_imp, forall_eq, mkLe_b, leB_t, T.i, c4_l]
      exact ⟨gM_ge h2 h4 h6, gM_le⟩
    · rintro e w' ⟨rfl, rfl⟩
      exact ⟨rfl, Below.refl _ _⟩
  · simp at h) h
theorem refAfterOk {l : List Int} {b : List Bool} {cs : List Ctr} (h : CtrsOk Try.prog (envF l b) cs) : CtrsOk Try.prog (envF l b) (ctrRefAfter :: cs) := .cons (fun args v conds fs xs x ρ h hv hx hd => by
  simp only [ctrRefAfter] at h
  split at h
  · simp only [Option.some.injEq, Prod.mk.injEq] at h
    obtain ⟨rfl, rfl, rfl⟩ := h
    simp only [denL, den, Option.map_some, Option.bind_some, Option.some.injEq] at hx hd
    subst hx; subst hd
    simp only [List.mem_cons, List.not_mem_nil, or_false, forall_eq_or_imp, forall_eq, mkLe_b, leB_t, T.i] at hv
    obtain ⟨h1, h2, h3, h4, h5, h6, h7, h8, h9, h10, h11⟩ := hv
    refine ⟨?_, ?_⟩
    · simp only [List.mem_cons, List.not_mem_nil, or_false, forall_eq_or_imp, forall_eq, T.b, leB_t, T.i]
      exact waC_bnd _ _ _ _
    · refine fun w => (refAfter_ok _ _ _ _ _ _ (by simp [okN, okT, okB, inB]; omega) w).mono fun e1 w' h => ⟨h.1.trans ?_, h.2⟩
      exact congrArg (fun q => Ending.returned (.int .i64 q)) (waC_gM h1 h2 h4 h5 h6 (by omega)).symm
  · simp at h) h
def ctrsB : List Ctr := ctrGrown :: ctrRefGrown :: ctrRefAfter :: ctrs
theorem ctrsBOk (l : List Int) (b : List Bool) : CtrsOk Try.prog (envF l b) ctrsB := grownOk (refGrownOk (refAfterOk (ctrsOk _)))
end Go.Proofs.Ytnogbjpiocckiaa
