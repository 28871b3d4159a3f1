/-
  Contract of buckets.After: what it answers is the least wait.
-/
import Derived.Test.YtnogbjpiocckiaaLd
namespace Go.Proofs.Ytnogbjpiocckiaa
open Go.Proofs.Ytnogbjpiocckiaa.Vx Go.RowKit
def ctrAfter : Ctr := ⟨25, fun l => match l with
  | [.agg [.int .i64 R, .int .i64 B, .int .i64 S, .int .i64 L], .int .i64 t, .int .i64 n] =>
    some (.tup [.int .i64 (.fni 1 (c4 R B n (.fni 0 (c4 S R (.sub t L) B)))), .int .i64 (.int 0)], [mkLe (.int 0) R, mkLe R (.int 2147483648), mkLe (.int 1) B, mkLe B (.int 2147483648), mkLe (.int 0) S, mkLe S B, mkLe (.int 0) L, mkLe L (.int 4611686018427387904), mkLe L t, mkLe t (.int 4611686018427387904), mkLe (.int 0) n], [.le (.int (-1)) (.fni 1 (c4 R B n (.fni 0 (c4 S R (.sub t L) B)))), .le (.fni 1 (c4 R B n (.fni 0 (c4 S R (.sub t L) B)))) (.int 4294967296)])
  | _ => none⟩
theorem afterOk {l : List Int} {b : List Bool} {cs : List Ctr} (h : CtrsOk Try.prog (envF l b) cs) : CtrsOk Try.prog (envF l b) (ctrAfter :: cs) := .cons (fun args v conds fs xs x ρ h hv hx hd => by
  simp only [ctrAfter] at h
  split at h
  · simp only [Option.some.injEq, Prod.mk.injEq] at h
    obtain ⟨rfl, rfl, rfl⟩ := h
    simp only [denL, den, Option.map_some, Option.bind_some, Option.some.injEq] at hx hd
    subst hx; subst hd
    simp only [List.mem_cons, List.not_mem_nil, or_false, forall_eq_or_imp, forall_eq, mkLe_b, leB_t, T.i] at hv
    obtain ⟨h1, h2, h3, h4, h5, h6, h7, h8, h9, h10, h11⟩ := hv
    refine ⟨?_, ?_⟩
    · simp only [List.mem_cons, List.not_mem_nil, or_false, forall_eq_or_imp, forall_eq, T.b, leB_t, T.i]
      exact waC_bnd _ _ _ _
    · refine fun w => (after_ok _ _ _ _ _ _ (by simp [okN, okT, okB, inB]; omega) w).mono fun e1 w' h => ⟨h.1.trans ?_, h.2⟩
      exact congrArg (fun q => Ending.returned (.tuple #[.int .i64 q, .int .i64 0])) (waC_gM h1 h2 h4 h5 h6 (by omega)).symm
  · simp at h) h
def ctrsA : List Ctr := ctrAfter :: ctrsB
theorem ctrsAOk (l : List Int) (b : List Bool) : CtrsOk Try.prog (envF l b) ctrsA := afterOk (ctrsBOk _ _)
def hvV : T := .fni 0 (c4 (.var 2) (.var 0) (.sub (.var 6) (.var 3)) (.var 1))
def waV : T := .fni 1 (c4 (.var 0) (.var 1) (.var 7) hvV)
def askVs : Vcs := [
  ([], .eq (.ite (.and (.not (.le waV (.int 0))) (.bvar 0)) (.sub waV (.int 1)) waV) (.ite (.and (.bvar 0) (.le (.int 1) waV)) (.sub waV (.int 1)) waV))]
theorem ask_vc (R B S L C W t n k : Int) (E : Bool) : VOk (sg R B S L C W t n k E) askVs := by
  refine .cons ?_ nilOk <;>
    simp only [hyps, T.i, T.b, T.l, sg, envF, fns, hvV, waV, c4, List.getD_cons_zero, List.getD_cons_succ, leB_t, eqB_t, Bool.and_eq_true, Bool.not_eq_true', leB_f]
  have : ∀ (x : Int), (((0 < x ∧ E = true) ↔ (E = true ∧ 1 ≤ x))) := fun x => ⟨fun h => ⟨h.2, by omega⟩, fun h => ⟨by omega, h.1⟩⟩
  simp only [this]
set_option maxRecDepth 100000
theorem gateAsk_any (R B S L C W : Int) (E : Bool) (t n k : Int) (x : Value) (hx : den (sg R B S L C W t n k E) (fun _ => none) (rX (.var 0) (.var 1) (.var 2) (.var 3) (.var 4) (.var 5) (.bvar 0) (.var 6) (.var 7) (.var 8)) = some x) (w : World) :
    Calls Try.prog 9 #[gate R B S L C W E, .int .i64 t, .int .i64 n, .int .i64 k] w fun e w' => e = .returned x ∧ Below w.heap.size w w' :=
  calls_value' follows funsOk (sg R B S L C W t n k E) (cs := ctrsA) (ctrsAOk _ _) (n := 1000) (f := 9) (args := [gArg, .int .i64 (.var 6), .int .i64 (.var 7), .int .i64 (.var 8)]) (pc := []) (r := rX (.var 0) (.var 1) (.var 2) (.var 3) (.var 4) (.var 5) (.bvar 0) (.var 6) (.var 7) (.var 8)) (gs := askVs)
    (by kernel_rfl) (ask_vc R B S L C W t n k E) (xs := [gate R B S L C W E, .int .i64 t, .int .i64 n, .int .i64 k]) rfl (fun t ht => by simp at ht) (by kernel_rfl) hx w
end Go.Proofs.Ytnogbjpiocckiaa
