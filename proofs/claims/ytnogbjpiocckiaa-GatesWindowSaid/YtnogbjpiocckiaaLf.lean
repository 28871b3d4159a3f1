/-
  Contracts: a gate that is asked twice.
-/
import Derived.Test.YtnogbjpiocckiaaLe
namespace Go.Proofs.Ytnogbjpiocckiaa
open Go.Proofs.Ytnogbjpiocckiaa.Vx Go.RowKit
theorem okY_ctr {f : FuncId} {l : List Int} {b : List Bool} {cs : List Ctr}
    (H : ∀ R B S L C W E t n k x, den (sg R B S L C W t n k E) (fun _ => none) (rY (.var 0) (.var 1) (.var 2) (.var 3) (.var 4) (.var 5) (.bvar 0) (.var 6) (.var 7) (.var 8)) = some x → ∀ w, Calls Try.prog f #[gate R B S L C W E, .int .i64 t, .int .i64 n, .int .i64 k] w fun e w' => e = .returned x ∧ Below w.heap.size w w')
    (h : CtrsOk Try.prog (envF l b) cs) : CtrsOk Try.prog (envF l b) (ctrY f :: cs) := .cons (fun args v conds fs xs x ρ h hv hx hd => by
  simp only [ctrY] at h
  split at h
  · simp only [Option.some.injEq, Prod.mk.injEq] at h
    obtain ⟨rfl, rfl, rfl⟩ := h
    simp only [denL, den, Option.map_some, Option.bind_some, Option.some.injEq] at hx
    subst hx
    refine ⟨fun t ht => by simp at ht, fun w => ?_⟩
    refine H _ _ _ _ _ _ _ _ _ _ x ?_ w
    exact hd
  · simp at h) h
def ctrs2 : List Ctr := ctrA 9 :: ctrA 8 :: ctrsA
theorem ctrs2Ok (l : List Int) (b : List Bool) : CtrsOk Try.prog (envF l b) ctrs2 := okA_ctr gateAsk_any (okA_ctr gateRefAsk_any (ctrsAOk _ _))
set_option maxRecDepth 100000
theorem gateRetry_any (R B S L C W : Int) (E : Bool) (t n k : Int) (x : Value) (hx : den (sg R B S L C W t n k E) (fun _ => none) (rY (.var 0) (.var 1) (.var 2) (.var 3) (.var 4) (.var 5) (.bvar 0) (.var 6) (.var 7) (.var 8)) = some x) (w : World) :
    Calls Try.prog 13 #[gate R B S L C W E, .int .i64 t, .int .i64 n, .int .i64 k] w fun e w' => e = .returned x ∧ Below w.heap.size w w' :=
  calls_value' follows funsOk (sg R B S L C W t n k E) (cs := ctrs2) (ctrs2Ok _ _) (n := 1000) (f := 13) (args := [gArg, .int .i64 (.var 6), .int .i64 (.var 7), .int .i64 (.var 8)]) (pc := []) (r := rY (.var 0) (.var 1) (.var 2) (.var 3) (.var 4) (.var 5) (.bvar 0) (.var 6) (.var 7) (.var 8)) (gs := [])
    (by kernel_rfl) nilOk (xs := [gate R B S L C W E, .int .i64 t, .int .i64 n, .int .i64 k]) rfl (fun t ht => by simp at ht) (by kernel_rfl) hx w
theorem gateRefRetry_any (R B S L C W : Int) (E : Bool) (t n k : Int) (x : Value) (hx : den (sg R B S L C W t n k E) (fun _ => none) (rY (.var 0) (.var 1) (.var 2) (.var 3) (.var 4) (.var 5) (.bvar 0) (.var 6) (.var 7) (.var 8)) = some x) (w : World) :
    Calls Try.prog 12 #[gate R B S L C W E, .int .i64 t, .int .i64 n, .int .i64 k] w fun e w' => e = .returned x ∧ Below w.heap.size w w' :=
  calls_value' follows funsOk (sg R B S L C W t n k E) (cs := ctrs2) (ctrs2Ok _ _) (n := 1000) (f := 12) (args := [gArg, .int .i64 (.var 6), .int .i64 (.var 7), .int .i64 (.var 8)]) (pc := []) (r := rY (.var 0) (.var 1) (.var 2) (.var 3) (.var 4) (.var 5) (.bvar 0) (.var 6) (.var 7) (.var 8)) (gs := [])
    (by kernel_rfl) nilOk (xs := [gate R B S L C W E, .int .i64 t, .int .i64 n, .int .i64 k]) rfl (fun t ht => by simp at ht) (by kernel_rfl) hx w
end Go.Proofs.Ytnogbjpiocckiaa
