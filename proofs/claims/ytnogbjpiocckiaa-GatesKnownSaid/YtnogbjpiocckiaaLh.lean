/-
  GatesKnown: the laws that it asks at many inputs hold at all.
-/
import Derived.Test.YtnogbjpiocckiaaLg
namespace Go.Proofs.Ytnogbjpiocckiaa
open Go.Proofs.Ytnogbjpiocckiaa.Vx Go.RowKit
set_option maxRecDepth 100000
def ctrLawAsk : Ctr := ⟨3, fun l => match l with
  | [.agg [.int .i64 _, .int .i64 _, .int .i64 _, .int .i64 _, .int .i64 _, .int .i64 _, .bool _], .agg [.int .i64 _, .int .i64 _], .int .i64 _] => some (.bool (.bool true), [], [])
  | _ => none⟩
def ctrLawOf : Ctr := ⟨4, fun l => match l with
  | [.agg [.int .i64 _, .int .i64 _, .int .i64 _], .int .i64 _, .int .u8 _] => some (.bool (.bool true), [], [])
  | _ => none⟩
theorem lawAskOk {σ : Env} {cs : List Ctr} (h : CtrsOk Try.prog σ cs) : CtrsOk Try.prog σ (ctrLawAsk :: cs) := .cons (fun args v conds fs xs x ρ h hv hx hd => by
  simp only [ctrLawAsk] at h
  split at h
  · simp only [Option.some.injEq, Prod.mk.injEq] at h
    obtain ⟨rfl, rfl, rfl⟩ := h
    simp only [denL, den, Option.map_some, Option.bind_some, Option.some.injEq] at hx hd
    subst hx; subst hd
    exact ⟨fun t ht => by simp at ht, lawAsk_any _ _ _ _ _ _ _ _ _ _⟩
  · simp at h) h
theorem lawOfOk {σ : Env} {cs : List Ctr} (h : CtrsOk Try.prog σ cs) : CtrsOk Try.prog σ (ctrLawOf :: cs) := .cons (fun args v conds fs xs x ρ h hv hx hd => by
  simp only [ctrLawOf] at h
  split at h
  · simp only [Option.some.injEq, Prod.mk.injEq] at h
    obtain ⟨rfl, rfl, rfl⟩ := h
    simp only [denL, den, Option.map_some, Option.bind_some, Option.some.injEq] at hx hd
    subst hx; subst hd
    exact ⟨fun t ht => by simp at ht, lawOf_any _ _ _ _ _⟩
  · simp at h) h
theorem known_any (w : World) : Calls Try.prog 7 #[] w fun e w' => e = .returned (.bool true) ∧ Below w.heap.size w w' :=
  calls_true follows funsOk noEnv (lawAskOk (lawOfOk (ctrsOk _))) (n := 100000) (f := 7) (args := []) (by kernel_rfl) denL_nil w
end Go.Proofs.Ytnogbjpiocckiaa
