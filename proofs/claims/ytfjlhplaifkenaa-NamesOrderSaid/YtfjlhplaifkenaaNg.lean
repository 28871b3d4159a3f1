/-
  The order of goals: both functions give what the fields' orders say.
-/
import Derived.Test.YtfjlhplaifkenaaNc
import Derived.Test.YtfjlhplaifkenaaNe
namespace Go.Proofs.Ytfjlhplaifkenaa
open Go.Proofs.Ytfjlhplaifkenaa.Vx Go.RowKit
set_option maxRecDepth 100000
theorem cmp_zero : ∀ (l m : List UInt8), Lib.compareBytes l m = 0 ↔ l = m
  | [], [] => by simp [Lib.compareBytes]
  | [], _ :: _ => by simp [Lib.compareBytes]
  | _ :: _, [] => by simp [Lib.compareBytes]
  | x :: l, y :: m => by
    unfold Lib.compareBytes
    split
    · rename_i h; simp; intro e; subst e; exact absurd h (UInt8.lt_irrefl x)
    · split
      · rename_i h; simp; intro e; subst e; exact absurd h (UInt8.lt_irrefl x)
      · rename_i h1 h2
        have : x = y := UInt8.le_antisymm (UInt8.not_lt.1 h2) (UInt8.not_lt.1 h1)
        rw [cmp_zero l m]; simp [this]
def ctrOrd : Ctr := ⟨36, fun l => match l with
  | [.str a, .str b] => some (.int .i64 (mkCmp a b), [mkLe (mkLen a) (.int 1000000000)], [])
  | _ => none⟩
theorem ordOk {σ : Env} {cs : List Ctr} (h : CtrsOk Try.prog σ cs) : CtrsOk Try.prog σ (ctrOrd :: cs) := .cons (fun args v conds fs xs x ρ h hv hx hd => by
  simp only [ctrOrd] at h
  split at h
  · simp only [Option.some.injEq, Prod.mk.injEq] at h
    obtain ⟨rfl, rfl, rfl⟩ := h
    simp only [denL, den, Option.map_some, Option.bind_some, Option.some.injEq, mkCmp_i] at hx hd
    subst hx; subst hd
    simp only [List.mem_singleton, forall_eq, mkLe_b, mkLen_i, leB_t, T.i] at hv
    exact ⟨fun t ht => by simp at ht, refOrder_any _ _ hv⟩
  · simp at h) h
def cgT (a b c x y z : T) : T := .ite (.eq (.cmp a x) (.int 0)) (.ite (.eq (.cmp b y) (.int 0)) (.cmp c z) (.cmp b y)) (.cmp a x)
def coT (a b x y : T) : T := .ite (.eq (.cmp a x) (.int 0)) (.cmp b y) (.cmp a x)
def cgN (a b c x y z : ByteArray) : Int := if cmpN a x = 0 then (if cmpN b y = 0 then cmpN c z else cmpN b y) else cmpN a x
def coN (a b x y : ByteArray) : Int := if cmpN a x = 0 then cmpN b y else cmpN a x
abbrev s3 : V := .str (.svar 3)
abbrev s4 : V := .str (.svar 4)
abbrev s5 : V := .str (.svar 5)
abbrev cgV : T := cgT (.svar 0) (.svar 1) (.svar 2) (.svar 3) (.svar 4) (.svar 5)
abbrev coV : T := coT (.svar 0) (.svar 1) (.svar 2) (.svar 3)
end Go.Proofs.Ytfjlhplaifkenaa
