/-
  Contracts of the checks of names, objects, goals and subjects.
-/
import Derived.Test.YtfjlhplaifkenaaNa
import Derived.Test.YtfjlhplaifkenaaLv
namespace Go.Proofs.Ytfjlhplaifkenaa
open Go.Proofs.Ytfjlhplaifkenaa.Vx Go.RowKit
set_option maxRecDepth 100000
def sT : T → T
  | .str b => .bool (isName b.data.toList)
  | s => .sfb 0 s
def er (c : T) : T := mkIte c (.int 0) (.int 6)
def ckT (a : T) : T := er (sT a)
def obT (a b : T) : T := er (mkAnd (sT a) (sT b))
def goT (a b c : T) : T := er (mkAnd (sT a) (mkAnd (sT b) (sT c)))
def suT (a b c : T) : T := er (mkAnd (sT a) (mkAnd (sT b) (mkOr (mkEq (mkLen c) (.int 0)) (sT c))))
def noM (l : List UInt8) : Bool := !(l.contains 58) && !(l.contains 35)
def sbN : Nat → ByteArray → Bool
  | 0, s => isName s.data.toList
  | 1, s => noM s.data.toList
  | _, _ => false
def envN (l : List ByteArray) : Env := ⟨fun _ => 0, fun _ => false, fun i => l.getD i ByteArray.empty, fun _ => undef, fun _ _ => 0, fun _ _ => false, sbN⟩
def isN (s : ByteArray) : Bool := isName s.data.toList
def erN (b : Bool) : Int := if b = true then 0 else 6
def obN (a b : ByteArray) : Int := erN (isN a && isN b)
def goN (a b c : ByteArray) : Int := erN (isN a && (isN b && isN c))
def suN (a b c : ByteArray) : Int := erN (isN a && (isN b && (eqB c.size 0 || isN c)))
theorem sT_b (l : List ByteArray) (s : T) : T.b (envN l) (sT s) = isN (T.s (envN l) s) := by unfold sT; split <;> rfl
theorem er_i (σ : Env) (c : T) : T.i σ (er c) = erN (T.b σ c) := by unfold er; rw [mkIte_i]; rfl
theorem ckT_i (l : List ByteArray) (s : T) : T.i (envN l) (ckT s) = ckN (T.s (envN l) s) := by rw [ckT, er_i, sT_b]; rfl
theorem obT_i (l : List ByteArray) (a b : T) : T.i (envN l) (obT a b) = obN (T.s (envN l) a) (T.s (envN l) b) := by rw [obT, er_i, mkAnd_b, sT_b, sT_b]; rfl
theorem goT_i (l : List ByteArray) (a b c : T) : T.i (envN l) (goT a b c) = goN (T.s (envN l) a) (T.s (envN l) b) (T.s (envN l) c) := by rw [goT, er_i, mkAnd_b, mkAnd_b, sT_b, sT_b, sT_b]; rfl
theorem suT_i (l : List ByteArray) (a b c : T) : T.i (envN l) (suT a b c) = suN (T.s (envN l) a) (T.s (envN l) b) (T.s (envN l) c) := by rw [suT, er_i, mkAnd_b, mkAnd_b, mkOr_b, mkEq_b, mkLen_i, sT_b, sT_b, sT_b]; rfl
def ctrCk (f : FuncId) : Ctr := ⟨f, fun l => match l with
  | [.str s] => some (.int .i64 (ckT s), [], [])
  | _ => none⟩
def ctrOb (f : FuncId) : Ctr := ⟨f, fun l => match l with
  | [.agg [.str a, .str b]] => some (.int .i64 (obT a b), [], [])
  | _ => none⟩
def ctrGo (f : FuncId) : Ctr := ⟨f, fun l => match l with
  | [.agg [.str a, .str b, .str c]] => some (.int .i64 (goT a b c), [], [])
  | _ => none⟩
def ctrSu (f : FuncId) : Ctr := ⟨f, fun l => match l with
  | [.agg [.str a, .str b, .str c]] => some (.int .i64 (suT a b c), [], [])
  | _ => none⟩
theorem ckOk {f : FuncId} {l : List ByteArray} {cs : List Ctr} (H : ∀ s w, Calls Try.prog f #[.string s] w fun e w' => e = .returned (.int .i64 (ckN s)) ∧ Below w.heap.size w w') (h : CtrsOk Try.prog (envN l) cs) : CtrsOk Try.prog (envN l) (ctrCk f :: cs) := .cons (fun args v conds fs xs x ρ h hv hx hd => by
  simp only [ctrCk] at h
  split at h
  · simp only [Option.some.injEq, Prod.mk.injEq] at h
    obtain ⟨rfl, rfl, rfl⟩ := h
    simp only [denL, den, Option.map_some, Option.bind_some, Option.some.injEq, ckT_i] at hx hd
    subst hx; subst hd
    exact ⟨fun t ht => by simp at ht, H _⟩
  · simp at h) h
theorem obOk {f : FuncId} {l : List ByteArray} {cs : List Ctr} (H : ∀ a b w, Calls Try.prog f #[.agg #[.string a, .string b]] w fun e w' => e = .returned (.int .i64 (obN a b)) ∧ Below w.heap.size w w') (h : CtrsOk Try.prog (envN l) cs) : CtrsOk Try.prog (envN l) (ctrOb f :: cs) := .cons (fun args v conds fs xs x ρ h hv hx hd => by
  simp only [ctrOb] at h
  split at h
  · simp only [Option.some.injEq, Prod.mk.injEq] at h
    obtain ⟨rfl, rfl, rfl⟩ := h
    simp only [denL, den, Option.map_some, Option.bind_some, Option.some.injEq, obT_i] at hx hd
    subst hx; subst hd
    exact ⟨fun t ht => by simp at ht, H _ _⟩
  · simp at h) h
theorem goOk {f : FuncId} {l : List ByteArray} {cs : List Ctr} (H : ∀ a b c w, Calls Try.prog f #[.agg #[.string a, .string b, .string c]] w fun e w' => e = .returned (.int .i64 (goN a b c)) ∧ Below w.heap.size w w') (h : CtrsOk Try.prog (envN l) cs) : CtrsOk Try.prog (envN l) (ctrGo f :: cs) := .cons (fun args v conds fs xs x ρ h hv hx hd => by
  simp only [ctrGo] at h
  split at h
  · simp only [Option.some.injEq, Prod.mk.injEq] at h
    obtain ⟨rfl, rfl, rfl⟩ := h
    simp only [denL, den, Option.map_some, Option.bind_some, Option.some.injEq, goT_i] at hx hd
    subst hx; subst hd
    exact ⟨fun t ht => by simp at ht, H _ _ _⟩
  · simp at h) h
theorem suOk {f : FuncId} {l : List ByteArray} {cs : List Ctr} (H : ∀ a b c w, Calls Try.prog f #[.agg #[.string a, .string b, .string c]] w fun e w' => e = .returned (.int .i64 (suN a b c)) ∧ Below w.heap.size w w') (h : CtrsOk Try.prog (envN l) cs) : CtrsOk Try.prog (envN l) (ctrSu f :: cs) := .cons (fun args v conds fs xs x ρ h hv hx hd => by
  simp only [ctrSu] at h
  split at h
  · simp only [Option.some.injEq, Prod.mk.injEq] at h
    obtain ⟨rfl, rfl, rfl⟩ := h
    simp only [denL, den, Option.map_some, Option.bind_some, Option.some.injEq, suT_i] at hx hd
    subst hx; subst hd
    exact ⟨fun t ht => by simp at ht, H _ _ _⟩
  · simp at h) h
def ctrsN : List Ctr := ctrCk 9 :: ctrCk 10 :: ctrs
theorem ctrsNOk (l : List ByteArray) : CtrsOk Try.prog (envN l) ctrsN := ckOk check_any (ckOk refCheck_any (ctrsOk _))
abbrev s0 : V := .str (.svar 0)
abbrev s1 : V := .str (.svar 1)
abbrev s2 : V := .str (.svar 2)
end Go.Proofs.Ytfjlhplaifkenaa
