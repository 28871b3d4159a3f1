/-
  Contracts: a gate is valid, what it gives back, what it answers.
-/
import Derived.Test.YtnogbjpiocckiaaLc
namespace Go.Proofs.Ytnogbjpiocckiaa
open Go.Proofs.Ytnogbjpiocckiaa.Vx Go.RowKit
def okG (R B S L C W : T) : List T := [.le (.int 0) R, .le R (.int 2147483648), .le (.int 1) B, .le B (.int 2147483648), .le (.int 0) S, .le S B, .le (.int 0) L, .le L (.int 4611686018427387904),
  .le (.int 1) C, .le C (.int 64), .le (.int 0) W, .le W C]
def okX (R B S L C W t n k : T) : T := andL (okG R B S L C W ++ [.le L t, .le t (.int 4611686018427387904), .le (.int 0) n, .le (.int 0) k, .le k (.int 64)])
def okRel (R B S L C W k : T) : T := andL (okG R B S L C W ++ [.le (.int 0) k, .le k W])
def hvX (R B S L t : T) : T := .fni 0 (c4 S R (.sub t L) B)
def waX (R B S L t n : T) : T := .fni 1 (c4 R B n (hvX R B S L t))
def yesX (R B S L C W t n k : T) : T := mkAnd (.le n (hvX R B S L t)) (.le (.add W k) C)
def aftX (R B S L E t n : T) : T := .ite (.and E (.le (.int 1) (waX R B S L t n))) (.sub (waX R B S L t n) (.int 1)) (waX R B S L t n)
def rC (R B S L C W : T) : V := .int .i64 (.ite (andL (okG R B S L C W)) (.int 0) (.int 4))
def gT (ok R B S L C W E : T) : V := .agg [.int .i64 (.ite ok R (.int 0)), .int .i64 (.ite ok B (.int 0)), .int .i64 (.ite ok S (.int 0)), .int .i64 (.ite ok L (.int 0)), .int .i64 (.ite ok C (.int 0)), .int .i64 (.ite ok W (.int 0)), .bool (.ite ok E (.bool false))]
def rR (R B S L C W E k : T) : V := .tup [gT (okRel R B S L C W k) R B S L C (.sub W k) E, .int .i64 (.ite (okRel R B S L C W k) (.int 0) (.int 4))]
def rX (R B S L C W E t n k : T) : V :=
  .tup [gT (okX R B S L C W t n k) R B (.ite (yesX R B S L C W t n k) (.sub (hvX R B S L t) n) S) (.ite (yesX R B S L C W t n k) t L) C (.ite (yesX R B S L C W t n k) (.add W k) W) E,
   .agg [.bool (.ite (okX R B S L C W t n k) (yesX R B S L C W t n k) (.bool false)), .int .i64 (.ite (okX R B S L C W t n k) (.ite (yesX R B S L C W t n k) (.int 0) (aftX R B S L E t n)) (.int 0))], .int .i64 (.ite (okX R B S L C W t n k) (.int 0) (.int 4))]
/-- asked once more -/
def moreX (R B S L C W E t n k : T) : T := mkAnd (okX R B S L C W t n k) (mkAnd (mkNot (yesX R B S L C W t n k)) (.not (.eq (aftX R B S L E t n) (.int (-1)))))
/-- way by way -/
def iteW (c : T) : V → V → V
  | .int k a, .int _ b => .int k (.ite c a b)
  | .bool a, .bool b => .bool (.ite c a b)
  | .agg [a1, a2, a3, a4, a5, a6, a7], .agg [b1, b2, b3, b4, b5, b6, b7] => .agg [iteW c a1 b1, iteW c a2 b2, iteW c a3 b3, iteW c a4 b4, iteW c a5 b5, iteW c a6 b6, iteW c a7 b7]
  | .agg [a1, a2], .agg [b1, b2] => .agg [iteW c a1 b1, iteW c a2 b2]
  | .tup [a1, a2, a3], .tup [b1, b2, b3] => .tup [iteW c a1 b1, iteW c a2 b2, iteW c a3 b3]
  | a, _ => a
def rY (R B S L C W E t n k : T) : V := iteW (moreX R B S L C W E t n k) (rX R B S L C (.int 0) E (.add t (aftX R B S L E t n)) n k) (rX R B S L C W E t n k)

def ctrA (f : FuncId) : Ctr := ⟨f, fun l => match l with
  | [.agg [.int .i64 R, .int .i64 B, .int .i64 S, .int .i64 L, .int .i64 C, .int .i64 W, .bool E], .int .i64 t, .int .i64 n, .int .i64 k] => some (rX R B S L C W E t n k, [], [.le (.int (-1)) (aftX R B S L E t n), .le (aftX R B S L E t n) (.int 4294967296)])
  | _ => none⟩
def ctrY (f : FuncId) : Ctr := ⟨f, fun l => match l with
  | [.agg [.int .i64 R, .int .i64 B, .int .i64 S, .int .i64 L, .int .i64 C, .int .i64 W, .bool E], .int .i64 t, .int .i64 n, .int .i64 k] => some (rY R B S L C W E t n k, [], [])
  | _ => none⟩
def ctrR (f : FuncId) : Ctr := ⟨f, fun l => match l with
  | [.agg [.int .i64 R, .int .i64 B, .int .i64 S, .int .i64 L, .int .i64 C, .int .i64 W, .bool E], .int .i64 k] => some (rR R B S L C W E k, [], [])
  | _ => none⟩
def ctrC (f : FuncId) : Ctr := ⟨f, fun l => match l with
  | [.agg [.int .i64 R, .int .i64 B, .int .i64 S, .int .i64 L, .int .i64 C, .int .i64 W, .bool _]] => some (rC R B S L C W, [], [])
  | _ => none⟩

def gArg : V := .agg [.int .i64 (.var 0), .int .i64 (.var 1), .int .i64 (.var 2), .int .i64 (.var 3), .int .i64 (.var 4), .int .i64 (.var 5), .bool (.bvar 0)]
def gate (R B S L C W : Int) (E : Bool) : Value := .agg #[.int .i64 R, .int .i64 B, .int .i64 S, .int .i64 L, .int .i64 C, .int .i64 W, .bool E]
/-- the variables' values -/
def sg (R B S L C W t n k : Int) (E : Bool) : Env := envF [R, B, S, L, C, W, t, n, k] [E]
theorem sgOk (R B S L C W t n k : Int) (E : Bool) : CtrsOk Try.prog (sg R B S L C W t n k E) ctrsB := ctrsBOk _ _

theorem okC_ctr {f : FuncId} {l : List Int} {b : List Bool} {cs : List Ctr}
    (H : ∀ R B S L C W E x, den (sg R B S L C W 0 0 0 E) (fun _ => none) (rC (.var 0) (.var 1) (.var 2) (.var 3) (.var 4) (.var 5)) = some x → ∀ w, Calls Try.prog f #[gate R B S L C W E] w fun e w' => e = .returned x ∧ Below w.heap.size w w')
    (h : CtrsOk Try.prog (envF l b) cs) : CtrsOk Try.prog (envF l b) (ctrC f :: cs) := .cons (fun args v conds fs xs x ρ h hv hx hd => by
  simp only [ctrC] at h
  split at h
  · simp only [Option.some.injEq, Prod.mk.injEq] at h
    obtain ⟨rfl, rfl, rfl⟩ := h
    simp only [denL, den, Option.map_some, Option.bind_some, Option.some.injEq] at hx
    subst hx
    refine ⟨fun t ht => by simp at ht, fun w => ?_⟩
    refine H _ _ _ _ _ _ _ x ?_ w
    exact hd
  · simp at h) h

theorem okRel_ctr {f : FuncId} {l : List Int} {b : List Bool} {cs : List Ctr}
    (H : ∀ R B S L C W E k x, den (sg R B S L C W 0 0 k E) (fun _ => none) (rR (.var 0) (.var 1) (.var 2) (.var 3) (.var 4) (.var 5) (.bvar 0) (.var 8)) = some x → ∀ w, Calls Try.prog f #[gate R B S L C W E, .int .i64 k] w fun e w' => e = .returned x ∧ Below w.heap.size w w')
    (h : CtrsOk Try.prog (envF l b) cs) : CtrsOk Try.prog (envF l b) (ctrR f :: cs) := .cons (fun args v conds fs xs x ρ h hv hx hd => by
  simp only [ctrR] at h
  split at h
  · simp only [Option.some.injEq, Prod.mk.injEq] at h
    obtain ⟨rfl, rfl, rfl⟩ := h
    simp only [denL, den, Option.map_some, Option.bind_some, Option.some.injEq] at hx
    subst hx
    refine ⟨fun t ht => by simp at ht, fun w => ?_⟩
    refine H _ _ _ _ _ _ _ _ x ?_ w
    exact hd
  · simp at h) h

theorem aft_bnd (l : List Int) (b : List Bool) (R B S L E t n : T) : -1 ≤ T.i (envF l b) (aftX R B S L E t n) ∧ T.i (envF l b) (aftX R B S L E t n) ≤ 4294967296 := by
  have h := waC_bnd (T.i (envF l b) R) (T.i (envF l b) B) (T.i (envF l b) n) (T.i (envF l b) (hvX R B S L t))
  have e : T.i (envF l b) (waX R B S L t n) = waC (T.i (envF l b) R) (T.i (envF l b) B) (T.i (envF l b) n) (T.i (envF l b) (hvX R B S L t)) := rfl
  rw [← e] at h
  simp only [aftX, T.i, T.b, Bool.and_eq_true, leB_t]
  split <;> omega
theorem okA_ctr {f : FuncId} {l : List Int} {b : List Bool} {cs : List Ctr}
    (H : ∀ R B S L C W E t n k x, den (sg R B S L C W t n k E) (fun _ => none) (rX (.var 0) (.var 1) (.var 2) (.var 3) (.var 4) (.var 5) (.bvar 0) (.var 6) (.var 7) (.var 8)) = some x → ∀ w, Calls Try.prog f #[gate R B S L C W E, .int .i64 t, .int .i64 n, .int .i64 k] w fun e w' => e = .returned x ∧ Below w.heap.size w w')
    (h : CtrsOk Try.prog (envF l b) cs) : CtrsOk Try.prog (envF l b) (ctrA f :: cs) := .cons (fun args v conds fs xs x ρ h hv hx hd => by
  simp only [ctrA] at h
  split at h
  · simp only [Option.some.injEq, Prod.mk.injEq] at h
    obtain ⟨rfl, rfl, rfl⟩ := h
    simp only [denL, den, Option.map_some, Option.bind_some, Option.some.injEq] at hx
    subst hx
    refine ⟨?_, fun w => ?_⟩
    · simp only [List.mem_cons, List.not_mem_nil, or_false, forall_eq_or_imp, forall_eq, T.b, leB_t]
      exact aft_bnd _ _ _ _ _ _ _ _ _
    refine H _ _ _ _ _ _ _ _ _ _ x ?_ w
    exact hd
  · simp at h) h

theorem gateCheck_any (R B S L C W : Int) (E : Bool) (x : Value) (hx : den (sg R B S L C W 0 0 0 E) (fun _ => none) (rC (.var 0) (.var 1) (.var 2) (.var 3) (.var 4) (.var 5)) = some x) (w : World) :
    Calls Try.prog 14 #[gate R B S L C W E] w fun e w' => e = .returned x ∧ Below w.heap.size w w' :=
  calls_value follows funsOk (sg R B S L C W 0 0 0 E) (cs := ctrsB) (sgOk R B S L C W 0 0 0 E) (n := 1000) (f := 14) (args := [gArg]) (pc := []) (r := rC (.var 0) (.var 1) (.var 2) (.var 3) (.var 4) (.var 5)) (gs := [])
    (by kernel_rfl) nilOk (xs := [gate R B S L C W E]) rfl (fun t ht => by simp at ht) (by kernel_rfl) hx w

theorem gateRefCheck_any (R B S L C W : Int) (E : Bool) (x : Value) (hx : den (sg R B S L C W 0 0 0 E) (fun _ => none) (rC (.var 0) (.var 1) (.var 2) (.var 3) (.var 4) (.var 5)) = some x) (w : World) :
    Calls Try.prog 15 #[gate R B S L C W E] w fun e w' => e = .returned x ∧ Below w.heap.size w w' :=
  calls_value follows funsOk (sg R B S L C W 0 0 0 E) (cs := ctrsB) (sgOk R B S L C W 0 0 0 E) (n := 1000) (f := 15) (args := [gArg]) (pc := []) (r := rC (.var 0) (.var 1) (.var 2) (.var 3) (.var 4) (.var 5)) (gs := [])
    (by kernel_rfl) nilOk (xs := [gate R B S L C W E]) rfl (fun t ht => by simp at ht) (by kernel_rfl) hx w

theorem release_any (R B S L C W : Int) (E : Bool) (k : Int) (x : Value) (hx : den (sg R B S L C W 0 0 k E) (fun _ => none) (rR (.var 0) (.var 1) (.var 2) (.var 3) (.var 4) (.var 5) (.bvar 0) (.var 8)) = some x) (w : World) :
    Calls Try.prog 11 #[gate R B S L C W E, .int .i64 k] w fun e w' => e = .returned x ∧ Below w.heap.size w w' :=
  calls_value follows funsOk (sg R B S L C W 0 0 k E) (cs := ctrsB) (sgOk R B S L C W 0 0 k E) (n := 1000) (f := 11) (args := [gArg, .int .i64 (.var 8)]) (pc := []) (r := rR (.var 0) (.var 1) (.var 2) (.var 3) (.var 4) (.var 5) (.bvar 0) (.var 8)) (gs := [])
    (by kernel_rfl) nilOk (xs := [gate R B S L C W E, .int .i64 k]) rfl (fun t ht => by simp at ht) (by kernel_rfl) hx w

theorem refRelease_any (R B S L C W : Int) (E : Bool) (k : Int) (x : Value) (hx : den (sg R B S L C W 0 0 k E) (fun _ => none) (rR (.var 0) (.var 1) (.var 2) (.var 3) (.var 4) (.var 5) (.bvar 0) (.var 8)) = some x) (w : World) :
    Calls Try.prog 10 #[gate R B S L C W E, .int .i64 k] w fun e w' => e = .returned x ∧ Below w.heap.size w w' :=
  calls_value follows funsOk (sg R B S L C W 0 0 k E) (cs := ctrsB) (sgOk R B S L C W 0 0 k E) (n := 1000) (f := 10) (args := [gArg, .int .i64 (.var 8)]) (pc := []) (r := rR (.var 0) (.var 1) (.var 2) (.var 3) (.var 4) (.var 5) (.bvar 0) (.var 8)) (gs := [])
    (by kernel_rfl) nilOk (xs := [gate R B S L C W E, .int .i64 k]) rfl (fun t ht => by simp at ht) (by kernel_rfl) hx w

theorem gateRefAsk_any (R B S L C W : Int) (E : Bool) (t n k : Int) (x : Value) (hx : den (sg R B S L C W t n k E) (fun _ => none) (rX (.var 0) (.var 1) (.var 2) (.var 3) (.var 4) (.var 5) (.bvar 0) (.var 6) (.var 7) (.var 8)) = some x) (w : World) :
    Calls Try.prog 8 #[gate R B S L C W E, .int .i64 t, .int .i64 n, .int .i64 k] w fun e w' => e = .returned x ∧ Below w.heap.size w w' :=
  calls_value' follows funsOk (sg R B S L C W t n k E) (cs := ctrsB) (sgOk R B S L C W t n k E) (n := 1000) (gs := []) (f := 8) (args := [gArg, .int .i64 (.var 6), .int .i64 (.var 7), .int .i64 (.var 8)]) (pc := []) (r := rX (.var 0) (.var 1) (.var 2) (.var 3) (.var 4) (.var 5) (.bvar 0) (.var 6) (.var 7) (.var 8))
    (by kernel_rfl) nilOk (xs := [gate R B S L C W E, .int .i64 t, .int .i64 n, .int .i64 k]) rfl (fun t ht => by simp at ht) (by kernel_rfl) hx w
end Go.Proofs.Ytnogbjpiocckiaa
