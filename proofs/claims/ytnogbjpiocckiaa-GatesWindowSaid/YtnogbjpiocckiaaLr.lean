/-
  GatesRetry: the buckets that are made of small numbers, and what is asked of the law.
-/
import Derived.Test.YtnogbjpiocckiaaLg
namespace Go.Proofs.Ytnogbjpiocckiaa
open Go.Proofs.Ytnogbjpiocckiaa.Vx Go.RowKit
def c2 (a b : T) : T := .cons a (.cons b .nil)
def c3 (a b c : T) : T := .cons a (.cons b (.cons c .nil))
def oR (r g : T) : T := .fni 2 (c2 r g)
def oB (b g : T) : T := .fni 3 (c2 b g)
def oT (b t g : T) : T := .fni 4 (c3 b t g)
def oL (l g : T) : T := .fni 5 (c2 l g)
def ctrMade : Ctr := ⟨31, fun l => match l with
  | [.agg [.int .u8 r, .int .u8 b, .int .u8 t, .int .u16 l, .int .u8 g]] => some (.agg [.int .i64 (oR r g), .int .i64 (oB b g), .int .i64 (oT b t g), .int .i64 (oL l g)],
     [mkLe (.int 0) r, mkLe r (.int 255), mkLe (.int 0) b, mkLe b (.int 255), mkLe (.int 0) t, mkLe t (.int 255), mkLe (.int 0) l, mkLe l (.int 65535), mkLe (.int 0) g, mkLe g (.int 255)],
     [.le (.int 0) (oR r g), .le (oR r g) (.int 2147483648), .le (.int 1) (oB b g), .le (oB b g) (.int 2147483648), .le (.int 0) (oT b t g), .le (oT b t g) (oB b g), .le (.int 0) (oL l g), .le (oL l g) (.int 4611686018427387904)])
  | _ => none⟩
theorem of_bnd {r b t l g : Int} (h : OkX r b t l g) : 0 ≤ ofR r g ∧ ofR r g ≤ 2147483648 ∧ 1 ≤ ofB b g ∧ ofB b g ≤ 2147483648 ∧ 0 ≤ ofT b t g ∧ ofT b t g ≤ ofB b g ∧ 0 ≤ ofL l g ∧ ofL l g ≤ 4611686018427387904 := by
  have h := of_ok h
  simp only [okB, inB, Bool.and_eq_true, decide_eq_true_eq] at h
  omega
theorem madeOk {l : List Int} {b : List Bool} {cs : List Ctr} (h : CtrsOk Try.prog (envF l b) cs) : CtrsOk Try.prog (envF l b) (ctrMade :: cs) := .cons (fun args v conds fs xs x ρ h hv hx hd => by
  simp only [ctrMade] at h
  split at h
  · simp only [Option.some.injEq, Prod.mk.injEq] at h
    obtain ⟨rfl, rfl, rfl⟩ := h
    simp only [denL, den, Option.map_some, Option.bind_some, Option.some.injEq] at hx hd
    subst hx; subst hd
    simp only [List.mem_cons, List.not_mem_nil, or_false, forall_eq_or_imp, forall_eq, mkLe_b, leB_t, T.i] at hv
    obtain ⟨h1, h2, h3, h4, h5, h6, h7, h8, h9, h10⟩ := hv
    have hx : OkX _ _ _ _ _ := ⟨h1, h2, h3, h4, h5, h6, h7, h8, h9, h10⟩
    refine ⟨?_, of_any _ _ _ _ _ hx⟩
    simp only [List.mem_cons, List.not_mem_nil, or_false, forall_eq_or_imp, forall_eq, T.b, leB_t, T.i]
    exact of_bnd hx
  · simp at h) h
def ctrs4 : List Ctr := ctrMade :: ctrA 9 :: ctrsA
theorem ctrs4Ok (l : List Int) (b : List Bool) : CtrsOk Try.prog (envF l b) ctrs4 := madeOk (okA_ctr gateAsk_any (ctrsAOk _ _))
def argX : V := .agg [.int .u8 (.var 0), .int .u8 (.var 1), .int .u8 (.var 2), .int .u16 (.var 3), .int .u8 (.var 4), .int .u8 (.var 5), .int .u8 (.var 6), .bool (.bvar 0)]
def bnd (n : Nat) (m : Int) : List T := [.le (.int 0) (.var n), .le (.var n) (.int m)]
def pcX : List T := bnd 0 255 ++ bnd 1 255 ++ bnd 2 255 ++ bnd 3 65535 ++ bnd 4 255 ++ bnd 5 255 ++ bnd 6 255 ++ bnd 7 4294967295 ++ bnd 8 255 ++ bnd 9 255
abbrev xR : T := oR (.var 0) (.var 4)
abbrev xB : T := oB (.var 1) (.var 4)
abbrev xS : T := oT (.var 1) (.var 2) (.var 4)
abbrev xL : T := oL (.var 3) (.var 4)
abbrev xC : T := .add (.int 1) (.rem (.var 5) (.int 64))
abbrev xW : T := .rem (.var 6) (.add xC (.int 1))
abbrev xK : T := .rem (.var 8) (.add xC (.int 1))
abbrev xT : T := .ite (.not (.le (.add xL (.var 9)) (.int 4611686018427387904))) (.int 4611686018427387904) (.add xL (.var 9))
def pcR : List T := [.le (.int 0) xR, .le xR (.int 2147483648), .le (.int 1) xB, .le xB (.int 2147483648), .le (.int 0) xS, .le xS xB, .le (.int 0) xL, .le xL (.int 4611686018427387904),
  .le (.int 0) xW, .le xW xC, .le (.int 0) xK, .le xK xC, .le (.add (.int 0) xK) xC, .le xL xT, .le xT (.int 4611686018427387904)] ++ pcX
end Go.Proofs.Ytnogbjpiocckiaa
