/-
  CodecsNil.
-/
import Derived.Test.YtfihjaiemjbfiaaLv
namespace Go.Proofs.Ytfihjaiemjbfiaa
open Go.Proofs.Ytfihjaiemjbfiaa.Vx Go.RowKit
set_option maxRecDepth 100000
def envC (l : List Int) (ss : List ByteArray) : Env := ⟨fun i => l.getD i 0, fun _ => false, fun i => ss.getD i ByteArray.empty, fun _ => undef, fun _ _ => 0, fun _ _ => false, fun _ _ => false⟩
def argV : V := .agg [.int .u8 (.var 0), .int .u64 (.var 1), .str (.svar 0), .str (.svar 1), .str (.svar 2), .str (.svar 3), .str (.svar 4), .str (.svar 5)]
def pcV : List T := [.le (.int 0) (.var 0), .le (.var 0) (.int 255), .le (.int 0) (.var 1), .le (.var 1) (.int 18446744073709551615), .le (.int (-9223372036854775808)) (.var 2), .le (.var 2) (.int 9223372036854775807)]
def valV (k n : Int) (a b c d e f : ByteArray) : Value := .agg #[.int .u8 k, .int .u64 n, .string a, .string b, .string c, .string d, .string e, .string f]
/-- a nil writer writes nothing -/
theorem put_any (k n : Int) (a b c d e f : ByteArray) (w : World) :
    Calls Try.prog 10 #[valV k n a b c d e f, .pointer none] w fun x w' => x = .returned (.tuple #[]) ∧ Below w.heap.size w w' :=
  calls_value' follows funsOk (envC [k, n, 0] [a, b, c, d, e, f]) (ctrsOk _) (n := 100000) (f := 10) (args := [argV, .nilp]) (pc := []) (r := .tup []) (gs := [])
    (by kernel_rfl) nilOk (xs := [valV k n a b c d e f, .pointer none]) rfl (fun t ht => by simp at ht) (by kernel_rfl) (z := .tuple #[]) rfl w
def ctrPut : Ctr := ⟨10, fun l => match l with
  | [.agg [.int .u8 _, .int .u64 _, .str _, .str _, .str _, .str _, .str _, .str _], .nilp] => some (.tup [], [], [])
  | _ => none⟩
theorem putOk {σ : Env} {cs : List Ctr} (h : CtrsOk Try.prog σ cs) : CtrsOk Try.prog σ (ctrPut :: cs) := .cons (fun args v conds fs xs x ρ h hv hx hd => by
  simp only [ctrPut] at h
  split at h
  · simp only [Option.some.injEq, Prod.mk.injEq] at h
    obtain ⟨rfl, rfl, rfl⟩ := h
    simp only [denL, den, Option.map_some, Option.bind_some, Option.some.injEq] at hx hd
    subst hx; subst hd
    exact ⟨fun t ht => by simp at ht, put_any _ _ _ _ _ _ _ _⟩
  · simp at h) h
theorem lawNil_any {k n limit : Int} {a b c d e f : ByteArray} (h1 : 0 ≤ k) (h2 : k ≤ 255) (h3 : 0 ≤ n) (h4 : n ≤ 18446744073709551615) (h5 : -9223372036854775808 ≤ limit) (h6 : limit ≤ 9223372036854775807) (w : World) :
    Calls Try.prog 7 #[.agg #[.int .u8 k, .int .u64 n, .string a, .string b, .string c, .string d, .string e, .string f], .int .i64 limit] w fun e w' => e = .returned (.bool true) ∧ Below w.heap.size w w' :=
  calls_goals' follows funsOk (envC [k, n, limit] [a, b, c, d, e, f]) (putOk (ctrsOk _)) (n := 100000) (f := 7) (args := [argV, .int .i64 (.var 2)]) (pc := pcV) (gs := [])
    (by kernel_rfl) nilOk (xs := [.agg #[.int .u8 k, .int .u64 n, .string a, .string b, .string c, .string d, .string e, .string f], .int .i64 limit]) rfl (by
      simp only [pcV, List.forall_mem_cons]
      exact ⟨leB_t.2 h1, leB_t.2 h2, leB_t.2 h3, leB_t.2 h4, leB_t.2 h5, leB_t.2 h6, fun q hq => by simp at hq⟩) w
end Go.Proofs.Ytfihjaiemjbfiaa
