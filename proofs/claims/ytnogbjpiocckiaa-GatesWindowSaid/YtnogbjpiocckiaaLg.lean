/-
  GatesAsk, GatesKnown.
-/
import Derived.Test.YtnogbjpiocckiaaLf
import Derived.Test.YtnogbjpiocckiaaLo
namespace Go.Proofs.Ytnogbjpiocckiaa
open Go.Proofs.Ytnogbjpiocckiaa.Vx Go.RowKit
set_option maxRecDepth 100000
def ctrs3 : List Ctr := ctrY 13 :: ctrY 12 :: ctrR 11 :: ctrR 10 :: ctrC 14 :: ctrC 15 :: ctrs2
theorem ctrs3Ok (l : List Int) (b : List Bool) : CtrsOk Try.prog (envF l b) ctrs3 := okY_ctr gateRetry_any (okY_ctr gateRefRetry_any (okRel_ctr release_any (okRel_ctr refRelease_any (okC_ctr gateCheck_any (okC_ctr gateRefCheck_any (ctrs2Ok _ _))))))
theorem lawAsk_any (R B S L C W : Int) (E : Bool) (t n k : Int) (w : World) :
    Calls Try.prog 3 #[gate R B S L C W E, .agg #[.int .i64 t, .int .i64 n], .int .i64 k] w fun e w' => e = .returned (.bool true) ∧ Below w.heap.size w w' :=
  calls_goals follows funsOk (sg R B S L C W t n k E) (cs := ctrs3) (ctrs3Ok _ _) (n := 1000) (f := 3) (args := [gArg, .agg [.int .i64 (.var 6), .int .i64 (.var 7)], .int .i64 (.var 8)]) (pc := []) (gs := [])
    (by kernel_rfl) nilOk (xs := [gate R B S L C W E, .agg #[.int .i64 t, .int .i64 n], .int .i64 k]) rfl (fun t ht => by simp at ht) w
end Go.Proofs.Ytnogbjpiocckiaa
