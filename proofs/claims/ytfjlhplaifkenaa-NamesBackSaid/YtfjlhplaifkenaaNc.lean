/-
  Objects, goals and subjects are checked alike; NamesCheck.
-/
import Derived.Test.YtfjlhplaifkenaaNb
namespace Go.Proofs.Ytfjlhplaifkenaa
open Go.Proofs.Ytfjlhplaifkenaa.Vx Go.RowKit
set_option maxRecDepth 100000
def pN (i : Nat) : T := .sfb 0 (.svar i)
def qN (i : Nat) : T := .ite (pN i) (.int 0) (.int 6)
def m2 : T := .ite (.not (.le (qN 1) (qN 0))) (qN 1) (qN 0)
def m3 : T := .ite (.not (.le (qN 2) m2)) (qN 2) m2
def g2 : T := .eq m2 (.ite (.and (pN 0) (pN 1)) (.int 0) (.int 6))
def g3 : T := .eq m3 (.ite (.and (pN 0) (.and (pN 1) (pN 2))) (.int 0) (.int 6))
theorem g2_ok (σ : Env) : T.b σ g2 = true := by
  cases ha : T.b σ (pN 0) <;> cases hb : T.b σ (pN 1) <;> simp [g2, m2, qN, T.b, T.i, ha, hb, eqB, leB]
theorem g3_ok (σ : Env) : T.b σ g3 = true := by
  cases ha : T.b σ (pN 0) <;> cases hb : T.b σ (pN 1) <;> cases hc : T.b σ (pN 2) <;> simp [g3, m3, m2, qN, T.b, T.i, ha, hb, hc, eqB, leB]
def vN : Vcs := [([], g2), ([], g3)]
theorem vN_ok (σ : Env) : VOk σ vN := by
  intro x hx _
  simp only [vN, List.mem_cons, List.not_mem_nil, or_false] at hx
  rcases hx with rfl | rfl
  · exact g2_ok σ
  · exact g3_ok σ
theorem object_any (a b : ByteArray) (w : World) : Calls Try.prog 11 #[.agg #[.string a, .string b]] w fun e w' => e = .returned (.int .i64 (obN a b)) ∧ Below w.heap.size w w' :=
  calls_value' follows funsOk (envN [a, b]) (ctrsNOk _) (n := 1000) (f := 11) (args := [.agg [s0, s1]]) (pc := []) (r := .int .i64 (obT (.svar 0) (.svar 1))) (gs := vN)
    (by kernel_rfl) (vN_ok _) (xs := [.agg #[.string a, .string b]]) rfl (fun t ht => by simp at ht) rfl (z := .int .i64 (obN a b)) rfl w
theorem refObject_any (a b : ByteArray) (w : World) : Calls Try.prog 12 #[.agg #[.string a, .string b]] w fun e w' => e = .returned (.int .i64 (obN a b)) ∧ Below w.heap.size w w' :=
  calls_value' follows funsOk (envN [a, b]) (ctrsNOk _) (n := 1000) (f := 12) (args := [.agg [s0, s1]]) (pc := []) (r := .int .i64 (obT (.svar 0) (.svar 1))) (gs := vN)
    (by kernel_rfl) (vN_ok _) (xs := [.agg #[.string a, .string b]]) rfl (fun t ht => by simp at ht) rfl (z := .int .i64 (obN a b)) rfl w
theorem goal_any (a b c : ByteArray) (w : World) : Calls Try.prog 13 #[.agg #[.string a, .string b, .string c]] w fun e w' => e = .returned (.int .i64 (goN a b c)) ∧ Below w.heap.size w w' :=
  calls_value' follows funsOk (envN [a, b, c]) (ctrsNOk _) (n := 1000) (f := 13) (args := [.agg [s0, s1, s2]]) (pc := []) (r := .int .i64 (goT (.svar 0) (.svar 1) (.svar 2))) (gs := vN)
    (by kernel_rfl) (vN_ok _) (xs := [.agg #[.string a, .string b, .string c]]) rfl (fun t ht => by simp at ht) rfl (z := .int .i64 (goN a b c)) rfl w
theorem refGoal_any (a b c : ByteArray) (w : World) : Calls Try.prog 14 #[.agg #[.string a, .string b, .string c]] w fun e w' => e = .returned (.int .i64 (goN a b c)) ∧ Below w.heap.size w w' :=
  calls_value' follows funsOk (envN [a, b, c]) (ctrsNOk _) (n := 1000) (f := 14) (args := [.agg [s0, s1, s2]]) (pc := []) (r := .int .i64 (goT (.svar 0) (.svar 1) (.svar 2))) (gs := vN)
    (by kernel_rfl) (vN_ok _) (xs := [.agg #[.string a, .string b, .string c]]) rfl (fun t ht => by simp at ht) rfl (z := .int .i64 (goN a b c)) rfl w
theorem subject_any (a b c : ByteArray) (w : World) : Calls Try.prog 15 #[.agg #[.string a, .string b, .string c]] w fun e w' => e = .returned (.int .i64 (suN a b c)) ∧ Below w.heap.size w w' :=
  calls_value' follows funsOk (envN [a, b, c]) (ctrsNOk _) (n := 1000) (f := 15) (args := [.agg [s0, s1, s2]]) (pc := []) (r := .int .i64 (suT (.svar 0) (.svar 1) (.svar 2))) (gs := vN)
    (by kernel_rfl) (vN_ok _) (xs := [.agg #[.string a, .string b, .string c]]) rfl (fun t ht => by simp at ht) rfl (z := .int .i64 (suN a b c)) (congrArg (fun n => some (Value.int .i64 n)) (suT_i [a, b, c] (.svar 0) (.svar 1) (.svar 2))) w
theorem refSubject_any (a b c : ByteArray) (w : World) : Calls Try.prog 16 #[.agg #[.string a, .string b, .string c]] w fun e w' => e = .returned (.int .i64 (suN a b c)) ∧ Below w.heap.size w w' :=
  calls_value' follows funsOk (envN [a, b, c]) (ctrsNOk _) (n := 1000) (f := 16) (args := [.agg [s0, s1, s2]]) (pc := []) (r := .int .i64 (suT (.svar 0) (.svar 1) (.svar 2))) (gs := vN)
    (by kernel_rfl) (vN_ok _) (xs := [.agg #[.string a, .string b, .string c]]) rfl (fun t ht => by simp at ht) rfl (z := .int .i64 (suN a b c)) (congrArg (fun n => some (Value.int .i64 n)) (suT_i [a, b, c] (.svar 0) (.svar 1) (.svar 2))) w
def ctrsM : List Ctr := ctrOb 11 :: ctrOb 12 :: ctrGo 13 :: ctrGo 14 :: ctrSu 15 :: ctrSu 16 :: ctrsN
theorem ctrsMOk (l : List ByteArray) : CtrsOk Try.prog (envN l) ctrsM := obOk object_any (obOk refObject_any (goOk goal_any (goOk refGoal_any (suOk subject_any (suOk refSubject_any (ctrsNOk _))))))
end Go.Proofs.Ytfjlhplaifkenaa
