/-
  strings.Cut, strings.Count and strings.Contains of texts that are put together of names and marks.
-/
import Derived.Test.YtfjlhplaifkenaaNc
import Derived.Lib.IndexLaws
namespace Go.Proofs.Ytfjlhplaifkenaa
open Go.Proofs.Ytfjlhplaifkenaa.Vx Go.RowKit
set_option maxRecDepth 100000
set_option linter.unusedVariables false
set_option linter.unusedSimpArgs false
theorem idx_lt : ∀ (l : List UInt8) (c : UInt8), Lib.indexByte l c + 1 ≤ l.length
  | [], c => by simp [Lib.indexByte]
  | b :: l, c => by
    have := idx_lt l c
    unfold Lib.indexByte
    split
    · simp only [List.length_cons]; omega
    · split
      · simp only [List.length_cons]; omega
      · simp only [List.length_cons]; omega
def mk1 (c : Nat) : ByteArray := ⟨#[c.toUInt8]⟩
def ixC (c : Nat) : T := .idx (.svar 0) (.int c)
def qC (c : Nat) : T := .seq (.str (mk1 c)) (.svar 0)
def hdC (c : Nat) : T := .ite (.le (.int 0) (ixC c)) (.ext (.svar 0) (.int 0) (ixC c)) (.svar 0)
def tlC (c : Nat) : T := .ite (.le (.int 0) (ixC c)) (.ext (.svar 0) (.add (ixC c) (.int 1)) (.len (.svar 0))) (.str ⟨#[]⟩)
def gsC (c : Nat) : Vcs := [
  ([qC c], .seq (.ext (.svar 0) (.int 0) (.int 0)) (hdC c)), ([qC c], .seq (.ext (.svar 0) (.int 1) (.len (.svar 0))) (tlC c)), ([qC c], .beq (.bool true) (.le (.int 0) (ixC c))),
  ([.le (.int 0) (ixC c)], .seq (.ext (.svar 0) (.int 0) (ixC c)) (hdC c)), ([.le (.int 0) (ixC c)], .seq (.ext (.svar 0) (.add (ixC c) (.int 1)) (.len (.svar 0))) (tlC c)),
  ([.not (.le (.int 0) (ixC c))], .seq (.svar 0) (hdC c)), ([.not (.le (.int 0) (ixC c))], .eq (.len (tlC c)) (.int 0)),
  ([qC c], .le (.int 1) (.len (.svar 0))), ([], .le (ixC c) (.len (.svar 0))),
  ([.le (.int 0) (ixC c), .le (.len (.svar 0)) (.int 1000000000)], .and (.le (.int (-9223372036854775808)) (.add (ixC c) (.int 1))) (.le (.add (ixC c) (.int 1)) (.int 9223372036854775807))), ([], .le (.add (ixC c) (.int 1)) (.len (.svar 0)))]
theorem ite_t {σ : Env} {p a b : T} (h : T.b σ p = true) : T.s σ (.ite p a b) = T.s σ a := by
  have e : T.s σ (.ite p a b) = if T.b σ p = true then T.s σ a else T.s σ b := by simp only [T.s]
  rw [e, if_pos h]
theorem ite_f {σ : Env} {p a b : T} (h : T.b σ p = false) : T.s σ (.ite p a b) = T.s σ b := by
  have e : T.s σ (.ite p a b) = if T.b σ p = true then T.s σ a else T.s σ b := by simp only [T.s]
  rw [e, h]; rfl
theorem seq_t {σ : Env} {a b : T} (h : T.s σ a = T.s σ b) : T.b σ (.seq a b) = true := by
  have e : T.b σ (.seq a b) = sEqB (T.s σ a) (T.s σ b) := by simp only [T.b]
  rw [e, h, sEqB_t]
theorem le_t {σ : Env} {a b : T} : T.b σ (.le a b) = true ↔ T.i σ a ≤ T.i σ b := by
  have e : T.b σ (.le a b) = leB (T.i σ a) (T.i σ b) := by simp only [T.b]
  rw [e, leB_t]
theorem gsC_ok (σ : Env) (c : Nat) : VOk σ (gsC c) := by
  have h1 := idx_lt (σ.s 0).data.toList c.toUInt8
  have hsz : (σ.s 0).data.toList.length = (σ.s 0).size := by simp
  have hi : T.i σ (ixC c) = Lib.indexByte (σ.s 0).data.toList c.toUInt8 := by simp [ixC, T.i, T.s]
  have hl : T.i σ (.len (.svar 0)) = (σ.s 0).size := by simp only [T.i, T.s]
  have h0 : T.i σ (.int 0) = 0 := by simp only [T.i]
  have h11 : T.i σ (.int 1) = 1 := by simp only [T.i]
  have ha : T.i σ (.add (ixC c) (.int 1)) = T.i σ (ixC c) + 1 := by simp only [T.i]
  have hq : T.b σ (qC c) = true → T.i σ (ixC c) = 0 ∧ (σ.s 0).size = 1 := by
    intro h
    simp only [qC, T.b, T.s, sEqB_t, mk1] at h
    rw [hi, ← hsz, ← h]
    simp [Lib.indexByte]
  rw [← hi, hsz] at h1
  intro x hx hp
  simp only [gsC, List.mem_cons, List.not_mem_nil, or_false] at hx
  rcases hx with rfl | rfl | rfl | rfl | rfl | rfl | rfl | rfl | rfl | rfl | rfl <;> simp only [List.mem_cons, List.not_mem_nil, or_false, forall_eq_or_imp, forall_eq] at hp
  · obtain ⟨a, b⟩ := hq hp
    refine seq_t ?_
    rw [hdC, ite_t (le_t.2 (by rw [h0, a]; omega))]
    simp only [T.s, a, h0]
  · obtain ⟨a, b⟩ := hq hp
    refine seq_t ?_
    rw [tlC, ite_t (le_t.2 (by rw [h0, a]; omega))]
    simp only [T.s, ha, a, h11]
    rfl
  · obtain ⟨a, b⟩ := hq hp
    have := le_t.2 (show T.i σ (.int 0) ≤ T.i σ (ixC c) by rw [h0, a]; omega)
    have e : T.b σ (.beq (.bool true) (.le (.int 0) (ixC c))) = (T.b σ (.bool true) == T.b σ (.le (.int 0) (ixC c))) := by simp only [T.b]
    rw [e, this]; rfl
  · exact seq_t (ite_t hp).symm
  · exact seq_t (ite_t hp).symm
  · have hp : T.b σ (.le (.int 0) (ixC c)) = false := by
      have e : T.b σ (.not (.le (.int 0) (ixC c))) = !(T.b σ (.le (.int 0) (ixC c))) := by simp only [T.b]
      rw [e] at hp; simpa using hp
    exact seq_t (ite_f hp).symm
  · have hp : T.b σ (.le (.int 0) (ixC c)) = false := by
      have e : T.b σ (.not (.le (.int 0) (ixC c))) = !(T.b σ (.le (.int 0) (ixC c))) := by simp only [T.b]
      rw [e] at hp; simpa using hp
    have e : T.b σ (.eq (.len (tlC c)) (.int 0)) = eqB (T.i σ (.len (tlC c))) (T.i σ (.int 0)) := by simp only [T.b]
    have e2 : T.i σ (.len (tlC c)) = ((T.s σ (tlC c)).size : Int) := by simp only [T.i]
    rw [e, e2, tlC, ite_f hp, eqB_t]
    simp only [T.s, T.i]
    rfl
  · obtain ⟨a, b⟩ := hq hp; rw [le_t, hl, h11, b]; simp
  · rw [le_t, hl]; omega
  · obtain ⟨p1, p2⟩ := hp
    rw [le_t, h0] at p1
    rw [le_t, hl] at p2
    have e : ∀ a b, T.b σ (.and a b) = (T.b σ a && T.b σ b) := fun a b => by simp only [T.b]
    rw [e, Bool.and_eq_true, le_t, le_t, ha]
    simp only [T.i] at p2 ⊢
    omega
  · rw [le_t, hl, ha]; omega
def envS (s : ByteArray) : Env := envN [s]
def cutR (s : ByteArray) (c : Nat) : Value := .tuple #[.string (T.s (envS s) (hdC c)), .string (T.s (envS s) (tlC c)), .bool (T.b (envS s) (.le (.int 0) (ixC c)))]
theorem cut58_any (s : ByteArray) (h : s.size ≤ 1000000000) (w : World) : Calls Try.prog 38 #[.string s, .string (mk1 58)] w fun e w' => e = .returned (cutR s 58) ∧ Below w.heap.size w w' :=
  calls_value' follows funsOk (envS s) .nil (n := 1000) (f := 38) (args := [s0, .str (.str (mk1 58))]) (pc := [.le (.len (.svar 0)) (.int 1000000000)]) (r := .tup [.str (hdC 58), .str (tlC 58), .bool (.le (.int 0) (ixC 58))]) (gs := gsC 58)
    (by kernel_rfl) (gsC_ok _ _) (xs := [.string s, .string (mk1 58)]) rfl (fun t ht => by simp only [List.mem_singleton] at ht; subst ht; simp [T.b, T.i, T.s, leB, envS, envN]; omega) rfl (z := cutR s 58) rfl w
theorem cut35_any (s : ByteArray) (h : s.size ≤ 1000000000) (w : World) : Calls Try.prog 38 #[.string s, .string (mk1 35)] w fun e w' => e = .returned (cutR s 35) ∧ Below w.heap.size w w' :=
  calls_value' follows funsOk (envS s) .nil (n := 1000) (f := 38) (args := [s0, .str (.str (mk1 35))]) (pc := [.le (.len (.svar 0)) (.int 1000000000)]) (r := .tup [.str (hdC 35), .str (tlC 35), .bool (.le (.int 0) (ixC 35))]) (gs := gsC 35)
    (by kernel_rfl) (gsC_ok _ _) (xs := [.string s, .string (mk1 35)]) rfl (fun t ht => by simp only [List.mem_singleton] at ht; subst ht; simp [T.b, T.i, T.s, leB, envS, envN]; omega) rfl (z := cutR s 35) rfl w
def cntR (s : ByteArray) (c : Nat) : Value := .int .i64 (T.i (envS s) (.cnt (.svar 0) (.int c)))
theorem count58_any (s : ByteArray) (w : World) : Calls Try.prog 39 #[.string s, .string (mk1 58)] w fun e w' => e = .returned (cntR s 58) ∧ Below w.heap.size w w' :=
  calls_value' follows funsOk (envS s) .nil (n := 1000) (f := 39) (args := [s0, .str (.str (mk1 58))]) (pc := []) (r := .int .i64 (.cnt (.svar 0) (.int 58))) (gs := [])
    (by kernel_rfl) nilOk (xs := [.string s, .string (mk1 58)]) rfl (fun t ht => by simp at ht) rfl (z := cntR s 58) rfl w
theorem count35_any (s : ByteArray) (w : World) : Calls Try.prog 39 #[.string s, .string (mk1 35)] w fun e w' => e = .returned (cntR s 35) ∧ Below w.heap.size w w' :=
  calls_value' follows funsOk (envS s) .nil (n := 1000) (f := 39) (args := [s0, .str (.str (mk1 35))]) (pc := []) (r := .int .i64 (.cnt (.svar 0) (.int 35))) (gs := [])
    (by kernel_rfl) nilOk (xs := [.string s, .string (mk1 35)]) rfl (fun t ht => by simp at ht) rfl (z := cntR s 35) rfl w
def conR (s : ByteArray) (c : Nat) : Value := .bool (T.b (envS s) (.le (.int 0) (ixC c)))
theorem contains35_any (s : ByteArray) (w : World) : Calls Try.prog 40 #[.string s, .string (mk1 35)] w fun e w' => e = .returned (conR s 35) ∧ Below w.heap.size w w' :=
  calls_value' follows funsOk (envS s) .nil (n := 1000) (f := 40) (args := [s0, .str (.str (mk1 35))]) (pc := []) (r := .bool (.le (.int 0) (ixC 35))) (gs := gsC 35)
    (by kernel_rfl) (gsC_ok _ _) (xs := [.string s, .string (mk1 35)]) rfl (fun t ht => by simp at ht) rfl (z := conR s 35) rfl w
end Go.Proofs.Ytfjlhplaifkenaa
