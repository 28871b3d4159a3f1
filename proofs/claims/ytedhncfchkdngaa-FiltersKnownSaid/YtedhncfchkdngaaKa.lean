/-
  FiltersKnown: the parser's answers first, one theorem each (all at once is near the limit of memory).
-/
import Derived.Test.YtedhncfchkdngaaLv
namespace Go.Proofs.Ytedhncfchkdngaa
open Go.Proofs.Ytedhncfchkdngaa.Vx Go.RowKit
set_option maxRecDepth 100000
def bs (l : List UInt8) : ByteArray := ⟨⟨l⟩⟩
def st (l : List UInt8) : V := .str (.str (bs l))
def fiV (a b c d e : List UInt8) (x : Bool) : V := .tup [.agg [st a, st b, st c, st d, st e, st [], .bool (.bool x)], .int .i64 (.int 0)]
def fiZ (a b c d e : List UInt8) (x : Bool) : Value := .tuple #[.agg #[.string (bs a), .string (bs b), .string (bs c), .string (bs d), .string (bs e), .string (bs []), .bool x], .int .i64 0]
structure Row where
  s : List UInt8
  a : List UInt8
  b : List UInt8
  c : List UInt8
  d : List UInt8
  e : List UInt8
  x : Bool
def Row.v (r : Row) : V := fiV r.a r.b r.c r.d r.e r.x
def Row.z (r : Row) : Value := fiZ r.a r.b r.c r.d r.e r.x
def findR : List Row → List UInt8 → Option Row
  | [], _ => none
  | r :: l, s => match decide (s = r.s) with
    | true => some r
    | false => findR l s
theorem findR_ok : ∀ {l : List Row} {s : List UInt8} {r : Row}, findR l s = some r → r ∈ l ∧ s = r.s
  | [], _, _, h => by simp [findR] at h
  | q :: l, s, r, h => by
    unfold findR at h
    split at h
    · rename_i e
      obtain rfl := Option.some.inj h
      exact ⟨by simp, of_decide_eq_true e⟩
    · obtain ⟨h1, h2⟩ := findR_ok h
      exact ⟨by simp [h1], h2⟩
def ctrTab (f : FuncId) (tab : List Row) : Ctr := ⟨f, fun l => match l with
  | [.str (.str b)] => (findR tab b.data.toList).map fun r => (r.v, [], [])
  | _ => none⟩
theorem row_den (σ : Env) (ρ : Rho) (r : Row) : den σ ρ r.v = some r.z := rfl
def Said (r : Row) : Prop := ∀ w, Calls Try.prog 26 #[.string (bs r.s)] w fun e w' => e = .returned r.z ∧ Below w.heap.size w w'
theorem tabOk {σ : Env} {tab : List Row} {cs : List Ctr} (H : ∀ r ∈ tab, Said r) (h : CtrsOk Try.prog σ cs) : CtrsOk Try.prog σ (ctrTab 26 tab :: cs) := .cons (fun args v conds fs xs x ρ h hv hx hd => by
  simp only [ctrTab] at h
  split at h
  · rename_i b
    simp only [Option.map_eq_some_iff, Prod.mk.injEq] at h
    obtain ⟨r, hr, rfl, rfl, rfl⟩ := h
    obtain ⟨h1, h2⟩ := findR_ok hr
    rw [row_den] at hd
    obtain rfl := Option.some.inj hd
    have e : xs = [.string (bs r.s)] := by
      have : b = bs r.s := by cases b with | mk d => cases d with | mk l => simp only at h2; rw [h2]; rfl
      subst this
      exact (Option.some.inj hx).symm
    subst e
    exact ⟨fun t ht => by simp at ht, H r h1⟩
  · simp at h) h
def r0 : Row := ⟨[42, 58, 42, 35, 42], [], [], [], [], [], false⟩
theorem said0 : Said r0 := fun w =>
  calls_value follows funsOk noEnv (cs := []) .nil (n := 100000) (f := 26) (args := [st r0.s]) (pc := []) (r := r0.v) (gs := [])
    (by kernel_rfl) nilOk (xs := [.string (bs r0.s)]) rfl (fun t ht => by simp at ht) (by kernel_rfl) (row_den _ _ _) w
def r1 : Row := ⟨[42, 58, 42, 35, 42, 64, 117, 58, 97], [], [], [], [117], [97], true⟩
theorem said1 : Said r1 := fun w =>
  calls_value follows funsOk noEnv (cs := []) .nil (n := 100000) (f := 26) (args := [st r1.s]) (pc := []) (r := r1.v) (gs := [])
    (by kernel_rfl) nilOk (xs := [.string (bs r1.s)]) rfl (fun t ht => by simp at ht) (by kernel_rfl) (row_den _ _ _) w
def r2 : Row := ⟨[97, 58, 42, 35, 42], [97], [], [], [], [], false⟩
theorem said2 : Said r2 := fun w =>
  calls_value follows funsOk noEnv (cs := []) .nil (n := 100000) (f := 26) (args := [st r2.s]) (pc := []) (r := r2.v) (gs := [])
    (by kernel_rfl) nilOk (xs := [.string (bs r2.s)]) rfl (fun t ht => by simp at ht) (by kernel_rfl) (row_den _ _ _) w
def r3 : Row := ⟨[97, 58, 42, 35, 42, 64, 117, 58, 97], [97], [], [], [117], [97], true⟩
theorem said3 : Said r3 := fun w =>
  calls_value follows funsOk noEnv (cs := []) .nil (n := 100000) (f := 26) (args := [st r3.s]) (pc := []) (r := r3.v) (gs := [])
    (by kernel_rfl) nilOk (xs := [.string (bs r3.s)]) rfl (fun t ht => by simp at ht) (by kernel_rfl) (row_den _ _ _) w
def r4 : Row := ⟨[42, 58, 121, 35, 42], [], [121], [], [], [], false⟩
theorem said4 : Said r4 := fun w =>
  calls_value follows funsOk noEnv (cs := []) .nil (n := 100000) (f := 26) (args := [st r4.s]) (pc := []) (r := r4.v) (gs := [])
    (by kernel_rfl) nilOk (xs := [.string (bs r4.s)]) rfl (fun t ht => by simp at ht) (by kernel_rfl) (row_den _ _ _) w
def r5 : Row := ⟨[42, 58, 121, 35, 42, 64, 117, 58, 97], [], [121], [], [117], [97], true⟩
theorem said5 : Said r5 := fun w =>
  calls_value follows funsOk noEnv (cs := []) .nil (n := 100000) (f := 26) (args := [st r5.s]) (pc := []) (r := r5.v) (gs := [])
    (by kernel_rfl) nilOk (xs := [.string (bs r5.s)]) rfl (fun t ht => by simp at ht) (by kernel_rfl) (row_den _ _ _) w
def r6 : Row := ⟨[97, 58, 121, 35, 42], [97], [121], [], [], [], false⟩
theorem said6 : Said r6 := fun w =>
  calls_value follows funsOk noEnv (cs := []) .nil (n := 100000) (f := 26) (args := [st r6.s]) (pc := []) (r := r6.v) (gs := [])
    (by kernel_rfl) nilOk (xs := [.string (bs r6.s)]) rfl (fun t ht => by simp at ht) (by kernel_rfl) (row_den _ _ _) w
def r7 : Row := ⟨[97, 58, 121, 35, 42, 64, 117, 58, 97], [97], [121], [], [117], [97], true⟩
theorem said7 : Said r7 := fun w =>
  calls_value follows funsOk noEnv (cs := []) .nil (n := 100000) (f := 26) (args := [st r7.s]) (pc := []) (r := r7.v) (gs := [])
    (by kernel_rfl) nilOk (xs := [.string (bs r7.s)]) rfl (fun t ht => by simp at ht) (by kernel_rfl) (row_den _ _ _) w
def r8 : Row := ⟨[42, 58, 42, 35, 115], [], [], [115], [], [], false⟩
theorem said8 : Said r8 := fun w =>
  calls_value follows funsOk noEnv (cs := []) .nil (n := 100000) (f := 26) (args := [st r8.s]) (pc := []) (r := r8.v) (gs := [])
    (by kernel_rfl) nilOk (xs := [.string (bs r8.s)]) rfl (fun t ht => by simp at ht) (by kernel_rfl) (row_den _ _ _) w
def r9 : Row := ⟨[42, 58, 42, 35, 115, 64, 117, 58, 97], [], [], [115], [117], [97], true⟩
theorem said9 : Said r9 := fun w =>
  calls_value follows funsOk noEnv (cs := []) .nil (n := 100000) (f := 26) (args := [st r9.s]) (pc := []) (r := r9.v) (gs := [])
    (by kernel_rfl) nilOk (xs := [.string (bs r9.s)]) rfl (fun t ht => by simp at ht) (by kernel_rfl) (row_den _ _ _) w
def r10 : Row := ⟨[97, 58, 42, 35, 115], [97], [], [115], [], [], false⟩
theorem said10 : Said r10 := fun w =>
  calls_value follows funsOk noEnv (cs := []) .nil (n := 100000) (f := 26) (args := [st r10.s]) (pc := []) (r := r10.v) (gs := [])
    (by kernel_rfl) nilOk (xs := [.string (bs r10.s)]) rfl (fun t ht => by simp at ht) (by kernel_rfl) (row_den _ _ _) w
def r11 : Row := ⟨[97, 58, 42, 35, 115, 64, 117, 58, 97], [97], [], [115], [117], [97], true⟩
theorem said11 : Said r11 := fun w =>
  calls_value follows funsOk noEnv (cs := []) .nil (n := 100000) (f := 26) (args := [st r11.s]) (pc := []) (r := r11.v) (gs := [])
    (by kernel_rfl) nilOk (xs := [.string (bs r11.s)]) rfl (fun t ht => by simp at ht) (by kernel_rfl) (row_den _ _ _) w
def r12 : Row := ⟨[42, 58, 121, 35, 115], [], [121], [115], [], [], false⟩
theorem said12 : Said r12 := fun w =>
  calls_value follows funsOk noEnv (cs := []) .nil (n := 100000) (f := 26) (args := [st r12.s]) (pc := []) (r := r12.v) (gs := [])
    (by kernel_rfl) nilOk (xs := [.string (bs r12.s)]) rfl (fun t ht => by simp at ht) (by kernel_rfl) (row_den _ _ _) w
def r13 : Row := ⟨[42, 58, 121, 35, 115, 64, 117, 58, 97], [], [121], [115], [117], [97], true⟩
theorem said13 : Said r13 := fun w =>
  calls_value follows funsOk noEnv (cs := []) .nil (n := 100000) (f := 26) (args := [st r13.s]) (pc := []) (r := r13.v) (gs := [])
    (by kernel_rfl) nilOk (xs := [.string (bs r13.s)]) rfl (fun t ht => by simp at ht) (by kernel_rfl) (row_den _ _ _) w
def r14 : Row := ⟨[97, 58, 121, 35, 115], [97], [121], [115], [], [], false⟩
theorem said14 : Said r14 := fun w =>
  calls_value follows funsOk noEnv (cs := []) .nil (n := 100000) (f := 26) (args := [st r14.s]) (pc := []) (r := r14.v) (gs := [])
    (by kernel_rfl) nilOk (xs := [.string (bs r14.s)]) rfl (fun t ht => by simp at ht) (by kernel_rfl) (row_den _ _ _) w
def r15 : Row := ⟨[97, 58, 121, 35, 115, 64, 117, 58, 97], [97], [121], [115], [117], [97], true⟩
theorem said15 : Said r15 := fun w =>
  calls_value follows funsOk noEnv (cs := []) .nil (n := 100000) (f := 26) (args := [st r15.s]) (pc := []) (r := r15.v) (gs := [])
    (by kernel_rfl) nilOk (xs := [.string (bs r15.s)]) rfl (fun t ht => by simp at ht) (by kernel_rfl) (row_den _ _ _) w
def tab : List Row := [r0, r1, r2, r3, r4, r5, r6, r7, r8, r9, r10, r11, r12, r13, r14, r15]
theorem tab_said : ∀ r ∈ tab, Said r := by
  simp only [tab, List.forall_mem_cons]
  exact ⟨said0, said1, said2, said3, said4, said5, said6, said7, said8, said9, said10, said11, said12, said13, said14, said15, fun r hr => by simp at hr⟩
end Go.Proofs.Ytedhncfchkdngaa
