/-
  NamesOrder: the law, for each way in which three goals may stand to each other.
-/
import Derived.Test.YtfjlhplaifkenaaNi
namespace Go.Proofs.Ytfjlhplaifkenaa
open Go.Proofs.Ytfjlhplaifkenaa.Vx Go.RowKit
set_option maxRecDepth 100000
set_option linter.unusedVariables false
def triAt (l : List ByteArray) (k : Nat) : Tri := (l.getD k ByteArray.empty, l.getD (k + 1) ByteArray.empty, l.getD (k + 2) ByteArray.empty)
def fiO (l : List ByteArray) : Nat → List Int → Int
  | _, [a, x] => coN (l.getD a.toNat ByteArray.empty) (l.getD (a.toNat + 1) ByteArray.empty) (l.getD x.toNat ByteArray.empty) (l.getD (x.toNat + 1) ByteArray.empty)
  | _, _ => 0
def envO (l : List ByteArray) : Env := ⟨fun _ => 0, fun _ => false, fun i => l.getD i ByteArray.empty, fun _ => undef, fiO l, fun _ _ => false, sbN⟩
def gL (p q r : Int) (a x : Nat) : Int := if a = x then 0 else if a = 0 then (if x = 3 then p else q) else if x = 0 then (if a = 3 then -p else -q) else if a = 3 then r else -r
def triB (a : Nat) : Bool := Nat.beq a 0 || Nat.beq a 3 || Nat.beq a 6
def lenC (w : Bool) (l : List Nat) : List T := if w then l.map (fun i => mkLe (mkLen (.svar i)) (.int 1000000000)) else []
def ctrCg (p q r : Int) (w : Bool) (f : FuncId) : Ctr := ⟨f, fun l => match l with
  | [.agg [.str (.svar a), .str (.svar b), .str (.svar c)], .agg [.str (.svar x), .str (.svar y), .str (.svar z)]] =>
    if triB a && Nat.beq b (a + 1) && Nat.beq c (a + 2) && triB x && Nat.beq y (x + 1) && Nat.beq z (x + 2) then some (.int .i64 (.int (gL p q r a x)), lenC w [a, b, c], []) else none
  | _ => none⟩
def ctrCo (w : Bool) (f : FuncId) : Ctr := ⟨f, fun l => match l with
  | [.agg [.str (.svar a), .str (.svar b)], .agg [.str (.svar x), .str (.svar y)]] =>
    if Nat.beq b (a + 1) && Nat.beq y (x + 1) then some (.int .i64 (.fni 1 (.cons (.int a) (.cons (.int x) .nil))), lenC w [a, b], []) else none
  | _ => none⟩
def sq (a x : Nat) : T := .seq (.svar a) (.svar x)
def sq3 (a x : Nat) : T := .and (.and (sq a x) (sq (a+1) (x+1))) (sq (a+2) (x+2))
def pairs : List (Nat × Nat) := [(0, 3), (0, 6), (3, 6)]
def pcP (p q r : Int) : List T := pairs.flatMap fun e => [.beq (.bool (eqB (gL p q r e.1 e.2) 0)) (sq3 e.1 e.2), .beq (.bool (eqB (gL p q r e.2 e.1) 0)) (sq3 e.2 e.1)]
/-- how the three triples stand to each other -/
structure Stand (l : List ByteArray) (p q r : Int) : Prop where
  p : triN (triAt l 0) (triAt l 3) = p
  q : triN (triAt l 0) (triAt l 6) = q
  r : triN (triAt l 3) (triAt l 6) = r
theorem triB_t {a : Nat} (h : triB a = true) : a = 0 ∨ a = 3 ∨ a = 6 := by
  simp only [triB, Bool.or_eq_true, Nat.beq_eq] at h
  rcases h with (h | h) | h
  · exact Or.inl h
  · exact Or.inr (Or.inl h)
  · exact Or.inr (Or.inr h)
theorem Stand.all {l : List ByteArray} {p q r : Int} (h : Stand l p q r) {a x : Nat} (ha : triB a = true) (hx : triB x = true) : triN (triAt l a) (triAt l x) = gL p q r a x := by
  have h1 := triN_ord.anti (triAt l 3) (triAt l 0)
  have h2 := triN_ord.anti (triAt l 6) (triAt l 0)
  have h3 := triN_ord.anti (triAt l 6) (triAt l 3)
  rw [h.p] at h1; rw [h.q] at h2; rw [h.r] at h3
  rcases triB_t ha with rfl | rfl | rfl <;> rcases triB_t hx with rfl | rfl | rfl
  · exact triN_same _
  · exact h.p
  · exact h.q
  · exact h1
  · exact triN_same _
  · exact h.r
  · exact h2
  · exact h3
  · exact triN_same _
theorem lenC_ok {l : List ByteArray} {w : Bool} {is : List Nat} (hv : ∀ t ∈ lenC w is, T.b (envO l) t = true) (hw : w = true) : ∀ i ∈ is, ((l.getD i ByteArray.empty).size : Int) ≤ 1000000000 := by
  subst hw
  intro i hi
  have h := hv _ (by rw [lenC, if_pos rfl]; exact List.mem_map_of_mem hi)
  simp only [mkLe_b, mkLen_i, leB_t, T.i, T.s] at h
  exact h
theorem cgOk {f : FuncId} {w : Bool} {l : List ByteArray} {p q r : Int} {cs : List Ctr} (hs : Stand l p q r)
    (H : ∀ a b c x y z : ByteArray, (w = true → (a.size : Int) ≤ 1000000000 ∧ (b.size : Int) ≤ 1000000000 ∧ (c.size : Int) ≤ 1000000000) → ∀ W, Calls Try.prog f #[.agg #[.string a, .string b, .string c], .agg #[.string x, .string y, .string z]] W fun e W' => e = .returned (.int .i64 (cgN a b c x y z)) ∧ Below W.heap.size W W')
    (h : CtrsOk Try.prog (envO l) cs) : CtrsOk Try.prog (envO l) (ctrCg p q r w f :: cs) := .cons (fun args v conds fs xs X ρ h hv hx hd => by
  simp only [ctrCg] at h
  split at h
  · split at h
    · rename_i hc
      simp only [Bool.and_eq_true, Nat.beq_eq] at hc
      obtain ⟨⟨⟨⟨⟨ha, rfl⟩, rfl⟩, hx'⟩, rfl⟩, rfl⟩ := hc
      simp only [Option.some.injEq, Prod.mk.injEq] at h
      obtain ⟨rfl, rfl, rfl⟩ := h
      simp only [denL, den, Option.map_some, Option.bind_some, Option.some.injEq, T.i, T.s, envO] at hx hd
      subst hx; subst hd
      refine ⟨fun t ht => by simp at ht, ?_⟩
      rw [← hs.all ha hx']
      refine H _ _ _ _ _ _ (fun hw => ?_)
      have hl := lenC_ok hv hw
      exact ⟨hl _ (by simp), hl _ (by simp), hl _ (by simp)⟩
    · simp at h
  · simp at h) h
theorem coOk {f : FuncId} {w : Bool} {l : List ByteArray} {cs : List Ctr}
    (H : ∀ a b x y : ByteArray, (w = true → (a.size : Int) ≤ 1000000000 ∧ (b.size : Int) ≤ 1000000000) → ∀ W, Calls Try.prog f #[.agg #[.string a, .string b], .agg #[.string x, .string y]] W fun e W' => e = .returned (.int .i64 (coN a b x y)) ∧ Below W.heap.size W W')
    (h : CtrsOk Try.prog (envO l) cs) : CtrsOk Try.prog (envO l) (ctrCo w f :: cs) := .cons (fun args v conds fs xs X ρ h hv hx hd => by
  simp only [ctrCo] at h
  split at h
  · split at h
    · rename_i hc
      simp only [Bool.and_eq_true, Nat.beq_eq] at hc
      obtain ⟨rfl, rfl⟩ := hc
      simp only [Option.some.injEq, Prod.mk.injEq] at h
      obtain ⟨rfl, rfl, rfl⟩ := h
      simp only [denL, den, Option.map_some, Option.bind_some, Option.some.injEq, T.i, T.s, T.l, envO, fiO, Int.toNat_natCast] at hx hd
      subst hx; subst hd
      refine ⟨fun t ht => by simp at ht, ?_⟩
      refine H _ _ _ _ (fun hw => ?_)
      have hl := lenC_ok hv hw
      exact ⟨hl _ (by simp), hl _ (by simp)⟩
    · simp at h
  · simp at h) h
def ctrsP (p q r : Int) : List Ctr := [ctrTrue 8, ctrCg p q r false 26, ctrCg p q r true 27, ctrCg p q r false 28, ctrCg p q r true 29,
  ctrCo false 30, ctrCo true 31]
theorem ctrsPOk {l : List ByteArray} {p q r : Int} (hs : Stand l p q r) : CtrsOk Try.prog (envO l) (ctrsP p q r) :=
  .true lives_any (cgOk hs (fun _ _ _ _ _ _ _ => cg_any _ _ _ _ _ _) (cgOk hs (fun _ _ _ _ _ _ h => refCg_any _ _ _ _ _ _ (h rfl).1 (h rfl).2.1 (h rfl).2.2) (cgOk hs (fun _ _ _ _ _ _ _ => cs_any _ _ _ _ _ _) (cgOk hs (fun _ _ _ _ _ _ h => refCs_any _ _ _ _ _ _ (h rfl).1 (h rfl).2.1 (h rfl).2.2)
    (coOk (fun _ _ _ _ _ => co_any _ _ _ _) (coOk (fun _ _ _ _ h => refCo_any _ _ _ _ (h rfl).1 (h rfl).2) .nil))))))
theorem sq3_b (l : List ByteArray) (a x : Nat) : T.b (envO l) (sq3 a x) = true ↔ triN (triAt l a) (triAt l x) = 0 := by
  rw [triN_zero]
  simp only [sq3, sq, T.b, T.s, envO, triAt, Bool.and_eq_true]
  exact and_assoc
theorem pcP_one {l : List ByteArray} {p q r : Int} (hs : Stand l p q r) {a x : Nat} (ha : triB a = true) (hx : triB x = true) : T.b (envO l) (.beq (.bool (eqB (gL p q r a x) 0)) (sq3 a x)) = true := by
  rw [T.b, T.b, ← hs.all ha hx, beq_iff_eq, Bool.eq_iff_iff, sq3_b, eqB_t]
theorem pcP_ok {l : List ByteArray} {p q r : Int} (hs : Stand l p q r) : ∀ t ∈ pcP p q r, T.b (envO l) t = true := by
  intro t ht
  simp only [pcP, pairs, List.flatMap_cons, List.flatMap_nil, List.cons_append, List.nil_append, List.append_nil, List.mem_cons, List.not_mem_nil, or_false] at ht
  rcases ht with rfl | rfl | rfl | rfl | rfl | rfl <;> exact pcP_one hs rfl rfl
def argsP : List V := [.agg [.str (.svar 0), .str (.svar 1), .str (.svar 2)], .agg [.str (.svar 3), .str (.svar 4), .str (.svar 5)], .agg [.str (.svar 6), .str (.svar 7), .str (.svar 8)]]
def RunP (p q r : Int) : Prop := covV [] (goals (call Try.prog (ctrsP p q r) funs 1000 5 argsP (pcP p q r))) = true
end Go.Proofs.Ytfjlhplaifkenaa
