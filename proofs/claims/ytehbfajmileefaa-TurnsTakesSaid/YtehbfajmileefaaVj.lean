import Derived.Test.YtehbfajmileefaaVi
import Derived.LoopN
import Derived.Scope
import Derived.Deep.Quiet
namespace Go.Proofs.Ytehbfajmileefaa.Vx
open Go.RowKit
set_option linter.unusedVariables false
set_option linter.unusedSimpArgs false
def exOf : Ex → Exit
  | .nrm => .normal
  | .ext id => .exit id
  | .ret => .ret
structure Holds (σ : Env) (ρ : Rho) (base : Nat → Prop) (st : St) (a : Act) (w : World) : Prop where
  F : denL σ ρ st.F.list = some a.tmps.toList
  pc : ∀ t ∈ st.pc, t.b σ = true
  m : M σ ρ base st.H st.nx w
def VOk (σ : Env) (vs : Vcs) : Prop := ∀ x ∈ vs, (∀ t ∈ x.1, t.b σ = true) → x.2.b σ = true
def Leads (σ : Env) (base : Nat → Prop) (ls : List (Ex × St)) (ρ : Rho) (a : Act) (w : World) (Q : Exit → Act → World → Prop) : Prop :=
  ∀ lf ∈ ls, ∀ ρ' a' w', Ext ρ ρ' → Holds σ ρ' base lf.2 a' w' → Kp base w w' → a'.defers = a.defers → Q (exOf lf.1) a' w'
def RunOk (P : Program) (σ : Env) (rn : Code → St → Option Out) : Prop :=
  ∀ c st out, rn c st = some out → VOk σ out.2 → ∀ base ρ a w Q, Holds σ ρ base st a w → Leads σ base out.1 ρ a w Q → c.wp P Q a w
def CallOk (P : Program) (σ : Env) (call : FuncId → List V → St → Option COut) : Prop :=
  ∀ f args st out, call f args st = some out → VOk σ out.2 → ∀ base ρ w xs, denL σ ρ args = some xs → (∀ t ∈ st.pc, t.b σ = true) → M σ ρ base st.H st.nx w →
    Calls P f xs.toArray w fun e w' => ∃ lf ∈ out.1, ∃ x ρ', e = .returned x ∧ den σ ρ' lf.1 = some x ∧ Ext ρ ρ' ∧ lf.2.F = st.F ∧ (∀ t ∈ lf.2.pc, t.b σ = true) ∧ M σ ρ' base lf.2.H lf.2.nx w' ∧ Kp base w w'
def FunsOk (P : Program) (funs : List (FuncId × Func)) : Prop := ∀ e ∈ funs, P.funcs[e.1]? = some e.2 ∧ (e.2.name == "runtime.NumGoroutine") = false ∧ e.2.body.isNone = false
section
variable {P : Program} {σ : Env} {ρ : Rho} {w : World} {base : Nat → Prop} {nx : Nat} {H : Hp} {F : Fr} {a : Act} {funs : List (FuncId × Func)}
theorem findF_mem {f : FuncId} {fn : Func} (h : findF funs f = some fn) : (f, fn) ∈ funs := by
  induction funs with
  | nil => simp [findF] at h
  | cons e l ih =>
    obtain ⟨g, gn⟩ := e
    unfold findF at h
    split at h
    · rename_i hg; simp at hg h; subst hg; subst h; exact List.mem_cons_self
    · exact List.mem_cons_of_mem _ (ih h)
theorem VOk.app {a b : Vcs} (h : VOk σ (a ++ b)) : VOk σ a ∧ VOk σ b := ⟨fun x hx => h x (List.mem_append_left _ hx), fun x hx => h x (List.mem_append_right _ hx)⟩
theorem VOk.own {pc : List T} {l : List T} (h : VOk σ (l.map fun t => (pc, t))) (hpc : ∀ t ∈ pc, t.b σ = true) : ∀ t ∈ l, t.b σ = true :=
  fun t ht => h (pc, t) (List.mem_map.2 ⟨t, ht, rfl⟩) hpc
theorem splitS_ok {st : St} {t : T} {x y : St → Option Out} {out : Out} (h : splitS st t x y = some out) (hpc : ∀ t ∈ st.pc, t.b σ = true) :
    ∃ pc' o', (if t.b σ = true then x else y) { st with pc := pc' } = some o' ∧ (∀ t ∈ pc', t.b σ = true) ∧ (∀ l ∈ o'.1, l ∈ out.1) ∧ (VOk σ out.2 → VOk σ o'.2) := by
  unfold splitS at h
  split at h
  · rename_i hd; rw [decT_b hpc hd]; exact ⟨st.pc, out, h, hpc, fun _ h => h, id⟩
  · rename_i hd; rw [decT_b hpc hd]; exact ⟨st.pc, out, h, hpc, fun _ h => h, id⟩
  · simp only [Option.bind_eq_some_iff, Option.map_eq_some_iff] at h
    obtain ⟨a, ha, b, hb, rfl⟩ := h
    cases ht : t.b σ
    · have hn : (mkNot t).b σ = true := by rw [mkNot_b, ht]; rfl
      exact ⟨_, b, by simpa using hb, fun u hu => by
        simp only [List.mem_cons, List.mem_append] at hu
        rcases hu with rfl | hu | hu
        · exact hn
        · exact parts_b hn u hu
        · exact hpc u hu, fun l hl => List.mem_append_right _ hl, fun h => h.app.2⟩
    · exact ⟨_, a, by simpa using ha, fun u hu => by
        simp only [List.mem_cons, List.mem_append] at hu
        rcases hu with rfl | hu | hu
        · exact ht
        · exact parts_b ht u hu
        · exact hpc u hu, fun l hl => List.mem_append_left _ hl, fun h => h.app.1⟩
theorem splitT_ok {st : St} {t : T} {x y : St → Option Out} {out : Out} (h : splitT st t x y = some out) (hpc : ∀ t ∈ st.pc, t.b σ = true) :
    ∃ pc' o', (if t.b σ = true then x else y) { st with pc := pc' } = some o' ∧ (∀ t ∈ pc', t.b σ = true) ∧ (∀ l ∈ o'.1, l ∈ out.1) ∧ (VOk σ out.2 → VOk σ o'.2) := by
  unfold splitT at h
  rw [boolQ_eq] at h
  split at h
  · rename_i hb
    cases t <;> simp at hb
    subst hb
    exact ⟨st.pc, out, by simpa [T.b] using h, hpc, fun _ h => h, id⟩
  · rename_i hb
    cases t <;> simp at hb
    subst hb
    exact ⟨st.pc, out, by simpa [T.b] using h, hpc, fun _ h => h, id⟩
  · have := splitS_ok (t := simB st.pc t) h hpc
    rwa [simB_b hpc t] at this
theorem thenL_ok {k : St → Option Out} : ∀ {l : List (Ex × St)} {out : Out}, thenL k l = some out →
    (∀ st, (Ex.nrm, st) ∈ l → ∃ o', k st = some o' ∧ (∀ q ∈ o'.1, q ∈ out.1) ∧ (VOk σ out.2 → VOk σ o'.2)) ∧ (∀ e st, (e, st) ∈ l → e ≠ .nrm → (e, st) ∈ out.1)
  | [], out, h => by simp
  | (e, st) :: l, out, h => by
    cases e
    case nrm =>
      simp only [thenL, Option.bind_eq_some_iff, Option.map_eq_some_iff] at h
      obtain ⟨a, ha, b, hb, rfl⟩ := h
      obtain ⟨h1, h2⟩ := thenL_ok hb
      refine ⟨fun s hs => ?_, fun e s hs hne => ?_⟩
      · simp only [List.mem_cons] at hs
        rcases hs with hs | hs
        · simp at hs; subst hs
          exact ⟨a, ha, fun q hq => List.mem_append_left _ hq, fun h => h.app.1⟩
        · obtain ⟨o', h3, h4, h5⟩ := h1 s hs
          exact ⟨o', h3, fun q hq => List.mem_append_right _ (h4 q hq), fun h => h5 h.app.2⟩
      · simp only [List.mem_cons] at hs
        rcases hs with hs | hs
        · simp at hs; exact absurd hs.1 hne
        · exact List.mem_append_right _ (h2 e s hs hne)
    all_goals
      simp only [thenL, Option.map_eq_some_iff] at h
      obtain ⟨b, hb, rfl⟩ := h
      obtain ⟨h1, h2⟩ := thenL_ok hb
      refine ⟨fun s hs => ?_, fun e s hs hne => ?_⟩
      · simp only [List.mem_cons] at hs
        rcases hs with hs | hs
        · simp at hs
        · obtain ⟨o', h3, h4, h5⟩ := h1 s hs
          exact ⟨o', h3, fun q hq => List.mem_cons_of_mem _ (h4 q hq), h5⟩
      · simp only [List.mem_cons] at hs ⊢
        rcases hs with hs | hs
        · exact .inl hs
        · exact .inr (h2 e s hs hne)
theorem eachL_ok {k : V × St → Option Out} : ∀ {l : List (V × St)} {out : Out}, eachL k l = some out → ∀ x ∈ l, ∃ o', k x = some o' ∧ (∀ q ∈ o'.1, q ∈ out.1) ∧ (VOk σ out.2 → VOk σ o'.2)
  | [], out, h, x, hx => by simp at hx
  | [y], out, h, x, hx => by
    simp only [eachL] at h
    simp only [List.mem_singleton] at hx
    subst hx
    exact ⟨out, h, fun q hq => hq, id⟩
  | y :: z :: l, out, h, x, hx => by
    simp only [eachL, Option.bind_eq_some_iff, Option.map_eq_some_iff] at h
    obtain ⟨a, ha, b, hb, rfl⟩ := h
    rw [List.mem_cons] at hx
    rcases hx with rfl | hx
    · exact ⟨a, ha, fun q hq => List.mem_append_left _ hq, fun h => h.app.1⟩
    · obtain ⟨o', h3, h4, h5⟩ := eachL_ok hb x hx
      exact ⟨o', h3, fun q hq => List.mem_append_right _ (h4 q hq), fun h => h5 h.app.2⟩
theorem setF_den (hF : denL σ ρ F.list = some a.tmps.toList) {d : Option Tmp} {v : V} {x : Value} (hv : den σ ρ v = some x) : denL σ ρ (setF F d v).list = some (a.put d x).tmps.toList := by
  cases d with
  | none => exact hF
  | some d => simpa [setF, Act.put, Fr.set_list] using denL_set hF d hv
theorem put_defers (d : Option Tmp) (x : Value) : (a.put d x).defers = a.defers := by cases d <;> rfl
theorem undef_den : den σ ρ V.undef = some undef := by simp [den, denL, undef]
theorem wanted_bool (hF : denL σ ρ F.list = some a.tmps.toList) {ops : Array Oper} {o : Oper} {j : Nat} {want : Bool} {t : T} (hg : o.guard = some (j, want)) (h : ((ops[j]?).bind (·.dst)).bind (fun d => F.get d) = some (.bool t)) :
    Region.wanted o (yielded ops a.tmps) = (t.b σ == want) := by
  simp only [Option.bind_eq_some_iff] at h
  obtain ⟨d, ⟨q, hq, hd⟩, hv⟩ := h
  obtain ⟨x, hx, hdx⟩ := denL_get hF ((Fr.get_list _ _).trans hv)
  have := den_bool hdx
  subst this
  have hx' : a.tmps[d]? = some (.bool (t.b σ)) := by rw [← Array.getElem?_toList]; exact hx
  simp [Region.wanted, hg, yielded, hq, hd, hx']
theorem wanted_undef (hF : denL σ ρ F.list = some a.tmps.toList) {ops : Array Oper} {o : Oper} {j : Nat} {want : Bool} (hg : o.guard = some (j, want)) (h : ((ops[j]?).bind (·.dst)).bind (fun d => F.get d) = some (.tup [])) :
    Region.wanted o (yielded ops a.tmps) = false := by
  simp only [Option.bind_eq_some_iff] at h
  obtain ⟨d, ⟨q, hq, hd⟩, hv⟩ := h
  obtain ⟨x, hx, hdx⟩ := denL_get hF ((Fr.get_list _ _).trans hv)
  simp [den, denL] at hdx
  subst hdx
  have hx' : a.tmps[d]? = some (.tuple #[]) := by rw [← Array.getElem?_toList]; exact hx
  simp [Region.wanted, hg, yielded, hq, hd, hx']
theorem exec_call (hfs : FunsOk P funs) (hF : OpOk σ ρ F a) {o : Oper} {g : FuncId × List V} (h : isCall funs F o.op = some g) : ∃ xs, (execOp a.eval o).run P w = .ok (.enter g.1 xs.toArray) w ∧ denL σ ρ g.2 = some xs := by
  generalize ho : o.op = op at h
  cases op <;> try (simp [isCall, isCallC] at h; done)
  rename_i c
  have h : calleeOf funs F c = some g := h
  rw [calleeOf_eq] at h
  split at h
  · rename_i f hf
    split at h
    · rename_i g' first cap hv
      simp only [Option.bind_eq_some_iff, Option.map_eq_some_iff] at h
      obtain ⟨fn, hfn, as, has, rfl⟩ := h
      obtain ⟨h1, h2, h3⟩ := hfs _ (findF_mem hfn)
      have hd := opv_den hF hv
      simp only [den, Option.bind_eq_some_iff, Option.map_eq_some_iff] at hd
      obtain ⟨p, hp, q, hq, he⟩ := hd
      have hm := denL_mapO (σ := σ) (ρ := ρ) (g := a.eval) (fun x v hx => opv_den hF hx) has
      refine ⟨p ++ c.args.toList.map a.eval ++ q, ?_, denL_append.2 ⟨_, _, denL_append.2 ⟨_, _, hp, hm, rfl⟩, hq, rfl⟩⟩
      obtain ⟨callee, ⟨args⟩, ats⟩ := c
      simp only at hf
      subst hf
      unfold execOp
      simp only [ho, resolve, ← he, Deferred.ofValue, Sem.run_bind, Sem.run_pure, Result.andThen_ok, invoke, callFunc, run_program, h1, h2, h3, Bool.false_eq_true, if_false]
      simp
    · simp at h
  · simp at h
theorem nonRo_look {i : Nat} {b : Blk} (h : look (nonRo H) i = some b) : look H i = some b ∧ b.ro = false := by
  unfold nonRo at h
  split at h
  · rename_i ha
    refine ⟨h, ?_⟩
    have key : ∀ l : Hp, l.all (fun e => !e.2.ro) = true → look l i = some b → b.ro = false := by
      intro l
      induction l with
      | nil => intro _ h; simp [look] at h
      | cons e l ih =>
        intro ha hl
        simp only [List.all_cons, Bool.and_eq_true] at ha
        obtain ⟨j, c⟩ := e
        rw [look_cons] at hl
        split at hl
        · simp at hl; subst hl; simpa using ha.1
        · exact ih ha.2 hl
    exact key H ha h
  · simp [look] at h
theorem M.below (h : M σ ρ base H nx w) {w' : World} (hb : Kp (· < w.heap.size) w w') : M σ ρ base H nx w' :=
  ⟨fun r hr => Nat.lt_of_lt_of_le (h.size r hr) hb.size, h.fresh, fun i b hi => by
    obtain ⟨r, c, cs, sp, g1, g2, g3, g4, g5⟩ := h.blk i b hi
    exact ⟨r, c, cs, sp, g1, g2, g3, g4.imp fun fz k => ⟨k.1, by rw [hb.block r (Array.getElem?_eq_some_iff.1 k.2).1]; exact k.2⟩, g5⟩, h.inj⟩
theorem M.empty (h : M σ ρ base H nx w) : M σ ρ (· < w.heap.size) [] nx w := ⟨fun r hr => hr, h.fresh, fun i b hi => by simp [look] at hi, fun i j r c d hi => by simp [look] at hi⟩
theorem look_app {H' : Hp} {i : Nat} : look (H' ++ H) i = (look H' i).or (look H i) := by
  induction H' with
  | nil => simp [look]
  | cons e l ih =>
    obtain ⟨j, b⟩ := e
    rw [List.cons_append, look_cons, look_cons]
    split
    · simp
    · exact ih
theorem M.join (h : M σ ρ base H nx w) {ρ' : Rho} {H' : Hp} {nx' : Nat} {w' : World} (he : Ext ρ ρ') (h' : M σ ρ' (· < w.heap.size) H' nx' w') (hnr : ∀ i b, look H' i = some b → b.ro = false) (hb : Kp (· < w.heap.size) w w') : M σ ρ' base (H' ++ H) nx' w' := by
  have hm := h.below hb
  refine ⟨hm.size, h'.fresh, fun i b hi => ?_, fun i j r c d hi hj hri hrj => ?_⟩
  · rw [look_app] at hi
    cases e : look H' i with
    | some b' =>
      rw [e] at hi
      simp at hi
      subst hi
      obtain ⟨r, c, cs, sp, g1, g2, g3⟩ := h'.blk i b' e
      exact ⟨r, c, cs, sp, g1, fun hro hb => g2 hro (h.size r hb), g3⟩
    | none =>
      rw [e] at hi
      simp at hi
      obtain ⟨r, c, cs, sp, g1, g2, g3, g4⟩ := hm.blk i b hi
      exact ⟨r, c, cs, sp, he _ _ g1, g2, denL_mono he g3, g4⟩
  · have key : ∀ i r c, (look (H' ++ H) i).isSome = true → ρ' i = some (r, c) → ((look H' i).isSome = true ∧ w.heap.size ≤ r) ∨ ((look H i).isSome = true ∧ ρ i = some (r, c) ∧ r < w.heap.size) := by
      intro i r c hi hr
      rw [look_app] at hi
      cases e : look H' i with
      | some b' =>
        obtain ⟨r', c', cs, sp, g1, g2, g3⟩ := h'.blk i b' e
        rw [hr] at g1
        simp at g1
        have := g2 (hnr i b' e)
        exact .inl ⟨by simp, by omega⟩
      | none =>
        rw [e] at hi
        simp only [Option.none_or, Option.isSome_iff_exists] at hi
        obtain ⟨b, hb'⟩ := hi
        obtain ⟨r', c', cs, sp, g1, g2, g3, g4, g5⟩ := h.blk i b hb'
        have := he _ _ g1
        rw [hr] at this
        simp only [Option.some.injEq] at this
        rw [← this] at g1
        exact .inr ⟨by simp [hb'], g1, h.lt hb' g1⟩
    rcases key i r c hi hri with ⟨h1, h2⟩ | ⟨h1, h2, h3⟩ <;> rcases key j r d hj hrj with ⟨g1, g2⟩ | ⟨g1, g2, g3⟩
    · exact h'.inj i j r c d h1 g1 hri hrj
    · omega
    · omega
    · exact h.inj i j r c d h1 g1 h2 g2
theorem callM_ok {call : FuncId → List V → St → Option COut} (hc : CallOk P σ call) {g : FuncId × List V} {st : St} {out : COut} (h : callM call g st = some out) (hv : VOk σ out.2) {xs : List Value} (hx : denL σ ρ g.2 = some xs) (hpc : ∀ t ∈ st.pc, t.b σ = true) (hM : M σ ρ base st.H st.nx w) :
    Calls P g.1 xs.toArray w fun e w' => ∃ lf ∈ out.1, ∃ x ρ', e = .returned x ∧ den σ ρ' lf.1 = some x ∧ Ext ρ ρ' ∧ lf.2.F = st.F ∧ (∀ t ∈ lf.2.pc, t.b σ = true) ∧ M σ ρ' base lf.2.H lf.2.nx w' ∧ Kp base w w' := by
  rw [callM_eq] at h
  split at h
  · simp only [Option.map_eq_some_iff] at h
    obtain ⟨r, hr, rfl⟩ := h
    refine (hc _ _ _ _ hr hv (· < w.heap.size) ρ w xs hx hpc hM.empty).mono ?_
    rintro e w' ⟨lf, hlf, x, ρ', h1, h2, h3, h4, h5, h6, h7⟩
    refine ⟨_, List.mem_map.2 ⟨lf, hlf, rfl⟩, x, ρ', h1, h2, h3, h4, h5, ?_, h7.mono hM.size⟩
    have hj := hM.join h3 (h6.sub fun i b hb => (nonRo_look hb).1) (fun i b hb => (nonRo_look hb).2) h7
    split
    · refine hj.sub fun i b hb => ?_
      rw [look_app]
      cases e : look (nonRo lf.2.H) i with
      | none => simpa using hb
      | some b' =>
        exfalso
        obtain ⟨r', c', cs, sp, g1, g2, -⟩ := h6.blk i b' (nonRo_look e).1
        have g2 := g2 (nonRo_look e).2
        obtain ⟨r2, c2, cs2, sp2, k1, k2, k3, k4, -⟩ := hM.blk i b hb
        have := h3 _ _ k1
        rw [g1] at this
        simp at this
        obtain ⟨fz, -, k4⟩ := k4
        have := (Array.getElem?_eq_some_iff.1 k4).1
        omega
    · exact hj
  · exact hc _ _ _ _ h hv base ρ w xs hx hpc hM
end
end Go.Proofs.Ytehbfajmileefaa.Vx
