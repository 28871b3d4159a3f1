import Derived.Test.YtehbfajmileefaaVp
import Derived.Defers
namespace Go.Proofs.Ytehbfajmileefaa.Vx
open Go.RowKit
set_option linter.unusedVariables false
set_option linter.unusedSimpArgs false
section
variable {P : Program} {σ : Env} {ρ : Rho} {w : World} {base : Nat → Prop} {nx : Nat} {H : Hp} {F : Fr} {a : Act} {funs : List (FuncId × Func)} {cs : List Ctr}
def resOne (tmps : Array Value) : ResultVar → Sem Value
  | .tmp t => pure (tmps.getD t undef)
  | .cell a t => do loadVar t (← asAddr (tmps.getD a undef))
theorem results_eq (fn : Func) (tmps : Array Value) : results fn tmps = (do let vs ← fn.results.mapM (resOne tmps); pure (if h : vs.size = 1 then vs[0] else .tuple vs)) := by
  unfold results
  congr 1
theorem resV_run {st : St} (hM : M σ ρ base st.H st.nx w) (hF : denL σ ρ st.F.list = some a.tmps.toList) : ∀ {rs : List ResultVar} {vs : List V}, resV P st rs = some vs →
    ∃ xs, (rs.mapM (resOne a.tmps)).run P w = .ok xs w ∧ denL σ ρ vs = some xs
  | [], vs, h => by simp [resV] at h; subst h; exact ⟨[], rfl, denL_nil⟩
  | .tmp t :: l, vs, h => by
    simp only [resV, getF_eq, Option.bind_eq_some_iff, Option.map_eq_some_iff] at h
    obtain ⟨v, hv, us, hus, rfl⟩ := h
    obtain ⟨xs, hxs, hd⟩ := resV_run hM hF hus
    obtain ⟨x, hx, hdx⟩ := denL_get hF ((Fr.get_list _ _).trans hv)
    have hx' : (resOne a.tmps (.tmp t)).run P w = .ok x w := by
      simp only [resOne, Sem.run_pure]
      rw [Array.getD_eq_getD_getElem?, ← Array.getElem?_toList, hx]; rfl
    refine ⟨x :: xs, ?_, denL_cons.2 ⟨x, xs, hdx, hd, rfl⟩⟩
    rw [List.mapM_cons]
    simp only [Sem.run_bind, Sem.run_pure, Result.andThen_ok, hxs, hx']
  | .cell b t :: l, vs, h => by
    simp only [resV, getF_eq] at h
    split at h
    · rename_i id off hb
      simp only [Option.bind_eq_some_iff, Option.map_eq_some_iff] at h
      obtain ⟨bk, hbk, v, hv, us, hus, rfl⟩ := h
      obtain ⟨xs, hxs, hd⟩ := resV_run hM hF hus
      obtain ⟨r, c, cells, sp, hr, -, hdc, ⟨fz, hfz, hw⟩, -⟩ := hM.blkC id bk hbk
      obtain ⟨x, hx, hdx⟩ := denL_get hF ((Fr.get_list _ _).trans hb)
      simp [den, hr] at hdx
      subst hdx
      obtain ⟨y, hy, hdy⟩ := run_loadV (P := P) hv hdc hw
      have hx' : (resOne a.tmps (.cell b t)).run P w = .ok y w := by
        have e : a.tmps.getD b undef = .pointer (some ⟨r, off, none⟩) := by
          rw [Array.getD_eq_getD_getElem?, ← Array.getElem?_toList, hx]; rfl
        simp only [resOne, e, asAddr, Sem.run_bind, Sem.run_pure, Result.andThen_ok, hy]
      refine ⟨y :: xs, ?_, denL_cons.2 ⟨y, xs, hdy, hd, rfl⟩⟩
      rw [List.mapM_cons]
      simp only [Sem.run_bind, Sem.run_pure, Result.andThen_ok, hxs, hx']
    · simp at h
theorem results_run {st : St} (hM : M σ ρ base st.H st.nx w) (hF : denL σ ρ st.F.list = some a.tmps.toList) {fn : Func} {vs : List V} (h : resV P st fn.results.toList = some vs) : ∃ x, (results fn a.tmps).run P w = .ok x w ∧ den σ ρ (packV vs) = some x := by
  obtain ⟨xs, hxs, hd⟩ := resV_run hM hF h
  rw [results_eq, Array.mapM_eq_mapM_toList]
  have hl := denL_len hd
  have hbody : (List.toArray <$> (fn.results.toList.mapM (resOne a.tmps))).run P w = .ok xs.toArray w := by
    rw [Sem.run_map, hxs]; rfl
  match vs, xs, hd, hl with
  | [], [], hd, hl => exact ⟨.tuple #[], by rw [Sem.run_bind, hbody]; rfl, by simp [packV, den, denL]⟩
  | [v], [x], hd, hl =>
    obtain ⟨y, ys, h1, h2, h3⟩ := denL_cons.1 hd
    simp at h3
    obtain ⟨rfl, rfl⟩ := h3
    exact ⟨x, by rw [Sem.run_bind, hbody]; rfl, h1⟩
  | v :: u :: l, x :: y :: m, hd, hl => exact ⟨.tuple (x :: y :: m).toArray, by rw [Sem.run_bind, hbody]; rfl, by simp only [packV, den, hd]; rfl⟩
theorem leaveL_ok {rs : List ResultVar} {nx0 : Nat} : ∀ {l : List (Ex × St)} {m : List (V × St)}, leaveL P rs F nx0 l = some m → ∀ lf ∈ l, (∃ vs, resV P lf.2 rs = some vs ∧ (packV vs, { lf.2 with F := F, H := keepH nx0 (V.plainL vs) lf.2.H }) ∈ m) ∧ (lf.1 = .nrm ∨ lf.1 = .ret)
  | [], m, h, lf, hlf => by simp at hlf
  | (e, st) :: l, m, h, lf, hlf => by
    cases e
    case ext => simp [leaveL] at h
    all_goals
      simp only [leaveL, Option.bind_eq_some_iff, Option.map_eq_some_iff] at h
      obtain ⟨vs, hvs, m', hm', rfl⟩ := h
      simp only [List.mem_cons] at hlf
      rcases hlf with rfl | hlf
      · exact ⟨⟨vs, hvs, List.mem_cons_self⟩, by simp⟩
      · obtain ⟨⟨vs', h1, h2⟩, h3⟩ := leaveL_ok hm' lf hlf
        exact ⟨⟨vs', h1, List.mem_cons_of_mem _ h2⟩, h3⟩
theorem look_filter {p : Nat × Blk → Bool} {i : Nat} {b : Blk} (h : look (H.filter p) i = some b) (hp : ∀ c d, p (i, c) = p (i, d)) : look H i = some b := by
  induction H with
  | nil => simpa using h
  | cons e l ih =>
    obtain ⟨j, c⟩ := e
    rw [List.filter_cons] at h
    split at h
    · rw [look_cons] at h ⊢
      split
      · rename_i e; rw [if_pos e] at h; exact h
      · rename_i e; rw [if_neg e] at h; exact ih h
    · rename_i hpj
      rw [look_cons]
      split
      · rename_i e
        subst e
        exfalso
        have key : ∀ l : Hp, look (l.filter p) j = none := by
          intro l
          induction l with
          | nil => rfl
          | cons x l ih2 =>
            obtain ⟨k, d⟩ := x
            rw [List.filter_cons]
            split
            · rename_i hk
              rw [look_cons]
              split
              · rename_i e; subst e; rw [hp d c] at hk; exact absurd hk hpj
              · exact ih2
            · exact ih2
        rw [key] at h
        simp at h
      · exact ih h
theorem leaves_mono {fn : Func} {tmps : Array Value} {R R' : Ending → World → Prop} : ∀ {ds : List Deferred} {u : FrameMode} {w : World}, Leaves P fn tmps R ds u w → (∀ e w, R e w → R' e w) → Leaves P fn tmps R' ds u w
  | [], .returning, w, ⟨v, h1, h2⟩, h => ⟨v, h1, h _ _ h2⟩
  | [], .panicking chain, w, hl, h => h _ _ hl
  | [], .run, w, hl, h => hl.elim
  | d :: ds, u, w, ⟨h0, fv, cap, f, args, h1, h2, h3⟩, h => ⟨h0, fv, cap, f, args, h1, h2, h3.mono fun e u' w' he => by
      cases e with
      | returned v => exact leaves_mono he h
      | panicked chain => exact leaves_mono he h
      | outgrown => exact h _ _ he⟩
theorem bodyF_wp (hfs : FunsOk P funs) {rn : Code → St → Option Out} (hr : RunOk P σ rn) {f : FuncId} {args : List V} {st : St} {out : COut} (h : bodyF P funs rn f args st = some out) (hv : VOk σ out.2) {xs : List Value} (hx : denL σ ρ args = some xs) (hpc : ∀ t ∈ st.pc, t.b σ = true) (hM : M σ ρ base st.H st.nx w) :
    ∃ fn c, P.funcs[f]? = some fn ∧ fn.body = some c ∧ c.wp P (bodyPost P fn fun e w' => ∃ lf ∈ out.1, ∃ x ρ', e = .returned x ∧ den σ ρ' lf.1 = some x ∧ Ext ρ ρ' ∧ lf.2.F = st.F ∧ (∀ t ∈ lf.2.pc, t.b σ = true) ∧ M σ ρ' base lf.2.H lf.2.nx w' ∧ Kp base w w') { tmps := xs.toArray ++ Array.replicate (fn.ntmps - xs.toArray.size) undef, defers := [] } w := by
  unfold bodyF at h
  simp only [leaveK_eq, enterK, Option.bind_eq_some_iff, Option.map_eq_some_iff] at h
  obtain ⟨fn, hfn, c, hc, o, ho, l, hl, rfl⟩ := h
  obtain ⟨h1, h2, h3⟩ := hfs _ (findF_mem hfn)
  refine ⟨fn, c, h1, hc, ?_⟩
  have hlen := denL_len hx
  refine hr _ _ _ ho hv base ρ _ w _ ⟨?_, hpc, hM⟩ ?_
  · simp only [Array.toList_append, List.toList_toArray, Array.toList_replicate, List.size_toArray, Fr.init_list]
    rw [hlen]
    exact denL_append.2 ⟨_, _, hx, denL_replicate undef_den _, rfl⟩
  · intro lf hlf ρ' a' w' he hh hb hd
    obtain ⟨⟨vs, hvs, hmem⟩, hex⟩ := leaveL_ok hl lf hlf
    obtain ⟨x, hrx, hdx⟩ := results_run (P := P) hh.m hh.F hvs
    have post : ∃ lf ∈ l, ∃ x' ρ', Ending.returned x = .returned x' ∧ den σ ρ' lf.1 = some x' ∧ Ext ρ ρ' ∧ lf.2.F = st.F ∧ (∀ t ∈ lf.2.pc, t.b σ = true) ∧ M σ ρ' base lf.2.H lf.2.nx w' ∧ Kp base w w' := by
      refine ⟨_, hmem, x, ρ', rfl, hdx, he, rfl, hh.pc, ?_, hb⟩
      simp only [keepH]
      split
      · split
        · exact hh.m.sub fun i b hb => look_filter hb (fun c d => rfl)
        · exact hh.m
      · exact hh.m
    rcases hex with hex | hex <;> rw [hex] <;> exact ⟨hd, x, hrx, post⟩
theorem bodyF_ok (hfs : FunsOk P funs) {rn : Code → St → Option Out} (hr : RunOk P σ rn) : CallOk P σ (bodyF P funs rn) := by
  intro f args st out h hv base ρ w xs hx hpc hM
  obtain ⟨fn, c, h1, h2, h3⟩ := bodyF_wp hfs hr h hv hx hpc hM
  exact calls_of_wp h1 h2 h3
def DfOk (P : Program) (σ : Env) (ρ : Rho) (a a' : Act) : Df → Prop
  | none => a'.defers = a.defers
  | some d => ∃ fv cap dargs xs, a'.defers = { target := .fn fv cap, args := dargs } :: a.defers ∧ (∀ w, (invoke (.fn fv cap) dargs).run P w = .ok (.enter d.1 xs.toArray) w) ∧ denL σ ρ d.2 = some xs
theorem DfOk.mono {ρ ρ' : Rho} {a a' a'' : Act} (he : Ext ρ ρ') (hd : a''.defers = a'.defers) : ∀ {d : Df}, DfOk P σ ρ a a' d → DfOk P σ ρ' a a'' d
  | none, h => hd.trans h
  | some d, ⟨fv, cap, dargs, xs, h1, h2, h3⟩ => ⟨fv, cap, dargs, xs, hd.trans h1, h2, denL_mono he h3⟩
def LeadsD (P : Program) (σ : Env) (base : Nat → Prop) (ls : List ((Ex × St) × Df)) (ρ : Rho) (a : Act) (w : World) (Q : Exit → Act → World → Prop) : Prop :=
  ∀ lf ∈ ls, ∀ ρ' a' w', Ext ρ ρ' → Holds σ ρ' base lf.1.2 a' w' → Kp base w w' → DfOk P σ ρ' a a' lf.2 → Q (exOf lf.1.1) a' w'
theorem noD_ok {rn : Code → St → Option Out} (hr : RunOk P σ rn) {c : Code} {st : St} {d : Df} {out : OutD} (h : noD (rn c st) d = some out) (hv : VOk σ out.2) {Q : Exit → Act → World → Prop} {a0 : Act} (hd : DfOk P σ ρ a0 a d) (hh : Holds σ ρ base st a w)
    (hL : ∀ lf ∈ out.1, ∀ ρ' a' w', Ext ρ ρ' → Holds σ ρ' base lf.1.2 a' w' → Kp base w w' → DfOk P σ ρ' a0 a' lf.2 → Q (exOf lf.1.1) a' w') : c.wp P Q a w := by
  simp only [noD, Option.map_eq_some_iff] at h
  obtain ⟨o, ho, rfl⟩ := h
  refine hr _ _ _ ho hv base ρ a w Q hh fun lf hlf ρ' a' w' he hh' hb hdd => ?_
  exact hL (lf, d) (List.mem_map.2 ⟨lf, hlf, rfl⟩) ρ' a' w' he hh' hb (hd.mono he hdd)
theorem put_tmps (a : Act) (ds : List Deferred) (d : Option Tmp) (x : Value) : ({ a with defers := ds }.put d x).tmps = (a.put d x).tmps := by cases d <;> rfl
theorem wpList_two {ops : Array Oper} {Q : Exit → Act → World → Prop} {l2 : List Oper} : ∀ {l1 : List Oper} {a : Act} {w : World},
    wpList P ops (fun e a w => (e = .normal → wpList P ops Q l2 a w) ∧ (e ≠ .normal → Q e a w)) l1 a w → wpList P ops Q (l1 ++ l2) a w
  | [], a, w, h => h.1 rfl
  | o :: l, a, w, h => by
    unfold wpList at h
    simp only [List.cons_append]
    unfold wpList
    split
    · rename_i hw
      rw [if_pos hw] at h
      rcases h with h | h
      · refine .inl ?_
        unfold Oper.wp at h ⊢
        cases hx : (execOp a.eval o).run P w with
        | ok n w' =>
          rw [hx] at h
          cases n <;> simp only [Oper.upon] at h ⊢ <;> first
            | exact wpList_two h
            | (refine h.mono ?_
               intro e w2 h
               cases e <;> simp only at h ⊢
               · exact wpList_two h
               · exact h.2 (by simp)
               · obtain ⟨a2, w3, h⟩ := h; exact ⟨a2, w3, h.2 (by simp)⟩)
            | exact h.mono fun v w2 h => wpList_two h
            | exact h
        | halt t w' =>
          rw [hx] at h
          cases t <;> simp only [Oper.upon] at h ⊢ <;> first
            | exact h.2 (by simp)
            | exact h
      · obtain ⟨h1, a2, w3, h2⟩ := h; exact .inr ⟨h1, a2, w3, h2.2 (by simp)⟩
    · rename_i hw
      rw [if_neg hw] at h
      exact wpList_two h
theorem lastDefer_eq : ∀ {l : List Oper} {r : List Oper × Oper × Call}, lastDefer l = some r → l = r.1 ++ [r.2.1] ∧ r.2.1.op = .defer r.2.2 ∧ r.2.1.guard = none
  | [], r, h => by simp [lastDefer] at h
  | [o], r, h => by
    simp only [lastDefer] at h
    split at h
    · rename_i c h1 h2; simp at h; subst h; exact ⟨rfl, h1, h2⟩
    · simp at h
  | o :: p :: l, r, h => by
    simp only [lastDefer, Option.map_eq_some_iff] at h
    obtain ⟨r', hr', rfl⟩ := h
    obtain ⟨h1, h2, h3⟩ := lastDefer_eq hr'
    exact ⟨by rw [h1]; rfl, h2, h3⟩
theorem exec_defer (hfs : FunsOk P funs) (hF : OpOk σ ρ F a) {o : Oper} {c : Call} (ho : o.op = .defer c) {g : FuncId × List V} (h : calleeOf funs F c = some g) :
    ∃ fv cap dargs xs, (execOp a.eval o).run P w = .ok (.defer { target := .fn fv cap, args := dargs }) w ∧ (∀ w, (invoke (.fn fv cap) dargs).run P w = .ok (.enter g.1 xs.toArray) w) ∧ denL σ ρ g.2 = some xs := by
  rw [calleeOf_eq] at h
  split at h
  · rename_i f hf
    split at h
    · rename_i g' first cap hv
      simp only [Option.bind_eq_some_iff, Option.map_eq_some_iff] at h
      obtain ⟨fn, hfn, as, has, rfl⟩ := h
      obtain ⟨h1, h2, h3⟩ := hfs _ (findF_mem hfn)
      have hd := opv_den hF hv
      simp only [den, Option.bind_eq_some_iff, Option.map_eq_some_iff] at hd
      obtain ⟨p, hp, q, hq, he⟩ := hd
      have hm := denL_mapO (σ := σ) (ρ := ρ) (g := a.eval) (fun x v hx => opv_den hF hx) has
      obtain ⟨callee, ⟨args⟩, ats⟩ := c
      simp only at hf
      subst hf
      refine ⟨.func g', q.toArray, p.toArray ++ (args.toArray.map a.eval), p ++ args.map a.eval ++ q, ?_, ?_, denL_append.2 ⟨_, _, denL_append.2 ⟨_, _, hp, hm, rfl⟩, hq, rfl⟩⟩
      · unfold execOp
        simp only [ho, resolve, ← he, Deferred.ofValue, Sem.run_bind, Sem.run_pure, Result.andThen_ok]
      · intro w
        simp only [invoke, callFunc, Sem.run_bind, run_program, Result.andThen_ok, h1, h2, h3, Bool.false_eq_true, if_false, Sem.run_pure]
        simp
    · simp at h
  · simp at h
theorem setD_ok {d : Option Tmp} {c : Call} : ∀ {l : List (Ex × St)} {m : List ((Ex × St) × Df)}, setD funs d c l = some m → ∀ lf ∈ l, lf.1 = .nrm ∧ ∃ g, calleeOf funs lf.2.F c = some g ∧ ((Ex.nrm, { lf.2 with F := setF lf.2.F d .undef }), some g) ∈ m
  | [], m, h, lf, hlf => by simp at hlf
  | (e, st) :: l, m, h, lf, hlf => by
    cases e <;> simp only [setD, Option.bind_eq_some_iff, Option.map_eq_some_iff] at h <;> try (simp at h; done)
    obtain ⟨g, hg, m', hm', rfl⟩ := h
    simp only [List.mem_cons] at hlf
    rcases hlf with rfl | hlf
    · exact ⟨rfl, g, hg, List.mem_cons_self⟩
    · obtain ⟨h1, g', h2, h3⟩ := setD_ok hm' lf hlf
      exact ⟨h1, g', h2, List.mem_cons_of_mem _ h3⟩
theorem eachD_ok {k : St → Df → Option OutD} : ∀ {l : List ((Ex × St) × Df)} {out : OutD}, eachD k l = some out →
    (∀ st d, ((Ex.nrm, st), d) ∈ l → ∃ o', k st d = some o' ∧ (∀ q ∈ o'.1, q ∈ out.1) ∧ (VOk σ out.2 → VOk σ o'.2)) ∧ (∀ e st d, ((e, st), d) ∈ l → e ≠ .nrm → ((e, st), d) ∈ out.1)
  | [], out, h => by simp
  | ((e, st), d) :: l, out, h => by
    cases e
    case nrm =>
      simp only [eachD, Option.bind_eq_some_iff, Option.map_eq_some_iff] at h
      obtain ⟨a, ha, b, hb, rfl⟩ := h
      obtain ⟨h1, h2⟩ := eachD_ok hb
      refine ⟨fun s d' hs => ?_, fun e s d' hs hne => ?_⟩
      · simp only [List.mem_cons] at hs
        rcases hs with hs | hs
        · simp at hs; obtain ⟨rfl, rfl⟩ := hs
          exact ⟨a, ha, fun q hq => List.mem_append_left _ hq, fun h => h.app.1⟩
        · obtain ⟨o', h3, h4, h5⟩ := h1 s d' hs
          exact ⟨o', h3, fun q hq => List.mem_append_right _ (h4 q hq), fun h => h5 h.app.2⟩
      · simp only [List.mem_cons] at hs
        rcases hs with hs | hs
        · simp at hs; exact absurd hs.1.1 hne
        · exact List.mem_append_right _ (h2 e s d' hs hne)
    all_goals
      simp only [eachD, Option.map_eq_some_iff] at h
      obtain ⟨b, hb, rfl⟩ := h
      obtain ⟨h1, h2⟩ := eachD_ok hb
      refine ⟨fun s d' hs => ?_, fun e s d' hs hne => ?_⟩
      · simp only [List.mem_cons] at hs
        rcases hs with hs | hs
        · simp at hs
        · obtain ⟨o', h3, h4, h5⟩ := h1 s d' hs
          exact ⟨o', h3, fun q hq => List.mem_cons_of_mem _ (h4 q hq), h5⟩
      · simp only [List.mem_cons] at hs ⊢
        rcases hs with hs | hs
        · exact .inl hs
        · exact .inr (h2 e s d' hs hne)
theorem spine_ok (hfs : FunsOk P funs) {rn : Code → St → Option Out} (hr : RunOk P σ rn) {call : FuncId → List V → St → Option COut} (hcall : CallOk P σ call) : ∀ (c : Code) (st : St) (out : OutD), spine P funs call rn c st = some out → VOk σ out.2 →
    ∀ base ρ a w Q, Holds σ ρ base st a w → LeadsD P σ base out.1 ρ a w Q → c.wp P Q a w := by
  intro c
  induction c with
  | seq x y ihx ihy =>
    intro st out h hv base ρ a w Q hh hL
    simp only [spine, Option.bind_eq_some_iff, Option.map_eq_some_iff] at h
    obtain ⟨o1, ho1, o2, ho2, rfl⟩ := h
    obtain ⟨k1, k2⟩ := eachD_ok (σ := σ) ho2
    refine wp_seq (ihx _ _ ho1 hv.app.1 base ρ a w _ hh ?_)
    intro lf hlf ρ' a' w' he hh' hb hd
    obtain ⟨⟨e, st'⟩, d⟩ := lf
    cases e
    case nrm =>
      obtain ⟨o3, ho3, k3, k4⟩ := k1 st' d hlf
      cases d with
      | none =>
        refine ihy _ _ ho3 (k4 hv.app.2) base ρ' a' w' Q hh' fun lf hlf ρ2 a2 w2 he2 hh2 hb2 hd2 => ?_
        refine hL lf (k3 lf hlf) ρ2 a2 w2 (he.trans he2) hh2 (hb.trans hb2) ?_
        have e0 : a'.defers = a.defers := hd
        obtain ⟨lf1, df⟩ := lf
        cases df with
        | none => exact Eq.trans hd2 e0
        | some g => obtain ⟨fv, cap, dargs, xs, q1, q2, q3⟩ := hd2; exact ⟨fv, cap, dargs, xs, by rw [q1, e0], q2, q3⟩
      | some g =>
        exact noD_ok hr ho3 (k4 hv.app.2) hd hh' fun lf hlf ρ2 a2 w2 he2 hh2 hb2 hd2 => hL lf (k3 lf hlf) ρ2 a2 w2 (he.trans he2) hh2 (hb.trans hb2) hd2
    all_goals exact hL _ (k2 _ _ _ hlf (by simp)) ρ' a' w' he hh' hb hd
  | region id ops draw =>
    intro st out h hv base ρ a w Q hh hL
    simp only [spine, regD] at h
    split at h
    · exact noD_ok hr h hv (a0 := a) rfl hh hL
    · split at h
      · rename_i r hr'
        obtain ⟨e1, e2, e3⟩ := lastDefer_eq hr'
        simp only [Option.bind_eq_some_iff, Option.map_eq_some_iff] at h
        obtain ⟨o1, ho1, l, hl, rfl⟩ := h
        refine wp_region_list ?_
        rw [e1]
        refine wpList_two (runOps_ok hfs hcall r.1 st o1 ho1 hv base ρ a w _ hh ?_)
        intro lf hlf ρ' a' w' he hh' hb hd
        obtain ⟨hn, g, hg, hm⟩ := setD_ok hl lf hlf
        refine ⟨fun _ => ?_, fun hne => absurd (by rw [hn]; rfl) hne⟩
        obtain ⟨fv, cap, dargs, xs, x1, x2, x3⟩ := exec_defer (w := w') hfs (opOk_of hh'.F) e2 hg
        unfold wpList
        rw [if_pos (by simp [Region.wanted, e3])]
        refine .inl ?_
        unfold Oper.wp
        rw [x1]
        simp only [Oper.upon, wpList]
        refine hL _ hm ρ' _ w' he ⟨by rw [put_tmps]; exact setF_den hh'.F undef_den, hh'.pc, hh'.m⟩ hb ?_
        exact ⟨fv, cap, dargs, xs, by rw [put_defers]; simp only [hd], x2, x3⟩
      · exact noD_ok hr h hv (a0 := a) rfl hh hL
  | scope c ih =>
    intro st out h hv base ρ a w Q hh hL
    simp only [spine] at h
    refine wp_scope_straight (ih _ _ h hv base ρ a w _ hh ?_)
    intro lf hlf ρ' a' w' he hh' hb hd
    have := hL lf hlf ρ' a' w' he hh' hb hd
    obtain ⟨⟨e, st'⟩, d⟩ := lf
    cases e <;> exact this
  | _ =>
    intro st out h hv base ρ a w Q hh hL
    simp only [spine] at h
    exact noD_ok hr h hv (a0 := a) rfl hh hL
theorem resD_ok {rs : List ResultVar} {nx0 : Nat} {st : St} : ∀ {l : List (V × St)} {m : List (V × St)}, resD P rs F nx0 st l = some m → ∀ lf ∈ l, ∃ vs, resV P { st with H := lf.2.H, nx := lf.2.nx, pc := lf.2.pc } rs = some vs ∧ (packV vs, { lf.2 with F := F, H := keepH nx0 (V.plainL vs) lf.2.H }) ∈ m
  | [], m, h, lf, hlf => by simp at hlf
  | (v, s2) :: l, m, h, lf, hlf => by
    simp only [resD, Option.bind_eq_some_iff, Option.map_eq_some_iff] at h
    obtain ⟨vs, hvs, m', hm', rfl⟩ := h
    simp only [List.mem_cons] at hlf
    rcases hlf with rfl | hlf
    · exact ⟨vs, hvs, List.mem_cons_self⟩
    · obtain ⟨vs', h1, h2⟩ := resD_ok hm' lf hlf
      exact ⟨vs', h1, List.mem_cons_of_mem _ h2⟩
theorem keepH_ok {nx0 : Nat} {b : Bool} (h : M σ ρ base H nx w) : M σ ρ base (keepH nx0 b H) nx w := by
  simp only [keepH]
  split
  · split
    · exact h.sub fun i b hb => look_filter hb (fun c d => rfl)
    · exact h
  · exact h
theorem leaveD_ok (hfs : FunsOk P funs) {rn : Code → St → Option Out} (hr : RunOk P σ rn) {fn : Func} {nx0 : Nat} : ∀ {ls : List ((Ex × St) × Df)} {out : COut}, leaveD P funs rn fn.results.toList F nx0 ls = some out → VOk σ out.2 →
    ∀ lf ∈ ls, (lf.1.1 = .nrm ∨ lf.1.1 = .ret) ∧ ∀ ρ' a' w', Holds σ ρ' base lf.1.2 a' w' → ∀ a0 : Act, a0.defers = [] → DfOk P σ ρ' a0 a' lf.2 →
      Leaves P fn a'.tmps (fun e w2 => ∃ lf ∈ out.1, ∃ x ρ2, e = .returned x ∧ den σ ρ2 lf.1 = some x ∧ Ext ρ' ρ2 ∧ lf.2.F = F ∧ (∀ t ∈ lf.2.pc, t.b σ = true) ∧ M σ ρ2 base lf.2.H lf.2.nx w2 ∧ Kp base w' w2) a'.defers .returning w'
  | [], out, h, hv, lf, hlf => by simp at hlf
  | ((e, st), d) :: ls, out, h, hv, lf, hlf => by
    cases e
    case ext => simp [leaveD] at h
    all_goals
      cases d with
      | none =>
        simp only [leaveD, Option.bind_eq_some_iff, Option.map_eq_some_iff] at h
        obtain ⟨ra, hra, b, hb, rfl⟩ := h
        simp only [List.mem_cons] at hlf
        rcases hlf with rfl | hlf
        · refine ⟨by simp, fun ρ' a' w' hh a0 h0 hd => ?_⟩
          obtain ⟨vs, hvs, hmem⟩ := resD_ok hra _ (List.mem_singleton.2 rfl)
          obtain ⟨x, hrx, hdx⟩ := results_run (P := P) (st := st) hh.m hh.F hvs
          have hd : a'.defers = [] := Eq.trans hd h0
          rw [hd]
          exact ⟨x, hrx, _, List.mem_append_left _ hmem, x, ρ', rfl, hdx, Ext.refl _, rfl, hh.pc, keepH_ok hh.m, Kp.refl _ _⟩
        · obtain ⟨h1, h2⟩ := leaveD_ok hfs hr hb hv lf hlf
          refine ⟨h1, fun ρ' a' w' hh a0 h0 hd => ?_⟩
          exact leaves_mono (h2 ρ' a' w' hh a0 h0 hd) fun e w2 ⟨lf, hlf, rest⟩ => ⟨lf, List.mem_append_right _ hlf, rest⟩
      | some g =>
        simp only [leaveD, Option.bind_eq_some_iff, Option.map_eq_some_iff] at h
        obtain ⟨o, ho, ra, hra, b, hb, rfl⟩ := h
        simp only [List.mem_cons] at hlf
        rcases hlf with rfl | hlf
        · refine ⟨by simp, fun ρ' a' w' hh a0 h0 hd => ?_⟩
          obtain ⟨fv, cap, dargs, xs, q1, q2, q3⟩ := hd
          rw [q1, h0]
          refine leaves_cons (by simp) (q2 w') ?_
          obtain ⟨fn2, c2, b1, b2, b3⟩ := bodyF_wp hfs hr ho hv.app.1 q3 hh.pc hh.m
          refine (callsD_of_wp b1 b2 b3).mono ?_
          rintro e u w2 ⟨rfl, lf, hlf, y, ρ2, rfl, k2, k3, k4, k5, k6, k7⟩
          obtain ⟨vs, hvs, hmem⟩ := resD_ok hra lf hlf
          obtain ⟨x, hrx, hdx⟩ := results_run (P := P) (a := a') (st := { st with H := lf.2.H, nx := lf.2.nx, pc := lf.2.pc }) k6 (denL_mono k3 hh.F) hvs
          exact ⟨x, hrx, _, List.mem_append_left _ hmem, x, ρ2, rfl, hdx, k3, rfl, k5, keepH_ok k6, k7⟩
        · obtain ⟨h1, h2⟩ := leaveD_ok hfs hr hb hv.app.2 lf hlf
          refine ⟨h1, fun ρ' a' w' hh a0 h0 hd => ?_⟩
          exact leaves_mono (h2 ρ' a' w' hh a0 h0 hd) fun e w2 ⟨lf, hlf, rest⟩ => ⟨lf, List.mem_append_right _ hlf, rest⟩
theorem callD_ok (hfs : FunsOk P funs) {rn : Code → St → Option Out} (hr : RunOk P σ rn) {f : FuncId} {fn : Func} {c : Code} (h1 : P.funcs[f]? = some fn) (hc : fn.body = some c) {args : List V} {st : St} {out : COut} (h : callD P funs rn fn c args st = some out) (hv : VOk σ out.2) {xs : List Value} (hx : denL σ ρ args = some xs) (hpc : ∀ t ∈ st.pc, t.b σ = true) (hM : M σ ρ base st.H st.nx w) :
    Calls P f xs.toArray w fun e w' => ∃ lf ∈ out.1, ∃ x ρ', e = .returned x ∧ den σ ρ' lf.1 = some x ∧ Ext ρ ρ' ∧ lf.2.F = st.F ∧ (∀ t ∈ lf.2.pc, t.b σ = true) ∧ M σ ρ' base lf.2.H lf.2.nx w' ∧ Kp base w w' := by
  unfold callD at h
  simp only [Option.bind_eq_some_iff, Option.map_eq_some_iff] at h
  obtain ⟨o, ho, l, hl, rfl⟩ := h
  refine calls_of_wp_defers h1 hc ?_
  have hlen := denL_len hx
  refine spine_ok hfs hr (bodyF_ok hfs hr) _ _ _ ho hv.app.1 base ρ _ w _ ⟨?_, hpc, hM⟩ ?_
  · simp only [Array.toList_append, List.toList_toArray, Array.toList_replicate, List.size_toArray, Fr.init_list]
    rw [hlen]
    exact denL_append.2 ⟨_, _, hx, denL_replicate undef_den _, rfl⟩
  · intro lf hlf ρ' a' w' he hh hb hd
    obtain ⟨hex, hlv⟩ := leaveD_ok hfs hr hl hv.app.2 lf hlf
    have post := leaves_mono (hlv ρ' a' w' hh _ rfl hd) (R' := fun e w2 => ∃ lf ∈ l.1, ∃ x ρ', e = .returned x ∧ den σ ρ' lf.1 = some x ∧ Ext ρ ρ' ∧ lf.2.F = st.F ∧ (∀ t ∈ lf.2.pc, t.b σ = true) ∧ M σ ρ' base lf.2.H lf.2.nx w2 ∧ Kp base w w2)
      fun e w2 ⟨lf, hlf, x, ρ2, k1, k2, k3, k4, k5, k6, k7⟩ => ⟨lf, hlf, x, ρ2, k1, k2, he.trans k3, k4, k5, k6, hb.trans k7⟩
    rcases hex with hex | hex <;> rw [hex] <;> exact post
theorem callF_ok (hfs : FunsOk P funs) (hcs : CtrsOk P σ cs) {rn : Code → St → Option Out} (hr : RunOk P σ rn) : CallOk P σ (callF P cs funs rn) := by
  intro f args st out h hv base ρ w xs hx hpc hM
  unfold callF at h
  split at h
  · rename_i c hc
    have hcm : c ∈ cs ∧ c.f = f := by
      clear h
      induction cs with
      | nil => simp [findC] at hc
      | cons d l ih =>
        unfold findC at hc
        split at hc
        · rename_i hd; simp at hc hd; subst hc; exact ⟨List.mem_cons_self, hd⟩
        · have := ih (fun c hc => hcs c (List.mem_cons_of_mem _ hc)) hc
          exact ⟨List.mem_cons_of_mem _ this.1, this.2⟩
    simp only [Option.bind_eq_some_iff] at h
    obtain ⟨⟨v, conds, fs⟩, hr', h⟩ := h
    split at h
    · rename_i hpl
      simp only [Bool.and_eq_true] at hpl
      simp at h
      subst h
      have hc1 := filt_ok hpc (VOk.own hv hpc)
      have hd : ∃ x, den σ ρ v = some x := by
        exact den_some hpl.2
      obtain ⟨x, hdx⟩ := hd
      rw [← hcm.2]
      obtain ⟨hfs', hcl⟩ := hcs c hcm.1 _ v conds fs xs x ρ hr' hc1 (by rw [simL_den hpc]; exact hx) hdx
      refine (hcl w).mono ?_
      rintro e w' ⟨rfl, hb⟩
      exact ⟨_, List.mem_singleton.2 rfl, x, ρ, rfl, hdx, Ext.refl _, rfl, fun t ht => (List.mem_append.1 ht).elim (hfs' t) (hpc t), hM.below (Kp.of hb), (Kp.of hb).mono hM.size⟩
    · simp at h
  · simp only [Option.bind_eq_some_iff] at h
    obtain ⟨fn, hfn, c, hc, h⟩ := h
    obtain ⟨h1, h2, h3⟩ := hfs _ (findF_mem hfn)
    split at h
    · have hb : bodyF P funs rn f args st = some out := by
        unfold bodyF
        simp only [hfn, hc, Option.bind_some]
        exact h
      exact bodyF_ok hfs hr f args st out hb hv base ρ w xs hx hpc hM
    · exact callD_ok hfs hr h1 hc h hv hx hpc hM
theorem run_ok (hm : P.follows .mixedOrders = true) (hfs : FunsOk P funs) (hcs : CtrsOk P σ cs) : ∀ n, RunOk P σ (run P cs funs n) ∧
    (∀ c st out, run P cs funs n (.loop c) st = some out → VOk σ out.2 → ∀ base ρ a w Q, Holds σ ρ base st a w → Leads σ base out.1 ρ a w Q → Code.rounds P c Q n a w) := by
  intro n
  induction n with
  | zero => exact ⟨fun c st out h => by simp [run_zero] at h, fun c st out h => by simp [run_zero] at h⟩
  | succ n ih =>
    obtain ⟨ihA, ihB⟩ := ih
    have hcall := callF_ok hfs hcs ihA
    have loopB : ∀ c st out, run P cs funs (n + 1) (.loop c) st = some out → VOk σ out.2 → ∀ base ρ a w Q, Holds σ ρ base st a w → Leads σ base out.1 ρ a w Q → Code.rounds P c Q (n + 1) a w := by
      intro c st out h hv base ρ a w Q hh hL
      simp only [run_succ, thenO_eq, Option.bind_eq_some_iff, Option.map_eq_some_iff] at h
      obtain ⟨o1, ho1, o2, ho2, rfl⟩ := h
      rw [rounds_succ]
      obtain ⟨k1, k2⟩ := thenL_ok (σ := σ) ho2
      refine ihA _ _ _ ho1 hv.app.1 base ρ a w _ hh ?_
      intro lf hlf ρ' a' w' he hh' hb hd
      obtain ⟨e, st'⟩ := lf
      cases e
      case nrm =>
        obtain ⟨o3, ho3, k3, k4⟩ := k1 st' hlf
        exact ihB _ _ _ ho3 (k4 hv.app.2) base ρ' a' w' Q hh' (hL.mono k3 he hd hb)
      all_goals exact hL _ (k2 _ _ hlf (by simp)) ρ' a' w' he hh' hb hd
    refine ⟨?_, loopB⟩
    intro c st out h hv base ρ a w Q hh hL
    cases c <;> simp only [run_succ] at h <;> try (simp at h; done)
    case skip => simp at h; subst h; exact wp_skip (hL (.nrm, st) (by simp) ρ a w (Ext.refl _) hh (Kp.refl _ _) rfl)
    case label l => simp at h; subst h; exact wp_label (hL (.nrm, st) (by simp) ρ a w (Ext.refl _) hh (Kp.refl _ _) rfl)
    case exit id => simp at h; subst h; exact wp_exit (hL (.ext id, st) (by simp) ρ a w (Ext.refl _) hh (Kp.refl _ _) rfl)
    case ret => simp at h; subst h; exact wp_ret (hL (.ret, st) (by simp) ρ a w (Ext.refl _) hh (Kp.refl _ _) rfl)
    case seq x y =>
      simp only [thenO_eq, Option.bind_eq_some_iff, Option.map_eq_some_iff] at h
      obtain ⟨o1, ho1, o2, ho2, rfl⟩ := h
      obtain ⟨k1, k2⟩ := thenL_ok (σ := σ) ho2
      refine wp_seq (ihA _ _ _ ho1 hv.app.1 base ρ a w _ hh ?_)
      intro lf hlf ρ' a' w' he hh' hb hd
      obtain ⟨e, st'⟩ := lf
      cases e
      case nrm =>
        obtain ⟨o3, ho3, k3, k4⟩ := k1 st' hlf
        exact ihA _ _ _ ho3 (k4 hv.app.2) base ρ' a' w' Q hh' (hL.mono k3 he hd hb)
      all_goals exact hL _ (k2 _ _ hlf (by simp)) ρ' a' w' he hh' hb hd
    case cond c x y =>
      split at h
      · rename_i t ht
        have hc := den_bool (opv_den (opOk_of hh.F) ht)
        obtain ⟨pc', o', k1, k2, k3, k4⟩ := splitT_ok h hh.pc
        refine wp_cond hc ?_
        have hL' : Leads σ base o'.1 ρ a w Q := hL.mono k3 (Ext.refl _) rfl (Kp.refl _ _)
        cases hb : t.b σ
        · rw [hb] at k1
          simp only [Bool.false_eq_true, if_false] at k1 ⊢
          exact ihA _ _ _ k1 (k4 hv) base ρ a w Q ⟨hh.F, k2, hh.m⟩ hL'
        · rw [hb] at k1
          simp only [if_true] at k1 ⊢
          exact ihA _ _ _ k1 (k4 hv) base ρ a w Q ⟨hh.F, k2, hh.m⟩ hL'
      · simp at h
    case block id c =>
      simp only [Option.map_eq_some_iff] at h
      obtain ⟨o1, ho1, rfl⟩ := h
      refine wp_block (ihA _ _ _ ho1 hv base ρ a w _ hh ?_)
      intro lf hlf ρ' a' w' he hh' hb hd
      have := hL (catchE id lf.1, lf.2) (List.mem_map.2 ⟨lf, hlf, rfl⟩) ρ' a' w' he hh' hb hd
      obtain ⟨e, st'⟩ := lf
      cases e
      case ext j =>
        simp only [catchE] at this
        simp only [exOf, Exit.inBlock]
        split at this
        · rename_i hj
          rw [if_pos (by simpa using hj)]
          exact this
        · rename_i hj
          rw [if_neg (by simpa using hj)]
          exact this
      all_goals exact this
    case loop c =>
      have h' : run P cs funs (n + 1) (.loop c) st = some out := by simpa only [run_succ] using h
      exact wp_loop_rounds (n + 1) (loopB c st out h' hv base ρ a w Q hh hL)
    case scope c =>
      refine wp_scope_straight (ihA _ _ _ h hv base ρ a w _ hh ?_)
      intro lf hlf ρ' a' w' he hh' hb hd
      have := hL lf hlf ρ' a' w' he hh' hb hd
      obtain ⟨e, st'⟩ := lf
      cases e <;> exact this
    case region id ops draw =>
      cases draw
      · simp only at h
        exact wp_region_list (runOps_ok hfs hcall ops.toList st out h hv base ρ a w Q hh hL)
      · simp only at h
        exact runDD_ok hm hfs hcall h hv hh hL
theorem call_calls (hm : P.follows .mixedOrders = true) (hfs : FunsOk P funs) (σ : Env) (hcs : CtrsOk P σ cs) {n : Nat} {f : FuncId} {args : List V} {pc : List T} {out : COut} (h : call P cs funs n f args pc = some out) (hv : VOk σ out.2)
    {xs : List Value} (hx : denL σ (fun _ => none) args = some xs) (hpc : ∀ t ∈ pc, t.b σ = true) (w : World) :
    Calls P f xs.toArray w fun e w' => Below w.heap.size w w' ∧ ∃ lf ∈ out.1, (∀ t ∈ lf.2.pc, t.b σ = true) ∧ ∃ x ρ', e = .returned x ∧ den σ ρ' lf.1 = some x ∧ M σ ρ' (· < w.heap.size) lf.2.H lf.2.nx w' := by
  refine (callF_ok hfs hcs (run_ok hm hfs hcs n).1 f args ⟨⟨0, .lf⟩, [], 0, pc⟩ out h hv (· < w.heap.size) (fun _ => none) w xs hx hpc ⟨fun r hr => hr, fun _ _ => rfl, fun i b hi => by simp [look] at hi, fun i j r c d hi => by simp [look] at hi⟩).mono ?_
  rintro e w' ⟨lf, hlf, x, ρ', k1, k2, k3, k4, k5, k6, k7⟩
  exact ⟨Kp.to k7, lf, hlf, k5, x, ρ', k1, k2, k6⟩
theorem FunsOk.nil : FunsOk P [] := fun e he => by simp at he
theorem FunsOk.cons {f : FuncId} {fn : Func} (h1 : P.funcs[f]? = some fn) (h2 : (fn.name == "runtime.NumGoroutine") = false) (h3 : fn.body.isNone = false) (h : FunsOk P funs) : FunsOk P ((f, fn) :: funs) := fun e he => by
  simp only [List.mem_cons] at he
  rcases he with rfl | he
  · exact ⟨h1, h2, h3⟩
  · exact h e he
theorem CtrsOk.nil {σ : Env} : CtrsOk P σ [] := fun c hc => by simp at hc
theorem CtrsOk.cons {σ : Env} {c : Ctr} (hc : ∀ args v conds fs xs x ρ, c.app args = some (v, conds, fs) → (∀ t ∈ conds, t.b σ = true) → denL σ ρ args = some xs → den σ ρ v = some x →
    (∀ t ∈ fs, t.b σ = true) ∧ ∀ w, Calls P c.f xs.toArray w fun e w' => e = .returned x ∧ Below w.heap.size w w') (h : CtrsOk P σ cs) : CtrsOk P σ (c :: cs) := fun d hd => by
  simp only [List.mem_cons] at hd
  rcases hd with rfl | hd
  · exact hc
  · exact h d hd
def ctrTrue (f : FuncId) : Ctr := ⟨f, fun l => match l with | [] => some (.bool (.bool true), [], []) | _ => none⟩
theorem CtrsOk.true {σ : Env} {f : FuncId} (hf : ∀ w, Calls P f #[] w fun e w' => e = .returned (.bool true) ∧ Below w.heap.size w w') (h : CtrsOk P σ cs) : CtrsOk P σ (ctrTrue f :: cs) := fun c hc => by
  simp only [List.mem_cons] at hc
  rcases hc with rfl | hc
  · intro args v conds fs xs x ρ h hv hx hd
    simp only [ctrTrue] at h
    split at h
    · simp at h
      obtain ⟨rfl, rfl, rfl⟩ := h
      rw [denL_nil] at hx
      simp at hx
      subst hx
      simp [den, T.b] at hd
      subst hd
      exact ⟨fun t ht => by simp at ht, hf⟩
    · simp at h
  · exact h c hc
theorem nilOk {σ : Env} : VOk σ [] := fun x hx => by simp at hx
def noEnv : Env := ⟨fun _ => 0, fun _ => false, fun _ => ByteArray.empty, fun _ => undef, fun _ _ => 0, fun _ _ => false, fun _ _ => false⟩
def ints (l : List Int) : Env := ⟨fun i => l.getD i 0, fun _ => false, fun _ => ByteArray.empty, fun _ => undef, fun _ _ => 0, fun _ _ => false, fun _ _ => false⟩
def intsB (l : List Int) (b : List Bool) : Env := ⟨fun i => l.getD i 0, fun i => b.getD i false, fun _ => ByteArray.empty, fun _ => undef, fun _ _ => 0, fun _ _ => false, fun _ _ => false⟩
def hyps (σ : Env) : List T → Prop → Prop
  | [], g => g
  | p :: l, g => p.b σ = true → hyps σ l g
theorem hyps_of {σ : Env} {g : Prop} : ∀ {l : List T}, hyps σ l g → (∀ t ∈ l, t.b σ = true) → g
  | [], h, _ => h
  | p :: l, h, hl => hyps_of (h (hl p (by simp))) (fun t ht => hl t (by simp [ht]))
theorem VOk.cons {σ : Env} {pc : List T} {t : T} {l : Vcs} (h : hyps σ pc (t.b σ = true)) (hl : VOk σ l) : VOk σ ((pc, t) :: l) := fun x hx hp => by
  simp only [List.mem_cons] at hx
  rcases hx with rfl | hx
  · exact hyps_of h hp
  · exact hl x hx hp
def leafR (r : V) : List (V × St) → Option Vcs
  | [] => some []
  | l :: ls => (sameV (simV l.2.pc l.1) (simV l.2.pc r)).bind fun ts => (leafR r ls).map fun vs => ts.map (fun t => (l.2.pc, t)) ++ vs
def goalsR (r : V) (o : Option COut) : Option Vcs := o.bind fun a => (leafR r a.1).map fun vs => vs ++ a.2
theorem leafR_ok {σ : Env} {r : V} : ∀ {ls : List (V × St)} {vs : Vcs}, leafR r ls = some vs → VOk σ vs → ∀ lf ∈ ls, (∀ t ∈ lf.2.pc, t.b σ = true) → ∀ ρ, den σ ρ lf.1 = den σ ρ r
  | [], vs, h, hv, lf, hlf, _, _ => by simp at hlf
  | l :: ls, vs, h, hv, lf, hlf, hp, ρ => by
    simp only [leafR, Option.bind_eq_some_iff, Option.map_eq_some_iff] at h
    obtain ⟨ts, hts, vs', hvs, rfl⟩ := h
    simp only [List.mem_cons] at hlf
    rcases hlf with rfl | hlf
    · have := sameV_den (ρ := ρ) hts (hv.app.1.own hp)
      rwa [simV_den hp, simV_den hp] at this
    · exact leafR_ok hvs hv.app.2 lf hlf hp ρ
theorem calls_value (hm : P.follows .mixedOrders = true) (hfs : FunsOk P funs) (σ : Env) (hcs : CtrsOk P σ cs) {n : Nat} {f : FuncId} {args : List V} {pc : List T} {r : V} {gs : Vcs} (h : goalsR r (call P cs funs n f args pc) = some gs) (hv : VOk σ gs)
    {xs : List Value} (hx : denL σ (fun _ => none) args = some xs) (hpc : ∀ t ∈ pc, t.b σ = true) (hpl : r.plain = true) {z : Value} (hr : den σ (fun _ => none) r = some z) (w : World) : Calls P f xs.toArray w fun e w' => e = .returned z ∧ Below w.heap.size w w' := by
  simp only [goalsR, Option.bind_eq_some_iff, Option.map_eq_some_iff] at h
  obtain ⟨o, ho, vs, hvs, rfl⟩ := h
  refine (call_calls hm hfs σ hcs ho hv.app.2 hx hpc w).mono ?_
  rintro e w' ⟨hb, lf, hlf, hpl', x, ρ', rfl, hd, -⟩
  rw [leafR_ok hvs hv.app.1 lf hlf hpl' ρ'] at hd
  have := den_plain (ρ' := ρ') hpl hr
  rw [hd] at this
  simp at this
  exact ⟨by rw [this], hb⟩
def goals : Option COut → Option Vcs
  | none => none
  | some (ls, vs) => some (ls.filterMap (fun l => match l.1 with | .bool (.bool true) => none | .bool t => some (l.2.pc, t) | _ => some (l.2.pc, .bool false)) ++ vs)
theorem calls_goals (hm : P.follows .mixedOrders = true) (hfs : FunsOk P funs) (σ : Env) (hcs : CtrsOk P σ cs) {n : Nat} {f : FuncId} {args : List V} {pc : List T} {gs : Vcs} (h : goals (call P cs funs n f args pc) = some gs) (hv : VOk σ gs)
    {xs : List Value} (hx : denL σ (fun _ => none) args = some xs) (hpc : ∀ t ∈ pc, t.b σ = true) (w : World) : Calls P f xs.toArray w fun e w' => e = .returned (.bool true) ∧ Below w.heap.size w w' := by
  unfold goals at h
  split at h
  · simp at h
  · rename_i ls vs hc
    simp only [Option.some.injEq] at h
    subst h
    refine (call_calls hm hfs σ hcs hc hv.app.2 hx hpc w).mono ?_
    rintro e w' ⟨hb, lf, hlf, hpl, x, ρ', rfl, hd, -⟩
    refine ⟨?_, hb⟩
    have key : ∀ t, lf.1 = .bool t → t.b σ = true := by
      intro t ht
      by_cases htt : t = .bool true
      · subst htt; simp [T.b]
      · exact hv.app.1 (lf.2.pc, t) (List.mem_filterMap.2 ⟨lf, hlf, by
          rw [ht]
          split
          · rename_i he; simp at he; exact absurd he htt
          · rename_i he; simp at he; rw [he]
          · rename_i he; exact absurd rfl (he t)⟩) hpl
    cases hl : lf.1
    case bool t =>
      have := key t hl
      rw [hl] at hd
      simp [den, this] at hd
      rw [← hd]
    all_goals
      exfalso
      have := hv.app.1 (lf.2.pc, .bool false) (List.mem_filterMap.2 ⟨lf, hlf, by rw [hl]⟩) hpl
      simp [T.b] at this
def allTrue : Option COut → Bool
  | some (ls, vs) => ls.all (fun l => match l.1 with | .bool (.bool true) => true | _ => false) && vs.isEmpty
  | none => false
theorem calls_true (hm : P.follows .mixedOrders = true) (hfs : FunsOk P funs) (σ : Env) (hcs : CtrsOk P σ cs) {n : Nat} {f : FuncId} {args : List V} (h : allTrue (call P cs funs n f args []) = true)
    {xs : List Value} (hx : denL σ (fun _ => none) args = some xs) (w : World) : Calls P f xs.toArray w fun e w' => e = .returned (.bool true) ∧ Below w.heap.size w w' := by
  unfold allTrue at h
  split at h
  · rename_i ls vs hc
    simp only [Bool.and_eq_true, List.all_eq_true, List.isEmpty_iff] at h
    obtain ⟨h1, rfl⟩ := h
    refine (call_calls hm hfs σ hcs hc (by intro x hx; simp at hx) hx (by simp) w).mono ?_
    rintro e w' ⟨hb, lf, hlf, -, x, ρ', rfl, hd, -⟩
    have := h1 lf hlf
    split at this
    · rename_i e
      rw [e] at hd
      simp [den, T.b] at hd
      exact ⟨by rw [← hd], hb⟩
    · simp at this
  · simp at h
def covV (gs : Vcs) : Option Vcs → Bool
  | none => false
  | some l => l.all fun x => gs.any fun y => (decide (y.2 = x.2) || decide (y.2 = .bool false)) && y.1.all fun t => x.1.contains t
theorem covV_ok {σ : Env} {gs : Vcs} {o : Option Vcs} (h : covV gs o = true) (hv : VOk σ gs) : ∃ l, o = some l ∧ VOk σ l := by
  unfold covV at h
  split at h
  · simp at h
  · rename_i l
    refine ⟨l, rfl, fun x hx hp => ?_⟩
    simp only [List.all_eq_true, List.any_eq_true, Bool.and_eq_true, Bool.or_eq_true, decide_eq_true_eq] at h
    obtain ⟨y, hy, he, ha⟩ := h x hx
    have hy := hv y hy fun t ht => hp t (by simpa using ha t ht)
    rcases he with he | he
    · rw [← he]; exact hy
    · rw [he] at hy; simp [T.b] at hy
theorem calls_value' (hm : P.follows .mixedOrders = true) (hfs : FunsOk P funs) (σ : Env) (hcs : CtrsOk P σ cs) {n : Nat} {f : FuncId} {args : List V} {pc : List T} {r : V} {gs : Vcs} (h : covV gs (goalsR r (call P cs funs n f args pc)) = true) (hv : VOk σ gs)
    {xs : List Value} (hx : denL σ (fun _ => none) args = some xs) (hpc : ∀ t ∈ pc, t.b σ = true) (hpl : r.plain = true) {z : Value} (hr : den σ (fun _ => none) r = some z) (w : World) : Calls P f xs.toArray w fun e w' => e = .returned z ∧ Below w.heap.size w w' := by
  obtain ⟨l, hl, hv'⟩ := covV_ok h hv
  exact calls_value hm hfs σ hcs hl hv' hx hpc hpl hr w
theorem calls_goals' (hm : P.follows .mixedOrders = true) (hfs : FunsOk P funs) (σ : Env) (hcs : CtrsOk P σ cs) {n : Nat} {f : FuncId} {args : List V} {pc : List T} {gs : Vcs} (h : covV gs (goals (call P cs funs n f args pc)) = true) (hv : VOk σ gs)
    {xs : List Value} (hx : denL σ (fun _ => none) args = some xs) (hpc : ∀ t ∈ pc, t.b σ = true) (w : World) : Calls P f xs.toArray w fun e w' => e = .returned (.bool true) ∧ Below w.heap.size w w' := by
  obtain ⟨l, hl, hv'⟩ := covV_ok h hv
  exact calls_goals hm hfs σ hcs hl hv' hx hpc w
end
end Go.Proofs.Ytehbfajmileefaa.Vx
