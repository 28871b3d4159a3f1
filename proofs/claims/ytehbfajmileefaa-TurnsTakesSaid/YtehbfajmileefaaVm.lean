import Derived.Test.YtehbfajmileefaaVk
namespace Go.Proofs.Ytehbfajmileefaa.Vx
open Go.RowKit
set_option linter.unusedVariables false
set_option linter.unusedSimpArgs false
section
variable {P : Program} {σ : Env} {ρ : Rho} {w : World} {base : Nat → Prop} {nx : Nat} {H : Hp} {F : Fr} {a : Act} {funs : List (FuncId × Func)}
theorem wanted_boolO (hF : OpOk σ ρ F a) {ops : Array Oper} {o : Oper} {j : Nat} {want : Bool} {t : T} (hg : o.guard = some (j, want)) (h : ((ops[j]?).bind (·.dst)).bind (fun d => opv F (.tmp d)) = some (.bool t)) :
    Region.wanted o (yielded ops a.tmps) = (t.b σ == want) := by
  simp only [Option.bind_eq_some_iff] at h
  obtain ⟨d, ⟨q, hq, hd⟩, hv⟩ := h
  have := den_bool (hF _ _ hv)
  simp only [Act.eval, Array.getD_eq_getD_getElem?] at this
  cases e : a.tmps[d]? with
  | none => rw [e] at this; simp [undef] at this
  | some x =>
    rw [e] at this
    simp at this
    subst this
    simp [Region.wanted, hg, yielded, hq, hd, e]
theorem wanted_undefO (hF : OpOk σ ρ F a) {ops : Array Oper} {o : Oper} {j : Nat} {want : Bool} (hg : o.guard = some (j, want)) (h : ((ops[j]?).bind (·.dst)).bind (fun d => opv F (.tmp d)) = some (.tup [])) :
    Region.wanted o (yielded ops a.tmps) = false := by
  simp only [Option.bind_eq_some_iff] at h
  obtain ⟨d, ⟨q, hq, hd⟩, hv⟩ := h
  have := hF _ _ hv
  simp [den, denL] at this
  simp only [Act.eval, Array.getD_eq_getD_getElem?] at this
  cases e : a.tmps[d]? with
  | none => simp [Region.wanted, hg, yielded, hq, hd, e]
  | some x =>
    rw [e] at this
    simp at this
    subst this
    simp [Region.wanted, hg, yielded, hq, hd, e]
theorem mergeLs_ok {n : Nat} : ∀ {l : List (V × St)} {v : V}, mergeLs n l = some v → ∀ lf ∈ l, (∀ t ∈ lf.2.pc, t.b σ = true) → den σ ρ v = den σ ρ lf.1
  | [], v, h, lf, hlf, _ => by simp at hlf
  | [x], v, h, lf, hlf, _ => by simp [mergeLs] at h; simp at hlf; subst hlf; rw [h]
  | x :: y :: l, v, h, lf, hlf, hpc => by
    simp only [mergeLs] at h
    split at h
    · rename_i hall
      simp only [Option.bind_eq_some_iff] at h
      obtain ⟨u, hu, hv⟩ := h
      rw [iteV_den hv]
      simp only [List.mem_cons] at hlf
      rcases hlf with rfl | hlf
      · rw [if_pos ((andL_b _).2 fun t ht => hpc t (List.mem_of_mem_take ht))]
      · rw [if_neg]
        · exact mergeLs_ok hu lf (by simpa using hlf) hpc
        · intro hc
          have := List.all_eq_true.1 hall lf (by simpa using hlf)
          exact contraB_no this ((andL_b _).1 hc) (fun t ht => hpc t (List.mem_of_mem_take ht))
    · simp at h
theorem M.dom (h : M σ ρ base H nx w) {j : Nat} (hj : ρ j = none) : look H j = none := by
  cases e : look H j with
  | none => rfl
  | some b =>
    obtain ⟨r, c, cs, sp, g1, -⟩ := h.blk j b e
    rw [hj] at g1
    simp at g1
theorem blkEq {b c : Blk} (h : b.eqb c = true) : b = c := by
  obtain ⟨a1, a2, a3, a4, a5⟩ := b
  obtain ⟨b1, b2, b3, b4, b5⟩ := c
  simp only [Blk.eqb, Bool.and_eq_true, beq_iff_eq] at h
  obtain ⟨⟨⟨⟨h1, h2⟩, h3⟩, h4⟩, h5⟩ := h
  rw [eqbL_eq h5, h3, h4, Nat.eq_of_beq_eq_true h1, Nat.eq_of_beq_eq_true h2]
mutual
theorem den_inb {ρ1 ρ2 : Rho} {p : Nat → Bool} (hp : ∀ i, p i = true → ρ1 i = ρ2 i) : ∀ {v : V}, V.inb p v = true → den σ ρ1 v = den σ ρ2 v
  | .ptr i o, h => by simp only [V.inb] at h; simp only [den, hp i h]
  | .sl i o n c, h => by simp only [V.inb] at h; simp only [den, hp i h]
  | .mp i, h => by simp only [V.inb] at h; simp only [den, hp i h]
  | .fn f a b, h => by simp only [V.inb, Bool.and_eq_true] at h; simp only [den, denL_inb hp h.1, denL_inb hp h.2]
  | .agg l, h => by simp only [V.inb] at h; simp only [den, denL_inb hp h]
  | .tup l, h => by simp only [V.inb] at h; simp only [den, denL_inb hp h]
  | .int _ _, _ => by simp only [den]
  | .bool _, _ => by simp only [den]
  | .str _, _ => by simp only [den]
  | .nilp, _ => by simp only [den]
  | .nils, _ => by simp only [den]
  | .nilf, _ => by simp only [den]
  | .nili, _ => by simp only [den]
  | .nilm, _ => by simp only [den]
  | .nilc, _ => by simp only [den]
  | .val _, _ => by simp only [den]
  | .bad, _ => by simp only [den]
theorem denL_inb {ρ1 ρ2 : Rho} {p : Nat → Bool} (hp : ∀ i, p i = true → ρ1 i = ρ2 i) : ∀ {l : List V}, V.inbL p l = true → denL σ ρ1 l = denL σ ρ2 l
  | [], _ => by simp only [denL]
  | v :: l, h => by
    simp only [V.inbL, Bool.and_eq_true] at h
    simp only [denL, den_inb hp h.1, denL_inb hp h.2]
end
def lookW : List (Nat × Option Blk) → Nat → Option (Option Blk)
  | [], _ => none
  | (j, ob) :: l, i => if j = i then some ob else lookW l i
theorem look_putW : ∀ (l : List (Nat × Option Blk)) (H : Hp) (i : Nat), look (putW l H) i = match lookW l i with | some ob => ob | none => look H i
  | [], H, i => by simp [putW, lookW]
  | (j, some b) :: l, H, i => by
    simp only [putW, lookW, look_cons]
    split
    · rfl
    · exact look_putW l H i
  | (j, none) :: l, H, i => by
    simp only [putW, lookW, look_del]
    split
    · rfl
    · exact look_putW l H i
theorem lookW_mem : ∀ {l : List (Nat × Option Blk)} {i : Nat} {ob : Option Blk}, lookW l i = some ob → (i, ob) ∈ l
  | [], i, ob, h => by simp [lookW] at h
  | (j, o) :: l, i, ob, h => by
    simp only [lookW] at h
    split at h
    · rename_i e; simp at h; subst e; subst h; exact List.mem_cons_self
    · exact List.mem_cons_of_mem _ (lookW_mem h)
theorem lookW_some : ∀ {l : List (Nat × Option Blk)} {i : Nat}, i ∈ l.map (·.1) → ∃ ob, lookW l i = some ob
  | [], i, h => by simp at h
  | (j, o) :: l, i, h => by
    simp only [lookW]
    split
    · exact ⟨_, rfl⟩
    · rename_i hne
      simp only [List.map_cons, List.mem_cons] at h
      rcases h with h | h
      · exact absurd h.symm hne
      · exact lookW_some h
theorem lookW_none {l : List (Nat × Option Blk)} {i : Nat} (h : lookW l i = none) : i ∉ l.map (·.1) := fun hm => by
  obtain ⟨ob, hob⟩ := lookW_some hm
  rw [h] at hob; simp at hob
theorem lookW_in {l : List (Nat × Option Blk)} {i : Nat} {ob : Option Blk} (h : lookW l i = some ob) : i ∈ l.map (·.1) := List.mem_map.2 ⟨_, lookW_mem h, rfl⟩
theorem lookW_app : ∀ (l m : List (Nat × Option Blk)) (i : Nat), lookW (l ++ m) i = match lookW l i with | some ob => some ob | none => lookW m i
  | [], m, i => by simp [lookW]
  | (j, o) :: l, m, i => by
    simp only [List.cons_append, lookW]
    split
    · rfl
    · exact lookW_app l m i
theorem lookW_map (q : Nat → Bool) : ∀ (H : Hp) (i : Nat), lookW ((H.filter fun e => q e.1).map fun e => (e.1, some e.2)) i = if q i then (look H i).map some else none
  | [], i => by simp [lookW, look]
  | (j, b) :: H, i => by
    have ih := lookW_map q H i
    simp only [List.filter_cons, look_cons]
    by_cases hq : q j = true
    · rw [if_pos hq]
      simp only [List.map_cons, lookW]
      by_cases e : j = i
      · subst e; simp [hq]
      · rw [if_neg e, if_neg e]; exact ih
    · rw [if_neg hq, ih]
      by_cases e : j = i
      · subst e; simp [hq]
      · rw [if_neg e]
theorem lookW_gone (q : Nat → Bool) : ∀ (H : Hp) (i : Nat), lookW (H.filterMap fun e => if q e.1 then none else some (e.1, none)) i = if q i = false ∧ (look H i).isSome then some none else none
  | [], i => by simp [lookW, look]
  | (j, b) :: H, i => by
    have ih := lookW_gone q H i
    simp only [List.filterMap_cons, look_cons]
    by_cases hq : q j = true
    · simp only [hq, if_true]
      rw [ih]
      by_cases e : j = i
      · subst e; simp [hq]
      · rw [if_neg e]
    · simp only [hq, Bool.false_eq_true, if_false, lookW]
      by_cases e : j = i
      · subst e; simp [hq]
      · rw [if_neg e, if_neg e]; exact ih
theorem look_roH (i : Nat) : ∀ (H : Hp), look (roH H) i = (look H i).map fun b => { b with ro := true }
  | [] => by simp [roH, look]
  | (j, b) :: H => by
    have ih := look_roH i H
    simp only [roH, List.map_cons, look_cons] at ih ⊢
    split
    · rfl
    · exact ih
theorem Blk.obj_ro (b : Blk) (x : Bool) (xs : List Value) (fz : Nat × Nat) : ({ b with ro := x } : Blk).obj xs fz = b.obj xs fz := by
  obtain ⟨t, s, l, sp, ro⟩ := b
  cases sp <;> cases s <;> rfl
theorem M.ro (h : M σ ρ base H nx w) {kc : Nat} (hk : ∀ j, kc ≤ j → ρ j = none) : M σ ρ (· < w.heap.size) (roH H) kc w := by
  refine ⟨fun r hr => hr, hk, fun i b hi => ?_, fun i j r c d hi hj => h.inj i j r c d ?_ ?_⟩
  · rw [look_roH] at hi
    simp only [Option.map_eq_some_iff] at hi
    obtain ⟨b', hb', rfl⟩ := hi
    obtain ⟨r, c, cs, sp, g1, g2, g3, g4, g5, g6⟩ := h.blk i b' hb'
    exact ⟨r, c, cs, sp, g1, fun h => by simp at h, g3, g4.imp fun fz k => ⟨fun h => by simp at h, by rw [k.2, ← Blk.obj_ro b' true]⟩, g5, by rw [Blk.mp_ro]; exact g6⟩
  · rw [look_roH] at hi; simpa using hi
  · rw [look_roH] at hj; simpa using hj
theorem M.rho {ρ2 : Rho} {nx2 : Nat} (h : M σ ρ base H nx w) (he : Ext ρ2 ρ) (hf : ∀ i, nx2 ≤ i → ρ2 i = none) (hb : ∀ i b, look H i = some b → ρ2 i = ρ i ∧ ∃ cs, denL σ ρ2 b.cells = some cs) : M σ ρ2 base H nx2 w :=
  ⟨h.size, hf, fun i b hi => by
    obtain ⟨r, c, cs, sp, g1, g2, g3, g4⟩ := h.blk i b hi
    obtain ⟨h1, cs2, h2⟩ := hb i b hi
    have := denL_mono he h2
    rw [g3] at this
    simp at this
    subst this
    exact ⟨r, c, cs, sp, h1.trans g1, g2, h2, g4⟩, fun i j r c d hi hj hri hrj => h.inj i j r c d hi hj (he _ _ hri) (he _ _ hrj)⟩
def rho2 (ρ ρ' : Rho) (kc : Nat) : Rho := fun i => if (ρ i).isSome then ρ i else if kc ≤ i then ρ' i else none
theorem rho2_ext {ρ' : Rho} {kc : Nat} : Ext ρ (rho2 ρ ρ' kc) := fun i r h => by simp [rho2, h]
theorem rho2_sub {ρ' : Rho} {kc : Nat} (he : Ext ρ ρ') : Ext (rho2 ρ ρ' kc) ρ' := fun i r h => by
  unfold rho2 at h
  split at h
  · exact he _ _ h
  · split at h
    · exact h
    · simp at h
theorem rho2_at {ρ' : Rho} {kc : Nat} (he : Ext ρ ρ') (hk : ∀ j, kc ≤ j → ρ j = none) {Hr : Hp} (hHr : ∀ i b, look Hr i = some b → (ρ i).isSome = true) {i : Nat} (h : inP kc Hr i = true) : rho2 ρ ρ' kc i = ρ' i := by
  unfold inP at h
  simp only [Bool.or_eq_true] at h
  unfold rho2
  rcases h with h | h
  · have h : kc ≤ i := by simpa using h
    rw [hk i h]
    simp [h]
  · rw [Option.isSome_iff_exists] at h
    obtain ⟨b, hb⟩ := h
    have := hHr i b hb
    rw [if_pos this]
    rw [Option.isSome_iff_exists] at this
    obtain ⟨r, hr⟩ := this
    rw [hr, he _ _ hr]
theorem recCall_ok (hfs : FunsOk P funs) {call : FuncId → List V → St → Option COut} (hc : CallOk P σ call) {pc : List T} {kc nxT : Nat} {g : FuncId × List V} {Hr : Hp} {r : Rec} {vs : Vcs}
    (h : recCall call pc kc g Hr = some (r, vs)) (hv : VOk σ vs) (hpc : ∀ t ∈ pc, t.b σ = true) {xs : List Value} (hdx : denL σ ρ g.2 = some xs) (hH : ∀ i b, look Hr i = some b → look H i = some b) (hM : M σ ρ base H nxT w) (hk : ∀ j, kc ≤ j → ρ j = none) (hkn : r.e ≤ nxT) :
    Calls P g.1 xs.toArray w fun e w' => ∃ x ρ', e = .returned x ∧ Ext ρ ρ' ∧ den σ ρ' r.v = some x ∧ M σ ρ' base (r.put H) nxT w' ∧ Kp base w w' ∧ (∀ j, ρ j = none → ¬ (kc ≤ j ∧ j < r.e) → ρ' j = none) := by
  have hMr : M σ ρ base Hr nxT w := hM.sub hH
  have hrs : ∀ i b, look Hr i = some b → (ρ i).isSome = true := fun i b hb => by
    obtain ⟨r, c, cs, sp, g1, -⟩ := hMr.blk i b hb; simp [g1]
  have fin : ∀ (x : V × St) (wr : List (Nat × Option Blk)) (ρ' : Rho) (S' : Nat → Prop) (w' : World) (y : Value), callR kc Hr x wr = some r → Ext ρ ρ' → den σ ρ' x.1 = some y → (∀ i, x.2.nx ≤ i → ρ' i = none) → Kp base w w' →
      M σ ρ' base (r.put H) (nxT + x.2.nx) w' → (∀ i b, lookW wr i = none → look H i = some b → True) →
      ∃ ρ2, Ext ρ ρ2 ∧ den σ ρ2 r.v = some y ∧ M σ ρ2 base (r.put H) nxT w' ∧ Kp base w w' ∧ (∀ j, ρ j = none → ¬ (kc ≤ j ∧ j < r.e) → ρ2 j = none) := by
    intro x wr ρ' S' w' y hr he hy hf hb hm _
    unfold callR at hr
    split at hr
    rotate_left
    · simp at hr
    rename_i hcc
    simp only [Bool.and_eq_true, List.all_eq_true] at hcc
    obtain ⟨⟨c1, c2⟩, c3⟩ := hcc
    simp only [Option.some.injEq] at hr
    subst hr
    simp only at hkn
    have at' : ∀ i, inP kc Hr i = true → rho2 ρ ρ' kc i = ρ' i := fun i hi => rho2_at he hk hrs hi
    refine ⟨rho2 ρ ρ' kc, rho2_ext, by rw [den_inb at' c1]; exact hy, hm.rho (rho2_sub he) (fun i hi => ?_) (fun i b hi => ?_), hb, fun j h1 h2 => ?_⟩
    · unfold rho2
      rw [hM.fresh i hi]
      simp only [Option.isSome_none, Bool.false_eq_true, if_false]
      split
      · exact hf i (by omega)
      · rfl
    · simp only [Rec.put] at hi
      rw [look_putW] at hi
      cases hw : lookW wr i with
      | some ob =>
        rw [hw] at hi
        simp only at hi
        subst hi
        have := c2 _ (lookW_mem hw)
        simp only [Bool.and_eq_true] at this
        obtain ⟨r', c', cs, sp, g1, g2, g3, -⟩ := hm.blk i b (by simp only [Rec.put]; rw [look_putW, hw])
        exact ⟨at' i this.1, cs, by rw [denL_inb at' this.2.2]; exact g3⟩
      | none =>
        rw [hw] at hi
        simp only at hi
        obtain ⟨r', c', cs, sp, g1, g2, g3, -⟩ := hM.blk i b hi
        exact ⟨by simp [rho2, g1, he _ _ g1], cs, denL_mono rho2_ext g3⟩
    · unfold rho2
      rw [h1]
      simp only [Option.isSome_none, Bool.false_eq_true, if_false]
      simp only at h2
      split
      · exact hf j (by omega)
      · rfl
  unfold recCall at h
  split at h
  · rename_i q hq
    simp only [Option.some.injEq] at h
    subst h
    split at hq
    rotate_left
    · simp at hq
    rename_i ls vc hx
    simp only [Option.bind_eq_some_iff] at hq
    obtain ⟨v, hmv, hq⟩ := hq
    have hM0 : M σ ρ (· < w.heap.size) (if V.plainL g.2 then [] else roH Hr) kc w := by
      split
      · exact ⟨fun r hr => hr, hk, fun i b hi => by simp [look] at hi, fun i j r c d hi => by simp [look] at hi⟩
      · exact hMr.ro hk
    split at hq
    · rename_i hpv
      simp only [Option.some.injEq, Prod.mk.injEq] at hq
      obtain ⟨rfl, rfl⟩ := hq
      refine (hc _ _ _ _ hx hv (· < w.heap.size) ρ w xs hdx hpc hM0).mono ?_
      rintro e w' ⟨lf, hlf, y, ρ', rfl, k2, k3, k4, k5, k6, k7⟩
      rw [← mergeLs_ok (ρ := ρ') hmv lf hlf k5] at k2
      exact ⟨y, ρ, rfl, Ext.refl _, den_plain hpv k2, hM.below k7, k7.mono hM.size, fun j h1 _ => h1⟩
    · split at hq
      rotate_left
      · simp at hq
      rename_i x
      simp only [Option.map_eq_some_iff] at hq
      obtain ⟨r', hr', hq⟩ := hq
      simp only [Prod.mk.injEq] at hq
      obtain ⟨rfl, rfl⟩ := hq
      refine (hc _ _ _ _ hx hv (· < w.heap.size) ρ w xs hdx hpc hM0).mono ?_
      rintro e w' ⟨lf, hlf, y, ρ', rfl, k2, k3, k4, k5, k6, k7⟩
      simp only [List.mem_singleton] at hlf
      subst hlf
      obtain ⟨ρ2, g1, g2, g3, g4, g5⟩ := fin _ _ ρ' (· < w.heap.size) w' y hr' k3 k2 (fun i hi => k6.fresh i hi) (k7.mono hM.size) (by
        have hre : r' = ⟨lf.1, (lf.2.H.filter fun e => Nat.ble kc e.1).map fun e => (e.1, some e.2), lf.2.nx⟩ := by
          unfold callR at hr'; split at hr' <;> simp at hr'; exact hr'.symm
        have hnr : ∀ e ∈ (lf.2.H.filter fun e => Nat.ble kc e.1).map (fun e : Nat × Blk => (e.1, some e.2)), inP kc Hr e.1 = true ∧ ∀ b, e.2 = some b → b.ro = false := by
          unfold callR at hr'
          split at hr'
          rotate_left
          · simp at hr'
          rename_i hcc
          simp only [Bool.and_eq_true, List.all_eq_true] at hcc
          intro e he
          have := hcc.1.2 e he
          refine ⟨this.1, fun b hb => ?_⟩
          have h2 := this.2
          rw [hb] at h2
          simp only [Bool.and_eq_true, Bool.not_eq_true'] at h2
          exact h2.1
        have hm := hM.below k7
        have lk : ∀ i, look (r'.put H) i = if kc ≤ i ∧ (look lf.2.H i).isSome then look lf.2.H i else look H i := fun i => by
          rw [hre]
          simp only [Rec.put]
          rw [look_putW, lookW_map (fun i => Nat.ble kc i)]
          by_cases h1 : kc ≤ i
          · have : Nat.ble kc i = true := by simpa using h1
            simp only [this, if_true]
            cases h2 : look lf.2.H i <;> simp [h1]
          · have : Nat.ble kc i = false := by rw [Bool.eq_false_iff]; simpa using h1
            simp [this, h1]
        have new : ∀ i b, kc ≤ i → look lf.2.H i = some b → b.ro = false := fun i b h1 h2 => by
          have hw : lookW ((lf.2.H.filter fun e => Nat.ble kc e.1).map fun e => (e.1, some e.2)) i = some (some b) := by
            rw [lookW_map (fun i => Nat.ble kc i)]
            have : Nat.ble kc i = true := by simpa using h1
            simp [this, h2]
          exact (hnr _ (lookW_mem hw)).2 b rfl
        refine ⟨hm.size, fun i hi => k6.fresh i (by omega), fun i b hi => ?_, fun i j r c d hi hj hri hrj => ?_⟩
        · rw [lk] at hi
          split at hi
          · rename_i hcnd
            obtain ⟨r, c, cs, sp, g1, g2, g3, g4⟩ := k6.blk i b hi
            exact ⟨r, c, cs, sp, g1, fun hro hb => g2 hro (hM.size r hb), g3, g4⟩
          · obtain ⟨r, c, cs, sp, g1, g2, g3, g4⟩ := hm.blk i b hi
            exact ⟨r, c, cs, sp, k3 _ _ g1, g2, denL_mono k3 g3, g4⟩
        · have key : ∀ i r c, (look (r'.put H) i).isSome = true → ρ' i = some (r, c) → ((look lf.2.H i).isSome = true ∧ w.heap.size ≤ r) ∨ ((look H i).isSome = true ∧ ρ i = some (r, c) ∧ r < w.heap.size) := by
            intro i r c hi hr
            rw [lk] at hi
            split at hi
            · rename_i hcnd
              rw [Option.isSome_iff_exists] at hi
              obtain ⟨b, hb⟩ := hi
              obtain ⟨r1, c1, cs, sp, g1, g2, -⟩ := k6.blk i b hb
              rw [hr] at g1
              simp at g1
              have := g2 (new i b hcnd.1 hb)
              exact .inl ⟨by simp [hb], by omega⟩
            · rw [Option.isSome_iff_exists] at hi
              obtain ⟨b, hb⟩ := hi
              obtain ⟨r1, c1, cs, sp, g1, g2, g3, g4, -⟩ := hM.blk i b hb
              have := k3 _ _ g1
              rw [hr] at this
              simp only [Option.some.injEq] at this
              rw [← this] at g1
              exact .inr ⟨by simp [hb], g1, hM.lt hb g1⟩
          rcases key i r c hi hri with ⟨h1, h2⟩ | ⟨h1, h2, h3⟩ <;> rcases key j r d hj hrj with ⟨g1, g2⟩ | ⟨g1, g2, g3⟩
          · exact k6.inj i j r c d h1 g1 hri hrj
          · omega
          · omega
          · exact hM.inj i j r c d h1 g1 h2 g2) (fun _ _ _ _ => trivial)
      exact ⟨y, ρ2, rfl, g1, g2, g3, g4, g5⟩
  · split at h
    rotate_left
    · simp at h
    rename_i x vc hx
    simp only [Option.map_eq_some_iff] at h
    obtain ⟨r', hr', hq⟩ := h
    simp only [Prod.mk.injEq] at hq
    obtain ⟨rfl, rfl⟩ := hq
    have hMS : M σ ρ (fun r => base r ∨ ∃ i b c, look H i = some b ∧ look Hr i = none ∧ ρ i = some (r, c)) Hr kc w := by
      refine ⟨fun r hr => ?_, hk, fun i b hi => ?_, hMr.inj⟩
      · rcases hr with hr | ⟨i, b, c, h1, -, h3⟩
        · exact hM.size r hr
        · exact hM.lt h1 h3
      · obtain ⟨r, c, cs, sp, g1, g2, g3⟩ := hMr.blk i b hi
        refine ⟨r, c, cs, sp, g1, fun hro hb => ?_, g3⟩
        rcases hb with hb | ⟨j, b', c', h1, h2, h3⟩
        · exact g2 hro hb
        · have := hM.inj i j r c c' (by simp [hH _ _ hi]) (by simp [h1]) g1 h3
          subst this
          rw [hi] at h2; simp at h2
    refine (hc _ _ _ _ hx hv _ ρ w xs hdx hpc hMS).mono ?_
    rintro e w' ⟨lf, hlf, y, ρ', rfl, k2, k3, k4, k5, k6, k7⟩
    simp only [List.mem_singleton] at hlf
    subst hlf
    have hre : r' = ⟨lf.1, diffH Hr lf.2.H, lf.2.nx⟩ := by
      unfold callR at hr'; split at hr' <;> simp at hr'; exact hr'.symm
    have hnr : ∀ i b, lookW (diffH Hr lf.2.H) i = some (some b) → b.ro = false := by
      unfold callR at hr'
      split at hr'
      rotate_left
      · simp at hr'
      rename_i hcc
      simp only [Bool.and_eq_true, List.all_eq_true] at hcc
      intro i b hb
      have := (hcc.1.2 _ (lookW_mem hb)).2
      simp only [Bool.and_eq_true, Bool.not_eq_true'] at this
      exact this.1
    have src : ∀ i b, look (r'.put H) i = some b → (lookW (diffH Hr lf.2.H) i = some (some b) ∧ look lf.2.H i = some b) ∨ (look H i = some b ∧ look Hr i = none ∧ look lf.2.H i = none) ∨ (look H i = some b ∧ look Hr i = some b ∧ look lf.2.H i = some b) := by
      intro i b hb
      rw [hre] at hb
      simp only [Rec.put] at hb
      rw [look_putW] at hb
      have hd : lookW (diffH Hr lf.2.H) i = match (if chg Hr lf.2.H i = true then (look lf.2.H i).map some else none) with
          | some ob => some ob | none => if (look lf.2.H i).isSome = false ∧ (look Hr i).isSome then some none else none := by
        unfold diffH
        rw [lookW_app, lookW_map (fun i => chg Hr lf.2.H i), lookW_gone (fun i => (look lf.2.H i).isSome)]
      cases hw : lookW (diffH Hr lf.2.H) i with
      | some ob =>
        rw [hw] at hb
        simp only at hb
        subst hb
        refine .inl ⟨rfl, ?_⟩
        rw [hw] at hd
        unfold chg at hd
        cases h1 : look Hr i <;> cases h2 : look lf.2.H i <;> rw [h1, h2] at hd <;> simp at hd
        · rw [hd]
        · rename_i b1 b2
          cases h3 : b1.eqb b2 <;> rw [h3] at hd <;> simp at hd
          rw [hd]
      | none =>
        rw [hw] at hb
        simp only at hb
        rw [hw] at hd
        unfold chg at hd
        cases h1 : look Hr i with
        | none =>
          refine .inr (.inl ⟨hb, rfl, ?_⟩)
          cases h2 : look lf.2.H i with
          | none => rfl
          | some b2 => rw [h1, h2] at hd; simp at hd
        | some b1 =>
          have : b1 = b := by have := hH _ _ h1; rw [hb] at this; simpa using this.symm
          subst this
          refine .inr (.inr ⟨hb, rfl, ?_⟩)
          cases h2 : look lf.2.H i with
          | none => rw [h1, h2] at hd; simp at hd
          | some b2 =>
            rw [h1, h2] at hd
            cases h3 : b1.eqb b2 <;> simp [h3] at hd
            rw [blkEq h3]
    obtain ⟨ρ2, g1, g2, g3, g4, g5⟩ := fin _ _ ρ' base w' y hr' k3 k2 (fun i hi => k6.fresh i hi) (k7.mono fun r hr => .inl hr) (by
      refine ⟨fun r hr => Nat.lt_of_lt_of_le (hM.size r hr) k7.size, fun i hi => k6.fresh i (by omega), fun i b hi => ?_, fun i j r c d hi hj hri hrj => ?_⟩
      · rcases src i b hi with ⟨-, h1⟩ | ⟨h1, h2, -⟩ | ⟨-, -, h1⟩
        · obtain ⟨r, c, cs, sp, g1, g2, g3⟩ := k6.blk i b h1
          exact ⟨r, c, cs, sp, g1, fun hro hb => g2 hro (.inl hb), g3⟩
        · obtain ⟨r, c, cs, sp, g1, g2, g3, g4, g5⟩ := hM.blk i b h1
          exact ⟨r, c, cs, sp, k3 _ _ g1, g2, denL_mono k3 g3, by rw [k7.block r (.inr ⟨i, b, c, h1, h2, g1⟩)]; exact g4, g5⟩
        · obtain ⟨r, c, cs, sp, g1, g2, g3⟩ := k6.blk i b h1
          exact ⟨r, c, cs, sp, g1, fun hro hb => g2 hro (.inl hb), g3⟩
      · rw [Option.isSome_iff_exists] at hi hj
        obtain ⟨b, hb⟩ := hi
        obtain ⟨b', hb'⟩ := hj
        have key : ∀ i b r c, look (r'.put H) i = some b → ρ' i = some (r, c) → ((look lf.2.H i).isSome = true ∧ (b.ro = false ∨ ((look H i).isSome = true ∧ ρ i = some (r, c)))) ∨ ((look H i).isSome = true ∧ look Hr i = none ∧ ρ i = some (r, c)) := by
          intro i b r c hi hr
          rcases src i b hi with ⟨h1, h2⟩ | ⟨h1, h2, -⟩ | ⟨h1, h2, h3⟩
          · exact .inl ⟨by simp [h2], .inl (hnr i b h1)⟩
          · obtain ⟨r1, c1, cs, sp, g1, -⟩ := hM.blk i b h1
            have := k3 _ _ g1
            rw [hr] at this
            simp only [Option.some.injEq] at this
            rw [← this] at g1
            exact .inr ⟨by simp [h1], h2, g1⟩
          · obtain ⟨r1, c1, cs, sp, g1, -⟩ := hM.blk i b h1
            have := k3 _ _ g1
            rw [hr] at this
            simp only [Option.some.injEq] at this
            rw [← this] at g1
            exact .inl ⟨by simp [h3], .inr ⟨by simp [h1], g1⟩⟩
        have mixed : ∀ i j b r c d, look (r'.put H) i = some b → ρ' i = some (r, c) → (look lf.2.H i).isSome = true → (b.ro = false ∨ ((look H i).isSome = true ∧ ρ i = some (r, c))) → (look H j).isSome = true → look Hr j = none → ρ j = some (r, d) → i = j := by
          intro i j b r c d hi hri h1 h2 h3 h4 h5
          rcases h2 with h2 | ⟨h2, h6⟩
          · exfalso
            rw [Option.isSome_iff_exists] at h1 h3
            obtain ⟨b1, hb1⟩ := h1
            obtain ⟨b3, hb3⟩ := h3
            obtain ⟨r1, c1, cs, sp, g1, g2, -⟩ := k6.blk i b1 hb1
            rw [hri] at g1
            simp only [Option.some.injEq, Prod.mk.injEq] at g1
            obtain ⟨rfl, rfl⟩ := g1
            have hbb : b1 = b := by
              rcases src i b hi with ⟨-, k⟩ | ⟨-, -, k⟩ | ⟨-, -, k⟩
              · rw [hb1] at k; simpa using k
              · rw [hb1] at k; simp at k
              · rw [hb1] at k; simpa using k
            subst hbb
            exact g2 h2 (.inr ⟨j, b3, d, hb3, h4, h5⟩)
          · exact hM.inj i j r c d h2 h3 h6 h5
        rcases key i b r c hb hri with ⟨h1, h2⟩ | ⟨h1, h2, h3⟩ <;> rcases key j b' r d hb' hrj with ⟨g1, g2⟩ | ⟨g1, g2, g3⟩
        · exact k6.inj i j r c d h1 g1 hri hrj
        · exact mixed i j b r c d hb hri h1 h2 g1 g2 g3
        · exact (mixed j i b' r d c hb' hrj g1 g2 h1 h2 h3).symm
        · exact hM.inj i j r c d h1 g1 h3 g3) (fun _ _ _ _ => trivial)
    exact ⟨y, ρ2, rfl, g1, g2, g3, g4, g5⟩
theorem readRow_mono {Hr : Hp} (hH : ∀ i b, look Hr i = some b → look H i = some b) {id off n : Nat} {l : List V} (h : readRow Hr id off n = some l) : readRow H id off n = some l := by
  unfold readRow at h ⊢
  simp only [Option.bind_eq_some_iff] at h ⊢
  obtain ⟨b, hb, h⟩ := h
  exact ⟨b, lookC_mono hH _ _ hb, h⟩
theorem srcV_mono {Hr : Hp} (hH : ∀ i b, look Hr i = some b → look H i = some b) {t u : TypeId} {z : Nat} {x : V} {r : List V × Nat} (h : srcV P t u z Hr x = some r) : srcV P t u z H x = some r := by
  unfold srcV at h ⊢
  split at h
  · exact h
  · split at h
    · rename_i ht
      rw [if_pos ht]
      split at h
      · rename_i hm0
        rw [if_pos hm0]; exact h
      rename_i hm0
      rw [if_neg hm0]
      simp only [Option.map_eq_some_iff] at h ⊢
      obtain ⟨l, hl, h⟩ := h
      exact ⟨l, readRow_mono hH hl, h⟩
    · simp at h
  · exact h
  · simp at h
theorem wrA_look {Hr H' : Hp} (hH : ∀ i b, look Hr i = some b → look H i = some b) (s : V) (k j : Nat) :
    look (putW (wrA Hr s k H') H) j = if j = k ∧ (look H' k).isSome = true then look H' k else match s with
      | .sl id _ _ _ => if j = id ∧ (look Hr id).isSome = true then look H' id else look H j
      | _ => look H j := by
  rw [look_putW]
  unfold wrA
  rw [lookW_app]
  have rest : (match (match (match s with
      | .sl id _ _ _ => match look Hr id, look H' id with
        | some b, some c => if b.eqb c then [] else [(id, some c)]
        | some _, none => [(id, none)]
        | none, _ => []
      | _ => [] : List (Nat × Option Blk)) with | l => lookW l j) with | some ob => ob | none => look H j) = (match s with
      | .sl id _ _ _ => if j = id ∧ (look Hr id).isSome = true then look H' id else look H j
      | _ => look H j) := by
    cases s
    case sl id o n c =>
      simp only
      cases h1 : look Hr id with
      | none => simp [lookW]
      | some b =>
        cases h2 : look H' id with
        | none =>
          simp only [lookW]
          by_cases e : j = id
          · subst e; simp
          · simp [e, Ne.symm e]
        | some c =>
          by_cases he : b.eqb c = true
          · have := blkEq he
            subst this
            simp only [he, if_true, lookW]
            by_cases e : j = id
            · subst e; simp [hH _ _ h1]
            · simp [e]
          · simp only [he, Bool.false_eq_true, if_false, lookW]
            by_cases e : j = id
            · subst e; simp
            · simp [e, Ne.symm e]
    all_goals simp [lookW]
  cases h : look H' k with
  | none =>
    simp only [lookW]
    rw [if_neg (by simp)]
    exact rest
  | some b =>
    simp only [lookW]
    by_cases e : k = j
    · subst e; simp
    · rw [if_neg e, if_neg (fun h => e h.1.symm)]
      exact rest
theorem appendV_mono {Hr : Hp} {k : Nat} (hH : ∀ i b, look Hr i = some b → look H i = some b) (hk : look H k = none) {t u : TypeId} {s x : V} {r : MR} (h : appendV P t u s x Hr k = some r) :
    ∃ H2, appendV P t u s x H k = some (r.1, H2, k + 1) ∧ ∀ j, look H2 j = look (putW (wrA Hr s k r.2.1) H) j := by
  have hkr : look Hr k = none := by
    cases e : look Hr k with
    | none => rfl
    | some b => rw [hH _ _ e] at hk; simp at hk
  unfold appendV at h
  split at h
  rotate_left
  · simp at h
  rename_i e hu
  simp only [Option.bind_eq_some_iff] at h
  obtain ⟨i, hi, zr, hzr, ⟨news, m⟩, hnews, h⟩ := h
  have hsrc := srcV_mono (P := P) hH hnews
  simp only at h
  unfold appendV
  simp only [hu, hi, hzr, hsrc, Option.bind_some]
  split at h
  · rename_i hm0
    rw [if_pos hm0]
    have same : ∀ (s' : V), (∀ j, look H j = look (putW (wrA Hr s' k Hr) H) j) := fun s' j => by
      rw [wrA_look hH, if_neg (by simp [hkr])]
      cases s'
      case sl id o n c =>
        simp only
        split
        · rename_i hc
          obtain ⟨rfl, h2⟩ := hc
          rw [Option.isSome_iff_exists] at h2
          obtain ⟨b, hb⟩ := h2
          rw [hb, hH _ _ hb]
        · rfl
      all_goals rfl
    split at h
    · simp at h; subst h; exact ⟨H, rfl, same _⟩
    · split at h <;> simp at h
      rename_i hnc
      subst h
      exact ⟨H, by rw [if_pos hnc], same _⟩
    · simp only [Option.bind_eq_some_iff] at h
      obtain ⟨b, hb, h⟩ := h
      split at h <;> simp at h
      rename_i hc
      subst h
      exact ⟨H, by simp only [lookC_mono hH _ _ hb, Option.bind_some]; rw [if_pos hc], same _⟩
    · simp at h
  · rename_i hm0
    rw [if_neg hm0]
    split at h
    · simp at h
    rename_i hcond
    rw [if_neg hcond]
    split at h
    · split at h <;> simp at h
      rename_i hb
      subst h
      refine ⟨_, by rw [if_pos hb], fun j => ?_⟩
      rw [wrA_look hH]
      simp only [look_cons]
      by_cases e1 : k = j
      · subst e1; simp
      · simp [e1, Ne.symm e1]
    · rename_i id n
      simp only [Option.bind_eq_some_iff] at h
      obtain ⟨b, hb, h⟩ := h
      split at h <;> simp at h
      rename_i hc
      subst h
      have hbC := lookC_mono hH _ _ hb
      have hb := (lookC_look hb).1
      have hki : k ≠ id := fun e1 => by subst e1; rw [hkr] at hb; simp at hb
      refine ⟨_, by simp only [hbC, Option.bind_some]; rw [if_pos hc], fun j => ?_⟩
      rw [wrA_look hH]
      simp only [look_cons, look_del]
      by_cases e1 : k = j
      · subst e1; simp
      · by_cases e2 : id = j
        · subst e2; simp [hb, hki, Ne.symm hki]
        · simp [e1, e2, Ne.symm e1, Ne.symm e2]
    · rename_i id off n c
      simp only [Option.bind_eq_some_iff] at h
      obtain ⟨b, hb, h⟩ := h
      have hbC := lookC_mono hH _ _ hb
      have hb := (lookC_look hb).1
      have hki : k ≠ id := fun e1 => by subst e1; rw [hkr] at hb; simp at hb
      simp only [hbC, Option.bind_some]
      split at h
      · rename_i hroom
        rw [if_pos hroom]
        split at h <;> simp at h
        rename_i hc
        subst h
        refine ⟨_, by rw [if_pos hc], fun j => ?_⟩
        rw [wrA_look hH]
        simp only [look_upd hb, look_upd (hH _ _ hb)]
        by_cases e2 : id = j
        · subst e2; simp [hb, hki, Ne.symm hki, hkr]
        · simp [e2, Ne.symm e2, hki, Ne.symm hki, hkr]
      · rename_i hroom
        rw [if_neg hroom]
        split at h <;> simp at h
        rename_i hc
        subst h
        refine ⟨_, by rw [if_pos hc], fun j => ?_⟩
        rw [wrA_look hH]
        simp only [look_cons]
        by_cases e1 : k = j
        · subst e1; simp
        · by_cases e2 : id = j
          · subst e2; simp [hb, hki, Ne.symm hki, hH _ _ hb]
          · simp [e1, e2, Ne.symm e1, Ne.symm e2]
    · simp at h
theorem updV_mono {Hr : Hp} (hH : ∀ i b, look Hr i = some b → look H i = some b) {t : TypeId} {id : Nat} {vk vx : V} {n : Nat} {q : MR} (h : updV P t (.mp id) vk vx Hr n = some q) :
    ∃ b b', lookM Hr id = some b ∧ q = (.undef, upd Hr id b', n) ∧ ∀ m, updV P t (.mp id) vk vx H m = some (.undef, upd H id b', m) := by
  unfold updV at h ⊢
  split at h
  · rename_i kt et id' hu he
    simp only [V.mp.injEq] at he
    subst he
    split at h
    · rename_i hkb
      simp only [Option.bind_eq_some_iff] at h
      obtain ⟨b, hb, h⟩ := h
      split at h
      · simp at h
      rename_i hro
      have hb2 := lookM_mono hH _ _ hb
      split at h
      · rename_i j v' hf
        simp only [Option.bind_eq_some_iff] at h
        obtain ⟨k', hk', h⟩ := h
        split at h <;> simp at h
        rename_i heq
        subst h
        exact ⟨b, _, hb, rfl, fun m => by simp [hu, hkb, hb2, hro, hf, hk', heq]⟩
      · rename_i hf
        simp at h
        subst h
        exact ⟨b, _, hb, rfl, fun m => by simp [hu, hkb, hb2, hro, hf]⟩
      · simp at h
    · simp at h
  · simp at h
theorem evm_map_at {t : TypeId} {m : Option Operand} {k : Nat} {Hr : Hp} {q : MR} (h : evm P F Hr k (.makeMap t m) = some q) : q = (.mp k, (k, ⟨0, 0, [], true, false⟩) :: Hr, k + 1) := by
  simp only [evm] at h
  split at h
  · simpa using h.symm
  · split at h <;> simp at h
    exact h.symm
theorem evm_makeMap_of (hM : M σ ρ base H nx w) {k nx' : Nat} (hk : ρ k = none) (hkn : k < nx') (hnn : nx ≤ nx') (hF : OpOk σ ρ F a) {t : TypeId} {m : Option Operand} {Hr : Hp} {q : MR} (h : evm P F Hr k (.makeMap t m) = some q) {o : Oper} (ho : o.op = .makeMap t m) :
    Res P σ ρ base a o w (.mp k, (k, ⟨0, 0, [], true, false⟩) :: H, nx') := by
  refine evm_makeMap hM hk hkn hnn ?_
  simp only [evm] at h
  split at h
  · unfold execOp
    simp [ho, Instr.makeMap]
  · rename_i q
    split at h
    · rename_i k e n hu hn
      simp only [Option.bind_eq_some_iff] at hn
      obtain ⟨v, hv, hn⟩ := hn
      obtain ⟨k, ek⟩ : ∃ k, a.eval q = .int k n := by
        unfold intLit at hn
        split at hn <;> simp at hn
        subst hn
        exact ⟨_, by simpa [T.i] using den_int (opv_den hF hv)⟩
      unfold execOp
      simp [ho, Instr.makeMap, ek, run_underlying hu, asInt, asIntOf]
    · simp at h
theorem recOp_ok {pc : List T} {nxT kc k : Nat} {o : Oper} {Hr : Hp} {r : Rec} {vs : Vcs}
    (h : recOp P pc kc k o.op F Hr = some (r, vs)) (hv : VOk σ vs) (hpc : ∀ t ∈ pc, t.b σ = true) (hF : OpOk σ ρ F a) (hH : ∀ i b, look Hr i = some b → look H i = some b) (hM : M σ ρ base H nxT w) (hk : ρ k = none) (hkn : k < nxT)
    (K : Act → World → Prop) (Q : Exit → Act → World → Prop) (hK : ∀ x ρ' w', Ext ρ ρ' → den σ ρ' r.v = some x → M σ ρ' base (r.put H) nxT w' → Kp base w w' → (∀ j, ρ j = none → j ≠ k → ρ' j = none) → K (a.put o.dst x) w') : o.wp P a w K Q := by
  have hMr : M σ ρ base Hr nxT w := hM.sub hH
  simp only [recOp, evpF_eq, opvF_eq, evmF_eq] at h
  split at h
  · rename_i q hq
    simp at h
    obtain ⟨rfl, rfl⟩ := h
    obtain ⟨x, hx, hd⟩ := evp_ok (P := P) (a := a) hq hpc (filt_ok hpc (hv.own hpc)) hF hMr
    unfold Oper.wp
    rw [hx]
    exact hK x ρ w (Ext.refl _) hd hM (Kp.refl _ _) (fun j h1 _ => h1)
  · have alloc : ∀ (v : V) (e : Nat × Blk) (hr : r = ⟨v, [(e.1, some e.2)], kc⟩) (hek : e.1 = k), Res P σ ρ base a o w (v, e :: H, nxT) → o.wp P a w K Q := by
      intro v e hr hek hres
      subst hr
      obtain ⟨nxt, x, ρ', w', k1, k2, k3, k4, k5, k6, k7⟩ := hres.ex
      unfold Oper.wp
      rw [k1]
      have k7' : e.1 = k → ∀ j, ρ j = none → j ≠ k → ρ' j = none := fun hek j h1 h2 => k7 j h1 (by
        obtain ⟨e1, e2⟩ := e
        show look ((e1, e2) :: H) j = none
        rw [look_cons, if_neg (by intro h; exact h2 (by rw [← h]; exact hek))]
        exact hM.dom h1)
      rcases k2 with rfl | ⟨rfl, rfl⟩ <;> exact hK _ ρ' w' k3 k4 k5 k6 (k7' hek)
    split at h
    · rename_i t x y ho
      split at h
      · rename_i id off hx
        simp only [evm, hx, Option.bind_eq_some_iff, Option.map_eq_some_iff] at h
        obtain ⟨q, ⟨b, hb, v, hy, s, hs, h2⟩, b', hb', he⟩ := h
        split at h2 <;> simp at h2
        rename_i hcc
        simp at he
        obtain ⟨rfl, rfl⟩ := he
        have hbC := lookC_mono hH _ _ hb
        have hb := (lookC_look hb).1
        obtain ⟨nxt, z, ρ', w', k1, k2, k3, k4, k5, k6, k7⟩ := (evm_store (P := P) hM hF hx hbC hy hs hcc.1 hcc.2.1 hcc.2.2.1 hcc.2.2.2 ho).ex
        have hbb : b' = { b with cells := put1 b.cells off v.cells } := by
          rw [← h2, look_upd hb] at hb'
          simpa using hb'.symm
        have hll : ∀ j, look (upd H id { b with cells := put1 b.cells off v.cells }) j = look ((id, b') :: H) j := fun j => by
          rw [look_upd (hH _ _ hb), look_cons, hbb]
        unfold Oper.wp
        rw [k1]
        have fin := hK z ρ' w' k3 (by
          rcases k2 with rfl | ⟨rfl, rfl⟩
          · simp [den, denL] at k4 ⊢; exact k4
          · exact undef_den) (k5.sub fun j c hj => by rw [hll]; exact hj) k6 (fun j h1 h2 => k7 j h1 (by
          rw [look_upd (hH _ _ hb), if_neg (by intro e; subst e; have := hM.dom h1; rw [hH _ _ hb] at this; simp at this)]
          exact hM.dom h1))
        rcases k2 with rfl | ⟨rfl, rfl⟩ <;> exact fin
      · simp at h
    · rename_i t ho
      simp only [evm, Option.bind_eq_some_iff, Option.map_eq_some_iff] at h
      obtain ⟨q, ⟨z, hz, s, hs, hq⟩, e, he, hr⟩ := h
      simp only [Option.some.injEq] at hq
      subst hq
      simp at he hr
      subst he
      obtain ⟨rfl, rfl⟩ := hr
      exact alloc _ (_, _) rfl rfl (evm_alloc (P := P) hM hk hkn (Nat.le_refl _) hz ho)
    · rename_i t x ho
      simp only [evm, Option.bind_eq_some_iff, Option.map_eq_some_iff] at h
      obtain ⟨q, ⟨z, hz, s, hs, hq⟩, e, he, hr⟩ := h
      simp only [Option.some.injEq] at hq
      subst hq
      simp at he hr
      subst he
      obtain ⟨rfl, rfl⟩ := hr
      exact alloc _ (_, _) rfl rfl (evm_box (P := P) hM hk hkn (Nat.le_refl _) hF hz ho)
    · rename_i t n ps ho
      simp only [evm, Option.bind_eq_some_iff, Option.map_eq_some_iff] at h
      obtain ⟨q, h2, e, he, hr⟩ := h
      split at h2
      · rename_i el hu
        simp only [Option.bind_eq_some_iff] at h2
        obtain ⟨s, hs, pv, hps, h2⟩ := h2
        split at h2
        · simp at h2
        rename_i hle
        simp only [Option.bind_eq_some_iff] at h2
        obtain ⟨z, hz, h2⟩ := h2
        split at h2
        · rename_i hzl
          simp only [Option.bind_eq_some_iff, Option.some.injEq] at h2
          obtain ⟨l, hl, rfl⟩ := h2
          simp at he hr
          subst he
          obtain ⟨rfl, rfl⟩ := hr
          exact alloc _ (_, _) rfl rfl (evm_buildSlice (P := P) hM hk hkn (Nat.le_refl _) hF hu hs hps hle hz hzl hl ho)
        · simp at h2
      · simp at h2
    · rename_i t m ho
      simp only [Option.bind_eq_some_iff, Option.map_eq_some_iff] at h
      obtain ⟨q, h2, e, he, hr⟩ := h
      have hq := evm_map_at h2
      subst hq
      simp at he hr
      subst he
      obtain ⟨rfl, rfl⟩ := hr
      exact alloc _ (_, _) rfl rfl (evm_makeMap_of (P := P) hM hk hkn (Nat.le_refl _) hF h2 ho)
    · rename_i t x y ho
      simp only [evm, Option.bind_eq_some_iff, Option.map_eq_some_iff] at h
      obtain ⟨q, h2, e, he, hr⟩ := h
      split at h2
      · rename_i el ln cp hu hx hy
        simp only [Option.bind_eq_some_iff] at h2 hx hy
        obtain ⟨i, hi, z, hz, h2⟩ := h2
        split at h2 <;> simp at h2
        rename_i hc
        subst h2
        obtain ⟨u, hu1, hu2⟩ := hx
        obtain ⟨v, hv1, hv2⟩ := hy
        simp at he hr
        subst he
        obtain ⟨rfl, rfl⟩ := hr
        exact alloc _ (_, _) rfl rfl (evm_make (P := P) hM hk hkn (Nat.le_refl _) hF hu hu1 hu2 hv1 hv2 hi hz hc.1 hc.2.1 hc.2.2.1 hc.2.2.2.1 hc.2.2.2.2 ho)
      · simp at h2
    · rename_i t m i x ho
      split at h
      · rename_i id hx
        simp only [evm, hx, Option.bind_eq_some_iff, Option.map_eq_some_iff, Option.some.injEq] at h
        obtain ⟨q, ⟨vm, rfl, vk, hk', vx, hx', h2⟩, b', hb', he⟩ := h
        simp at he
        obtain ⟨rfl, rfl⟩ := he
        obtain ⟨b, b2, hb, hq, hall⟩ := updV_mono hH h2
        subst hq
        have hbl := (lookM_look hb).1
        have hbb : b' = b2 := by
          rw [look_upd hbl] at hb'
          simpa using hb'.symm
        subst hbb
        obtain ⟨nxt, z, ρ', w', k1, k2, k3, k4, k5, k6, k7⟩ := (evm_mapUpdate (P := P) hM hF hx hk' hx' (hall nxT) ho).ex
        have hll : ∀ j, look (upd H id b') j = look ((id, b') :: H) j := fun j => by
          rw [look_upd (hH _ _ hbl), look_cons]
        unfold Oper.wp
        rw [k1]
        have fin := hK z ρ' w' k3 (by
          rcases k2 with rfl | ⟨rfl, rfl⟩
          · simp [den, denL] at k4 ⊢; exact k4
          · exact undef_den) (k5.sub fun j c hj => by rw [hll]; exact hj) k6 (fun j h1 h2 => k7 j h1 (by
          rw [look_upd (hH _ _ hbl), if_neg (by intro e; subst e; have := hM.dom h1; rw [hH _ _ hbl] at this; simp at this)]
          exact hM.dom h1))
        rcases k2 with rfl | ⟨rfl, rfl⟩ <;> exact fin
      · simp at h
    · rename_i args ats ho
      split at h
      · rename_i s x t u he1 he2
        simp only [Option.bind_eq_some_iff] at h
        obtain ⟨va, hva, vb, hvb, h⟩ := h
        split at h
        · simp at h
        simp only [Option.map_eq_some_iff] at h
        obtain ⟨q, hq, hr⟩ := h
        simp only [Prod.mk.injEq] at hr
        obtain ⟨rfl, rfl⟩ := hr
        obtain ⟨H2, h2, hll⟩ := appendV_mono (P := P) hH (hM.dom hk) hq
        have e1 : args = #[s, x] := by apply Array.ext'; simpa using he1
        have e2 : ats = #[t, u] := by apply Array.ext'; simpa using he2
        subst e1; subst e2
        obtain ⟨nxt, z, ρ', w', k1, k2, k3, k4, k5, k6, k7⟩ := (evm_append (P := P) hM hk hkn (Nat.le_refl _) hF hva hvb h2 ho).ex
        simp only at k4 k5 k7
        unfold Oper.wp
        rw [k1]
        have fin := hK z ρ' w' k3 k4 (k5.sub fun j c hj => by rw [hll]; exact hj) k6 (fun j h1 h2 => k7 j h1 (by
          rw [hll, wrA_look hH, if_neg (fun h => h2 h.1)]
          split
          · rename_i id o n c
            split
            · rename_i hc
              obtain ⟨rfl, h3⟩ := hc
              rw [Option.isSome_iff_exists] at h3
              obtain ⟨b, hb⟩ := h3
              have := hM.dom h1
              rw [hH _ _ hb] at this; simp at this
            · exact hM.dom h1
          · exact hM.dom h1))
        rcases k2 with rfl | ⟨rfl, rfl⟩ <;> exact fin
      · simp at h
    · simp at h
theorem isC_of {o : Oper} {g : FuncId × List V} (h : isCall funs F o.op = some g) : isC o.op = true := by
  generalize o.op = op at h
  cases op <;> try (simp [isCall, isCallC] at h; done)
  rename_i c
  have h : calleeOf funs F c = some g := h
  obtain ⟨callee, args, ats⟩ := c
  cases callee
  · rfl
  all_goals simp [calleeOf] at h
theorem recD_ok (hfs : FunsOk P funs) {call : FuncId → List V → St → Option COut} (hc : CallOk P σ call) {ops : Array Oper} {pc : List T} {nxT kc k : Nat} {o : Oper} {Hr : Hp} {r : Rec} {vs : Vcs}
    (h : recD P funs call ops pc kc k o F Hr = some (r, vs)) (hv : VOk σ vs) (hpc : ∀ t ∈ pc, t.b σ = true) (hF : OpOk σ ρ F a) (hH : ∀ i b, look Hr i = some b → look H i = some b) (hM : M σ ρ base H nxT w) (hk : ρ k = none) (hkn : k < nxT)
    (hkc : isC o.op = true → ∀ j, kc ≤ j → ρ j = none) (hkcn : r.e ≤ nxT) :
    if Region.wanted o (yielded ops a.tmps) then
      ∀ (K : Act → World → Prop) Q, (∀ x ρ' w', Ext ρ ρ' → den σ ρ' r.v = some x → M σ ρ' base (r.put H) nxT w' → Kp base w w' → (∀ j, ρ j = none → j ≠ k → ¬ (isC o.op = true ∧ kc ≤ j ∧ j < r.e) → ρ' j = none) → K (a.put o.dst x) w') → o.wp P a w K Q
    else r.v = .undef ∧ r.wr = [] := by
  have go : (match isCall funs F o.op with
    | some g => recCall call pc kc g Hr
    | none => recOp P pc kc k o.op F Hr) = some (r, vs) →
      ∀ (K : Act → World → Prop) Q, (∀ x ρ' w', Ext ρ ρ' → den σ ρ' r.v = some x → M σ ρ' base (r.put H) nxT w' → Kp base w w' → (∀ j, ρ j = none → j ≠ k → ¬ (isC o.op = true ∧ kc ≤ j ∧ j < r.e) → ρ' j = none) → K (a.put o.dst x) w') → o.wp P a w K Q := by
    intro h K Q hK
    split at h
    · rename_i g hg
      have hic := isC_of hg
      obtain ⟨xs, hxs, hdx⟩ := exec_call (w := w) hfs hF hg
      unfold Oper.wp
      rw [hxs]
      simp only [Oper.upon]
      refine (recCall_ok hfs hc h hv hpc hdx hH hM (hkc hic) hkcn).mono ?_
      rintro e w' ⟨x, ρ', rfl, k1, k2, k3, k4, k5⟩
      exact hK x ρ' w' k1 k2 k3 k4 (fun j h1 _ h3 => k5 j h1 (fun h => h3 ⟨hic, h⟩))
    · exact recOp_ok h hv hpc hF hH hM hk hkn K Q (fun x ρ' w' h1 h2 h3 h4 h5 => hK x ρ' w' h1 h2 h3 h4 (fun j g1 g2 _ => h5 j g1 g2))
  unfold recD at h
  simp only [opvF_eq] at h
  split at h
  · rename_i hg
    rw [if_pos (by simp [Region.wanted, hg])]
    exact go h
  · rename_i j want hg
    split at h
    · rename_i t ht
      have hw := wanted_boolO hF hg ht
      split at h
      · rename_i b hb
        have hbb := decG_b hpc hb
        split at h
        · rename_i hbw
          rw [if_pos (by rw [hw, hbb, hbw]; simp)]
          exact go h
        · rename_i hbw
          rw [if_neg (by rw [hw, hbb]; simpa using hbw)]
          simp at h
          exact ⟨by rw [← h.1], by rw [← h.1]⟩
      · simp at h
    · rename_i ht
      rw [if_neg (by rw [wanted_undefO hF hg ht]; simp)]
      simp at h
      exact ⟨by rw [← h.1], by rw [← h.1]⟩
    · simp at h
end
end Go.Proofs.Ytehbfajmileefaa.Vx
