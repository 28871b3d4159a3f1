import Derived.Test.YtehbfajmileefaaVn
namespace Go.Proofs.Ytehbfajmileefaa.Vx
open Go.RowKit
set_option linter.unusedVariables false
set_option linter.unusedSimpArgs false
section
variable {P : Program} {σ : Env} {ρ : Rho} {w : World} {base : Nat → Prop} {nx : Nat} {H : Hp} {F : Fr} {a : Act} {funs : List (FuncId × Func)}
theorem denL_of : ∀ {l : List V} {xs : List Value}, l.length = xs.length → (∀ (t : Nat) v x, l[t]? = some v → xs[t]? = some x → den σ ρ v = some x) → denL σ ρ l = some xs
  | [], [], _, _ => denL_nil
  | [], x :: xs, h, _ => by simp at h
  | v :: l, [], h, _ => by simp at h
  | v :: l, x :: xs, h, hp => denL_cons.2 ⟨x, xs, hp 0 v x rfl rfl, denL_of (by simpa using h) (fun t v x h1 h2 => hp (t + 1) v x (by simpa using h1) (by simpa using h2)), rfl⟩
def cntF : List Bool → Nat
  | [] => 0
  | true :: l => cntF l
  | false :: l => cntF l + 1
theorem cntF_set : ∀ (l : List Bool) (i : Nat), l[i]? = some false → cntF (l.set i true) + 1 = cntF l
  | [], i, h => by simp at h
  | b :: l, 0, h => by simp at h; subst h; simp [cntF]
  | b :: l, i + 1, h => by
    simp at h
    have := cntF_set l i (by simpa using h)
    cases b <;> simp [cntF] <;> omega
theorem cntF_zero : ∀ (l : List Bool) (i : Nat), cntF l = 0 → l[i]? ≠ some false
  | [], i, _ => by simp
  | true :: l, 0, h => by simp
  | false :: l, 0, h => by simp [cntF] at h
  | true :: l, i + 1, h => by simpa using cntF_zero l i (by simpa [cntF] using h)
  | false :: l, i + 1, h => by simp [cntF] at h
theorem cntF_rep (n : Nat) : cntF (List.replicate n false) = n := by
  induction n with
  | zero => rfl
  | succ n ih => simp [List.replicate_succ, cntF, ih]
def Dn (listed : Array Bool) (i : Nat) : Prop := listed[i]? = some true
structure DInv (σ : Env) (ρ0 : Rho) (base : Nat → Prop) (st : St) (L : List Oper) (rs : List Rec) (a0 : Act) (w0 : World) (listed : Array Bool) (ρD : Rho) (HD : Hp) (a : Act) (w : World) : Prop where
  ls : listed.size = L.length
  down : ∀ i o, Dn listed i → L[i]? = some o → ∀ e ∈ o.after.toList, Region.binds .any e = true → Dn listed e.on
  ts : a.tmps.size = st.F.n
  tn : ∀ (i : Nat) (o : Oper) (r : Rec) (t : Nat) (x : Value), Dn listed i → L[i]? = some o → rs[i]? = some r → o.dst = some t → a.tmps[t]? = some x → den σ ρD r.v = some x
  to : ∀ (t : Nat) (x : Value), a.tmps[t]? = some x → (∀ i o, Dn listed i → L[i]? = some o → o.dst ≠ some t) → ∃ v, st.F.get t = some v ∧ den σ ρD v = some x
  hn : ∀ (i : Nat) (r : Rec) (id : Nat) (b : Option Blk), Dn listed i → rs[i]? = some r → lookW r.wr id = some b → (∀ j r', Dn listed j → rs[j]? = some r' → id ∈ r'.wids → j ≤ i) → look HD id = b
  ho : ∀ id, (∀ i r, Dn listed i → rs[i]? = some r → id ∉ r.wids) → look HD id = look st.H id
  m : M σ ρD base HD (kcAt (st.nx + L.length) rs L.length) w
  fr : ∀ i, i < L.length → ¬ Dn listed i → ρD (st.nx + i) = none
  fc : ∀ i o, L[i]? = some o → ¬ Dn listed i → isC o.op = true → ∀ j, kcAt (st.nx + L.length) rs i ≤ j → ρD j = none
  ext : Ext ρ0 ρD
  bel : Kp base w0 w
  df : a.defers = a0.defers
theorem dn_set {listed : Array Bool} {i : Nat} (hi : i < listed.size) (j : Nat) : Dn (listed.setIfInBounds i true) j ↔ Dn listed j ∨ j = i := by
  unfold Dn
  rw [Array.getElem?_setIfInBounds]
  by_cases h : i = j
  · subst h; simp [hi]
  · simp [h, Ne.symm h]
theorem ready_iff {ops : Array Oper} {listed : Array Bool} (hl : listed.size = ops.size) (i : Nat) : i ∈ Region.ready .any ops listed ↔ ∃ o, ops.toList[i]? = some o ∧ ¬ Dn listed i ∧ ∀ e ∈ o.after.toList, Region.binds .any e = true → Dn listed e.on := by
  unfold Region.ready
  simp only [List.mem_filter, List.mem_range, Bool.and_eq_true]
  constructor
  · rintro ⟨h1, h2, h3⟩
    have ho : ops[i]? = some ops[i] := by simp [h1]
    refine ⟨ops[i], by simp [h1], ?_, ?_⟩
    · unfold Dn
      simp [hl, h1] at h2 ⊢
      exact h2
    · intro e he hb
      rw [ho] at h3
      simp only [Option.map_some, Option.getD_some, Array.all_eq_true_iff_forall_mem] at h3
      have := h3 e (by simpa using he)
      rw [hb] at this
      simp at this
      unfold Dn
      cases h : listed[e.on]? with
      | none => rw [h] at this; simp at this
      | some b => rw [h] at this; simpa using this
  · rintro ⟨o, ho, hd, he⟩
    have hi : i < ops.size := by have := (List.getElem?_eq_some_iff.1 ho).1; simpa using this
    have ho' : ops[i]? = some o := by rw [← Array.getElem?_toList]; exact ho
    refine ⟨hi, ?_, ?_⟩
    · unfold Dn at hd
      simp [hl, hi] at hd ⊢
      exact hd
    · rw [ho']
      simp only [Option.map_some, Option.getD_some, Array.all_eq_true_iff_forall_mem]
      intro e hm
      by_cases hb : Region.binds .any e = true
      · have := he e (by simpa using hm) hb
        unfold Dn at this
        simp [hb, Array.getD_eq_getD_getElem?, this]
      · simp [hb]
section
variable {ops : Array Oper} {pre : List Nat}
theorem orL_bit {j : Nat} : ∀ (l : List Edge) (s : Nat), (orL pre l s).testBit j = true ↔ s.testBit j = true ∨ ∃ e ∈ l, Region.binds .any e = true ∧ (e.on = j ∨ bitB pre e.on j = true)
  | [], s => by simp [orL]
  | e :: l, s => by
    unfold orL
    split
    · rename_i hb
      rw [orL_bit l]
      simp only [Nat.testBit_or, Bool.or_eq_true, Nat.testBit_two_pow, List.mem_cons, exists_eq_or_imp, hb, true_and, decide_eq_true_eq]
      unfold bitB
      constructor
      · rintro (((h | h) | h) | h)
        · exact .inl h
        · exact .inr (.inl (.inl h))
        · exact .inr (.inl (.inr h))
        · exact .inr (.inr h)
      · rintro (h | (h | h) | h)
        · exact .inl (.inl (.inl h))
        · exact .inl (.inl (.inr h))
        · exact .inl (.inr h)
        · exact .inr h
    · rename_i hb
      rw [orL_bit l]
      simp only [List.mem_cons, exists_eq_or_imp, hb, false_and, false_or, Bool.false_eq_true]
theorem closed_at (hc : closedB ops.toList pre = true) {i : Nat} {o : Oper} (ho : ops.toList[i]? = some o) :
    (∀ e ∈ o.after.toList, Region.binds .any e = true → e.on < i) ∧ ∀ j, j < ops.size → bitB pre i j = true → ∃ e ∈ o.after.toList, Region.binds .any e = true ∧ (e.on = j ∨ bitB pre e.on j = true) := by
  unfold closedB at hc
  have := List.all_eq_true.1 hc (o, i) (by
    rw [List.mem_iff_getElem?]
    exact ⟨i, by simp [List.getElem?_zipIdx, ho]⟩)
  simp only [Bool.and_eq_true, List.all_eq_true] at this
  refine ⟨fun e he hb => ?_, fun j hj hb => ?_⟩
  · have h := this.1 e he
    rw [hb] at h
    have h' : e.on + 1 ≤ i := by simpa [Nat.blt] using h
    omega
  · have h := Nat.eq_of_beq_eq_true this.2
    unfold bitB at hb
    rw [h, orL_bit] at hb
    rcases hb with hb | hb
    · simp at hb
    · exact hb
theorem bit_lt (hc : closedB ops.toList pre = true) : ∀ (i j : Nat), i < ops.size → j < ops.size → bitB pre i j = true → j < i := by
  intro i
  induction i using Nat.strongRecOn with
  | _ i ih =>
    intro j hi hj hb
    have ho : ops.toList[i]? = some ops[i] := by simp [hi]
    obtain ⟨h1, h2⟩ := closed_at hc ho
    obtain ⟨e, he, heb, h3⟩ := h2 j hj hb
    have hlt := h1 e he heb
    rcases h3 with h3 | h3
    · omega
    · have := ih e.on hlt j (by omega) hj h3
      omega
theorem bit_dn (hc : closedB ops.toList pre = true) {listed : Array Bool} (hd : ∀ i o, Dn listed i → ops.toList[i]? = some o → ∀ e ∈ o.after.toList, Region.binds .any e = true → Dn listed e.on) :
    ∀ (i j : Nat), i < ops.size → j < ops.size → Dn listed i → bitB pre i j = true → Dn listed j := by
  intro i
  induction i using Nat.strongRecOn with
  | _ i ih =>
    intro j hi hj hdi hb
    have ho : ops.toList[i]? = some ops[i] := by simp [hi]
    obtain ⟨h1, h2⟩ := closed_at hc ho
    obtain ⟨e, he, heb, h3⟩ := h2 j hj hb
    have hlt := h1 e he heb
    have hde := hd i _ hdi ho e he heb
    rcases h3 with h3 | h3
    · rw [← h3]; exact hde
    · exact ih e.on hlt j (by omega) hj hde h3
theorem beq_f {i j : Nat} : Nat.beq i j = false ↔ i ≠ j := by rw [Bool.eq_false_iff]; simp
theorem mem_unord {n i j : Nat} (h : j < n ∧ i ≠ j ∧ bitB pre i j = false ∧ bitB pre j i = false) : j ∈ unord pre n i := by
  obtain ⟨h1, h2, h3, h4⟩ := h
  unfold unord
  simp only [List.mem_filter, List.mem_range, h1, true_and]
  split
  · simp [h3]
  · rename_i hlt
    have : i < j := by simp [Nat.blt] at hlt; omega
    have hb : Nat.blt i j = true := by simp [Nat.blt]; omega
    simp [hb, h4]
end
set_option maxHeartbeats 1000000 in
theorem runD_any (hfs : FunsOk P funs) {call : FuncId → List V → St → Option COut} (hc : CallOk P σ call) {ops : Array Oper} {st : St} {out : Out} (h : runD P funs call ops st = some out) (hv : VOk σ out.2)
    {Q : Exit → Act → World → Prop} (hh : Holds σ ρ base st a w) (hL : Leads σ base out.1 ρ a w Q) : wpAny P .any ops Q ops.size (Array.replicate ops.size false) a w := by
  unfold runD at h
  simp only at h
  split at h
  rotate_left
  · simp at h
  rename_i hcn
  simp only [Bool.and_eq_true] at hcn
  obtain ⟨⟨hcl, hnd⟩, hco⟩ := hcn
  simp only [Option.bind_eq_some_iff, Option.map_eq_some_iff] at h
  obtain ⟨wids, hw1, q, hq, rfl⟩ := h
  obtain ⟨hlen, hFf, hHf, hkf, hspec⟩ := goD_spec (σ := σ) hq
  generalize hpre : CheckFast.beforeL ops.toList 0 [] = pre at *
  have hn : ops.toList.length = ops.size := by simp
  have dst_at : ∀ (i : Nat) (o : Oper), ops.toList[i]? = some o → (ops.toList.map (·.dst)).getD i none = o.dst := fun i o ho => by simp [List.getD, ho]
  have uniq : ∀ (i j : Nat) (o o' : Oper) (t : Nat), ops.toList[i]? = some o → ops.toList[j]? = some o' → o.dst = some t → o'.dst = some t → i = j := fun i j o o' t h1 h2 h3 h4 =>
    nodupB_ok hnd i j t (by simp only [List.getElem?_map, h1, Option.map_some, h3]) (by simp only [List.getElem?_map, h2, Option.map_some, h4])
  have rec_at : ∀ (i : Nat), i < ops.size → ∃ r, q.1[i]? = some r ∧ r.wids = wids.getD i [] := fun i hi => by
    obtain ⟨r, vk, h1, -, -, h2, -⟩ := hspec i ops[i] (by simp [hi])
    exact ⟨r, h1, by simpa using h2⟩
  have idx : ∀ (i : Nat) (r : Rec), q.1[i]? = some r → i < ops.size ∧ r.wids = wids.getD i [] := fun i r hr => by
    have hi : i < ops.size := by have := (List.getElem?_eq_some_iff.1 hr).1; omega
    obtain ⟨r', h1, h2⟩ := rec_at i hi
    rw [hr] at h1
    simp at h1
    subst h1
    exact ⟨hi, h2⟩
  have oidx : ∀ (i : Nat) (o : Oper), ops.toList[i]? = some o → i < ops.size := fun i o ho => by have := (List.getElem?_eq_some_iff.1 ho).1; omega
  have kmono : ∀ i j, i ≤ j → j ≤ ops.toList.length → kcAt (st.nx + ops.size) q.1 i ≤ kcAt (st.nx + ops.size) q.1 j := by
    intro i j hij
    induction j with
    | zero => intro _; have : i = 0 := by omega
              subst this; exact Nat.le_refl _
    | succ j ih =>
      intro hj
      by_cases e : i = j + 1
      · subst e; exact Nat.le_refl _
      · have hjs : j < ops.size := by have := hj; simp at this; omega
        obtain ⟨r, vk, -, -, -, -, ⟨h1, h2⟩, -⟩ := hspec j (ops[j]'hjs) (by simp [hjs])
        rw [h2]
        exact Nat.le_trans (ih (by omega) (by omega)) h1
  have heap : ∀ (listed : Array Bool) (HD : Hp) (k : Nat) (js : List (List Nat)),
      (∀ i r id b, Dn listed i → q.1[i]? = some r → lookW r.wr id = some b → (∀ j r', Dn listed j → q.1[j]? = some r' → id ∈ r'.wids → j ≤ i) → look HD id = b) →
      (∀ id, (∀ i r, Dn listed i → q.1[i]? = some r → id ∉ r.wids) → look HD id = look st.H id) →
      (∀ i r id, q.1[i]? = some r → id ∈ r.wids → (∀ l ∈ js, id ∉ l) → (Dn listed i ↔ i < k)) →
      ∀ id b, look (delL (HT q.1 st.H k) js) id = some b → look HD id = some b := by
    intro listed HD k js g1 g2 g3 id b hb
    obtain ⟨hb1, hb2⟩ := delL_look _ _ _ _ hb
    rcases maxOf (fun i => Dn listed i ∧ ∃ r, q.1[i]? = some r ∧ id ∈ r.wids) ops.size with hno | ⟨i, hi, ⟨hdi, r, hr, hrw⟩, hmax⟩
    · rw [g2 id (fun i r hd hr hw => hno i (idx i r hr).1 ⟨hd, r, hr, hw⟩), ← hb1, HT_keep]
      intro i r hik hr hw
      exact hno i (idx i r hr).1 ⟨(g3 i r id hr hw hb2).2 hik, r, hr, hw⟩
    · obtain ⟨bb, hbb⟩ := lookW_some hrw
      rw [g1 i r id bb hdi hr hbb (fun j r' hd hr' hw => hmax j (idx j r' hr').1 ⟨hd, r', hr', hw⟩), ← hb1]
      exact (HT_new q.1 st.H k id i r bb ((g3 i r id hr hrw hb2).1 hdi) hr hbb (fun j r' hj hr' hw => hmax j (idx j r' hr').1 ⟨(g3 j r' id hr' hw hb2).2 hj, r', hr', hw⟩)).symm
  have main : ∀ (fuel : Nat) (listed : Array Bool) (a' : Act) (w' : World) (ρD : Rho) (HD : Hp), DInv σ ρ base st ops.toList q.1 a w listed ρD HD a' w' → cntF listed.toList ≤ fuel → wpAny P .any ops Q fuel listed a' w' := by
    intro fuel
    have fin : ∀ (listed : Array Bool) (a' : Act) (w' : World) (ρD : Rho) (HD : Hp), DInv σ ρ base st ops.toList q.1 a w listed ρD HD a' w' → Region.ready .any ops listed = [] → Q .normal a' w' := by
      intro listed a' w' ρD HD hI hr
      have hsz : listed.size = ops.size := hI.ls.trans hn
      have all : ∀ i, i < ops.size → Dn listed i := by
        intro i
        induction i using Nat.strongRecOn with
        | _ i ih =>
          intro hi
          apply Classical.byContradiction
          intro hnd'
          have ho : ops.toList[i]? = some ops[i] := by simp [hi]
          have : i ∈ Region.ready .any ops listed := (ready_iff hsz i).2 ⟨ops[i], ho, hnd', fun e he hb => by
            have := (closed_at hcl ho).1 e he hb
            exact ih e.on this (by omega)⟩
          rw [hr] at this
          simp at this
      refine hL (.nrm, _) (List.mem_singleton.2 rfl) ρD a' w' hI.ext ⟨?_, hh.pc, ?_⟩ hI.bel hI.df
      · show denL σ ρD q.2.2.1.list = _
        rw [hFf]
        refine denL_of (by rw [Fr.len_list, FT_len]; simp [hI.ts]) (fun t v x h1 h2 => ?_)
        rw [Fr.get_list] at h1
        have h2' : a'.tmps[t]? = some x := by rw [← Array.getElem?_toList]; exact h2
        by_cases hex : ∃ (i : Nat) (o : Oper), ops.toList[i]? = some o ∧ o.dst = some t
        · obtain ⟨i, o, ho, hd⟩ := hex
          have hi := oidx i o ho
          obtain ⟨r, hr', -⟩ := rec_at i hi
          have htl : t < st.F.n := by have := Fr.lt_of_get h1; rwa [FT_len] at this
          have := FT_new ops.toList q.1 st.F ops.toList.length t i o r hlen.symm (by omega) ho hr' hd htl (fun j o' hj hd' => uniq j i o' o t hj ho hd' hd)
          rw [this] at h1
          simp at h1
          subst h1
          exact hI.tn i o r t x (all i hi) ho hr' hd h2'
        · rw [FT_keep] at h1
          · obtain ⟨v', h3, h4⟩ := hI.to t x h2' (fun i o _ ho hd => hex ⟨i, o, ho, hd⟩)
            rw [h1] at h3
            simp at h3
            subst h3
            exact h4
          · intro i o _ ho hd
            exact hex ⟨i, o, ho, hd⟩
      · show M σ ρD base q.2.2.2.1 q.2.2.2.2 _
        rw [hHf, hkf]
        refine hI.m.sub fun id b hb => heap listed HD _ [] hI.hn hI.ho (fun i r id hr' _ _ => ?_) id b (by simpa [delL] using hb)
        have := (idx i r hr').1
        exact ⟨fun _ => by omega, fun _ => all i this⟩
    induction fuel with
    | zero =>
      intro listed a' w' ρD HD hI hcnt
      have hsz : listed.size = ops.size := hI.ls.trans hn
      have hr : Region.ready .any ops listed = [] := by
        rw [List.eq_nil_iff_forall_not_mem]
        intro i hi
        obtain ⟨o, ho, hnd', -⟩ := (ready_iff hsz i).1 hi
        have hil := oidx i o ho
        have : listed.toList[i]? = some false := by
          rw [Array.getElem?_toList]
          unfold Dn at hnd'
          rw [Array.getElem?_eq_getElem (by omega)] at hnd' ⊢
          cases hb : listed[i] <;> simp_all
        exact cntF_zero _ i (by omega) this
      exact ⟨hr, fin _ _ _ _ _ hI hr⟩
    | succ fuel ih =>
      intro listed a' w' ρD HD hI hcnt
      have hsz : listed.size = ops.size := hI.ls.trans hn
      refine ⟨fun hr => fin _ _ _ _ _ hI hr, fun i hi => ?_⟩
      obtain ⟨o, ho, hnd', hedges⟩ := (ready_iff hsz i).1 hi
      have hil := oidx i o ho
      obtain ⟨r, vk, hr, hrec, hvk, hwid, ⟨hkle, hksu⟩, hun⟩ := hspec i o ho
      simp only [Nat.zero_add] at hrec hwid hun
      have hDown := hI.down
      have ord : ∀ j, j < ops.size → j ≠ i → j ∉ unord pre ops.size i → (Dn listed j ↔ j < i) := by
        intro j hj hji hnu
        by_cases h1 : bitB pre i j = true
        · have hlt := bit_lt hcl i j hil hj h1
          refine ⟨fun _ => hlt, fun _ => ?_⟩
          obtain ⟨e, he, heb, h3⟩ := (closed_at hcl ho).2 j hj h1
          have hel := (closed_at hcl ho).1 e he heb
          rcases h3 with h3 | h3
          · rw [← h3]; exact hedges e he heb
          · exact bit_dn hcl hDown e.on j (by omega) hj (hedges e he heb) h3
        · by_cases h2 : bitB pre j i = true
          · have hlt := bit_lt hcl j i hj hil h2
            exact ⟨fun hd => absurd (bit_dn hcl hDown j i hj hil hd h2) hnd', fun h => by omega⟩
          · exact absurd (mem_unord ⟨hj, Ne.symm hji, by simpa using h1, by simpa using h2⟩) hnu
      have hOp : OpOk σ ρD (badF (FT ops.toList q.1 st.F i) ((unord pre ops.size i).map fun j => (ops.toList.map (·.dst)).getD j none)) a' := by
        intro x v hx
        cases x with
        | tmp t =>
          simp only [opv] at hx
          have hx' : (badF (FT ops.toList q.1 st.F i) ((unord pre ops.size i).map fun j => (ops.toList.map (·.dst)).getD j none)).get t = some v ∧ v ≠ .bad := by
            split at hx
            · simp at hx
            · rename_i hne
              exact ⟨hx, fun e => hne (by rw [hx, e])⟩
          rcases badF_get _ _ _ _ hx'.1 with hbad | ⟨h1, h2⟩
          · exact absurd hbad hx'.2
          have htl : t < st.F.n := by have := Fr.lt_of_get h1; rwa [FT_len] at this
          have htx : ∃ x, a'.tmps[t]? = some x := ⟨a'.tmps[t]'(by rw [hI.ts]; exact htl), by rw [Array.getElem?_eq_getElem]⟩
          obtain ⟨x, hxx⟩ := htx
          have hev : a'.eval (.tmp t) = x := by simp [Act.eval, Array.getD_eq_getD_getElem?, hxx]
          rw [hev]
          have nu : ∀ j o', ops.toList[j]? = some o' → o'.dst = some t → j ∉ unord pre ops.size i := fun j o' hj hd hm => h2 (List.mem_map.2 ⟨j, hm, by rw [dst_at j o' hj, hd]⟩)
          by_cases hex : ∃ (j : Nat) (o' : Oper), Dn listed j ∧ ops.toList[j]? = some o' ∧ o'.dst = some t
          · obtain ⟨j, o', hdj, hj, hd⟩ := hex
            have hji : j ≠ i := fun e => hnd' (e ▸ hdj)
            have hlt := (ord j (oidx j o' hj) hji (nu j o' hj hd)).1 hdj
            obtain ⟨rj, hrj, -⟩ := rec_at j (oidx j o' hj)
            rw [FT_new ops.toList q.1 st.F i t j o' rj hlen.symm hlt hj hrj hd htl (fun k o2 hk hd2 => uniq k j o2 o' t hk hj hd2 hd)] at h1
            simp at h1
            subst h1
            exact hI.tn j o' rj t x hdj hj hrj hd hxx
          · rw [FT_keep] at h1
            · obtain ⟨v', h3, h4⟩ := hI.to t x hxx (fun j o' hdj hj hd => hex ⟨j, o', hdj, hj, hd⟩)
              rw [h1] at h3
              simp at h3
              subst h3
              exact h4
            · intro j o' hjlt hj hd
              exact hex ⟨j, o', (ord j (oidx j o' hj) (by omega) (nu j o' hj hd)).2 hjlt, hj, hd⟩
        | const v' => exact ofValue_den hx
        | global g => simp [opv] at hx
        | func f => simp only [opv, Option.some.injEq] at hx; subst hx; simp [den, denL, Act.eval]
      have hHr := heap listed HD i ((unord pre ops.size i).map fun j => wids.getD j []) hI.hn hI.ho (fun j r' id hr' hw' hnj => by
        obtain ⟨hj, hwj⟩ := idx j r' hr'
        have hnu : j ∉ unord pre ops.size i := fun hm => hnj _ (List.mem_map.2 ⟨j, hm, rfl⟩) (by rw [← hwj]; exact hw')
        by_cases hji : j = i
        · subst hji; exact ⟨fun hd => absurd hd hnd', fun h => by omega⟩
        · exact ord j hj hji hnu)
      have hk := hI.fr i (by omega) hnd'
      have hkn : r.e ≤ kcAt (st.nx + ops.size) q.1 ops.toList.length := by rw [← hksu]; exact kmono _ _ (by simp; omega) (by simp)
      have hk0 : st.nx + ops.size ≤ kcAt (st.nx + ops.size) q.1 i := by have := kmono 0 i (by omega) (by simp; omega); simpa [kcAt] using this
      have hkT : st.nx + ops.size ≤ kcAt (st.nx + ops.size) q.1 ops.toList.length := by have := kmono 0 ops.toList.length (by omega) (Nat.le_refl _); simpa [kcAt] using this
      have hstep := recD_ok (P := P) (a := a') (H := HD) (nxT := kcAt (st.nx + ops.size) q.1 ops.toList.length) hfs hc hrec (hvk hv) hh.pc hOp hHr (by have := hI.m; rwa [hn] at this) hk (by omega) (fun hic => by have := hI.fc i o ho hnd' hic; rwa [hn] at this) hkn
      have behind : ∀ (x : Value) (ρ' : Rho) (w2 : World), Ext ρD ρ' → den σ ρ' r.v = some x → M σ ρ' base (r.put HD) (kcAt (st.nx + ops.size) q.1 ops.toList.length) w2 → Kp base w' w2 → (∀ j, ρD j = none → j ≠ st.nx + i → ¬ (isC o.op = true ∧ kcAt (st.nx + ops.size) q.1 i ≤ j ∧ j < r.e) → ρ' j = none) →
          wpAny P .any ops Q fuel (listed.setIfInBounds i true) (a'.put o.dst x) w2 := by
        intro x ρ' w2 he hd hM2 hb2 hfr2
        have hD' := dn_set (listed := listed) (i := i) (by omega)
        have hput : ∀ t y, (a'.put o.dst x).tmps[t]? = some y → (o.dst = some t ∧ y = x) ∨ (o.dst ≠ some t ∧ a'.tmps[t]? = some y) := by
          intro t y hy
          cases hdst : o.dst with
          | none => rw [hdst] at hy; exact .inr ⟨by simp, hy⟩
          | some d =>
            rw [hdst] at hy
            simp only [Act.put, Array.getElem?_setIfInBounds] at hy
            by_cases hdt : d = t
            · subst hdt
              rw [if_pos rfl] at hy
              split at hy <;> simp at hy
              exact .inl ⟨rfl, hy.symm⟩
            · rw [if_neg hdt] at hy
              exact .inr ⟨by simpa using hdt, hy⟩
        refine ih _ _ _ ρ' (r.put HD) ⟨?_, ?_, ?_, ?_, ?_, ?_, ?_, ?_, ?_, ?_, hI.ext.trans he, hI.bel.trans hb2, (put_defers _ _).trans hI.df⟩ ?_
        · simp [hI.ls]
        · intro j o' hdj hj e hem heb
          rw [hD'] at hdj ⊢
          rcases hdj with hdj | rfl
          · exact .inl (hDown j o' hdj hj e hem heb)
          · rw [ho] at hj
            simp at hj
            subst hj
            exact .inl (hedges e hem heb)
        · rw [← hI.ts]
          cases o.dst <;> simp [Act.put]
        · intro j o' r' t y hdj hj hr' hdt hy
          rw [hD'] at hdj
          rcases hput t y hy with ⟨h1, rfl⟩ | ⟨h1, h2⟩
          · have := uniq j i o' o t hj ho hdt h1
            subst this
            rw [hr] at hr'
            simp at hr'
            subst hr'
            exact hd
          · rcases hdj with hdj | rfl
            · exact den_mono he (hI.tn j o' r' t y hdj hj hr' hdt h2)
            · rw [ho] at hj
              simp at hj
              subst hj
              exact absurd hdt h1
        · intro t y hy hno
          rcases hput t y hy with ⟨h1, rfl⟩ | ⟨h1, h2⟩
          · exact absurd h1 (hno i o ((hD' i).2 (.inr rfl)) ho)
          · obtain ⟨v, h3, h4⟩ := hI.to t y h2 (fun j o' hdj hj => hno j o' ((hD' j).2 (.inl hdj)) hj)
            exact ⟨v, h3, den_mono he h4⟩
        · intro j r' id b hdj hr' hwr hmax
          rw [hD'] at hdj
          by_cases hji : j = i
          · subst hji
            rw [hr] at hr'
            simp at hr'
            subst hr'
            exact put_some hwr
          · have hdj := hdj.resolve_right hji
            have hrw' : id ∈ r'.wids := lookW_in hwr
            have hne : id ∉ r.wids := by
              intro hrw
              have hij : i ≤ j := hmax i r ((hD' i).2 (.inr rfl)) hr hrw
              obtain ⟨hj, hwj⟩ := idx j r' hr'
              have hnu : j ∉ unord pre ops.size i := fun hm => hun j hm id (by rw [← hwj]; exact hrw') hrw
              have := (ord j hj hji hnu).1 hdj
              omega
            rw [put_none' hne]
            exact hI.hn j r' id b hdj hr' hwr (fun k r2 hdk hrk hwk => hmax k r2 ((hD' k).2 (.inl hdk)) hrk hwk)
        · intro id hno
          rw [put_none' (hno i r ((hD' i).2 (.inr rfl)) hr)]
          exact hI.ho id (fun j r' hdj hr' => hno j r' ((hD' j).2 (.inl hdj)) hr')
        · rw [hn]; exact hM2
        · intro j hj hnj
          rw [hD'] at hnj
          exact hfr2 _ (hI.fr j hj (fun h => hnj (.inl h))) (fun e => hnj (.inr (by omega))) (fun h => by rw [hn] at hj; omega)
        · intro j o' hj hnj hjc id hid
          rw [hD'] at hnj
          have hjl := oidx j o' hj
          rw [hn] at hid
          have hkj : st.nx + ops.size ≤ kcAt (st.nx + ops.size) q.1 j := by have := kmono 0 j (by omega) (by simp; omega); simpa [kcAt] using this
          refine hfr2 _ (hI.fc j o' hj (fun h => hnj (.inl h)) hjc id (by rw [hn]; exact hid)) (fun e => by omega) (fun h => ?_)
          rcases Nat.lt_trichotomy i j with hlt | heq | hgt
          · have := kmono (i + 1) j (by omega) (by simp; omega)
            omega
          · exact hnj (.inr heq.symm)
          · have hbit : bitB pre i j = true := by
              have := List.all_eq_true.1 hco (o, i) (by rw [List.mem_iff_getElem?]; exact ⟨i, by simp [List.getElem?_zipIdx, ho]⟩)
              simp only [h.1, Bool.not_true, Bool.false_or, List.all_eq_true, List.mem_range] at this
              have := this j hgt
              rw [hj] at this
              simpa [hjc] using this
            obtain ⟨e, hem, heb, h3⟩ := (closed_at hcl ho).2 j hjl hbit
            have hel := (closed_at hcl ho).1 e hem heb
            refine hnj (.inl ?_)
            rcases h3 with h3 | h3
            · rw [← h3]; exact hedges e hem heb
            · exact bit_dn hcl hDown e.on j (by omega) hjl (hedges e hem heb) h3
        · have hfalse : listed.toList[i]? = some false := by
            rw [Array.getElem?_toList]
            unfold Dn at hnd'
            rw [Array.getElem?_eq_getElem (by omega)] at hnd' ⊢
            cases hb : listed[i] <;> simp_all
          have := cntF_set _ i hfalse
          simp only [Array.toList_setIfInBounds]
          omega
      unfold wpOp
      have ho' : ops[i]? = some o := by rw [← Array.getElem?_toList]; exact ho
      simp only [ho']
      split
      · rename_i hw
        rw [if_pos hw] at hstep
        exact .inl (hstep _ _ (fun x ρ' w2 h1 h2 h3 h4 h5 => behind x ρ' w2 h1 h2 h3 h4 h5))
      · rename_i hw
        rw [if_neg hw] at hstep
        have hpn : r.put HD = HD := by simp [Rec.put, hstep.2, putW]
        exact behind undef ρD w' (Ext.refl _) (by rw [hstep.1]; exact undef_den) (by rw [hpn]; have := hI.m; rwa [hn] at this) (Kp.refl _ _) (fun j h1 _ _ => h1)
  refine (main ops.size _ _ _ ρ st.H ⟨?_, ?_, ?_, ?_, ?_, ?_, ?_, ?_, ?_, ?_, Ext.refl _, Kp.refl _ _, rfl⟩ ?_)
  · simp
  · intro i o hd; unfold Dn at hd; simp [Array.getElem?_replicate] at hd
  · have := denL_len hh.F; rw [Fr.len_list] at this; simpa using this
  · intro i o r t x hd; unfold Dn at hd; simp [Array.getElem?_replicate] at hd
  · intro t x hx _
    have hx' : a.tmps.toList[t]? = some x := by rw [Array.getElem?_toList]; exact hx
    have hl := denL_len hh.F
    rw [Fr.len_list] at hl
    have htl : t < st.F.n := by have := (List.getElem?_eq_some_iff.1 hx').1; omega
    obtain ⟨y, hy, hdy⟩ := denL_get hh.F ((Fr.get_list _ _).trans (Fr.get_some htl))
    rw [hx'] at hy
    simp at hy
    subst hy
    exact ⟨_, Fr.get_some htl, hdy⟩
  · intro i r id b hd; unfold Dn at hd; simp [Array.getElem?_replicate] at hd
  · intro id _; rfl
  · have := hh.m
    exact ⟨this.size, fun i hi => this.fresh i (by
      have h0 := kmono 0 ops.toList.length (by omega) (Nat.le_refl _)
      have h1 : kcAt (st.nx + ops.size) q.1 0 = st.nx + ops.size := by cases q.1 <;> rfl
      rw [hn] at hi h0
      omega), this.blk, this.inj⟩
  · intro i hi _; exact hh.m.fresh _ (by omega)
  · intro i o ho _ _ j hj
    refine hh.m.fresh _ ?_
    have h0 := kmono 0 i (by omega) (by have := oidx i o ho; simp; omega)
    have h1 : kcAt (st.nx + ops.size) q.1 0 = st.nx + ops.size := by cases q.1 <;> rfl
    rw [hn] at hj
    omega
  · rw [Array.toList_replicate, cntF_rep]; exact Nat.le_refl _
end
end Go.Proofs.Ytehbfajmileefaa.Vx
