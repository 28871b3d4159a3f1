import Derived.Test.YtehbfajmileefaaVo
namespace Go.Proofs.Ytehbfajmileefaa.Vx
open Go.RowKit
set_option linter.unusedVariables false
set_option linter.unusedSimpArgs false
section
variable {P : Program} {σ : Env} {ρ : Rho} {w : World} {base : Nat → Prop} {nx : Nat} {H : Hp} {F : Fr} {a : Act} {funs : List (FuncId × Func)} {ops : Array Oper} {Q Q' : Exit → Act → World → Prop}
theorem letsOut_monoQ (hQ : ∀ e a w, e ≠ .normal → Q e a w → Q' e a w) (h : LetsOut Q) : LetsOut Q' := by
  obtain ⟨a, w, h⟩ := h
  exact ⟨a, w, hQ _ _ _ (by simp) h⟩
theorem wp_monoQ {o : Oper} {K : Act → World → Prop} (hQ : ∀ e a w, e ≠ .normal → Q e a w → Q' e a w) (hh : o.wp P a w K Q) : o.wp P a w K Q' := by
  unfold Oper.wp at *
  generalize (execOp a.eval o).run P w = r at *
  cases r with
  | ok n w' =>
    cases n <;> simp only [Oper.upon] at hh ⊢ <;> first
      | exact hh
      | exact Calls.mono hh (fun e w2 he => by
          cases e <;> first
            | exact he
            | exact hQ _ _ _ (by simp) he
            | exact letsOut_monoQ hQ he)
  | halt x w' =>
    cases x <;> simp only [Oper.upon] at hh ⊢ <;> first
      | exact hh
      | exact hQ _ _ _ (by simp) hh
theorem wpAny_more : ∀ (f : Nat) (listed : Array Bool) (a : Act) (w : World), wpAny P .any ops Q f listed a w → wpAny P .any ops Q (f + 1) listed a w
  | 0, listed, a, w, h => ⟨fun _ => h.2, fun i hi => by rw [h.1] at hi; simp at hi⟩
  | f + 1, listed, a, w, h => ⟨h.1, fun i hi => wpOp_mono (fun a w h => wpAny_more f _ a w h) (h.2 i hi)⟩
theorem wpAny_add (m : Nat) {f : Nat} {listed : Array Bool} (h : wpAny P .any ops Q f listed a w) : wpAny P .any ops Q (m + f) listed a w := by
  induction m with
  | zero => simpa using h
  | succ m ih => rw [show m + 1 + f = (m + f) + 1 by omega]; exact wpAny_more _ _ _ _ ih
def upto (n k : Nat) : Array Bool := ((List.range n).map fun i => decide (i < k)).toArray
theorem upto_size (n k : Nat) : (upto n k).size = n := by simp [upto]
theorem upto_dn {n k i : Nat} : Dn (upto n k) i ↔ i < n ∧ i < k := by
  unfold Dn upto
  by_cases h : i < n
  · simp [h]
  · simp [h]
theorem arr_ext {x y : Array Bool} (hs : x.size = y.size) (h : ∀ i, Dn x i ↔ Dn y i) : x = y := by
  apply Array.ext hs
  intro i h1 h2
  have := h i
  unfold Dn at this
  rw [Array.getElem?_eq_getElem h1, Array.getElem?_eq_getElem h2] at this
  simp at this
  cases hx : x[i] <;> cases hy : y[i] <;> simp_all
theorem upto_set {n k : Nat} (h : k < n) : (upto n k).setIfInBounds k true = upto n (k + 1) := by
  refine arr_ext (by simp [upto_size]) fun i => ?_
  rw [dn_set (by rw [upto_size]; exact h), upto_dn, upto_dn]
  omega
theorem upto_zero (n : Nat) : Array.replicate n false = upto n 0 := by
  refine arr_ext (by simp [upto_size]) fun i => ?_
  rw [upto_dn]
  unfold Dn
  simp [Array.getElem?_replicate]
theorem segL_get {L : List Oper} {lo k : Nat} (hlk : lo ≤ k) (hk : k ≤ L.length) (i : Nat) : (segL L lo k)[i]? = if i < lo then (L[i]?).map selfM else if i < k then L[i]? else none := by
  unfold segL
  have h1 : ((L.take lo).map selfM).length = lo := by simp; omega
  by_cases h : i < lo
  · rw [if_pos h, List.getElem?_append_left (by omega), List.getElem?_map, List.getElem?_take_of_lt h]
  · rw [if_neg h, List.getElem?_append_right (by omega), h1, List.getElem?_drop, show lo + (i - lo) = i by omega]
    by_cases h2 : i < k
    · rw [if_pos h2, List.getElem?_take_of_lt h2]
    · rw [if_neg h2, List.getElem?_eq_none (by simp; omega)]
theorem segL_len {L : List Oper} {lo k : Nat} (hlk : lo ≤ k) (hk : k ≤ L.length) : (segL L lo k).length = k := by
  unfold segL; simp; omega
theorem put_self (a : Act) (d : Nat) : a.put (some d) (a.eval (.tmp d)) = a := by
  unfold Act.put
  simp only [Act.eval]
  congr 1
  apply Array.ext (by simp)
  intro i h1 h2
  by_cases e : d = i
  · subst e
    simp [Array.getD_eq_getD_getElem?, h2]
  · exact Array.getElem_setIfInBounds_ne _ e
theorem wpOp_self {S : Array Oper} {i : Nat} {o : Oper} (h : S[i]? = some (selfM o)) {K : Act → World → Prop} (hh : wpOp P S Q i K a w) : K a w := by
  unfold wpOp at hh
  simp only [h] at hh
  have hw : Region.wanted (selfM o) (yielded S a.tmps) = true := by simp [Region.wanted, selfM]
  rw [if_pos hw] at hh
  have hx : (execOp a.eval (selfM o)).run P w = .ok (.value (a.eval (match o.dst with | some d => .tmp d | none => .const (.tuple #[])))) w := rfl
  have hput : a.put (selfM o).dst (a.eval (match o.dst with | some d => .tmp d | none => .const (.tuple #[]))) = a := by
    show a.put o.dst _ = a
    cases o.dst with
    | none => rfl
    | some d => exact put_self a d
  rcases hh with hh | hh
  · unfold Oper.wp at hh
    rw [hx, Oper.upon_value, hput] at hh
    exact hh
  · exfalso
    have := hh.1.1
    have e : ((execOp a.eval (selfM o)).runT P w #[]).2 = #[] := rfl
    rw [e] at this
    simp at this
theorem skip_ok {S : Array Oper} {lo : Nat} (hlo : lo ≤ S.size) (hS : ∀ i, i < lo → ∃ o, S[i]? = some (selfM o)) (h : wpAny P .any S Q S.size (Array.replicate S.size false) a w) : ∀ k, k ≤ lo → wpAny P .any S Q (S.size - k) (upto S.size k) a w
  | 0, _ => by rw [← upto_zero]; exact h
  | k + 1, hk => by
    have ih := skip_ok hlo hS h k (by omega)
    rw [show S.size - k = (S.size - (k + 1)) + 1 by omega] at ih
    obtain ⟨o, ho⟩ := hS k (by omega)
    have hr : k ∈ Region.ready .any S (upto S.size k) := (ready_iff (upto_size _ _) k).2 ⟨selfM o, by rw [Array.getElem?_toList]; exact ho, by rw [upto_dn]; omega, by simp [selfM]⟩
    have := wpOp_self ho (ih.2 k hr)
    rwa [upto_set (by omega)] at this
variable {pre : List Nat}
theorem ready_bits (hc : closedB ops.toList pre = true) {listed : Array Bool} (hs : listed.size = ops.size) (hd : ∀ i o, Dn listed i → ops.toList[i]? = some o → ∀ e ∈ o.after.toList, Region.binds .any e = true → Dn listed e.on)
    {i j : Nat} (hi : i ∈ Region.ready .any ops listed) (hj : j < ops.size) (hb : bitB pre i j = true) : Dn listed j := by
  obtain ⟨o, ho, -, he⟩ := (ready_iff hs i).1 hi
  obtain ⟨h1, h2⟩ := closed_at hc ho
  have hil : i < ops.size := by have := (List.getElem?_eq_some_iff.1 ho).1; simpa using this
  obtain ⟨e, hm, heb, h3⟩ := h2 j hj hb
  rcases h3 with h3 | h3
  · rw [← h3]; exact he e hm heb
  · exact bit_dn hc hd e.on j (by have := h1 e hm heb; omega) hj (he e hm heb) h3
theorem barB_at {n k : Nat} (h : barB pre n k = true) : (∀ j, j < k → bitB pre k j = true) ∧ ∀ j, j < n → k < j → bitB pre j k = true := by
  unfold barB at h
  simp only [Bool.and_eq_true, List.all_eq_true, List.mem_range, Bool.or_eq_true] at h
  refine ⟨h.1, fun j hj hk => ?_⟩
  rcases h.2 j hj with h | h
  · simp at h; omega
  · exact h
theorem bar_all (hc : closedB ops.toList pre = true) {listed : Array Bool} (hs : listed.size = ops.size) (hd : ∀ i o, Dn listed i → ops.toList[i]? = some o → ∀ e ∈ o.after.toList, Region.binds .any e = true → Dn listed e.on)
    {k : Nat} (hb : barB pre ops.size k = true) {i : Nat} (hi : i ∈ Region.ready .any ops listed) (hk : k ≤ i) : ∀ j, j < k → Dn listed j := by
  intro j hj
  obtain ⟨h1, h2⟩ := barB_at hb
  have hil : i < ops.size := by obtain ⟨o, ho, -⟩ := (ready_iff hs i).1 hi; have := (List.getElem?_eq_some_iff.1 ho).1; simpa using this
  by_cases e : i = k
  · subst e
    exact ready_bits hc hs hd hi (by omega) (h1 j hj)
  · have hk' := ready_bits hc hs hd hi (show k < ops.size by omega) (h2 i hil (by omega))
    exact bit_dn hc hd k j (by omega) (by omega) hk' (h1 j hj)
theorem some_ready (hc : closedB ops.toList pre = true) {listed : Array Bool} (hs : listed.size = ops.size) : ∀ (m i : Nat), i ≤ m → i < ops.size → ¬ Dn listed i → ∃ j, j ≤ i ∧ j ∈ Region.ready .any ops listed := by
  intro m
  induction m with
  | zero =>
    intro i him hi hn
    have ho : ops.toList[i]? = some ops[i] := by simp [hi]
    exact ⟨i, Nat.le_refl _, (ready_iff hs i).2 ⟨ops[i], ho, hn, fun e he hb => by have := (closed_at hc ho).1 e he hb; omega⟩⟩
  | succ m ih =>
    intro i him hi hn
    have ho : ops.toList[i]? = some ops[i] := by simp [hi]
    by_cases h : ∀ e ∈ ops[i].after.toList, Region.binds .any e = true → Dn listed e.on
    · exact ⟨i, Nat.le_refl _, (ready_iff hs i).2 ⟨ops[i], ho, hn, h⟩⟩
    · simp only [Classical.not_forall] at h
      obtain ⟨e, he, hb, hne⟩ := h
      have hlt := (closed_at hc ho).1 e he hb
      obtain ⟨j, h1, h2⟩ := ih e.on (by omega) (by omega) hne
      exact ⟨j, by omega, h2⟩
def thenQ (X : Act → World → Prop) (Q : Exit → Act → World → Prop) : Exit → Act → World → Prop
  | .normal, a, w => X a w
  | e, a, w => Q e a w
theorem thenQ_mono (X : Act → World → Prop) : ∀ e a w, e ≠ .normal → thenQ X Q e a w → Q e a w := by
  intro e a w he h
  cases e <;> first | exact absurd rfl he | exact h
theorem seg_ok (hc : closedB ops.toList pre = true) (hg : guardsB ops.toList = true) {lo k : Nat} (hlk : lo ≤ k) (hk : k ≤ ops.size) (hbar : k = ops.size ∨ barB pre ops.size k = true) {r : Nat} {S : Array Oper} (hS : S.toList = segL ops.toList lo k) :
    ∀ (f : Nat) (listed listedS : Array Bool) (a : Act) (w : World), listed.size = ops.size → (∀ i o, Dn listed i → ops.toList[i]? = some o → ∀ e ∈ o.after.toList, Region.binds .any e = true → Dn listed e.on) →
      (∀ i, i < lo → Dn listed i) → (∀ i, Dn listed i → i < k) → listedS.size = k → (∀ i, Dn listedS i ↔ Dn listed i) →
      wpAny P .any S (thenQ (fun a w => wpAny P .any ops Q r (upto ops.size k) a w) Q) f listedS a w → wpAny P .any ops Q (f + r) listed a w := by
  have hlen : S.size = k := by rw [← Array.length_toList, hS, segL_len hlk (by simpa using hk)]
  have hget : ∀ i, S.toList[i]? = if i < lo then (ops.toList[i]?).map selfM else if i < k then ops.toList[i]? else none := fun i => by rw [hS]; exact segL_get hlk (by simpa using hk) i
  intro f
  induction f with
  | zero =>
    intro listed listedS a w hs hd hlo hlt hsS heq h
    by_cases hall : ∀ i, i < k → Dn listed i
    · have e : listed = upto ops.size k := arr_ext (by rw [hs, upto_size]) fun i => by rw [upto_dn]; exact ⟨fun h => ⟨by have := hlt i h; omega, hlt i h⟩, fun h => hall i h.2⟩
      rw [e, Nat.zero_add]
      exact h.2
    · exfalso
      simp only [Classical.not_forall] at hall
      obtain ⟨i, hik, hn⟩ := hall
      obtain ⟨j, hj, hr⟩ := some_ready hc hs i i (Nat.le_refl _) (by omega) hn
      obtain ⟨o, ho, hnj, he⟩ := (ready_iff hs j).1 hr
      have hjl : ¬ j < lo := fun h => hnj (hlo j h)
      have : j ∈ Region.ready .any S listedS := (ready_iff (by rw [hsS, hlen]) j).2 ⟨o, by rw [hget, if_neg hjl, if_pos (by omega)]; exact ho, by rw [heq]; exact hnj, fun e h1 h2 => by rw [heq]; exact he e h1 h2⟩
      rw [h.1] at this
      simp at this
  | succ f ih =>
    intro listed listedS a w hs hd hlo hlt hsS heq h
    by_cases hall : ∀ i, i < k → Dn listed i
    · have e : listed = upto ops.size k := arr_ext (by rw [hs, upto_size]) fun i => by rw [upto_dn]; exact ⟨fun h => ⟨by have := hlt i h; omega, hlt i h⟩, fun h => hall i h.2⟩
      have hr : Region.ready .any S listedS = [] := by
        rw [List.eq_nil_iff_forall_not_mem]
        intro i hi
        obtain ⟨o, ho, hn, -⟩ := (ready_iff (by rw [hsS, hlen]) i).1 hi
        have hil : i < S.toList.length := (List.getElem?_eq_some_iff.1 ho).1
        rw [heq] at hn
        exact hn (hall i (by rw [Array.length_toList, hlen] at hil; exact hil))
      rw [e]
      exact wpAny_add (f + 1) (h.1 hr)
    · simp only [Classical.not_forall] at hall
      obtain ⟨i0, hik0, hn0⟩ := hall
      obtain ⟨j0, hj0, hr0⟩ := some_ready hc hs i0 i0 (Nat.le_refl _) (by omega) hn0
      rw [show f + 1 + r = (f + r) + 1 by omega]
      refine ⟨fun hr => by rw [hr] at hr0; simp at hr0, fun i hi => ?_⟩
      obtain ⟨o, ho, hni, he⟩ := (ready_iff hs i).1 hi
      have hil : i < ops.size := by have := (List.getElem?_eq_some_iff.1 ho).1; simpa using this
      have hik : i < k := by
        rcases hbar with hb | hb
        · omega
        · apply Classical.byContradiction
          intro hge
          exact hn0 (bar_all hc hs hd hb hi (by omega) i0 hik0)
      have hjl : ¬ i < lo := fun h => hni (hlo i h)
      have hoS : S.toList[i]? = some o := by rw [hget, if_neg hjl, if_pos hik]; exact ho
      have hiS : i ∈ Region.ready .any S listedS := (ready_iff (by rw [hsS, hlen]) i).2 ⟨o, hoS, by rw [heq]; exact hni, fun e h1 h2 => by rw [heq]; exact he e h1 h2⟩
      have hst := h.2 i hiS
      have next : ∀ a w, wpAny P .any S (thenQ (fun a w => wpAny P .any ops Q r (upto ops.size k) a w) Q) f (listedS.setIfInBounds i true) a w → wpAny P .any ops Q (f + r) (listed.setIfInBounds i true) a w := fun a w hh => by
        refine ih _ _ a w (by simpa using hs) ?_ ?_ ?_ (by simpa using hsS) ?_ hh
        · intro q oq hq hoq e h1 h2
          rw [dn_set (by omega)] at hq ⊢
          rcases hq with hq | rfl
          · exact .inl (hd q oq hq hoq e h1 h2)
          · rw [ho] at hoq; simp at hoq; subst hoq
            exact .inl (he e h1 h2)
        · intro q hq; rw [dn_set (by omega)]; exact .inl (hlo q hq)
        · intro q hq; rw [dn_set (by omega)] at hq; rcases hq with hq | rfl
          · exact hlt q hq
          · exact hik
        · intro q; rw [dn_set (by omega), dn_set (by omega), heq]
      have hw : Region.wanted o (yielded S a.tmps) = Region.wanted o (yielded ops a.tmps) := by
        have hgi := List.all_eq_true.1 hg (o, i) (by rw [List.mem_iff_getElem?]; exact ⟨i, by simp [List.getElem?_zipIdx, ho]⟩)
        cases hgu : o.guard with
        | none => simp [Region.wanted, hgu]
        | some p =>
          obtain ⟨j, want⟩ := p
          simp only [hgu] at hgi
          have hji : j < i := by simp [Nat.blt] at hgi; omega
          have ed : (S[j]?).bind (·.dst) = (ops[j]?).bind (·.dst) := by
            rw [← Array.getElem?_toList, ← Array.getElem?_toList, hget]
            by_cases c : j < lo
            · rw [if_pos c]; cases ops.toList[j]? <;> rfl
            · rw [if_neg c, if_pos (by omega)]
          simp only [Region.wanted, hgu, yielded, ed]
      unfold wpOp at hst ⊢
      have hoA : ops[i]? = some o := by rw [← Array.getElem?_toList]; exact ho
      have hoSA : S[i]? = some o := by rw [← Array.getElem?_toList]; exact hoS
      simp only [hoSA, hw] at hst
      simp only [hoA]
      split
      · rename_i hww
        rw [if_pos hww] at hst
        rcases hst with hst | hst
        · exact .inl (wp_monoQ (thenQ_mono _) (Oper.wp_mono next hst))
        · exact .inr ⟨hst.1, letsOut_monoQ (thenQ_mono _) hst.2⟩
      · rename_i hww
        rw [if_neg hww] at hst
        exact next _ _ hst
theorem bar_step (hc : closedB ops.toList pre = true) {k r : Nat} {o : Oper} (ho : ops.toList[k]? = some o) (hb : barB pre ops.size k = true)
    (h : wpList P ops (thenQ (fun a w => wpAny P .any ops Q r (upto ops.size (k + 1)) a w) Q) [o] a w) : wpAny P .any ops Q (r + 1) (upto ops.size k) a w := by
  have hk : k < ops.size := by have := (List.getElem?_eq_some_iff.1 ho).1; simpa using this
  have hr : k ∈ Region.ready .any ops (upto ops.size k) := (ready_iff (upto_size _ _) k).2 ⟨o, ho, by rw [upto_dn]; omega, fun e he heb => by
    rw [upto_dn]; have := (closed_at hc ho).1 e he heb; omega⟩
  have hd : ∀ i o, Dn (upto ops.size k) i → ops.toList[i]? = some o → ∀ e ∈ o.after.toList, Region.binds .any e = true → Dn (upto ops.size k) e.on := fun i oi hi hoi e he heb => by
    rw [upto_dn] at hi ⊢
    have := (closed_at hc hoi).1 e he heb
    omega
  refine ⟨fun h0 => by rw [h0] at hr; simp at hr, fun i hi => ?_⟩
  have hik : i = k := by
    obtain ⟨oi, hoi, hn, -⟩ := (ready_iff (upto_size _ _) i).1 hi
    have hil : i < ops.size := by have := (List.getElem?_eq_some_iff.1 hoi).1; simpa using this
    rw [upto_dn] at hn
    apply Classical.byContradiction
    intro hne
    have := ready_bits hc (upto_size _ _) hd hi hk ((barB_at hb).2 i hil (by omega))
    rw [upto_dn] at this
    omega
  subst hik
  unfold wpOp
  have hoA : ops[i]? = some o := by rw [← Array.getElem?_toList]; exact ho
  simp only [hoA]
  unfold wpList at h
  have next : ∀ a w, wpList P ops (thenQ (fun a w => wpAny P .any ops Q r (upto ops.size (i + 1)) a w) Q) [] a w → wpAny P .any ops Q r ((upto ops.size i).setIfInBounds i true) a w := fun a w hh => by
    rw [upto_set hk]; exact hh
  split
  · rename_i hww
    rw [if_pos hww] at h
    rcases h with h | h
    · exact .inl (wp_monoQ (thenQ_mono _) (Oper.wp_mono next h))
    · exact .inr ⟨h.1, letsOut_monoQ (thenQ_mono _) h.2⟩
  · rename_i hww
    rw [if_neg hww] at h
    exact next _ _ h
theorem full_ready : Region.ready .any ops (upto ops.size ops.size) = [] := by
  rw [List.eq_nil_iff_forall_not_mem]
  intro i hi
  obtain ⟨o, ho, hn, -⟩ := (ready_iff (upto_size _ _) i).1 hi
  have hil : i < ops.size := by have := (List.getElem?_eq_some_iff.1 ho).1; simpa using this
  rw [upto_dn] at hn
  omega
theorem nextBar_some {L : List Oper} {n lo k : Nat} (h : nextBar L pre n lo = some k) : lo ≤ k ∧ k < n ∧ barB pre n k = true := by
  unfold nextBar at h
  have h1 := List.find?_some h
  have h2 := List.mem_of_find?_eq_some h
  simp only [Bool.and_eq_true] at h1
  exact ⟨by simpa using h1.1.1, by simpa using h2, h1.2⟩
theorem leads_seg {lo k r : Nat} (hc : closedB ops.toList pre = true) (hg : guardsB ops.toList = true) (hfs : FunsOk P funs) {call : FuncId → List V → St → Option COut} (hcall : CallOk P σ call) (hlk : lo ≤ k) (hk : k ≤ ops.size) (hbar : k = ops.size ∨ barB pre ops.size k = true)
    {st : St} {out : Out} (h : runD P funs call (segL ops.toList lo k).toArray st = some out) (hv : VOk σ out.2) (hh : Holds σ ρ base st a w)
    (hL : Leads σ base out.1 ρ a w (thenQ (fun a w => wpAny P .any ops Q r (upto ops.size k) a w) Q)) : wpAny P .any ops Q ((k - lo) + r) (upto ops.size lo) a w := by
  have hsz : (segL ops.toList lo k).toArray.size = k := by rw [List.size_toArray]; exact segL_len hlk (by simpa using hk)
  have h1 := runD_any hfs hcall h hv hh hL
  have h2 := skip_ok (lo := lo) (by omega) (fun i hi => ⟨ops[i]'(by omega), by
    rw [← Array.getElem?_toList, List.toList_toArray, segL_get hlk (by simpa using hk), if_pos hi]
    simp [show i < ops.size by omega]⟩) h1 lo (Nat.le_refl _)
  rw [hsz] at h2
  refine seg_ok hc hg hlk hk hbar (by simp) (k - lo) _ _ a w (upto_size _ _) ?_ ?_ ?_ (upto_size _ _) ?_ h2
  · intro i oi hi hoi e he heb
    rw [upto_dn] at hi ⊢
    have := (closed_at hc hoi).1 e he heb
    omega
  · intro i hi; rw [upto_dn]; omega
  · intro i hi; rw [upto_dn] at hi; omega
  · intro i; rw [upto_dn, upto_dn]; omega
theorem runD2_ok (hfs : FunsOk P funs) {call : FuncId → List V → St → Option COut} (hcall : CallOk P σ call) (hc : closedB ops.toList pre = true) (hg : guardsB ops.toList = true) :
    ∀ (f lo : Nat) (st : St) (out : Out), lo ≤ ops.size → runD2 P funs call ops pre f lo st = some out → VOk σ out.2 → ∀ (ρ : Rho) (a : Act) (w : World) (Q : Exit → Act → World → Prop), Holds σ ρ base st a w → Leads σ base out.1 ρ a w Q →
      wpAny P .any ops Q (ops.size - lo) (upto ops.size lo) a w := by
  intro f
  induction f with
  | zero => intro lo st out _ h; simp [runD2] at h
  | succ f ih =>
    intro lo st out hlo h hv ρ a w Q hh hL
    unfold runD2 at h
    split at h
    · have := leads_seg (r := 0) hc hg hfs hcall hlo (Nat.le_refl _) (.inl rfl) h hv hh (Q := Q) (fun lf hlf ρ' a' w' h1 h2 h3 h4 => by
        have := hL lf hlf ρ' a' w' h1 h2 h3 h4
        obtain ⟨e, st'⟩ := lf
        cases e
        · exact ⟨full_ready, this⟩
        · exact this
        · exact this)
      simpa using this
    · rename_i k hk
      obtain ⟨hlk, hkn, hbar⟩ := nextBar_some hk
      simp only [thenO_eq, Option.bind_eq_some_iff, Option.map_eq_some_iff] at h
      obtain ⟨o1, ho1, o2, ho2, rfl⟩ := h
      obtain ⟨k1, k2⟩ := thenL_ok (σ := σ) ho2
      have := leads_seg (r := ops.size - k) hc hg hfs hcall hlk (by omega) (.inr hbar) ho1 hv.app.1 hh (Q := Q) (fun lf hlf ρ' a' w' he hh' hb hd => by
        obtain ⟨e, st'⟩ := lf
        cases e
        case nrm =>
          obtain ⟨o3, ho3, k3, k4⟩ := k1 st' hlf
          have hv3 := k4 hv.app.2
          simp only [Option.bind_eq_some_iff, Option.map_eq_some_iff] at ho3
          obtain ⟨o4, ho4, o5, ho5, rfl⟩ := ho3
          obtain ⟨m1, m2⟩ := thenL_ok (σ := σ) ho5
          split at ho4
          rotate_left
          · simp at ho4
          rename_i ok hok
          show wpAny P .any ops Q (ops.size - k) (upto ops.size k) a' w'
          rw [show ops.size - k = (ops.size - (k + 1)) + 1 by omega]
          refine bar_step hc hok hbar (runOps_ok hfs hcall [ok] st' o4 ho4 hv3.app.1 base ρ' a' w' _ hh' ?_)
          intro lf2 hlf2 ρ2 a2 w2 he2 hh2 hb2 hd2
          obtain ⟨e2, st2⟩ := lf2
          cases e2
          case nrm =>
            obtain ⟨o6, ho6, n3, n4⟩ := m1 st2 hlf2
            exact ih (k + 1) st2 o6 (by omega) ho6 (n4 hv3.app.2) ρ2 a2 w2 Q hh2 (hL.mono (fun l hl => k3 l (n3 l hl)) (he.trans he2) (hd2.trans hd) (hb.trans hb2))
          all_goals exact hL _ (k3 _ (m2 _ _ hlf2 (by simp))) ρ2 a2 w2 (he.trans he2) hh2 (hb.trans hb2) (hd2.trans hd)
        all_goals exact hL _ (k2 _ _ hlf (by simp)) ρ' a' w' he hh' hb hd)
      rwa [show k - lo + (ops.size - k) = ops.size - lo by omega] at this
theorem runDD_ok (hm : P.follows .mixedOrders = true) (hfs : FunsOk P funs) {call : FuncId → List V → St → Option COut} (hcall : CallOk P σ call) {st : St} {out : Out} (h : runDD P funs call ops st = some out) (hv : VOk σ out.2)
    {id : Nat} (hh : Holds σ ρ base st a w) (hL : Leads σ base out.1 ρ a w Q) : (Code.region id ops true).wp P Q a w := by
  unfold runDD at h
  simp only at h
  split at h
  rotate_left
  · simp at h
  rename_i hcn
  simp only [Bool.and_eq_true] at hcn
  have hb : Kp base w w.drew := Kp.drew (Kp.refl _ _)
  have := runD2_ok (base := base) hfs hcall hcn.2 hcn.1 _ 0 st out (Nat.zero_le _) h hv ρ a w.drew Q ⟨hh.F, hh.pc, hh.m.drew⟩ (hL.mono (fun l hl => hl) (Ext.refl _) rfl hb)
  rw [← upto_zero, Nat.sub_zero] at this
  exact wp_region_any hm this
end
end Go.Proofs.Ytehbfajmileefaa.Vx
