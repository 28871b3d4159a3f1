import Derived.Test.YtehbfajmileefaaZf
namespace Go.Proofs.Ytehbfajmileefaa.Px
open Go.RowKit Go.Proofs.Ytehbfajmileefaa.Vx Go.Proofs.Ytehbfajmileefaa.Fx
set_option linter.unusedVariables false
set_option linter.unusedSimpArgs false
set_option maxRecDepth 10000
section
variable {P : Program} {σ : Env} {ρ0 : Rho} {base : Nat → Prop} {N : Nat} {ops : Array Oper} {pre : List Nat} {cl : Cl} {x : Nat → X} {F : Nat → F8} {M : Nat → Mm} {a0 : Act} {w0 : World} {listed : Array Bool} {ρ : Rho} {c : Nat} {H : Hp} {a : Act} {w : World}
theorem DI.rd (ch : Chain P N cl ops pre x F M) (hI : DI P σ ρ0 base N ops x F M a0 w0 listed ρ c H a w) {i : Nat} {o : Oper} (ho : ops.toList[i]? = some o) (hr : rpOp o.op = true) (hnd : ¬ Dn listed i) (hedges : ∀ e ∈ o.after.toList, Region.binds .any e = true → Dn listed e.on)
    {id : Nat} (hst : ∀ (k : Nat) (ok : Oper), ops.toList[k]? = some ok → rpOp ok.op = false → k ∈ unord pre ops.size i → Vx.look (M (k + 1)).H id = Vx.look (M k).H id) {b : Blk} (hb : Vx.look (M i).H id = some b) : Vx.look H id = some b ∧ id < (M i).nx ∧ V.underL (M i).nx b.cells = true := by
  obtain ⟨o1, o2⟩ := ch.ord hI.down ho hnd hedges
  have hil := ch.lt ho
  have un : ∀ {k : Nat}, k < ops.size → k ≠ i → (k < i → ¬ Dn listed k) → (i < k → Dn listed k) → k ∈ unord pre ops.size i := fun {k} hk hki h1 h2 => mem_unord ⟨hk, Ne.symm hki, by
    rw [Bool.eq_false_iff]; intro hb; obtain ⟨g1, g2⟩ := o1 k hk hb; exact h1 g1 g2, by
    rw [Bool.eq_false_iff]; intro hb; obtain ⟨g1, g2⟩ := o2 k hk hb; exact g1 (h2 g2)⟩
  by_cases hci : c ≤ i
  · have b0 : ∀ b, Vx.look (M c).H id = some b → Vx.look H id = some b ∧ id < (M i).nx ∧ V.underL (M i).nx b.cells = true := fun b hb => by
      have hcm := ch.le hci (by omega)
      obtain ⟨g1, g2⟩ := hI.uc c (Nat.le_refl _) id b hb
      exact ⟨hI.ha id b hb, by omega, underL_mono hcm g2⟩
    have up : ∀ j, c ≤ j → j ≤ i → ∀ b, Vx.look (M j).H id = some b → Vx.look H id = some b ∧ id < (M i).nx ∧ V.underL (M i).nx b.cells = true := by
      intro j
      induction j with
      | zero => intro h1 _ b hb; have : c = 0 := by omega
                subst this; exact b0 b hb
      | succ j ih =>
        intro h1 h2 b hb
        by_cases e : c = j + 1
        · subst e; exact b0 b hb
        have hoj := ch.at (show j < ops.size by omega)
        cases hrj : rpOp ops[j].op with
        | true => rw [(ch.rp hoj hrj).1] at hb; exact ih (by omega) (by omega) b hb
        | false =>
          by_cases hdj : Dn listed j
          · cases haj : alOp ops[j].op with
            | false => have := (hI.cm j _ hoj hrj haj).1 hdj; omega
            | true =>
              rcases ch.al hoj haj with ⟨-, -, e1, e2⟩ | ⟨-, t, z, s, -, hz, -, e1, e2⟩
              · rw [e1] at hb; exact ih (by omega) (by omega) b hb
              · by_cases e : id = (M j).nx
                · refine ⟨hI.hb j _ id b hoj haj hdj (by omega) (by omega) e hb, ?_, ?_⟩
                  · have := ch.le (show j + 1 ≤ i by omega) (by omega); omega
                  · rw [e1, look_cons, if_pos e.symm] at hb
                    simp at hb
                    subst hb
                    obtain ⟨y, -, hd⟩ := run_zeroV (w := w) (σ := σ) (ρ := fun _ => none) hz
                    exact underL_mono (Nat.zero_le _) (underL_of (n := 0) (fun _ _ => rfl) (cells_den hd))
                · rw [e1, look_cons, if_neg (fun q => e q.symm)] at hb
                  exact ih (by omega) (by omega) b hb
          · rw [hst j _ hoj hrj (un (by omega) (by omega) (fun _ => hdj) (fun h => by omega))] at hb
            exact ih (by omega) (by omega) b hb
    exact up i hci (Nat.le_refl _) b hb
  · have dn : ∀ j, i ≤ j → j ≤ c → Vx.look (M j).H id = some b := by
      intro j
      induction j with
      | zero => intro h1 _; have : i = 0 := by omega
                subst this; exact hb
      | succ j ih =>
        intro h1 h2
        by_cases e : i = j + 1
        · subst e; exact hb
        have hjs : j < ops.size := by have := hI.cn; omega
        have hoj := ch.at hjs
        have ih := ih (by omega) (by omega)
        cases hrj : rpOp ops[j].op with
        | true => rw [(ch.rp hoj hrj).1]; exact ih
        | false =>
          have hdj : Dn listed j := by
            cases haj : alOp ops[j].op with
            | false => exact (hI.cm j _ hoj hrj haj).2 (by omega)
            | true => exact hI.ca j _ hoj haj (by omega)
          have hji : j ≠ i := fun e => hnd (e ▸ hdj)
          rw [hst j _ hoj hrj (un hjs hji (fun h => by omega) (fun _ => hdj))]
          exact ih
    exact ⟨hI.ha id b (dn c (by omega) (Nat.le_refl _)), hI.uc i (by omega) id b hb⟩
theorem orElse_some {o : Option (Nat × Nat)} {d : Nat × Nat} : (o.orElse fun _ => some d).isSome = true := by cases o <;> rfl
theorem DI.after (ch : Chain P N cl ops pre x F M) (hI : DI P σ ρ0 base N ops x F M a0 w0 listed ρ c H a w) {i : Nat} {o : Oper} (ho : ops.toList[i]? = some o) (hr : rpOp o.op = false) (hal : alOp o.op = false) (hnd : ¬ Dn listed i) (hedges : ∀ e ∈ o.after.toList, Region.binds .any e = true → Dn listed e.on) :
    Vx.M σ (cut ρ (M i).nx) (fun r => base r ∨ ∃ id q, (M i).nx ≤ id ∧ (Vx.look H id).isSome = true ∧ ρ id = some (r, q)) (M i).H (M i).nx w ∧ Srt (M i).H (M i).nx ∧
    ∀ (v : Value) (ρ1 : Rho) (w' : World), Ext (cut ρ (M i).nx) ρ1 → den σ ρ1 (x i).toV = some v → Vx.M σ ρ1 (fun r => base r ∨ ∃ id q, (M i).nx ≤ id ∧ (Vx.look H id).isSome = true ∧ ρ id = some (r, q)) (M (i + 1)).H (M (i + 1)).nx w' →
      Kp (fun r => base r ∨ ∃ id q, (M i).nx ≤ id ∧ (Vx.look H id).isSome = true ∧ ρ id = some (r, q)) w w' → Srt (M (i + 1)).H (M (i + 1)).nx →
      ∃ ρ' c' H', DI P σ ρ0 base N ops x F M a0 w0 (listed.setIfInBounds i true) ρ' c' H' (a.put o.dst v) w' := by
  obtain ⟨o1, o2⟩ := ch.ord hI.down ho hnd hedges
  have hil := ch.lt ho
  have hmono := ch.mono i o ho
  have hci : c ≤ i := by
    apply Classical.byContradiction
    intro h
    exact hnd ((hI.cm i o ho hr hal).2 (by omega))
  have early : ∀ (k : Nat) (ok : Oper), k < i → ops.toList[k]? = some ok → rpOp ok.op = false → Dn listed k := fun k ok hk hok hrk => (o1 k (ch.lt hok) (ch.mem i o ho hr hal k ok hk hok hrk)).2
  have late : ∀ (k : Nat) (ok : Oper), i < k → ops.toList[k]? = some ok → rpOp ok.op = false → alOp ok.op = false → ¬ Dn listed k := fun k ok hk hok hrk hak => (o2 k (ch.lt hok) (ch.mem k ok hok hrk hak i o hk ho hr)).1
  obtain ⟨u1, u2, u3, u4⟩ := hI.up ch hci (by omega) fun k ok h1 h2 hok hrk => by
    have hd := early k ok h2 hok hrk
    refine ⟨?_, hd⟩
    cases hak : alOp ok.op with
    | true => rfl
    | false => have := (hI.cm k ok hok hrk hak).1 hd; omega
  have idlt : ∀ {id b}, Vx.look (M i).H id = some b → id < (M i).nx := fun h => u2.lt _ (look_mem h)
  have hnxT := ch.le (show i + 1 ≤ ops.size by omega) (Nat.le_refl _)
  refine ⟨⟨fun r hr => ?_, fun j hj => by unfold cut; rw [if_neg (by omega)], fun id b hb => ?_, fun j k r q d hj hk hrj hrk => ?_⟩, u2, ?_⟩
  · rcases hr with hr | ⟨id, q, h1, h2, h3⟩
    · exact hI.m.size r hr
    · obtain ⟨b, hb⟩ := Option.isSome_iff_exists.1 h2
      exact hI.m.lt hb h3
  · have hlt := idlt hb
    obtain ⟨r, cc, cs, sp, g1, g2, g3, g4⟩ := hI.m.blk id b (u1 id b hb)
    refine ⟨r, cc, cs, sp, by unfold cut; rw [if_pos hlt]; exact g1, fun hro hbb => ?_, by rw [denL_cut (u3 id b hb)]; exact g3, g4⟩
    rcases hbb with hbb | ⟨id', q, h1, h2, h3⟩
    · exact g2 hro hbb
    · have := hI.m.inj id id' r cc q (by rw [u1 id b hb]; rfl) h2 g1 h3
      omega
  · have lt : ∀ {k}, (Vx.look (M i).H k).isSome = true → k < (M i).nx ∧ (Vx.look H k).isSome = true := fun h => by
      obtain ⟨b, hb⟩ := Option.isSome_iff_exists.1 h
      exact ⟨idlt hb, by rw [u1 _ b hb]; rfl⟩
    unfold cut at hrj hrk
    rw [if_pos (lt hj).1] at hrj
    rw [if_pos (lt hk).1] at hrk
    exact hI.m.inj j k r q d (lt hj).2 (lt hk).2 hrj hrk
  intro v ρ1 w' he1 hv hM1 hk1 hs1
  have hfr := hI.fr i o ho hnd
  let ρ' : Rho := fun j => if (M i).nx ≤ j ∧ j < (M (i + 1)).nx then (ρ1 j).orElse (fun _ => some (0, 0)) else ρ j
  have r1 : ∀ j, (M i).nx ≤ j → j < (M (i + 1)).nx → ρ' j = (ρ1 j).orElse (fun _ => some (0, 0)) := fun j h1 h2 => if_pos ⟨h1, h2⟩
  have r2 : ∀ j, ¬ ((M i).nx ≤ j ∧ j < (M (i + 1)).nx) → ρ' j = ρ j := fun j h => if_neg h
  have s1 : Ext ρ1 ρ' := by
    intro j r hj
    by_cases h1 : j < (M i).nx
    · rw [r2 j (by omega)]
      obtain ⟨r0, h0⟩ := Option.isSome_iff_exists.1 (u4 j h1)
      have := he1 j r0 (by unfold cut; rw [if_pos h1]; exact h0)
      rw [this] at hj
      simp at hj
      subst hj
      exact h0
    · by_cases h2 : j < (M (i + 1)).nx
      · rw [r1 j (by omega) h2, hj]; rfl
      · rw [hM1.fresh j (by omega)] at hj; simp at hj
  have s2 : Ext ρ ρ' := by
    intro j r hj
    by_cases h : (M i).nx ≤ j ∧ j < (M (i + 1)).nx
    · rw [hfr j h.1 h.2] at hj; simp at hj
    · rw [r2 j h]; exact hj
  have sH : ∀ id, Vx.look (H.filter (fun e => Nat.ble (M (i + 1)).nx e.1) ++ (M (i + 1)).H) id = ((if (M (i + 1)).nx ≤ id then Vx.look H id else none).or (Vx.look (M (i + 1)).H id)) := by
    intro id
    rw [look_app, look_filter (fun j => Nat.ble (M (i + 1)).nx j) H id]
    simp only [Nat.ble_eq]
  have idlt1 : ∀ {id b}, Vx.look (M (i + 1)).H id = some b → id < (M (i + 1)).nx := fun h => hs1.lt _ (look_mem h)
  have cases' : ∀ {id b}, Vx.look (H.filter (fun e => Nat.ble (M (i + 1)).nx e.1) ++ (M (i + 1)).H) id = some b → ((M (i + 1)).nx ≤ id ∧ Vx.look H id = some b) ∨ (id < (M (i + 1)).nx ∧ Vx.look (M (i + 1)).H id = some b) := by
    intro id b h
    rw [sH] at h
    by_cases hge : (M (i + 1)).nx ≤ id
    · rw [if_pos hge] at h
      cases hl : Vx.look H id with
      | some b' => rw [hl] at h; exact .inl ⟨hge, h⟩
      | none =>
        rw [hl] at h
        have h : Vx.look (M (i + 1)).H id = some b := h
        have := idlt1 h; omega
    · rw [if_neg hge] at h
      exact .inr ⟨by omega, h⟩
  have later : ∀ {id b}, (M (i + 1)).nx ≤ id → Vx.look H id = some b → ∃ (k : Nat) (ok : Oper), ops.toList[k]? = some ok ∧ alOp ok.op = true ∧ Dn listed k ∧ i < k ∧ (M k).nx < (M (k + 1)).nx ∧ id = (M k).nx := by
    intro id b h1 h2
    rcases hI.hd id b h2 with ⟨h3, -⟩ | ⟨k, ok, hok, hak, hdk, hck, hlt, e⟩
    · have := ch.le hci (by omega); omega
    · refine ⟨k, ok, hok, hak, hdk, ?_, hlt, e⟩
      apply Classical.byContradiction
      intro hik
      have hki : k ≠ i := fun e => hnd (e ▸ hdk)
      have := ch.le (show k + 1 ≤ i by omega) (by omega)
      omega
  refine ⟨ρ', i + 1, H.filter (fun e => Nat.ble (M (i + 1)).nx e.1) ++ (M (i + 1)).H, hI.put ch ho hnd hedges s2 (den_mono s1 hv) (under_of hM1.fresh hv) (hk1.mono fun r hr => .inl hr) (by omega) ?_ ?_ ?_ ?_ ?_ ?_ hs1 ?_ ?_ ?_ ⟨?_, ?_, ?_, ?_⟩⟩
  · intro k ok hok hrk hak
    constructor
    · rintro (hdk | rfl)
      · apply Classical.byContradiction
        intro hge
        exact late k ok (by omega) hok hrk hak hdk
      · omega
    · intro hlt
      by_cases e : k = i
      · exact .inr e
      · exact .inl (early k ok (by omega) hok hrk)
  · intro k ok hok hak hlt
    have hki : k ≠ i := fun e => by subst e; rw [ho] at hok; simp at hok; subst hok; rw [hal] at hak; simp at hak
    exact .inl (early k ok (by omega) hok (al_rp hak))
  · intro id b hb
    have := idlt1 hb
    rw [sH, if_neg (by omega)]; exact hb
  · intro k ok id b hok hak hdk hik hlt e hb
    have hki : k ≠ i := by omega
    have hdk := hdk.resolve_right hki
    have h1 := hI.hb k ok id b hok hak hdk (by omega) hlt e hb
    have h2 := ch.le hik (by have := ch.lt hok; omega)
    rw [sH, if_pos (by omega), h1]; rfl
  · intro id b hb
    rcases cases' hb with ⟨h1, h2⟩ | ⟨h1, h2⟩
    · obtain ⟨k, ok, hok, hak, hdk, hik, hlt, e⟩ := later h1 h2
      exact .inr ⟨k, ok, hok, hak, .inl hdk, hik, hlt, e⟩
    · exact .inl ⟨h1, h2⟩
  · intro j hj id b hb
    by_cases e : j = i + 1
    · subst e
      obtain ⟨r, cc, cs, sp, -, -, g3, -⟩ := hM1.blk id b hb
      exact ⟨idlt1 hb, underL_of hM1.fresh g3⟩
    · by_cases hjc : j ≤ c
      · exact hI.uc j hjc id b hb
      · obtain ⟨-, v2, v3, -⟩ := hI.up ch (show c ≤ j by omega) (by omega) fun k ok h1 h2 hok hrk => by
          have hd := early k ok (by omega) hok hrk
          refine ⟨?_, hd⟩
          cases hak : alOp ok.op with
          | true => rfl
          | false => have := (hI.cm k ok hok hrk hak).1 hd; omega
        exact ⟨v2.lt _ (look_mem hb), v3 id b hb⟩
  · intro j hj
    by_cases h1 : j < (M i).nx
    · rw [r2 j (by omega)]; exact u4 j h1
    · rw [r1 j (by omega) hj]; exact orElse_some
  · intro k ok hok hak hdk j h1 h2
    have hki : k ≠ i := fun e => by subst e; rw [ho] at hok; simp at hok; subst hok; rw [hal] at hak; simp at hak
    obtain ⟨r, hr⟩ := Option.isSome_iff_exists.1 (hI.ta k ok hok hak (hdk.resolve_right hki) j h1 h2)
    rw [s2 j r hr]; rfl
  · intro k ok hok hdk hki j h1 h2
    have : ¬ ((M i).nx ≤ j ∧ j < (M (i + 1)).nx) := by
      intro ⟨h3, h4⟩
      rcases Nat.lt_or_gt_of_ne hki with h | h
      · have := ch.le (show k + 1 ≤ i by omega) (by omega); omega
      · have := ch.le (show i + 1 ≤ k by omega) (by have := ch.lt hok; omega); omega
    rw [r2 j this]
    exact hI.fr k ok hok hdk j h1 h2
  · intro r hr
    exact Nat.lt_of_lt_of_le (hI.m.size r hr) hk1.size
  · intro j hj
    rw [r2 j (by omega)]
    exact hI.m.fresh j hj
  · intro id b hb
    rcases cases' hb with ⟨h1, h2⟩ | ⟨h1, h2⟩
    · obtain ⟨r, cc, cs, sp, g1, g2, g3, g4, g5⟩ := hI.m.blk id b h2
      refine ⟨r, cc, cs, sp, s2 _ _ g1, g2, denL_mono s2 g3, ?_, g5⟩
      rw [hk1.block r (.inr ⟨id, cc, by omega, by rw [h2]; rfl, g1⟩)]
      exact g4
    · obtain ⟨r, cc, cs, sp, g1, g2, g3, g4, g5⟩ := hM1.blk id b h2
      exact ⟨r, cc, cs, sp, s1 _ _ g1, fun hro hb => g2 hro (.inl hb), denL_mono s1 g3, g4, g5⟩
  ·
    have mixed : ∀ {j k : Nat} {b b' : Blk} {r q d : Nat}, (M (i + 1)).nx ≤ j → Vx.look H j = some b → Vx.look (M (i + 1)).H k = some b' → ρ' j = some (r, q) → ρ' k = some (r, d) → False := by
      intro j k b b' r q d h1 h2 h3 hj hk
      have hkl := idlt1 h3
      rw [r2 j (by omega)] at hj
      obtain ⟨r3, c3, cs, sp, g1, g2, g3, g4, g5⟩ := hM1.blk k b' h3
      have e := s1 _ _ g1
      rw [hk] at e
      simp at e
      obtain ⟨rfl, rfl⟩ := e
      cases hro : b'.ro with
      | false => exact g2 hro (.inr ⟨j, q, by omega, by rw [h2]; rfl, hj⟩)
      | true =>
        obtain ⟨p, op, hop, hap, hdp, hip, hlt, e⟩ := later h1 h2
        have hpl := ch.lt hop
        have hun : p ∈ unord pre ops.size i := mem_unord ⟨hpl, by omega, by
          rw [Bool.eq_false_iff]; exact fun hb => by have := (o1 p hpl hb).1; omega, by rw [Bool.eq_false_iff]; exact fun hb => (o2 p hpl hb).1 hdp⟩
        have h5 := ch.ro i o ho hr hal ⟨p, op, hop, hap, hun⟩ k b' h3 hro
        have h6 := idlt h5
        rw [r2 k (by omega)] at hk
        have := hI.m.inj j k r q d (by rw [h2]; rfl) (by rw [u1 k b' h5]; rfl) hj hk
        omega
    intro j k r q d hj hk hrj hrk
    obtain ⟨bj, hbj⟩ := Option.isSome_iff_exists.1 hj
    obtain ⟨bk, hbk⟩ := Option.isSome_iff_exists.1 hk
    rcases cases' hbj with ⟨j1, j2⟩ | ⟨j1, j2⟩ <;> rcases cases' hbk with ⟨k1, k2⟩ | ⟨k1, k2⟩
    · rw [r2 j (by omega)] at hrj
      rw [r2 k (by omega)] at hrk
      exact hI.m.inj j k r q d (by rw [j2]; rfl) (by rw [k2]; rfl) hrj hrk
    · exact (mixed j1 j2 k2 hrj hrk).elim
    · exact (mixed k1 k2 j2 hrk hrj).elim
    · obtain ⟨rj, cj, -, -, g1, -⟩ := hM1.blk j bj j2
      obtain ⟨rk, ck, -, -, g2, -⟩ := hM1.blk k bk k2
      have e1 := s1 _ _ g1
      have e2 := s1 _ _ g2
      rw [hrj] at e1
      rw [hrk] at e2
      simp at e1 e2
      obtain ⟨rfl, rfl⟩ := e1
      obtain ⟨rfl, rfl⟩ := e2
      exact hM1.inj j k r q d (by rw [j2]; rfl) (by rw [k2]; rfl) g1 g2
theorem M_cut {nx n : Nat} (h : Vx.M σ ρ base H nx w) (hu : ∀ id b, Vx.look H id = some b → id < n ∧ V.underL n b.cells = true) : Vx.M σ (cut ρ n) base H n w := by
  have lt : ∀ {k}, (Vx.look H k).isSome = true → k < n := fun hk => by
    obtain ⟨b, hb⟩ := Option.isSome_iff_exists.1 hk
    exact (hu _ b hb).1
  refine ⟨h.size, fun j hj => by unfold cut; rw [if_neg (by omega)], fun id b hb => ?_, fun j k r q d hj hk hrj hrk => ?_⟩
  · obtain ⟨r, cc, cs, sp, g1, g2, g3, g4⟩ := h.blk id b hb
    exact ⟨r, cc, cs, sp, by unfold cut; rw [if_pos (hu id b hb).1]; exact g1, g2, by rw [denL_cut (hu id b hb).2]; exact g3, g4⟩
  · unfold cut at hrj hrk
    rw [if_pos (lt hj)] at hrj
    rw [if_pos (lt hk)] at hrk
    exact h.inj j k r q d hj hk hrj hrk
def full (ρ : Rho) (n : Nat) : Rho := fun j => if j < n then (ρ j).orElse (fun _ => some (0, 0)) else ρ j
theorem full_ext (n : Nat) : Ext ρ (full ρ n) := fun j r h => by
  unfold full
  split
  · rw [h]; rfl
  · exact h
theorem M_full {nx : Nat} (h : Vx.M σ ρ base H nx w) : Vx.M σ (full ρ nx) base H nx w := by
  refine ⟨h.size, fun j hj => by unfold full; rw [if_neg (by omega)]; exact h.fresh j hj, fun id b hb => ?_, fun j k r q d hj hk hrj hrk => ?_⟩
  · obtain ⟨r, cc, cs, sp, g1, g2, g3, g4⟩ := h.blk id b hb
    exact ⟨r, cc, cs, sp, full_ext nx _ _ g1, g2, denL_mono (full_ext nx) g3, g4⟩
  · have same : ∀ {k : Nat} {z : Nat × Nat}, (Vx.look H k).isSome = true → full ρ nx k = some z → ρ k = some z := fun hk hz => by
      obtain ⟨b, hb⟩ := Option.isSome_iff_exists.1 hk
      obtain ⟨r, cc, -, -, g1, -⟩ := h.blk _ b hb
      have := full_ext nx _ _ g1
      rw [hz] at this
      rw [g1, this]
    exact h.inj j k r q d hj hk (same hj hrj) (same hk hrk)
theorem dfx_keep {ρ' : Rho} {F' : F8} {a' : Act} (h : Dfx σ ρ (F 0) a) (he : Ext ρ ρ') (hg : gT 511 F' = gT 511 (F 0)) (hd : a'.defers = a.defers) : Dfx σ ρ' F' a' := by
  have := h.mono he
  unfold Dfx at this ⊢
  rw [hg, hd]
  exact this
theorem Chain.any (ch : Chain P N cl ops pre x F M) (hcl : ClOk P σ cl) (hN : N ≤ 511) {Q : Exit → Act → World → Prop} (hh : HX σ ρ0 base N (F 0) (M 0) a0 w0)
    (hL : ∀ ρ' a' w', Ext ρ0 ρ' → HX σ ρ' base N (F ops.size) (M ops.size) a' w' → Kp base w0 w' → Q .normal a' w') : wpAny P .any ops Q ops.size (Array.replicate ops.size false) a0 w0 := by
  have main : ∀ (fuel : Nat) (listed : Array Bool) (a : Act) (w : World) (ρ : Rho) (c : Nat) (H : Hp), DI P σ ρ0 base N ops x F M a0 w0 listed ρ c H a w → cntF listed.toList ≤ fuel → wpAny P .any ops Q fuel listed a w := by
    intro fuel
    have fin : ∀ (listed : Array Bool) (a : Act) (w : World) (ρ : Rho) (c : Nat) (H : Hp), DI P σ ρ0 base N ops x F M a0 w0 listed ρ c H a w → Region.ready .any ops listed = [] → Q .normal a w := by
      intro listed a w ρ c H hI hr
      have all : ∀ i, i < ops.size → Dn listed i := by
        intro i
        induction i using Nat.strongRecOn with
        | _ i ih =>
          intro hi
          apply Classical.byContradiction
          intro hnd'
          have ho := ch.at hi
          have : i ∈ Region.ready .any ops listed := (ready_iff hI.ls i).2 ⟨ops[i], ho, hnd', fun e he hb => by
            have := (closed_at ch.cls ho).1 e he hb
            exact ih e.on this (by omega)⟩
          rw [hr] at this
          simp at this
      obtain ⟨u1, u2, u3, u4⟩ := hI.up ch hI.cn (Nat.le_refl _) fun k o h1 h2 hok hrk => by
        refine ⟨?_, all k h2⟩
        cases hak : alOp o.op with
        | true => rfl
        | false => have := (hI.cm k o hok hrk hak).1 (all k h2); omega
      refine hL ρ a w hI.ext ⟨hI.ts, fun t ht => ?_, dfx_keep hh.d hI.ext ?_ hI.df, hI.m.sub u1, u2⟩ hI.bel
      · have ht5 : t < 512 := Nat.lt_of_lt_of_le ht (by omega)
        by_cases hex : ∃ (k : Nat) (o : Oper), ops.toList[k]? = some o ∧ o.dst = some t
        · obtain ⟨k, o, hok, hd⟩ := hex
          obtain ⟨v, h1, h2, -⟩ := hI.tn k o t (all k (ch.lt hok)) hok hd
          exact ⟨v, h1, by rw [ch.new hN ht5 hok hd (ch.lt hok) (Nat.le_refl _)]; exact h2⟩
        · obtain ⟨v, h1, h2, -⟩ := hI.to t ht fun k o _ hok hd => hex ⟨k, o, hok, hd⟩
          exact ⟨v, h1, by rw [ch.keep hN ht5 (Nat.le_refl _) fun k o _ hok hd => hex ⟨k, o, hok, hd⟩]; exact h2⟩
      · refine ch.keep hN (by omega) (Nat.le_refl _) fun k o _ hok hd => ?_
        have := ch.dn k o hok
        rw [hd] at this
        simp only [okD, Nat.blt_eq] at this
        omega
    induction fuel with
    | zero =>
      intro listed a w ρ c H hI hcnt
      have hr : Region.ready .any ops listed = [] := by
        rw [List.eq_nil_iff_forall_not_mem]
        intro i hi
        obtain ⟨o, ho, hnd', -⟩ := (ready_iff hI.ls i).1 hi
        have hil := ch.lt ho
        have hls := hI.ls
        have : listed.toList[i]? = some false := by
          rw [Array.getElem?_toList]
          unfold Dn at hnd'
          rw [Array.getElem?_eq_getElem (by omega)] at hnd' ⊢
          cases hb : listed[i] <;> simp_all
        exact cntF_zero _ i (by omega) this
      exact ⟨hr, fin _ _ _ _ _ _ hI hr⟩
    | succ fuel ih =>
      intro listed a w ρ c H hI hcnt
      refine ⟨fun hr => fin _ _ _ _ _ _ hI hr, fun i hi => ?_⟩
      obtain ⟨o, ho, hnd, hedges⟩ := (ready_iff hI.ls i).1 hi
      have hil := ch.lt ho
      have hls := hI.ls
      have hcnt' : cntF (listed.setIfInBounds i true).toList ≤ fuel := by
        have hfalse : listed.toList[i]? = some false := by
          rw [Array.getElem?_toList]
          unfold Dn at hnd
          rw [Array.getElem?_eq_getElem (by omega)] at hnd ⊢
          cases hb : listed[i] <;> simp_all
        have := cntF_set _ i hfalse
        simp only [Array.toList_setIfInBounds]
        omega
      obtain ⟨hop, hopc⟩ := hI.opOk ch hN ho hnd hedges
      obtain ⟨hwt, hsk⟩ := hI.wanted ch ho hop
      have hfrm := ch.frM ho
      have go : ∀ {ρ' c' H' v w'}, DI P σ ρ0 base N ops x F M a0 w0 (listed.setIfInBounds i true) ρ' c' H' (a.put o.dst v) w' → wpAny P .any ops Q fuel (listed.setIfInBounds i true) (a.put o.dst v) w' := fun h => ih _ _ _ _ _ _ h hcnt'
      unfold wpOp
      have ho' : ops[i]? = some o := by rw [← Array.getElem?_toList]; exact ho
      simp only [ho']
      cases hr : rpOp o.op with
      | true =>
        obtain ⟨e1, e2, h3⟩ := ch.rp ho hr
        have hkind : ∀ {k : Nat} {ok : Oper}, ops.toList[k]? = some ok → rpOp ok.op = false → k ≠ i := fun hk h e => by subst e; rw [ho] at hk; simp at hk; subst hk; rw [hr] at h; simp at h
        have pt : ∀ {v : Value}, den σ ρ (x i).toV = some v → V.under (M (i + 1)).nx (x i).toV = true → DI P σ ρ0 base N ops x F M a0 w0 (listed.setIfInBounds i true) ρ c H (a.put o.dst v) w := fun hv hu =>
          hI.put ch ho hnd hedges (Ext.refl _) hv hu (Kp.refl _ _) hI.cn (fun k ok hok h1 h2 => ⟨fun h => (hI.cm k ok hok h1 h2).1 (h.resolve_right (hkind hok h1)), fun h => .inl ((hI.cm k ok hok h1 h2).2 h)⟩) (fun k ok hok h1 h2 => .inl (hI.ca k ok hok h1 h2)) hI.ha
            (fun k ok id b hok h1 h2 h4 h5 h6 h7 => hI.hb k ok id b hok h1 (h2.resolve_right (hkind hok (al_rp h1))) h4 h5 h6 h7)
            (fun id b h => (hI.hd id b h).imp (fun h => h) fun ⟨k, ok, h1, h2, h3, h4⟩ => ⟨k, ok, h1, h2, .inl h3, h4⟩) hI.uc hI.sc hI.tot
            (fun k ok hok h1 h2 j h3 h4 => hI.ta k ok hok h1 (h2.resolve_right (hkind hok (al_rp h1))) j h3 h4) (fun k ok hok h1 h2 j h3 h4 => hI.fr k ok hok h1 j h3 h4) hI.m
        rcases h3 with ⟨hs, hx⟩ | ⟨hw, hev⟩
        · rw [hsk hs]
          simp only [Bool.false_eq_true, if_false]
          exact go (pt (by rw [hx]; exact undef_den) (by rw [hx]; rfl))
        · rw [hwt hw]
          simp only [if_true]
          refine .inl ?_
          classical
          let p : Nat → Bool := fun j => decide (∃ y v, adOf o.op = some y ∧ opv (toFr (F i) N) y = some v ∧ idV v = some j)
          rw [evp_read (H2 := (M i).H.filter fun e => p e.1) hr fun y v id hy hv hid => by
            rw [look_filter p, if_pos (decide_eq_true ⟨y, v, hy, hv, hid⟩)], evp_congr hfrm] at hev
          have hsub : ∀ id b, Vx.look ((M i).H.filter fun e => p e.1) id = some b → Vx.look H id = some b ∧ id < (M i).nx ∧ V.underL (M i).nx b.cells = true := by
            intro id b hb
            rw [look_filter p] at hb
            split at hb
            · rename_i hp
              obtain ⟨y, v, hy, hv, hid⟩ := of_decide_eq_true hp
              exact hI.rd ch ho hr hnd hedges (fun k ok hok hrk hun => ch.stab i o ho hr y v id hy hv hid k ok hok hrk hun) hb
            · simp at hb
          obtain ⟨v, k1, k2⟩ := evp_ok (P := P) (o := o) (pc := []) (a := a) hev (by simp) (by simp) hopc (M_cut (hI.m.sub fun id b hb => (hsub id b hb).1) fun id b hb => (hsub id b hb).2)
          unfold Oper.wp
          rw [k1]
          exact go (pt (den_mono (cut_ext _) k2) (by rw [e2]; exact under_of (fun j hj => by unfold cut; rw [if_neg (by omega)]) k2))
      | false =>
        cases hal : alOp o.op with
        | true =>
          have hci : c ≤ i := by
            apply Classical.byContradiction
            intro h
            exact hnd (hI.ca i o ho hal (by omega))
          have hkind : ∀ {k : Nat} {ok : Oper}, ops.toList[k]? = some ok → alOp ok.op = false → k ≠ i := fun hk h e => by subst e; rw [ho] at hk; simp at hk; subst hk; rw [hal] at h; simp at h
          have hnxT := ch.le (show i + 1 ≤ ops.size by omega) (Nat.le_refl _)
          have cm' : ∀ (k : Nat) (o : Oper), ops.toList[k]? = some o → rpOp o.op = false → alOp o.op = false → ((Dn listed k ∨ k = i) ↔ k < c) := fun k ok hok h1 h2 => ⟨fun h => (hI.cm k ok hok h1 h2).1 (h.resolve_right (hkind hok h2)), fun h => .inl ((hI.cm k ok hok h1 h2).2 h)⟩
          rcases ch.al ho hal with ⟨hs, hx, e1, e2⟩ | ⟨hw, t, z, s, hot, hz, hx, e1, e2⟩
          · rw [hsk hs]
            simp only [Bool.false_eq_true, if_false]
            refine go (hI.put ch ho hnd hedges (Ext.refl _) (by rw [hx]; exact undef_den) (by rw [hx]; rfl) (Kp.refl _ _) hI.cn cm' (fun k ok hok h1 h2 => .inl (hI.ca k ok hok h1 h2)) hI.ha ?_ ?_ hI.uc hI.sc hI.tot ?_ ?_ hI.m)
            · intro k ok id b hok h1 h2 h4 h5 h6 h7
              have hki : k ≠ i := fun e => by subst e; omega
              exact hI.hb k ok id b hok h1 (h2.resolve_right hki) h4 h5 h6 h7
            · intro id b h
              exact (hI.hd id b h).imp (fun h => h) fun ⟨k, ok, h1, h2, h3, h4⟩ => ⟨k, ok, h1, h2, .inl h3, h4⟩
            · intro k ok hok h1 h2 j h3 h4
              have hki : k ≠ i := fun e => by subst e; omega
              exact hI.ta k ok hok h1 (h2.resolve_right hki) j h3 h4
            · intro k ok hok h1 h2 j h3 h4; exact hI.fr k ok hok h1 j h3 h4
          · rw [hwt hw]
            simp only [if_true]
            refine .inl ?_
            have hρ : ρ (M i).nx = none := hI.fr i o ho hnd _ (Nat.le_refl _) (by omega)
            obtain ⟨nxt, v, ρ', w', k1, k2, k3, k4, k5, k6, k7⟩ := (evm_alloc (P := P) (a := a) (s := s) hI.m hρ (nx' := (M ops.size).nx) (by omega) (Nat.le_refl _) hz hot).ex
            have hnone : Vx.look H (M i).nx = none := hI.m.dom hρ
            have hD : DI P σ ρ0 base N ops x F M a0 w0 (listed.setIfInBounds i true) ρ' c (((M i).nx, ⟨t, s, z.cells, false, false⟩) :: H) (a.put o.dst v) w' := by
              refine hI.put ch ho hnd hedges k3 (by rw [hx]; exact k4) (by rw [hx]; simp [V.under]; omega) k6 hI.cn cm' (fun k ok hok h1 h2 => .inl (hI.ca k ok hok h1 h2)) ?_ ?_ ?_ hI.uc hI.sc ?_ ?_ ?_ k5
              · intro id b hb
                have := hI.ha id b hb
                rw [look_cons, if_neg (fun q => by rw [← q, hnone] at this; simp at this)]; exact this
              · intro k ok id b hok h1 h2 h4 h5 h6 h7
                by_cases hki : k = i
                · subst hki
                  rw [e1] at h7
                  subst h6
                  rw [look_cons, if_pos rfl] at h7 ⊢
                  exact h7
                · have := hI.hb k ok id b hok h1 (h2.resolve_right hki) h4 h5 h6 h7
                  rw [look_cons, if_neg (fun q => by rw [← q, hnone] at this; simp at this)]; exact this
              · intro id b hb
                rw [look_cons] at hb
                split at hb
                · rename_i e
                  exact .inr ⟨i, o, ho, hal, .inr rfl, hci, by omega, e.symm⟩
                · exact (hI.hd id b hb).imp (fun h => h) fun ⟨k, ok, h1, h2, h3, h4⟩ => ⟨k, ok, h1, h2, .inl h3, h4⟩
              · intro j hj
                obtain ⟨r, hr⟩ := Option.isSome_iff_exists.1 (hI.tot j hj)
                rw [k3 j r hr]; rfl
              · intro k ok hok h1 h2 j h3 h4
                by_cases hki : k = i
                · subst hki
                  have : j = (M k).nx := by omega
                  subst this
                  obtain ⟨r, cc, -, -, g1, -⟩ := k5.blk (M k).nx _ (by rw [look_cons, if_pos rfl])
                  rw [g1]; rfl
                · obtain ⟨r, hr⟩ := Option.isSome_iff_exists.1 (hI.ta k ok hok h1 (h2.resolve_right hki) j h3 h4)
                  rw [k3 j r hr]; rfl
              · intro k ok hok h1 h2 j h3 h4
                have hρj := hI.fr k ok hok h1 j h3 h4
                refine k7 j hρj ?_
                show Vx.look (((M i).nx, _) :: H) j = none
                rw [look_cons, if_neg ?_]
                · exact hI.m.dom hρj
                · intro q
                  rcases Nat.lt_or_gt_of_ne h2 with h | h
                  · have := ch.le (show k + 1 ≤ i by omega) (by omega); omega
                  · have := ch.le (show i + 1 ≤ k by omega) (by have := ch.lt hok; omega); omega
            unfold Oper.wp
            rw [k1]
            rcases k2 with rfl | ⟨rfl, rfl⟩ <;> exact go hD
        | false =>
          obtain ⟨hM, hS, haft⟩ := hI.after ch ho hr hal hnd hedges
          rcases ch.go i o ho with ⟨hw, hd⟩ | ⟨hs, hx, e1, e2⟩
          · rw [hwt hw]
            simp only [if_true]
            refine .inl ?_
            rcases hd with hev | ⟨f, args, ts, g, first, cap, as, ax, M', hoc, hf, has, hax, hcall, e1, e2⟩
            · rw [evo_congr hfrm] at hev
              obtain ⟨nxt, v, ρ', w', k1, k2, k3, k4, k5, k6⟩ := evo_ok (P := P) (o := o) (pc := []) (a := a) hev (by simp) (by simp) hopc hM
              obtain ⟨ρ2, c2, H2, hD⟩ := haft v ρ' w' k3 k4 k5 k6 (evo_srt hS hev)
              unfold Oper.wp
              rw [k1]
              rcases k2 with rfl | ⟨rfl, rfl⟩ <;> exact go hD
            · obtain ⟨⟨fn, f1, f2, f3⟩, hc⟩ := hcl _ _ _ _ _ hcall hS
              have hfo : ∀ y ∈ args.toList, opv (toFr (F i) N) y = opv (Px.frM N ops pre (F i) i) y := fun y hy => hfrm y (by rw [hoc]; simp [Op.operands, Call.operands]; exact .inr (by simpa using hy))
              rw [hfrm f (by rw [hoc]; simp [Op.operands, Call.operands])] at hf
              rw [mapO_congr hfo] at has
              obtain ⟨xs, h1, h2⟩ := exec_callX (P := P) (w := w) hopc hoc hf has f1 f2 f3
              unfold Oper.wp
              rw [h1]
              simp only [Oper.upon]
              refine (hc _ _ w xs (by rw [hax]; exact h2) hM).mono ?_
              rintro e w' ⟨v, ρ', rfl, k1, k2, k3, k4, hs⟩
              obtain ⟨ρ2, c2, H2, hD⟩ := haft v ρ' w' k2 k1 (by rw [e1, e2]; exact k3) k4 (by rw [e1, e2]; exact hs)
              exact go hD
          · rw [hsk hs]
            simp only [Bool.false_eq_true, if_false]
            obtain ⟨ρ2, c2, H2, hD⟩ := haft undef _ w (Ext.refl _) (by rw [hx]; exact undef_den) (by rw [e1, e2]; exact hM) (Kp.refl _ _) (by rw [e1, e2]; exact hS)
            exact go hD
  have full_none : ∀ j, (M 0).nx ≤ j → full ρ0 (M 0).nx j = none := (M_full hh.m).fresh
  refine main ops.size _ a0 w0 (full ρ0 (M 0).nx) 0 (M 0).H ⟨by simp, ?_, hh.n, ?_, ?_, Nat.zero_le _, ?_, ?_, fun id b h => h, ?_, ?_, ?_, hh.s, ?_, ?_, ?_, ?_, full_ext _, Kp.refl _ _, rfl⟩ (by rw [Array.toList_replicate, cntF_rep]; exact Nat.le_refl _)
  · intro i o hd; unfold Dn at hd; simp [Array.getElem?_replicate] at hd
  · intro i o t hd; unfold Dn at hd; simp [Array.getElem?_replicate] at hd
  · intro t ht _
    obtain ⟨v, h1, h2⟩ := hh.fs t ht
    exact ⟨v, h1, den_mono (full_ext _) h2, under_of hh.m.fresh h2⟩
  · intro k o hk h1 h2; exact ⟨fun hd => by unfold Dn at hd; simp [Array.getElem?_replicate] at hd, fun h => by omega⟩
  · intro k o hk h1 h2; omega
  · intro k o id b hk h1 hd; unfold Dn at hd; simp [Array.getElem?_replicate] at hd
  · intro id b hb; exact .inl ⟨hh.s.lt _ (look_mem hb), hb⟩
  · intro j hj id b hb
    have : j = 0 := by omega
    subst this
    obtain ⟨r, cc, cs, sp, -, -, g3, -⟩ := hh.m.blk id b hb
    exact ⟨hh.s.lt _ (look_mem hb), underL_of hh.m.fresh g3⟩
  · intro j hj; unfold full; rw [if_pos hj]; exact orElse_some
  · intro k o hk h1 hd; unfold Dn at hd; simp [Array.getElem?_replicate] at hd
  · intro k o hk _ j h1 _
    have := ch.le (Nat.zero_le k) (by have := ch.lt hk; omega)
    exact full_none j (by omega)
  · have := M_full hh.m
    have h0 := ch.le (Nat.zero_le ops.size) (Nat.le_refl _)
    exact ⟨this.size, fun i hi => this.fresh i (by omega), this.blk, this.inj⟩
end
end Go.Proofs.Ytehbfajmileefaa.Px
