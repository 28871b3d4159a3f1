import Derived.Test.YtehbfajmileefaaJz
import Derived.Test.YtehbfajmileefaaYs
set_option linter.unusedVariables false
namespace Go.Proofs.Ytehbfajmileefaa.lawTakes
open Go.ChangeShapes Go.WideShapes Go.ChangeAt Go.RowKit Go.Joins Go.Deep Go.Proofs.Ytehbfajmileefaa.Hx
set_option maxRecDepth 100000 in
set_option maxHeartbeats 4000000 in
theorem lifted (os : Os) (started : os.Started) (H : Type) (enc : TypeId × Value → H) :
    ReturnsInHanded {} Try.checked os 4 .any (Rows.turnsTakesSpec.pre6 enc Try.prog Try.f4 Rows.turnsTakesRow.domain false) (Rows.turnsTakesSpec.post enc Try.prog Try.f4 false true false false) := by
  refine returnsInHanded_of_change (C := Try.checked) own started (by kernel_rfl) Try.func4
    (ChangeSpec.witness6 (enc := enc) (C := Try.checked) false ⟨#[], #[.agg #[.slice none 0 0, .int .u8 0, .int .u8 0, .int .u8 0], .slice none 0 0, .int .i64 0], []⟩ 8 (by kernel_rfl) (by kernel_rfl) (by kernel_rfl) (by kernel_rfl)) ?_
  intro W base args ds gs before hval0 hW hcnd _
  have hval : ∀ (j : Nat) t v, Try.f4.params[j]? = some t → args[j]? = some v → Value.okWide Try.prog W .any base t v := hval0
  have hW' := hW
  obtain ⟨p, q, hA0, hV, rfl, hfz, hnd⟩ := hW
  have hA : DataW.TrodAll enc Try.prog W 0 (fun _ => true) true Try.f4.params.toList args.toList ds p := hA0
  rw [Try.params4] at hA hval
  obtain ⟨v0, v1, v2, d0, d1, d2, p0, p1, p2, rfl, rfl, rfl, h0, h1, h2⟩ := trodAll_three hA
  obtain ⟨rfl, rfl⟩ := trodVars_none hV
  have hv0 := hval 0 42 v0 rfl rfl
  obtain ⟨l0, rfl, hl0, hf0⟩ := open_flat (ts := [40, 5, 5, 5]) (.inl ⟨_, Try.underlying42⟩) (by kernel_rfl) (by kernel_rfl) hv0 h0
  obtain ⟨c0, c1, c2, c3, rfl⟩ := list_len4 hl0
  obtain ⟨c, m, y, e, hy⟩ := hf0 0 _ rfl
  obtain rfl := Option.some.inj e
  obtain ⟨qa, n, capa, sba, soa, C, rfl, hna, hqa, hxa⟩ := open_rows_cell Try.underlying40 (ts := [5]) (by kernel_rfl) (by kernel_rfl) (by simp) hy
  have each : ∀ i, i < n → ∃ x : Int, C i 0 = .int .u8 x ∧ (Lit.int .u8 x).wf = true := by
    intro i hi
    obtain ⟨_, m0, z0, h0⟩ := hxa i hi 0 _ rfl
    obtain ⟨x, e, wf⟩ := cell_int Try.underlying5 h0
    exact ⟨x, e, wf⟩
  obtain ⟨X, hX⟩ := choose_lt each
  obtain ⟨c, m, y, e, hy⟩ := hf0 1 _ rfl
  obtain rfl := Option.some.inj e
  obtain ⟨a, rfl, wa⟩ := cell_int Try.underlying5 hy
  obtain ⟨c, m, y, e, hy⟩ := hf0 2 _ rfl
  obtain rfl := Option.some.inj e
  obtain ⟨b, rfl, wb⟩ := cell_int Try.underlying5 hy
  obtain ⟨c, m, y, e, hy⟩ := hf0 3 _ rfl
  obtain rfl := Option.some.inj e
  obtain ⟨d, rfl, wd⟩ := cell_int Try.underlying5 hy
  have u8 : ∀ {x : Int}, (Lit.int .u8 x).wf = true → 0 ≤ x ∧ x ≤ 255 := by
    intro x h
    simp [Lit.wf, IntKind.min, IntKind.max, IntKind.signed, IntKind.bits] at h
    omega
  have hv1 := hval 1 43 v1 rfl rfl
  obtain ⟨qb, nb, capb, sbb, sob, D, rfl, hnb, hqb, hxb⟩ := open_rows Try.underlying43 (ts := [25]) (by kernel_rfl) (by kernel_rfl) (by simp) hv1 h1
  have eachb : ∀ i, i < nb → ∃ L : List Bool, InL W Value.bool (D i 0) L := by
    intro i hi
    obtain ⟨_, m0, z0, h0⟩ := hxb i hi 0 _ rfl
    obtain ⟨L, hL, -⟩ := inL_of (α := Bool) Value.bool Try.underlying25 (by kernel_rfl) (fun h => cell_bool Try.underlying4 h) h0
    exact ⟨L, hL⟩
  obtain ⟨Y, hY⟩ := choose_lt eachb
  obtain ⟨k, rfl, -, -, wf_k⟩ := open_int Try.underlying3 (hval 2 3 v2 rfl rfl) h2
  have s0 : SlIn W qa n capa := by
    simp only [Value.okWide, Try.underlying42] at hv0
    obtain ⟨cs, e0, -, ts, k1, -, k3⟩ := hv0
    simp at e0
    subst e0
    obtain ⟨u, k4, k5⟩ := k3 0 _ rfl
    have kt : Try.prog.cellTypes Try.prog.depth 42 = some [40, 5, 5, 5] := by kernel_rfl
    rw [kt] at k1
    simp at k1
    subst k1
    simp at k4
    subst k4
    exact slIn_of Try.underlying40 k5
  have main := takes_calls (w := W) (q := qa) (q' := qb) (us := (List.range n).map X) (ls := (List.range nb).map Y) (a := a) (b := b) (c := d) (k := k) (cap := capa) (sb := sba) (so := soa) (cap' := capb) (sb' := sbb) (so' := sob)
    (by
      intro u hu
      obtain ⟨i, hi, rfl⟩ := List.mem_map.1 hu
      exact (u8 (hX i (List.mem_range.1 hi)).2).1) (u8 wa) (u8 wb) (u8 wd) (by simpa using s0) (fun h => (hqa (by simpa using h)).1)
    (by
      intro i hi
      have hi' : i < n := by simpa using hi
      have := (hxa i hi' 0 _ rfl).1
      rw [(hX i hi').1] at this
      simpa using this) (by simpa using slIn_val Try.underlying43 hv1) (fun h => (hqb (by simpa using h)).1)
    (by
      intro i hi
      have hi' : i < nb := by simpa using hi
      have := (hxb i hi' 0 _ rfl).1
      exact ⟨D i 0, by simpa using this, by simpa using hY i hi'⟩)
  simp only [List.length_map, List.length_range] at main
  refine main.mono fun e W' ⟨he, hw⟩ => ?_
  subst he
  exact ⟨_, rfl, law_post laidOut (by intro t ht; rw [Try.params4] at ht; revert t; decide +kernel) rfl Try.underlying4 rfl rfl hW' hw⟩
theorem proved : Rows.TurnsTakesSaid :=
  OpenClaim.holds_of_wide 4 Try.f4 rfl rfl rfl rfl rfl rfl rfl ⟨rfl, rfl, rfl, rfl, rfl⟩ rfl rfl rfl rfl rfl (by kernel_rfl) Try.func4 (by kernel_rfl)
    (of_decide_eq_true (by kernel_rfl)) (by unfold Func.isWrapper; rw [if_neg (of_decide_eq_false (by kernel_rfl))]; exact ⟨rfl, rfl⟩)
    (fun os started H enc _ => lifted os started H enc)
end Go.Proofs.Ytehbfajmileefaa.lawTakes
