/-
  GatesAsk: gates are valid, and decide, as the definition says, or refuse: for every gate, time, number of tokens and number of items. No condition: for every input.
-/
import Derived.Test.YtnogbjpiocckiaaLg
import Derived.Test.YtnogbjpiocckiaaY
namespace Go.Proofs.Ytnogbjpiocckiaa.lawAsk
open Go.ChangeShapes Go.WideShapes Go.ChangeAt Go.RowKit Go.Joins Go.Deep
set_option linter.unusedVariables false
set_option maxRecDepth 100000 in
set_option maxHeartbeats 4000000 in
theorem lifted (os : Os) (started : os.Started) (H : Type) (enc : TypeId × Value → H) :
    ReturnsInHanded {} Try.checked os 3 .any (Rows.gatesAskSpec.pre6 enc Try.prog Try.f3 Rows.gatesAskRow.domain false) (Rows.gatesAskSpec.post enc Try.prog Try.f3 false true false false) := by
  refine returnsInHanded_of_change (C := Try.checked) own started (by kernel_rfl) Try.func3
    (ChangeSpec.witness6 (enc := enc) (C := Try.checked) false ⟨#[], #[.agg #[.int .i64 0, .int .i64 0, .int .i64 0, .int .i64 0, .int .i64 0, .int .i64 0, .bool false], .agg #[.int .i64 0, .int .i64 0], .int .i64 0], []⟩ 8 (by kernel_rfl) (by kernel_rfl) (by kernel_rfl) (by kernel_rfl)) ?_
  intro W_ base args ds gs before hval0 hW hcnd _
  have hval : ∀ (j : Nat) t v, Try.f3.params[j]? = some t → args[j]? = some v → Value.okWide Try.prog W_ .any base t v := hval0
  have hW' := hW
  obtain ⟨p, q, hA0, hV, rfl, hfz, hnd⟩ := hW
  have hA : DataW.TrodAll enc Try.prog W_ 0 (fun _ => true) true Try.f3.params.toList args.toList ds p := hA0
  rw [Try.params3] at hA hval
  obtain ⟨v0, v1, v2, d0, d1, d2, p0, p1, p2, rfl, rfl, rfl, h0, h1, h2⟩ := trodAll_three hA
  obtain ⟨rfl, rfl⟩ := trodVars_none hV
  obtain ⟨l0, rfl, hl0, hf0⟩ := open_flat (ts := [2, 2, 2, 2, 3, 3, 4]) (.inl ⟨_, Try.underlying25⟩) (by kernel_rfl) (by kernel_rfl) (hval 0 25 v0 rfl rfl) h0
  obtain ⟨c0_0, c0_1, c0_2, c0_3, c0_4, c0_5, c0_6, rfl⟩ := list_len7 hl0
  obtain ⟨c, m, y, e, hy⟩ := hf0 0 _ rfl
  obtain rfl := Option.some.inj e
  obtain ⟨R, rfl, wf_R⟩ := cell_int Try.underlying2 hy
  obtain ⟨c, m, y, e, hy⟩ := hf0 1 _ rfl
  obtain rfl := Option.some.inj e
  obtain ⟨B, rfl, wf_B⟩ := cell_int Try.underlying2 hy
  obtain ⟨c, m, y, e, hy⟩ := hf0 2 _ rfl
  obtain rfl := Option.some.inj e
  obtain ⟨S, rfl, wf_S⟩ := cell_int Try.underlying2 hy
  obtain ⟨c, m, y, e, hy⟩ := hf0 3 _ rfl
  obtain rfl := Option.some.inj e
  obtain ⟨L, rfl, wf_L⟩ := cell_int Try.underlying2 hy
  obtain ⟨c, m, y, e, hy⟩ := hf0 4 _ rfl
  obtain rfl := Option.some.inj e
  obtain ⟨C, rfl, wf_C⟩ := cell_int Try.underlying3 hy
  obtain ⟨c, m, y, e, hy⟩ := hf0 5 _ rfl
  obtain rfl := Option.some.inj e
  obtain ⟨W, rfl, wf_W⟩ := cell_int Try.underlying3 hy
  obtain ⟨c, m, y, e, hy⟩ := hf0 6 _ rfl
  obtain rfl := Option.some.inj e
  obtain ⟨E, rfl⟩ := cell_bool Try.underlying4 hy
  obtain ⟨l1, m1, rfl, hl1, hf1⟩ := open_elems Try.underlying26 (show Try.prog.cellsOf 2 = 1 by kernel_rfl) (show Try.prog.cellsOf 26 = _ by kernel_rfl) (hval 1 26 v1 rfl rfl) h1
  obtain ⟨c1_0, c1_1, rfl⟩ := list_len2 hl1
  obtain ⟨c, y, e, hy⟩ := hf1 0 (by omega)
  obtain rfl := Option.some.inj e
  obtain ⟨z0, rfl, wf_z0⟩ := cell_int Try.underlying2 hy
  obtain ⟨c, y, e, hy⟩ := hf1 1 (by omega)
  obtain rfl := Option.some.inj e
  obtain ⟨z1, rfl, wf_z1⟩ := cell_int Try.underlying2 hy
  obtain ⟨k, rfl, -, -, wf_k⟩ := open_int Try.underlying3 (hval 2 3 v2 rfl rfl) h2
  refine (lawAsk_any R B S L C W E z0 z1 k W_).mono fun e W' ⟨he, hw⟩ => ?_
  subst he
  exact ⟨_, rfl, law_post laidOut (by intro t ht; rw [Try.params3] at ht; revert t; decide +kernel) rfl Try.underlying4 rfl rfl hW' hw⟩
theorem proved : Rows.GatesAskSaid :=
  OpenClaim.holds_of_wide 3 Try.f3 rfl rfl rfl rfl rfl rfl rfl ⟨rfl, rfl, rfl, rfl, rfl⟩ rfl rfl rfl rfl rfl (by kernel_rfl) Try.func3 (by kernel_rfl)
    (of_decide_eq_true (by kernel_rfl)) (by unfold Func.isWrapper; rw [if_neg (of_decide_eq_false (by kernel_rfl))]; exact ⟨rfl, rfl⟩)
    (fun os started H enc _ => lifted os started H enc)
end Go.Proofs.Ytnogbjpiocckiaa.lawAsk
