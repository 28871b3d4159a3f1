/-
  QueuesEffective: effective classes, and the rounds in which entries are ripe, are those of the definition, or refused; they do not grow: for any entry, any round and any age. No condition: for every input.
-/
import Derived.Test.YtggglihcipaokaaQb
import Derived.Test.YtggglihcipaokaaY
namespace Go.Proofs.Ytggglihcipaokaa.lawEff
open Go.ChangeShapes Go.WideShapes Go.ChangeAt Go.RowKit Go.Joins Go.Deep
set_option linter.unusedVariables false
set_option maxRecDepth 100000 in
set_option maxHeartbeats 4000000 in
theorem lifted (os : Os) (started : os.Started) (H : Type) (enc : TypeId × Value → H) :
    ReturnsInHanded {} Try.checked os 5 .any (Rows.queuesEffectiveSpec.pre6 enc Try.prog Try.f5 Rows.queuesEffectiveRow.domain false) (Rows.queuesEffectiveSpec.post enc Try.prog Try.f5 false true false false) := by
  refine returnsInHanded_of_change (C := Try.checked) own started (by kernel_rfl) Try.func5
    (ChangeSpec.witness6 (enc := enc) (C := Try.checked) false ⟨#[], #[.agg #[.int .i64 0, .int .i64 0, .int .i64 0], .agg #[.int .i64 0, .int .i64 0]], []⟩ 8 (by kernel_rfl) (by kernel_rfl) (by kernel_rfl) (by kernel_rfl)) ?_
  intro W base args ds gs before hval0 hW hcnd _
  have hval : ∀ (j : Nat) t v, Try.f5.params[j]? = some t → args[j]? = some v → Value.okWide Try.prog W .any base t v := hval0
  have hW' := hW
  obtain ⟨p, q, hA0, hV, rfl, hfz, hnd⟩ := hW
  have hA : DataW.TrodAll enc Try.prog W 0 (fun _ => true) true Try.f5.params.toList args.toList ds p := hA0
  rw [Try.params5] at hA hval
  obtain ⟨v0, v1, d0, d1, p0, p1, rfl, rfl, rfl, h0, h1⟩ := trodAll_two hA
  obtain ⟨rfl, rfl⟩ := trodVars_none hV
  obtain ⟨l0, rfl, hl0, hf0⟩ := open_flat (ts := [3, 3, 2]) (.inl ⟨_, Try.underlying26⟩) (by kernel_rfl) (by kernel_rfl) (hval 0 26 v0 rfl rfl) h0
  obtain ⟨c0_0, c0_1, c0_2, rfl⟩ := list_len3 hl0
  obtain ⟨c, m, y, e, hy⟩ := hf0 0 _ rfl
  obtain rfl := Option.some.inj e
  obtain ⟨I, rfl, wf_I⟩ := cell_int Try.underlying3 hy
  obtain ⟨c, m, y, e, hy⟩ := hf0 1 _ rfl
  obtain rfl := Option.some.inj e
  obtain ⟨C, rfl, wf_C⟩ := cell_int Try.underlying3 hy
  obtain ⟨c, m, y, e, hy⟩ := hf0 2 _ rfl
  obtain rfl := Option.some.inj e
  obtain ⟨S, rfl, wf_S⟩ := cell_int Try.underlying2 hy
  obtain ⟨l1, m1, rfl, hl1, hf1⟩ := open_elems Try.underlying43 (show Try.prog.cellsOf 2 = 1 by kernel_rfl) (show Try.prog.cellsOf 43 = _ by kernel_rfl) (hval 1 43 v1 rfl rfl) h1
  obtain ⟨c1_0, c1_1, rfl⟩ := list_len2 hl1
  obtain ⟨c, y, e, hy⟩ := hf1 0 (by omega)
  obtain rfl := Option.some.inj e
  obtain ⟨z0, rfl, wf_z0⟩ := cell_int Try.underlying2 hy
  obtain ⟨c, y, e, hy⟩ := hf1 1 (by omega)
  obtain rfl := Option.some.inj e
  obtain ⟨z1, rfl, wf_z1⟩ := cell_int Try.underlying2 hy
  refine (law_any I C S z0 z1 (bounds_i64 wf_z1).1 (bounds_i64 wf_z1).2 W).mono fun e W' ⟨he, hw⟩ => ?_
  subst he
  exact ⟨_, rfl, law_post laidOut (by intro t ht; rw [Try.params5] at ht; revert t; decide +kernel) rfl Try.underlying4 rfl rfl hW' hw⟩
theorem proved : Rows.QueuesEffectiveSaid :=
  OpenClaim.holds_of_wide 5 Try.f5 rfl rfl rfl rfl rfl rfl rfl ⟨rfl, rfl, rfl, rfl, rfl⟩ rfl rfl rfl rfl rfl (by kernel_rfl) Try.func5 (by kernel_rfl)
    (of_decide_eq_true (by kernel_rfl)) (by unfold Func.isWrapper; rw [if_neg (of_decide_eq_false (by kernel_rfl))]; exact ⟨rfl, rfl⟩)
    (fun os started H enc _ => lifted os started H enc)
end Go.Proofs.Ytggglihcipaokaa.lawEff
