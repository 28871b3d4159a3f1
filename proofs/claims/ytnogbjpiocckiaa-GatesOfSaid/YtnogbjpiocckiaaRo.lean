/-
  GatesOf: for every client, Cap and flaw the gate of the client is that of the definition, or is refused. No condition: for every input.
-/
import Derived.Test.YtnogbjpiocckiaaLo
import Derived.Test.YtnogbjpiocckiaaY
namespace Go.Proofs.Ytnogbjpiocckiaa.lawOf
open Go.ChangeShapes Go.WideShapes Go.ChangeAt Go.RowKit Go.Joins Go.Deep
set_option linter.unusedVariables false
set_option maxRecDepth 100000 in
set_option maxHeartbeats 4000000 in
theorem lifted (os : Os) (started : os.Started) (H : Type) (enc : TypeId × Value → H) :
    ReturnsInHanded {} Try.checked os 4 .any (Rows.gatesOfSpec.pre6 enc Try.prog Try.f4 Rows.gatesOfRow.domain false) (Rows.gatesOfSpec.post enc Try.prog Try.f4 false true false false) := by
  refine returnsInHanded_of_change (C := Try.checked) own started (by kernel_rfl) Try.func4
    (ChangeSpec.witness6 (enc := enc) (C := Try.checked) false ⟨#[], #[.agg #[.int .i64 0, .int .i64 0, .int .i64 0], .int .i64 0, .int .u8 0], []⟩ 8 (by kernel_rfl) (by kernel_rfl) (by kernel_rfl) (by kernel_rfl)) ?_
  intro W_ base args ds gs before hval0 hW hcnd _
  have hval : ∀ (j : Nat) t v, Try.f4.params[j]? = some t → args[j]? = some v → Value.okWide Try.prog W_ .any base t v := hval0
  have hW' := hW
  obtain ⟨p, q, hA0, hV, rfl, hfz, hnd⟩ := hW
  have hA : DataW.TrodAll enc Try.prog W_ 0 (fun _ => true) true Try.f4.params.toList args.toList ds p := hA0
  rw [Try.params4] at hA hval
  obtain ⟨v0, v1, v2, d0, d1, d2, p0, p1, p2, rfl, rfl, rfl, h0, h1, h2⟩ := trodAll_three hA
  obtain ⟨rfl, rfl⟩ := trodVars_none hV
  obtain ⟨l0, m0, rfl, hl0, hf0⟩ := open_fields Try.underlying43 (by kernel_rfl) (show Try.prog.cellsOf 43 = _ by kernel_rfl) (hval 0 43 v0 rfl rfl) h0
  obtain ⟨c0_0, c0_1, c0_2, rfl⟩ := list_len3 hl0
  obtain ⟨c, y, e, hy⟩ := hf0 0 _ rfl
  obtain rfl := Option.some.inj e
  obtain ⟨W, rfl, wf_W⟩ := cell_int Try.underlying3 hy
  obtain ⟨c, y, e, hy⟩ := hf0 1 _ rfl
  obtain rfl := Option.some.inj e
  obtain ⟨R, rfl, wf_R⟩ := cell_int Try.underlying2 hy
  obtain ⟨c, y, e, hy⟩ := hf0 2 _ rfl
  obtain rfl := Option.some.inj e
  obtain ⟨B, rfl, wf_B⟩ := cell_int Try.underlying2 hy
  obtain ⟨m, rfl, -, -, wf_m⟩ := open_int Try.underlying3 (hval 1 3 v1 rfl rfl) h1
  obtain ⟨f, rfl, -, -, wf_f⟩ := open_int Try.underlying5 (hval 2 5 v2 rfl rfl) h2
  refine (lawOf_any W R B m f W_).mono fun e W' ⟨he, hw⟩ => ?_
  subst he
  exact ⟨_, rfl, law_post laidOut (by intro t ht; rw [Try.params4] at ht; revert t; decide +kernel) rfl Try.underlying4 rfl rfl hW' hw⟩
theorem proved : Rows.GatesOfSaid :=
  OpenClaim.holds_of_wide 4 Try.f4 rfl rfl rfl rfl rfl rfl rfl ⟨rfl, rfl, rfl, rfl, rfl⟩ rfl rfl rfl rfl rfl (by kernel_rfl) Try.func4 (by kernel_rfl)
    (of_decide_eq_true (by kernel_rfl)) (by unfold Func.isWrapper; rw [if_neg (of_decide_eq_false (by kernel_rfl))]; exact ⟨rfl, rfl⟩)
    (fun os started H enc _ => lifted os started H enc)
end Go.Proofs.Ytnogbjpiocckiaa.lawOf
