/-
  BucketsAfter: for every bucket of the drawn kind, time, number and place, a wait is enough and no lesser one is, and time may go on in one step or in two. No condition: for every input.
-/
import Derived.Test.YteojndglglkgpaaN
import Derived.Test.YteojndglglkgpaaI
import Derived.Test.YteojndglglkgpaaY
namespace Go.Proofs.Yteojndglglkgpaa.lawAfter
open Go.ChangeShapes Go.WideShapes Go.ChangeAt Go.RowKit Go.Joins Go.Deep
set_option linter.unusedVariables false
set_option maxRecDepth 100000 in
set_option maxHeartbeats 4000000 in
theorem lifted (os : Os) (started : os.Started) (H : Type) (enc : TypeId × Value → H) :
    ReturnsInHanded {} Try.checked os 5 .any (Rows.bucketsAfterSpec.pre6 enc Try.prog Try.f5 Rows.bucketsAfterRow.domain false) (Rows.bucketsAfterSpec.post enc Try.prog Try.f5 false true false false) := by
  refine returnsInHanded_of_change (C := Try.checked) own started (by kernel_rfl) Try.func5
    (ChangeSpec.witness6 (enc := enc) (C := Try.checked) false ⟨#[], #[.agg #[.int .u8 0, .int .u8 0, .int .u8 0, .int .u16 0, .int .u8 0], .int .u32 0, .agg #[.int .u16 0, .int .u16 0]], []⟩ 8 (by kernel_rfl) (by kernel_rfl) (by kernel_rfl) (by kernel_rfl)) ?_
  intro W base args ds gs before hval0 hW hcnd _
  have hval : ∀ (j : Nat) t v, Try.f5.params[j]? = some t → args[j]? = some v → Value.okWide Try.prog W .any base t v := hval0
  have hW' := hW
  obtain ⟨p, q, hA0, hV, rfl, hfz, hnd⟩ := hW
  have hA : DataW.TrodAll enc Try.prog W 0 (fun _ => true) true Try.f5.params.toList args.toList ds p := hA0
  rw [Try.params5] at hA hval
  obtain ⟨v0, v1, v2, d0, d1, d2, p0, p1, p2, rfl, rfl, rfl, h0, h1, h2⟩ := trodAll_three hA
  obtain ⟨rfl, rfl⟩ := trodVars_none hV
  obtain ⟨l0, m0, rfl, hl0, hf0⟩ := open_fields Try.underlying46 (by kernel_rfl) (show Try.prog.cellsOf 46 = _ by kernel_rfl) (hval 0 46 v0 rfl rfl) h0
  obtain ⟨c0_0, c0_1, c0_2, c0_3, c0_4, rfl⟩ := list_len5 hl0
  obtain ⟨c, y, e, hy⟩ := hf0 0 _ rfl
  obtain rfl := Option.some.inj e
  obtain ⟨r, rfl, wf_r⟩ := cell_int Try.underlying5 hy
  obtain ⟨c, y, e, hy⟩ := hf0 1 _ rfl
  obtain rfl := Option.some.inj e
  obtain ⟨b, rfl, wf_b⟩ := cell_int Try.underlying5 hy
  obtain ⟨c, y, e, hy⟩ := hf0 2 _ rfl
  obtain rfl := Option.some.inj e
  obtain ⟨t, rfl, wf_t⟩ := cell_int Try.underlying5 hy
  obtain ⟨c, y, e, hy⟩ := hf0 3 _ rfl
  obtain rfl := Option.some.inj e
  obtain ⟨l, rfl, wf_l⟩ := cell_int Try.underlying44 hy
  obtain ⟨c, y, e, hy⟩ := hf0 4 _ rfl
  obtain rfl := Option.some.inj e
  obtain ⟨g, rfl, wf_g⟩ := cell_int Try.underlying5 hy
  obtain ⟨n, rfl, -, -, wf_n⟩ := open_int Try.underlying47 (hval 1 47 v1 rfl rfl) h1
  obtain ⟨l2, m2, rfl, hl2, hf2⟩ := open_elems Try.underlying48 (show Try.prog.cellsOf 44 = 1 by kernel_rfl) (show Try.prog.cellsOf 48 = _ by kernel_rfl) (hval 2 48 v2 rfl rfl) h2
  obtain ⟨c2_0, c2_1, rfl⟩ := list_len2 hl2
  obtain ⟨c, y, e, hy⟩ := hf2 0 (by omega)
  obtain rfl := Option.some.inj e
  obtain ⟨z0, rfl, wf_z0⟩ := cell_int Try.underlying44 hy
  obtain ⟨c, y, e, hy⟩ := hf2 1 (by omega)
  obtain rfl := Option.some.inj e
  obtain ⟨z1, rfl, wf_z1⟩ := cell_int Try.underlying44 hy
  refine (lawAfter_any lives_any r b t l g n z0 z1 (by
      simp [Lit.wf, IntKind.min, IntKind.max, IntKind.signed, IntKind.bits] at wf_r wf_b wf_t wf_l wf_g
      exact ⟨by omega, by omega, by omega, by omega, by omega, by omega, by omega, by omega, by omega, by omega⟩) (by simpa [Lit.wf, IntKind.min, IntKind.max, IntKind.signed, IntKind.bits] using wf_n)
      (by simpa [Lit.wf, IntKind.min, IntKind.max, IntKind.signed, IntKind.bits] using wf_z0) (by simpa [Lit.wf, IntKind.min, IntKind.max, IntKind.signed, IntKind.bits] using wf_z1) W).mono fun e W' ⟨he, hw⟩ => ?_
  subst he
  exact ⟨_, rfl, law_post laidOut (by intro t ht; rw [Try.params5] at ht; revert t; decide +kernel) rfl Try.underlying4 rfl rfl hW' hw⟩
theorem proved : Rows.BucketsAfterSaid :=
  OpenClaim.holds_of_wide 5 Try.f5 rfl rfl rfl rfl rfl rfl rfl ⟨rfl, rfl, rfl, rfl, rfl⟩ rfl rfl rfl rfl rfl (by kernel_rfl) Try.func5 (by kernel_rfl)
    (of_decide_eq_true (by kernel_rfl)) (by unfold Func.isWrapper; rw [if_neg (of_decide_eq_false (by kernel_rfl))]; exact ⟨rfl, rfl⟩)
    (fun os started H enc _ => lifted os started H enc)
end Go.Proofs.Yteojndglglkgpaa.lawAfter
