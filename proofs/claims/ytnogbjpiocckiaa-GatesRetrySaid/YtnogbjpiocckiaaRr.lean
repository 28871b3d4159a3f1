/-
  GatesRetry: without a flaw, what is not admitted is admitted After ticks later, if there is room then, and not earlier; -1 is told exactly if no time is enough: for every gate of small numbers or of great ones, number of tokens and of items, and time gone on. No condition: for every input.
-/
import Derived.Test.YtnogbjpiocckiaaLs
import Derived.Test.YtnogbjpiocckiaaY
namespace Go.Proofs.Ytnogbjpiocckiaa.lawRetry
open Go.ChangeShapes Go.WideShapes Go.ChangeAt Go.RowKit Go.Joins Go.Deep
set_option linter.unusedVariables false
set_option maxRecDepth 100000 in
set_option maxHeartbeats 4000000 in
theorem lifted (os : Os) (started : os.Started) (H : Type) (enc : TypeId × Value → H) :
    ReturnsInHanded {} Try.checked os 5 .any (Rows.gatesRetrySpec.pre6 enc Try.prog Try.f5 Rows.gatesRetryRow.domain false) (Rows.gatesRetrySpec.post enc Try.prog Try.f5 false true false false) := by
  refine returnsInHanded_of_change (C := Try.checked) own started (by kernel_rfl) Try.func5
    (ChangeSpec.witness6 (enc := enc) (C := Try.checked) false ⟨#[], #[.agg #[.int .u8 0, .int .u8 0, .int .u8 0, .int .u16 0, .int .u8 0, .int .u8 0, .int .u8 0, .bool false], .int .u32 0, .agg #[.int .u8 0, .int .u8 0]], []⟩ 8 (by kernel_rfl) (by kernel_rfl) (by kernel_rfl) (by kernel_rfl)) ?_
  intro W_ base args ds gs before hval0 hW hcnd _
  have hval : ∀ (j : Nat) t v, Try.f5.params[j]? = some t → args[j]? = some v → Value.okWide Try.prog W_ .any base t v := hval0
  have hW' := hW
  obtain ⟨p, q, hA0, hV, rfl, hfz, hnd⟩ := hW
  have hA : DataW.TrodAll enc Try.prog W_ 0 (fun _ => true) true Try.f5.params.toList args.toList ds p := hA0
  rw [Try.params5] at hA hval
  obtain ⟨v0, v1, v2, d0, d1, d2, p0, p1, p2, rfl, rfl, rfl, h0, h1, h2⟩ := trodAll_three hA
  obtain ⟨rfl, rfl⟩ := trodVars_none hV
  obtain ⟨l0, rfl, hl0, hf0⟩ := open_flat (ts := [5, 5, 5, 47, 5, 5, 5, 4]) (.inl ⟨_, Try.underlying51⟩) (by kernel_rfl) (by kernel_rfl) (hval 0 51 v0 rfl rfl) h0
  obtain ⟨c0_0, c0_1, c0_2, c0_3, c0_4, c0_5, c0_6, c0_7, rfl⟩ := list_len8 hl0
  obtain ⟨c, m, y, e, hy⟩ := hf0 0 _ rfl
  obtain rfl := Option.some.inj e
  obtain ⟨r, rfl, wf_r⟩ := cell_int Try.underlying5 hy
  obtain ⟨c, m, y, e, hy⟩ := hf0 1 _ rfl
  obtain rfl := Option.some.inj e
  obtain ⟨b, rfl, wf_b⟩ := cell_int Try.underlying5 hy
  obtain ⟨c, m, y, e, hy⟩ := hf0 2 _ rfl
  obtain rfl := Option.some.inj e
  obtain ⟨t, rfl, wf_t⟩ := cell_int Try.underlying5 hy
  obtain ⟨c, m, y, e, hy⟩ := hf0 3 _ rfl
  obtain rfl := Option.some.inj e
  obtain ⟨l, rfl, wf_l⟩ := cell_int Try.underlying47 hy
  obtain ⟨c, m, y, e, hy⟩ := hf0 4 _ rfl
  obtain rfl := Option.some.inj e
  obtain ⟨g, rfl, wf_g⟩ := cell_int Try.underlying5 hy
  obtain ⟨c, m, y, e, hy⟩ := hf0 5 _ rfl
  obtain rfl := Option.some.inj e
  obtain ⟨c, rfl, wf_c⟩ := cell_int Try.underlying5 hy
  obtain ⟨c, m, y, e, hy⟩ := hf0 6 _ rfl
  obtain rfl := Option.some.inj e
  obtain ⟨w, rfl, wf_w⟩ := cell_int Try.underlying5 hy
  obtain ⟨c, m, y, e, hy⟩ := hf0 7 _ rfl
  obtain rfl := Option.some.inj e
  obtain ⟨E, rfl⟩ := cell_bool Try.underlying4 hy
  obtain ⟨n, rfl, -, -, wf_n⟩ := open_int Try.underlying52 (hval 1 52 v1 rfl rfl) h1
  obtain ⟨l2, rfl, hl2, hf2⟩ := open_flat (ts := [5, 5]) (.inr ⟨_, _, Try.underlying53⟩) (by kernel_rfl) (by kernel_rfl) (hval 2 53 v2 rfl rfl) h2
  obtain ⟨c2_0, c2_1, rfl⟩ := list_len2 hl2
  obtain ⟨c, m, y, e, hy⟩ := hf2 0 _ rfl
  obtain rfl := Option.some.inj e
  obtain ⟨z0, rfl, wf_z0⟩ := cell_int Try.underlying5 hy
  obtain ⟨c, m, y, e, hy⟩ := hf2 1 _ rfl
  obtain rfl := Option.some.inj e
  obtain ⟨z1, rfl, wf_z1⟩ := cell_int Try.underlying5 hy
  refine (lawRetry_any ⟨(bounds_u8 wf_r).1, (bounds_u8 wf_r).2, (bounds_u8 wf_b).1, (bounds_u8 wf_b).2, (bounds_u8 wf_t).1, (bounds_u8 wf_t).2, (bounds_u16 wf_l).1, (bounds_u16 wf_l).2, (bounds_u8 wf_g).1, (bounds_u8 wf_g).2⟩ ⟨(bounds_u8 wf_c).1, (bounds_u8 wf_c).2, (bounds_u8 wf_w).1, (bounds_u8 wf_w).2, (bounds_u32 wf_n).1, (bounds_u32 wf_n).2, (bounds_u8 wf_z0).1, (bounds_u8 wf_z0).2, (bounds_u8 wf_z1).1, (bounds_u8 wf_z1).2⟩ W_).mono fun e W' ⟨he, hw⟩ => ?_
  subst he
  exact ⟨_, rfl, law_post laidOut (by intro t ht; rw [Try.params5] at ht; revert t; decide +kernel) rfl Try.underlying4 rfl rfl hW' hw⟩
theorem proved : Rows.GatesRetrySaid :=
  OpenClaim.holds_of_wide 5 Try.f5 rfl rfl rfl rfl rfl rfl rfl ⟨rfl, rfl, rfl, rfl, rfl⟩ rfl rfl rfl rfl rfl (by kernel_rfl) Try.func5 (by kernel_rfl)
    (of_decide_eq_true (by kernel_rfl)) (by unfold Func.isWrapper; rw [if_neg (of_decide_eq_false (by kernel_rfl))]; exact ⟨rfl, rfl⟩)
    (fun os started H enc _ => lifted os started H enc)
end Go.Proofs.Ytnogbjpiocckiaa.lawRetry
