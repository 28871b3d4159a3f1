/-
  CodecsNil: a nil writer writes nothing, a nil reader reads nothing, the zero ones are empty: for every value and any limit. No condition: for every input.
-/
import Derived.Test.YtfihjaiemjbfiaaNl
import Derived.Test.YtfihjaiemjbfiaaY
namespace Go.Proofs.Ytfihjaiemjbfiaa.lawNil
open Go.ChangeShapes Go.WideShapes Go.ChangeAt Go.RowKit Go.Joins Go.Deep
set_option linter.unusedVariables false
set_option maxRecDepth 100000 in
set_option maxHeartbeats 4000000 in
theorem lifted (os : Os) (started : os.Started) (H : Type) (enc : TypeId × Value → H) :
    ReturnsInHanded {} Try.checked os 7 .any (Rows.codecsNilSpec.pre6 enc Try.prog Try.f7 Rows.codecsNilRow.domain false) (Rows.codecsNilSpec.post enc Try.prog Try.f7 false true false false) := by
  refine returnsInHanded_of_change (C := Try.checked) own started (by kernel_rfl) Try.func7
    (ChangeSpec.witness6 (enc := enc) (C := Try.checked) false ⟨#[], #[.agg #[.int .u8 0, .int .u64 0, .string ByteArray.empty, .string ByteArray.empty, .string ByteArray.empty, .string ByteArray.empty, .string ByteArray.empty, .string ByteArray.empty], .int .i64 0], []⟩ 8 (by kernel_rfl) (by kernel_rfl) (by kernel_rfl) (by kernel_rfl)) ?_
  intro W base args ds gs before hval0 hW hcnd _
  have hval : ∀ (j : Nat) t v, Try.f7.params[j]? = some t → args[j]? = some v → Value.okWide Try.prog W .any base t v := hval0
  have hW' := hW
  obtain ⟨p, q, hA0, hV, rfl, hfz, hnd⟩ := hW
  have hA : DataW.TrodAll enc Try.prog W 0 (fun _ => true) true Try.f7.params.toList args.toList ds p := hA0
  rw [Try.params7] at hA hval
  obtain ⟨v0, v1, d0, d1, p0, p1, rfl, rfl, rfl, h0, h1⟩ := trodAll_two hA
  obtain ⟨rfl, rfl⟩ := trodVars_none hV
  obtain ⟨l0, rfl, hl0, hf0⟩ := open_flat (ts := [5, 28, 9, 9, 9, 9, 9, 9]) (.inl ⟨_, Try.underlying31⟩) (by kernel_rfl) (by kernel_rfl) (hval 0 31 v0 rfl rfl) h0
  obtain ⟨c0_0, c0_1, c0_2, c0_3, c0_4, c0_5, c0_6, c0_7, rfl⟩ := list_len8 hl0
  obtain ⟨c, m, y, e, hy⟩ := hf0 0 _ rfl
  obtain rfl := Option.some.inj e
  obtain ⟨k, rfl, wf_k⟩ := cell_int Try.underlying5 hy
  obtain ⟨c, m, y, e, hy⟩ := hf0 1 _ rfl
  obtain rfl := Option.some.inj e
  obtain ⟨n, rfl, wf_n⟩ := cell_int Try.underlying28 hy
  obtain ⟨c, m, y, e, hy⟩ := hf0 2 _ rfl
  obtain rfl := Option.some.inj e
  obtain ⟨s0, rfl, len_s0⟩ := cell_string Try.underlying9 hy
  obtain ⟨c, m, y, e, hy⟩ := hf0 3 _ rfl
  obtain rfl := Option.some.inj e
  obtain ⟨s1, rfl, len_s1⟩ := cell_string Try.underlying9 hy
  obtain ⟨c, m, y, e, hy⟩ := hf0 4 _ rfl
  obtain rfl := Option.some.inj e
  obtain ⟨s2, rfl, len_s2⟩ := cell_string Try.underlying9 hy
  obtain ⟨c, m, y, e, hy⟩ := hf0 5 _ rfl
  obtain rfl := Option.some.inj e
  obtain ⟨s3, rfl, len_s3⟩ := cell_string Try.underlying9 hy
  obtain ⟨c, m, y, e, hy⟩ := hf0 6 _ rfl
  obtain rfl := Option.some.inj e
  obtain ⟨s4, rfl, len_s4⟩ := cell_string Try.underlying9 hy
  obtain ⟨c, m, y, e, hy⟩ := hf0 7 _ rfl
  obtain rfl := Option.some.inj e
  obtain ⟨s5, rfl, len_s5⟩ := cell_string Try.underlying9 hy
  obtain ⟨limit, rfl, -, -, wf_limit⟩ := open_int Try.underlying3 (hval 1 3 v1 rfl rfl) h1
  refine (lawNil_any (bounds_u8 wf_k).1 (bounds_u8 wf_k).2 (bounds_u64 wf_n).1 (bounds_u64 wf_n).2 (bounds_i64 wf_limit).1 (bounds_i64 wf_limit).2 W).mono fun e W' ⟨he, hw⟩ => ?_
  subst he
  exact ⟨_, rfl, law_post laidOut (by intro t ht; rw [Try.params7] at ht; revert t; decide +kernel) rfl Try.underlying4 rfl rfl hW' hw⟩
theorem proved : Rows.CodecsNilSaid :=
  OpenClaim.holds_of_wide 7 Try.f7 rfl rfl rfl rfl rfl rfl rfl ⟨rfl, rfl, rfl, rfl, rfl⟩ rfl rfl rfl rfl rfl (by kernel_rfl) Try.func7 (by kernel_rfl)
    (of_decide_eq_true (by kernel_rfl)) (by unfold Func.isWrapper; rw [if_neg (of_decide_eq_false (by kernel_rfl))]; exact ⟨rfl, rfl⟩)
    (fun os started H enc _ => lifted os started H enc)
end Go.Proofs.Ytfihjaiemjbfiaa.lawNil
