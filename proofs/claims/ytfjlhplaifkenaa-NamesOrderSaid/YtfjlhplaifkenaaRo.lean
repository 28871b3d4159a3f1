/-
  NamesOrder: goals, subjects and objects are compared as the definition says; the order is total, and 0 for equal ones alone: for any nine strings. No condition: for every input.
-/
import Derived.Test.YtfjlhplaifkenaaNk
import Derived.Test.YtfjlhplaifkenaaY
namespace Go.Proofs.Ytfjlhplaifkenaa.lawOrder
open Go.ChangeShapes Go.WideShapes Go.ChangeAt Go.RowKit Go.Joins Go.Deep
set_option linter.unusedVariables false
set_option maxRecDepth 100000 in
set_option maxHeartbeats 4000000 in
theorem lifted (os : Os) (started : os.Started) (H : Type) (enc : TypeId × Value → H) :
    ReturnsInHanded {} Try.checked os 5 .any (Rows.namesOrderSpec.pre6 enc Try.prog Try.f5 Rows.namesOrderRow.domain false) (Rows.namesOrderSpec.post enc Try.prog Try.f5 false true false false) := by
  refine returnsInHanded_of_change (C := Try.checked) own started (by kernel_rfl) Try.func5
    (ChangeSpec.witness6 (enc := enc) (C := Try.checked) false ⟨#[], #[.agg #[.string ByteArray.empty, .string ByteArray.empty, .string ByteArray.empty], .agg #[.string ByteArray.empty, .string ByteArray.empty, .string ByteArray.empty], .agg #[.string ByteArray.empty, .string ByteArray.empty, .string ByteArray.empty]], []⟩ 8 (by kernel_rfl) (by kernel_rfl) (by kernel_rfl) (by kernel_rfl)) ?_
  intro W base args ds gs before hval0 hW hcnd _
  have hval : ∀ (j : Nat) t v, Try.f5.params[j]? = some t → args[j]? = some v → Value.okWide Try.prog W .any base t v := hval0
  have hW' := hW
  obtain ⟨p, q, hA0, hV, rfl, hfz, hnd⟩ := hW
  have hA : DataW.TrodAll enc Try.prog W 0 (fun _ => true) true Try.f5.params.toList args.toList ds p := hA0
  rw [Try.params5] at hA hval
  obtain ⟨v0, v1, v2, d0, d1, d2, p0, p1, p2, rfl, rfl, rfl, h0, h1, h2⟩ := trodAll_three hA
  obtain ⟨rfl, rfl⟩ := trodVars_none hV
  obtain ⟨l0, rfl, hl0, hf0⟩ := open_flat (ts := [9, 9, 9]) (.inr ⟨_, _, Try.underlying43⟩) (by kernel_rfl) (by kernel_rfl) (hval 0 43 v0 rfl rfl) h0
  obtain ⟨c0_0, c0_1, c0_2, rfl⟩ := list_len3 hl0
  obtain ⟨c, m, y, e, hy⟩ := hf0 0 _ rfl
  obtain rfl := Option.some.inj e
  obtain ⟨a0, rfl, len_a0⟩ := cell_string Try.underlying9 hy
  obtain ⟨c, m, y, e, hy⟩ := hf0 1 _ rfl
  obtain rfl := Option.some.inj e
  obtain ⟨a1, rfl, len_a1⟩ := cell_string Try.underlying9 hy
  obtain ⟨c, m, y, e, hy⟩ := hf0 2 _ rfl
  obtain rfl := Option.some.inj e
  obtain ⟨a2, rfl, len_a2⟩ := cell_string Try.underlying9 hy
  obtain ⟨l1, rfl, hl1, hf1⟩ := open_flat (ts := [9, 9, 9]) (.inr ⟨_, _, Try.underlying43⟩) (by kernel_rfl) (by kernel_rfl) (hval 1 43 v1 rfl rfl) h1
  obtain ⟨c1_0, c1_1, c1_2, rfl⟩ := list_len3 hl1
  obtain ⟨c, m, y, e, hy⟩ := hf1 0 _ rfl
  obtain rfl := Option.some.inj e
  obtain ⟨b0, rfl, len_b0⟩ := cell_string Try.underlying9 hy
  obtain ⟨c, m, y, e, hy⟩ := hf1 1 _ rfl
  obtain rfl := Option.some.inj e
  obtain ⟨b1, rfl, len_b1⟩ := cell_string Try.underlying9 hy
  obtain ⟨c, m, y, e, hy⟩ := hf1 2 _ rfl
  obtain rfl := Option.some.inj e
  obtain ⟨b2, rfl, len_b2⟩ := cell_string Try.underlying9 hy
  obtain ⟨l2, rfl, hl2, hf2⟩ := open_flat (ts := [9, 9, 9]) (.inr ⟨_, _, Try.underlying43⟩) (by kernel_rfl) (by kernel_rfl) (hval 2 43 v2 rfl rfl) h2
  obtain ⟨c2_0, c2_1, c2_2, rfl⟩ := list_len3 hl2
  obtain ⟨c, m, y, e, hy⟩ := hf2 0 _ rfl
  obtain rfl := Option.some.inj e
  obtain ⟨c0, rfl, len_c0⟩ := cell_string Try.underlying9 hy
  obtain ⟨c, m, y, e, hy⟩ := hf2 1 _ rfl
  obtain rfl := Option.some.inj e
  obtain ⟨c1, rfl, len_c1⟩ := cell_string Try.underlying9 hy
  obtain ⟨c, m, y, e, hy⟩ := hf2 2 _ rfl
  obtain rfl := Option.some.inj e
  obtain ⟨c2, rfl, len_c2⟩ := cell_string Try.underlying9 hy
  refine (lawOrder_any a0 a1 a2 b0 b1 b2 c0 c1 c2 W).mono fun e W' ⟨he, hw⟩ => ?_
  subst he
  exact ⟨_, rfl, law_post laidOut (by intro t ht; rw [Try.params5] at ht; revert t; decide +kernel) rfl Try.underlying4 rfl rfl hW' hw⟩
theorem proved : Rows.NamesOrderSaid :=
  OpenClaim.holds_of_wide 5 Try.f5 rfl rfl rfl rfl rfl rfl rfl ⟨rfl, rfl, rfl, rfl, rfl⟩ rfl rfl rfl rfl rfl (by kernel_rfl) Try.func5 (by kernel_rfl)
    (of_decide_eq_true (by kernel_rfl)) (by unfold Func.isWrapper; rw [if_neg (of_decide_eq_false (by kernel_rfl))]; exact ⟨rfl, rfl⟩)
    (fun os started H enc _ => lifted os started H enc)
end Go.Proofs.Ytfjlhplaifkenaa.lawOrder
