/-
  NamesBack: the texts of valid objects, goals and subjects are read as these again; texts of different ones differ: for any six strings. No condition: for every input.
-/
import Derived.Test.YtfjlhplaifkenaaBd
import Derived.Test.YtfjlhplaifkenaaY
namespace Go.Proofs.Ytfjlhplaifkenaa.lawBack
open Go.ChangeShapes Go.WideShapes Go.ChangeAt Go.RowKit Go.Joins Go.Deep
set_option linter.unusedVariables false
set_option maxRecDepth 100000 in
set_option maxHeartbeats 4000000 in
theorem lifted (os : Os) (started : os.Started) (H : Type) (enc : TypeId × Value → H) :
    ReturnsInHanded {} Try.checked os 4 .any (Rows.namesBackSpec.pre6 enc Try.prog Try.f4 Rows.namesBackRow.domain false) (Rows.namesBackSpec.post enc Try.prog Try.f4 false true false false) := by
  refine returnsInHanded_of_change (C := Try.checked) own started (by kernel_rfl) Try.func4
    (ChangeSpec.witness6 (enc := enc) (C := Try.checked) false ⟨#[], #[.agg #[.string ByteArray.empty, .string ByteArray.empty, .string ByteArray.empty], .agg #[.string ByteArray.empty, .string ByteArray.empty, .string ByteArray.empty]], []⟩ 8 (by kernel_rfl) (by kernel_rfl) (by kernel_rfl) (by kernel_rfl)) ?_
  intro W base args ds gs before hval0 hW hcnd _
  have hval : ∀ (j : Nat) t v, Try.f4.params[j]? = some t → args[j]? = some v → Value.okWide Try.prog W .any base t v := hval0
  have hW' := hW
  obtain ⟨p, q, hA0, hV, rfl, hfz, hnd⟩ := hW
  have hA : DataW.TrodAll enc Try.prog W 0 (fun _ => true) true Try.f4.params.toList args.toList ds p := hA0
  rw [Try.params4] at hA hval
  obtain ⟨v0, v1, d0, d1, p0, p1, rfl, rfl, rfl, h0, h1⟩ := trodAll_two hA
  obtain ⟨rfl, rfl⟩ := trodVars_none hV
  obtain ⟨l0, rfl, hl0, hf0⟩ := open_flat (ts := [9, 9, 9]) (.inr ⟨_, _, Try.underlying43⟩) (by kernel_rfl) (by kernel_rfl) (hval 0 43 v0 rfl rfl) h0
  obtain ⟨c0_0, c0_1, c0_2, rfl⟩ := list_len3 hl0
  obtain ⟨c, m, y, e, hy⟩ := hf0 0 _ rfl
  obtain rfl := Option.some.inj e
  obtain ⟨a0, rfl, len_a0⟩ := cell_string Try.underlying9 hy
  obtain ⟨c, m, y, e, hy⟩ := hf0 1 _ rfl
  obtain rfl := Option.some.inj e
  obtain ⟨a1, rfl, len_a1⟩ := cell_string Try.underlying9 hy
  obtain ⟨c, m, y, e, hy⟩ := hf0 2 _ rfl
  obtain rfl := Option.some.inj e
  obtain ⟨a2, rfl, len_a2⟩ := cell_string Try.underlying9 hy
  obtain ⟨l1, rfl, hl1, hf1⟩ := open_flat (ts := [9, 9, 9]) (.inr ⟨_, _, Try.underlying43⟩) (by kernel_rfl) (by kernel_rfl) (hval 1 43 v1 rfl rfl) h1
  obtain ⟨c1_0, c1_1, c1_2, rfl⟩ := list_len3 hl1
  obtain ⟨c, m, y, e, hy⟩ := hf1 0 _ rfl
  obtain rfl := Option.some.inj e
  obtain ⟨b0, rfl, len_b0⟩ := cell_string Try.underlying9 hy
  obtain ⟨c, m, y, e, hy⟩ := hf1 1 _ rfl
  obtain rfl := Option.some.inj e
  obtain ⟨b1, rfl, len_b1⟩ := cell_string Try.underlying9 hy
  obtain ⟨c, m, y, e, hy⟩ := hf1 2 _ rfl
  obtain rfl := Option.some.inj e
  obtain ⟨b2, rfl, len_b2⟩ := cell_string Try.underlying9 hy
  refine (lawBack_any a0 a1 a2 b0 b1 b2 W).mono fun e W' ⟨he, hw⟩ => ?_
  subst he
  exact ⟨_, rfl, law_post laidOut (by intro t ht; rw [Try.params4] at ht; revert t; decide +kernel) rfl Try.underlying4 rfl rfl hW' hw⟩
theorem proved : Rows.NamesBackSaid :=
  OpenClaim.holds_of_wide 4 Try.f4 rfl rfl rfl rfl rfl rfl rfl ⟨rfl, rfl, rfl, rfl, rfl⟩ rfl rfl rfl rfl rfl (by kernel_rfl) Try.func4 (by kernel_rfl)
    (of_decide_eq_true (by kernel_rfl)) (by unfold Func.isWrapper; rw [if_neg (of_decide_eq_false (by kernel_rfl))]; exact ⟨rfl, rfl⟩)
    (fun os started H enc _ => lifted os started H enc)
end Go.Proofs.Ytfjlhplaifkenaa.lawBack
