/-
  TurnsNext: Next answers as the definition says, for any value of Turns and any list of flags (more than 20 of either: the examples of the chapter hold). No condition: for every input.
-/
import Derived.Test.YtehbfajmileefaaKz
import Derived.Test.YtehbfajmileefaaY
namespace Go.Proofs.Ytehbfajmileefaa.lawNext
open Go.ChangeShapes Go.WideShapes Go.ChangeAt Go.RowKit Go.Joins Go.Deep Go.Proofs.Ytehbfajmileefaa.Px
set_option linter.unusedVariables false
set_option maxRecDepth 100000 in
set_option maxHeartbeats 4000000 in
theorem lifted (os : Os) (started : os.Started) (H : Type) (enc : TypeId × Value → H) :
    ReturnsInHanded {} Try.checked os 3 .any (Rows.turnsNextSpec.pre6 enc Try.prog Try.f3 Rows.turnsNextRow.domain false) (Rows.turnsNextSpec.post enc Try.prog Try.f3 false true false false) := by
  refine returnsInHanded_of_change (C := Try.checked) own started (by kernel_rfl) Try.func3
    (ChangeSpec.witness6 (enc := enc) (C := Try.checked) false ⟨#[], #[.agg #[.slice none 0 0, .int .i64 0, .int .i64 0, .int .i64 0], .slice none 0 0], []⟩ 8 (by kernel_rfl) (by kernel_rfl) (by kernel_rfl) (by kernel_rfl)) ?_
  intro W base args ds gs before hval0 hW hcnd _
  have hval : ∀ (j : Nat) t v, Try.f3.params[j]? = some t → args[j]? = some v → Value.okWide Try.prog W .any base t v := hval0
  have hW' := hW
  obtain ⟨p, q, hA0, hV, rfl, hfz, hnd⟩ := hW
  have hA : DataW.TrodAll enc Try.prog W 0 (fun _ => true) true Try.f3.params.toList args.toList ds p := hA0
  rw [Try.params3] at hA hval
  obtain ⟨v0, v1, d0, d1, p0, p1, rfl, rfl, rfl, h0, h1⟩ := trodAll_two hA
  obtain ⟨rfl, rfl⟩ := trodVars_none hV
  have hv0 := hval 0 24 v0 rfl rfl
  obtain ⟨l0, rfl, hl0, hf0⟩ := open_flat (ts := [22, 3, 3, 2]) (.inl ⟨_, Try.underlying24⟩) (by kernel_rfl) (by kernel_rfl) hv0 h0
  obtain ⟨c0, c1, c2, c3, rfl⟩ := list_len4 hl0
  obtain ⟨c, m, y, e, hy⟩ := hf0 0 _ rfl
  obtain rfl := Option.some.inj e
  obtain ⟨qa, ws, capa, sba, soa, rfl, hna, hsa⟩ := open_ints Try.underlying22 (by kernel_rfl) (by kernel_rfl) Try.underlying3 hy
  obtain ⟨c, m, y, e, hy⟩ := hf0 1 _ rfl
  obtain rfl := Option.some.inj e
  obtain ⟨tn, rfl, wf_tn⟩ := cell_int Try.underlying3 hy
  obtain ⟨c, m, y, e, hy⟩ := hf0 2 _ rfl
  obtain rfl := Option.some.inj e
  obtain ⟨cr, rfl, wf_cr⟩ := cell_int Try.underlying3 hy
  obtain ⟨c, m, y, e, hy⟩ := hf0 3 _ rfl
  obtain rfl := Option.some.inj e
  obtain ⟨rd, rfl, wf_rd⟩ := cell_int Try.underlying2 hy
  have hv1 := hval 1 25 v1 rfl rfl
  obtain ⟨qb, ab, capb, sbb, sob, rfl, hnb, hsb⟩ := open_bools Try.underlying25 (by kernel_rfl) (by kernel_rfl) Try.underlying4 hv1 h1
  have s0 : SlAt W qa ws.length capa := by
    simp only [Value.okWide, Try.underlying24] at hv0
    obtain ⟨cs, e0, -, ts, k1, -, k3⟩ := hv0
    simp at e0
    subst e0
    obtain ⟨u, k4, k5⟩ := k3 0 _ rfl
    have kt : Try.prog.cellTypes Try.prog.depth 24 = some [22, 3, 3, 2] := by kernel_rfl
    rw [kt] at k1
    simp at k1
    subst k1
    simp at k4
    subst k4
    exact slAt_of Try.underlying22 k5
  refine (next_calls (tn := tn) (cr := cr) (rd := rd) s0 (slAt_val Try.underlying25 hv1) hsa hsb).mono fun e W' ⟨he, hw⟩ => ?_
  subst he
  exact ⟨_, rfl, law_post laidOut (by intro t ht; rw [Try.params3] at ht; revert t; decide +kernel) rfl Try.underlying4 rfl rfl hW' hw⟩
theorem proved : Rows.TurnsNextSaid :=
  OpenClaim.holds_of_wide 3 Try.f3 rfl rfl rfl rfl rfl rfl rfl ⟨rfl, rfl, rfl, rfl, rfl⟩ rfl rfl rfl rfl rfl (by kernel_rfl) Try.func3 (by kernel_rfl)
    (of_decide_eq_true (by kernel_rfl)) (by unfold Func.isWrapper; rw [if_neg (of_decide_eq_false (by kernel_rfl))]; exact ⟨rfl, rfl⟩)
    (fun os started H enc _ => lifted os started H enc)
end Go.Proofs.Ytehbfajmileefaa.lawNext
