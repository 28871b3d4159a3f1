/-
  BucketsPlay: for any bucket and any steps, of which at most 60 are carried out, they are carried out as the definition says, or refused. No condition: for every input.
-/
import Derived.Test.YteojndglglkgpaaR
import Derived.Test.YteojndglglkgpaaI
import Derived.Test.YteojndglglkgpaaY
import Derived.Deep.SlicePairs
namespace Go.Proofs.Yteojndglglkgpaa.lawPlay
open Go.ChangeShapes Go.WideShapes Go.ChangeAt Go.RowKit Go.Joins Go.Deep
set_option linter.unusedVariables false
theorem add_none {a : Addr} (h : a.spot = none) (n : Nat) : a.add n = ⟨a.block, a.off + n, none⟩ := by
  cases a; simp only at h; subst h; unfold Addr.add; split
  · rename_i e; subst e; rfl
  · rfl
theorem cell_here {w : World} {a : Addr} {v : Value} (h : w.cell? a = some v) : a.spot = none ∧ a.block < w.heap.size := by
  unfold World.cell? at h
  split at h
  · rename_i c _ _ heq
    split at h
    · cases h
    · rename_i hs
      exact ⟨by simpa using hs, (Array.getElem?_eq_some_iff.1 heq).1⟩
  · cases h
section
variable {H : Type} {enc : TypeId × Value → H} {P : Program} {w : World} {base : Nat} {spare : Nat → Bool} {held : Bool}
theorem open_steps {r : Reach} {b0 : Nat} {t e : TypeId} {f0 f1 : Field} {v : Value} {d : DataW H} {p : List MemPlace} (ht : P.underlying t = some (.slice e)) (he : P.underlying e = some (.struct #[f0, f1]))
    (ce : P.cellsOf e = 2) (o0 : f0.offset = 0) (o1 : f1.offset = 1) (c0 : P.cellsOf f0.type = 1) (c1 : P.cellsOf f1.type = 1) (u0 : P.underlying f0.type = some (.int .i64)) (u1 : P.underlying f1.type = some (.int .i64))
    (hv : Value.okWide P w r b0 t v) (h : DataW.Trod enc P w base spare held t v d p) :
    ∃ (q : Option Addr) (xs : List (Int × Int)) (cap sb so : Nat), v = .slice q xs.length cap ∧ xs.length ≤ 9223372036854775807 ∧ StepsAt w q sb so xs := by
  obtain ⟨a0, len, cap, rfl⟩ := okWide_slice ht hv
  obtain ⟨fuel, hf⟩ := h
  rcases open_slice_pairs ht he ce o0 o1 c0 c1 hf with ⟨e1, _⟩ | ⟨a, len', cap', m, n, V0, V1, D0, D1, P0, P1, e1, hb, hl, hc, hm, _, hx⟩
  · simp [Value.cells] at e1
    obtain ⟨rfl, rfl, rfl⟩ := e1
    exact ⟨none, [], 0, 0, 0, rfl, by simp, ⟨fun h => absurd h (by simp), fun h => absurd h (by simp), fun i h => absurd h (by simp), fun i h => absurd h (by simp)⟩⟩
  · simp [Value.cells] at e1
    obtain ⟨rfl, rfl, rfl⟩ := e1
    have hlm : len ≤ m := by rw [hm]; split <;> omega
    have h0 : ∀ i, i < len → w.cell? (a.add (i * 2)) = some (.int .i64 (intOf (V0 i))) := by
      intro i hi
      obtain ⟨x, hxv, _⟩ := cell_int u0 (hx i (by omega)).2.2.1
      rw [(hx i (by omega)).1, hxv]; rfl
    have h1 : ∀ i, i < len → w.cell? (a.add (i * 2 + 1)) = some (.int .i64 (intOf (V1 i))) := by
      intro i hi
      obtain ⟨x, hxv, _⟩ := cell_int u1 (hx i (by omega)).2.2.2
      rw [(hx i (by omega)).2.1, hxv]; rfl
    have hz : 0 < len → a.spot = none ∧ a.block < w.heap.size := by
      intro hp
      have := h0 0 hp
      rw [show 0 * 2 = 0 from rfl, show a.add 0 = a from rfl] at this
      exact cell_here this
    refine ⟨some a, (List.range len).map fun i => (intOf (V0 i), intOf (V1 i)), cap, a.block, a.off, by simp, by unfold maxLen at hc; simp; omega, ⟨?_, ?_, ?_, ?_⟩⟩
    · intro hp
      have := (hz (by simpa using hp)).1
      cases a; simp only at this; subst this; rfl
    · intro hp; exact (hz (by simpa using hp)).2
    · intro i hi
      have hi' : i < len := by simpa using hi
      have := h0 i hi'
      rw [add_none (hz (by omega)).1] at this
      simpa using this
    · intro i hi
      have hi' : i < len := by simpa using hi
      have := h1 i hi'
      rw [add_none (hz (by omega)).1] at this
      simpa [Nat.add_assoc] using this
end
theorem law_any (R B T L : Int) (q : Option Addr) (xs : List (Int × Int)) (cap sb so : Nat) (hn : xs.length ≤ 9223372036854775807) (w : World) (hs : StepsAt w q sb so xs) :
    Calls Try.prog 6 #[bV R B T L, .slice q xs.length cap] w fun e w' => e = .returned (.bool true) ∧ Below w.heap.size w w' := by
  by_cases h : xs.length ≤ 60
  · exact lawPlay_short lives_any R B T L q sb so cap xs h w hs
  · exact lawPlay_long lives_any R B T L q xs.length cap (by omega) hn w
set_option maxRecDepth 100000 in
set_option maxHeartbeats 4000000 in
theorem lifted (os : Os) (started : os.Started) (H : Type) (enc : TypeId × Value → H) :
    ReturnsInHanded {} Try.checked os 6 .any (Rows.bucketsPlaySpec.pre6 enc Try.prog Try.f6 Rows.bucketsPlayRow.domain false) (Rows.bucketsPlaySpec.post enc Try.prog Try.f6 false true false false) := by
  refine returnsInHanded_of_change (C := Try.checked) own started (by kernel_rfl) Try.func6
    (ChangeSpec.witness6 (enc := enc) (C := Try.checked) false ⟨#[], #[.agg #[.int .i64 0, .int .i64 0, .int .i64 0, .int .i64 0], .slice none 0 0], []⟩ 8 (by kernel_rfl) (by kernel_rfl) (by kernel_rfl) (by kernel_rfl)) ?_
  intro W base args ds gs before hval0 hW hcnd _
  have hval : ∀ (j : Nat) t v, Try.f6.params[j]? = some t → args[j]? = some v → Value.okWide Try.prog W .any base t v := hval0
  have hW' := hW
  obtain ⟨p, q, hA0, hV, rfl, hfz, hnd⟩ := hW
  have hA : DataW.TrodAll enc Try.prog W 0 (fun _ => true) true Try.f6.params.toList args.toList ds p := hA0
  rw [Try.params6] at hA hval
  obtain ⟨v0, v1, d0, d1, p0, p1, rfl, rfl, rfl, h0, h1⟩ := trodAll_two hA
  obtain ⟨rfl, rfl⟩ := trodVars_none hV
  obtain ⟨l0, m0, rfl, hl0, hf0⟩ := open_fields Try.underlying23 (by kernel_rfl) (show Try.prog.cellsOf 23 = _ by kernel_rfl) (hval 0 23 v0 rfl rfl) h0
  obtain ⟨c0_0, c0_1, c0_2, c0_3, rfl⟩ := list_len4 hl0
  obtain ⟨c, y, e, hy⟩ := hf0 0 _ rfl
  obtain rfl := Option.some.inj e
  obtain ⟨R, rfl, wf_R⟩ := cell_int Try.underlying2 hy
  obtain ⟨c, y, e, hy⟩ := hf0 1 _ rfl
  obtain rfl := Option.some.inj e
  obtain ⟨B, rfl, wf_B⟩ := cell_int Try.underlying2 hy
  obtain ⟨c, y, e, hy⟩ := hf0 2 _ rfl
  obtain rfl := Option.some.inj e
  obtain ⟨T, rfl, wf_T⟩ := cell_int Try.underlying2 hy
  obtain ⟨c, y, e, hy⟩ := hf0 3 _ rfl
  obtain rfl := Option.some.inj e
  obtain ⟨L, rfl, wf_L⟩ := cell_int Try.underlying2 hy
  obtain ⟨q, xs, cap, sb, so, rfl, hn, hs⟩ := open_steps Try.underlying51 Try.underlying62 (by kernel_rfl) rfl rfl (by kernel_rfl) (by kernel_rfl) (by kernel_rfl) (by kernel_rfl) (hval 1 51 v1 rfl rfl) h1
  refine (law_any R B T L q xs cap sb so hn W hs).mono fun e W' ⟨he, hw⟩ => ?_
  subst he
  exact ⟨_, rfl, law_post laidOut (by intro t ht; rw [Try.params6] at ht; revert t; decide +kernel) rfl Try.underlying4 rfl rfl hW' hw⟩
theorem proved : Rows.BucketsPlaySaid :=
  OpenClaim.holds_of_wide 6 Try.f6 rfl rfl rfl rfl rfl rfl rfl ⟨rfl, rfl, rfl, rfl, rfl⟩ rfl rfl rfl rfl rfl (by kernel_rfl) Try.func6 (by kernel_rfl)
    (of_decide_eq_true (by kernel_rfl)) (by unfold Func.isWrapper; rw [if_neg (of_decide_eq_false (by kernel_rfl))]; exact ⟨rfl, rfl⟩)
    (fun os started H enc _ => lifted os started H enc)
end Go.Proofs.Yteojndglglkgpaa.lawPlay
