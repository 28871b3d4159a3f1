/-
  BucketsWindow: for every bucket of the drawn kind and any steps, of which at most 30 are looked at, what is taken between any two steps, these included, is at most Most for the ticks between them. No condition: for every input.
-/
import Derived.Test.YteojndglglkgpaaU
import Derived.Test.YteojndglglkgpaaI
import Derived.Test.YteojndglglkgpaaY
namespace Go.Proofs.Yteojndglglkgpaa.lawWindow
open Go.ChangeShapes Go.WideShapes Go.ChangeAt Go.RowKit Go.Joins Go.Deep
set_option linter.unusedVariables false
theorem add_none {a : Addr} (h : a.spot = none) (n : Nat) : a.add n = ⟨a.block, a.off + n, none⟩ := by
  cases a; simp only at h; subst h; unfold Addr.add; split
  · rename_i e; subst e; rfl
  · rfl
theorem add_one (a : Addr) (n : Nat) : (a.add n).add 1 = a.add (n + 1) := by
  unfold Addr.add
  by_cases h : n = 0
  · subst h; rfl
  · rw [if_neg (by omega), if_neg h, if_neg (by omega)]; rfl
theorem cell_here {w : World} {a : Addr} {v : Value} (h : w.cell? a = some v) : a.spot = none ∧ a.block < w.heap.size := by
  unfold World.cell? at h
  split at h
  · rename_i c _ _ heq
    split at h
    · cases h
    · rename_i hs
      exact ⟨by simpa using hs, (Array.getElem?_eq_some_iff.1 heq).1⟩
  · cases h
section
variable {H : Type} {enc : TypeId × Value → H} {P : Program} {w : World} {base : Nat} {spare : Nat → Bool} {held : Bool}
theorem open_small {r : Reach} {b0 : Nat} {t e u : TypeId} {v : Value} {d : DataW H} {p : List MemPlace} (ht : P.underlying t = some (.slice e)) (he : P.underlying e = some (.array 2 u))
    (ce : P.cellsOf e = 2) (cu : P.cellsOf u = 1) (hu : P.underlying u = some (.int .u8))
    (hv : Value.okWide P w r b0 t v) (h : DataW.Trod enc P w base spare held t v d p) :
    ∃ (q : Option Addr) (xs : List (Int × Int)) (cap sb so : Nat), v = .slice q xs.length cap ∧ xs.length ≤ 9223372036854775807 ∧ PairsAt w q sb so xs := by
  obtain ⟨a0, len, cap, rfl⟩ := okWide_slice ht hv
  obtain ⟨fuel, hf⟩ := h
  rcases open_slice ht hf with ⟨e1, _⟩ | ⟨a, len', cap', m, n, D, Pl, e1, hb, hl, hc, hm, _, hx⟩
  · simp [Value.cells] at e1
    obtain ⟨rfl, rfl, rfl⟩ := e1
    exact ⟨none, [], 0, 0, 0, rfl, by simp, ⟨fun h => absurd h (by simp), fun h => absurd h (by simp), fun i h => absurd h (by simp), fun i h => absurd h (by simp), fun i h => absurd h (by simp)⟩⟩
  · simp [Value.cells] at e1
    obtain ⟨rfl, rfl, rfl⟩ := e1
    have hlm : len ≤ m := by rw [hm]; split <;> omega
    have each : ∀ i, i < len → ∃ x y, w.cell? (a.add (i * 2)) = some (.int .u8 x) ∧ w.cell? (a.add (i * 2 + 1)) = some (.int .u8 y) ∧ 0 ≤ x ∧ x ≤ 255 ∧ 0 ≤ y ∧ y ≤ 255 := by
      intro i hi
      obtain ⟨cs', h1, h2⟩ := hx i (by omega)
      rw [ce] at h1
      obtain ⟨_, hlen, hcell⟩ := World.cells?_some h1
      obtain ⟨ys, k, _, _, _, hyl, hg⟩ := DataW.trod_array he h2
      obtain ⟨v0, v1, rfl⟩ := list_len2 hlen
      have g0 := hg 0 (by omega)
      have g1 := hg 1 (by omega)
      rw [cu] at g0 g1
      obtain ⟨x, rfl, wx⟩ := cell_int hu (g0.trans (List.getElem?_eq_getElem (by omega)))
      obtain ⟨y, rfl, wy⟩ := cell_int hu (g1.trans (List.getElem?_eq_getElem (by omega)))
      have e0 := hcell 0 (by omega)
      have e1 := hcell 1 (by omega)
      rw [add_one] at e1
      simp [Lit.wf, IntKind.min, IntKind.max, IntKind.signed, IntKind.bits] at wx wy
      exact ⟨x, y, e0, e1, by omega, by omega, by omega, by omega⟩
    let V0 : Nat → Int := fun i => intOf ((w.cell? (a.add (i * 2))).getD (.int .u8 0))
    let V1 : Nat → Int := fun i => intOf ((w.cell? (a.add (i * 2 + 1))).getD (.int .u8 0))
    have h0 : ∀ i, i < len → w.cell? (a.add (i * 2)) = some (.int .u8 (V0 i)) := by
      intro i hi
      obtain ⟨x, y, e0, e1, _⟩ := each i hi
      show _ = some (Value.int .u8 (intOf ((w.cell? (a.add (i * 2))).getD (.int .u8 0))))
      rw [e0]; rfl
    have h1 : ∀ i, i < len → w.cell? (a.add (i * 2 + 1)) = some (.int .u8 (V1 i)) := by
      intro i hi
      obtain ⟨x, y, e0, e1, _⟩ := each i hi
      show _ = some (Value.int .u8 (intOf ((w.cell? (a.add (i * 2 + 1))).getD (.int .u8 0))))
      rw [e1]; rfl
    have hz : 0 < len → a.spot = none ∧ a.block < w.heap.size := by
      intro hp
      have := h0 0 hp
      rw [show 0 * 2 = 0 from rfl, show a.add 0 = a from rfl] at this
      exact cell_here this
    refine ⟨some a, (List.range len).map fun i => (V0 i, V1 i), cap, a.block, a.off, by simp, by unfold maxLen at hc; simp; omega, ⟨?_, ?_, ?_, ?_, ?_⟩⟩
    · intro hp
      have := (hz (by simpa using hp)).1
      cases a; simp only at this; subst this; rfl
    · intro hp; exact (hz (by simpa using hp)).2
    · intro i hi
      have hi' : i < len := by simpa using hi
      have := h0 i hi'
      rw [add_none (hz (by omega)).1] at this
      simpa using this
    · intro i hi
      have hi' : i < len := by simpa using hi
      have := h1 i hi'
      rw [add_none (hz (by omega)).1] at this
      simpa [Nat.add_assoc] using this
    · intro i hi
      have hi' : i < len := by simpa using hi
      obtain ⟨x, y, e0, e1, b⟩ := each i hi'
      have f0 := Option.some.inj ((h0 i hi').symm.trans e0)
      have f1 := Option.some.inj ((h1 i hi').symm.trans e1)
      simp only [Value.int.injEq, true_and] at f0 f1
      simp only [List.getElem_map, List.getElem_range]
      rw [f0, f1]; exact b
end
set_option maxRecDepth 100000 in
set_option maxHeartbeats 4000000 in
theorem lifted (os : Os) (started : os.Started) (H : Type) (enc : TypeId × Value → H) :
    ReturnsInHanded {} Try.checked os 7 .any (Rows.bucketsWindowSpec.pre6 enc Try.prog Try.f7 Rows.bucketsWindowRow.domain false) (Rows.bucketsWindowSpec.post enc Try.prog Try.f7 false true false false) := by
  refine returnsInHanded_of_change (C := Try.checked) own started (by kernel_rfl) Try.func7
    (ChangeSpec.witness6 (enc := enc) (C := Try.checked) false ⟨#[], #[.agg #[.int .u8 0, .int .u8 0, .int .u8 0, .int .u16 0, .int .u8 0], .slice none 0 0], []⟩ 8 (by kernel_rfl) (by kernel_rfl) (by kernel_rfl) (by kernel_rfl)) ?_
  intro W base args ds gs before hval0 hW hcnd _
  have hval : ∀ (j : Nat) t v, Try.f7.params[j]? = some t → args[j]? = some v → Value.okWide Try.prog W .any base t v := hval0
  have hW' := hW
  obtain ⟨p, q, hA0, hV, rfl, hfz, hnd⟩ := hW
  have hA : DataW.TrodAll enc Try.prog W 0 (fun _ => true) true Try.f7.params.toList args.toList ds p := hA0
  rw [Try.params7] at hA hval
  obtain ⟨v0, v1, d0, d1, p0, p1, rfl, rfl, rfl, h0, h1⟩ := trodAll_two hA
  obtain ⟨rfl, rfl⟩ := trodVars_none hV
  obtain ⟨l0, m0, rfl, hl0, hf0⟩ := open_fields Try.underlying46 (by kernel_rfl) (show Try.prog.cellsOf 46 = _ by kernel_rfl) (hval 0 46 v0 rfl rfl) h0
  obtain ⟨c0_0, c0_1, c0_2, c0_3, c0_4, rfl⟩ := list_len5 hl0
  obtain ⟨c, y, e, hy⟩ := hf0 0 _ rfl
  obtain rfl := Option.some.inj e
  obtain ⟨r, rfl, wf_r⟩ := cell_int Try.underlying5 hy
  obtain ⟨c, y, e, hy⟩ := hf0 1 _ rfl
  obtain rfl := Option.some.inj e
  obtain ⟨b, rfl, wf_b⟩ := cell_int Try.underlying5 hy
  obtain ⟨c, y, e, hy⟩ := hf0 2 _ rfl
  obtain rfl := Option.some.inj e
  obtain ⟨t, rfl, wf_t⟩ := cell_int Try.underlying5 hy
  obtain ⟨c, y, e, hy⟩ := hf0 3 _ rfl
  obtain rfl := Option.some.inj e
  obtain ⟨l, rfl, wf_l⟩ := cell_int Try.underlying44 hy
  obtain ⟨c, y, e, hy⟩ := hf0 4 _ rfl
  obtain rfl := Option.some.inj e
  obtain ⟨g, rfl, wf_g⟩ := cell_int Try.underlying5 hy
  obtain ⟨q, xs, cap, sb, so, rfl, hn, hs⟩ := open_small Try.underlying59 Try.underlying60 (by kernel_rfl) (by kernel_rfl) Try.underlying5 (hval 1 59 v1 rfl rfl) h1
  refine (lawWindow_any lives_any r b t l g (by
      simp [Lit.wf, IntKind.min, IntKind.max, IntKind.signed, IntKind.bits] at wf_r wf_b wf_t wf_l wf_g
      exact ⟨by omega, by omega, by omega, by omega, by omega, by omega, by omega, by omega, by omega, by omega⟩) q sb so cap xs W hs hn).mono fun e W' ⟨he, hw⟩ => ?_
  subst he
  exact ⟨_, rfl, law_post laidOut (by intro t ht; rw [Try.params7] at ht; revert t; decide +kernel) rfl Try.underlying4 rfl rfl hW' hw⟩
theorem proved : Rows.BucketsWindowSaid :=
  OpenClaim.holds_of_wide 7 Try.f7 rfl rfl rfl rfl rfl rfl rfl ⟨rfl, rfl, rfl, rfl, rfl⟩ rfl rfl rfl rfl rfl (by kernel_rfl) Try.func7 (by kernel_rfl)
    (of_decide_eq_true (by kernel_rfl)) (by unfold Func.isWrapper; rw [if_neg (of_decide_eq_false (by kernel_rfl))]; exact ⟨rfl, rfl⟩)
    (fun os started H enc _ => lifted os started H enc)
end Go.Proofs.Yteojndglglkgpaa.lawWindow
