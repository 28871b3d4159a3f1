/-
  GatesWindow: at every step at most Cap items wait without an answer, each gets one answer, and the gate keeps its counts: for every gate and every list of quadruples of small numbers (at most 40 steps are taken). No condition: for every input.
-/
import Derived.Test.YtnogbjpiocckiaaWc
import Derived.Test.YtnogbjpiocckiaaYs
import Derived.Test.YtnogbjpiocckiaaY
namespace Go.Proofs.Ytnogbjpiocckiaa.lawWindow
open Go.ChangeShapes Go.WideShapes Go.ChangeAt Go.RowKit Go.Joins Go.Deep
set_option linter.unusedVariables false
section
variable {H : Type} {enc : TypeId × Value → H} {P : Program} {w : World} {base : Nat} {spare : Nat → Bool} {held : Bool}
theorem open_quads {r : Reach} {b0 : Nat} {t e u : TypeId} {v : Value} {d : DataW H} {p : List MemPlace} (ht : P.underlying t = some (.slice e)) (hf : flatT P 20 e = some [u, u, u, u]) (hc : P.cellsOf e = 4)
    (u0 : P.underlying u = some (.int .u8)) (hv : Value.okWide P w r b0 t v) (h : DataW.Trod enc P w base spare held t v d p) :
    ∃ (q : Option Addr) (xs : List (Int × Int × Int × Int)) (cap sb so : Nat), v = .slice q xs.length cap ∧ xs.length ≤ 9223372036854775807 ∧ QuadsAt w q sb so xs := by
  obtain ⟨q, n, cap, sb, so, C, rfl, hn, hz, hx⟩ := open_rows ht hf (by simp [hc]) (by simp) hv h
  have one : ∀ i, i < n → ∀ j, j < 4 → ∃ x : Int, C i j = .int .u8 x ∧ 0 ≤ x ∧ x ≤ 255 := by
    intro i hi j hj
    have ej : [u, u, u, u][j]? = some u := by
      rcases j with _ | _ | _ | _ | j
      · rfl
      · rfl
      · rfl
      · rfl
      · omega
    obtain ⟨_, m0, z0, h0⟩ := hx i hi j u ej
    obtain ⟨a0, e0, wf⟩ := cell_int u0 h0
    simp [Lit.wf, IntKind.min, IntKind.max, IntKind.signed, IntKind.bits] at wf
    exact ⟨a0, e0, wf.1, wf.2⟩
  have each : ∀ i, i < n → ∃ x : Int × Int × Int × Int, C i 0 = .int .u8 x.1 ∧ C i 1 = .int .u8 x.2.1 ∧ C i 2 = .int .u8 x.2.2.1 ∧ C i 3 = .int .u8 x.2.2.2 ∧
      0 ≤ x.1 ∧ x.1 ≤ 255 ∧ 0 ≤ x.2.1 ∧ x.2.1 ≤ 255 ∧ 0 ≤ x.2.2.1 ∧ x.2.2.1 ≤ 255 ∧ 0 ≤ x.2.2.2 ∧ x.2.2.2 ≤ 255 := by
    intro i hi
    obtain ⟨a, ea, a0, a1⟩ := one i hi 0 (by omega)
    obtain ⟨b, eb, b0, b1⟩ := one i hi 1 (by omega)
    obtain ⟨c, ec, c0, c1⟩ := one i hi 2 (by omega)
    obtain ⟨d, ed, d0, d1⟩ := one i hi 3 (by omega)
    exact ⟨(a, b, c, d), ea, eb, ec, ed, a0, a1, b0, b1, c0, c1, d0, d1⟩
  obtain ⟨X, hX⟩ := choose_lt each
  refine ⟨q, (List.range n).map X, cap, sb, so, by simp, by simpa using hn, ⟨fun hp => (hz (by simpa using hp)).1, fun hp => (hz (by simpa using hp)).2, fun i hi => ?_, fun i hi => ?_, fun i hi => ?_, fun i hi => ?_, fun i hi => ?_⟩⟩
  · have hi' : i < n := by simpa using hi
    have := (hx i hi' 0 u rfl).1
    rw [(hX i hi').1] at this
    simpa using this
  · have hi' : i < n := by simpa using hi
    have := (hx i hi' 1 u rfl).1
    rw [(hX i hi').2.1] at this
    simpa using this
  · have hi' : i < n := by simpa using hi
    have := (hx i hi' 2 u rfl).1
    rw [(hX i hi').2.2.1] at this
    simpa using this
  · have hi' : i < n := by simpa using hi
    have := (hx i hi' 3 u rfl).1
    rw [(hX i hi').2.2.2.1] at this
    simpa using this
  · have hi' : i < n := by simpa using hi
    have h5 := (hX i hi').2.2.2.2
    simpa using h5
end
set_option maxRecDepth 100000 in
set_option maxHeartbeats 4000000 in
theorem lifted (os : Os) (started : os.Started) (H : Type) (enc : TypeId × Value → H) :
    ReturnsInHanded {} Try.checked os 6 .any (Rows.gatesWindowSpec.pre6 enc Try.prog Try.f6 Rows.gatesWindowRow.domain false) (Rows.gatesWindowSpec.post enc Try.prog Try.f6 false true false false) := by
  refine returnsInHanded_of_change (C := Try.checked) own started (by kernel_rfl) Try.func6
    (ChangeSpec.witness6 (enc := enc) (C := Try.checked) false ⟨#[], #[.agg #[.int .u8 0, .int .u8 0, .int .u8 0, .int .u16 0, .int .u8 0, .int .u8 0, .int .u8 0, .bool false], .slice none 0 0], []⟩ 8 (by kernel_rfl) (by kernel_rfl) (by kernel_rfl) (by kernel_rfl)) ?_
  intro W_ base args ds gs before hval0 hW hcnd _
  have hval : ∀ (j : Nat) t v, Try.f6.params[j]? = some t → args[j]? = some v → Value.okWide Try.prog W_ .any base t v := hval0
  have hW' := hW
  obtain ⟨p, q, hA0, hV, rfl, hfz, hnd⟩ := hW
  have hA : DataW.TrodAll enc Try.prog W_ 0 (fun _ => true) true Try.f6.params.toList args.toList ds p := hA0
  rw [Try.params6] at hA hval
  obtain ⟨v0, v1, d0, d1, p0, p1, rfl, rfl, rfl, h0, h1⟩ := trodAll_two hA
  obtain ⟨rfl, rfl⟩ := trodVars_none hV
  obtain ⟨l0, rfl, hl0, hf0⟩ := open_flat (ts := [5, 5, 5, 47, 5, 5, 5, 4]) (.inl ⟨_, Try.underlying51⟩) (by kernel_rfl) (by kernel_rfl) (hval 0 51 v0 rfl rfl) h0
  obtain ⟨c0_0, c0_1, c0_2, c0_3, c0_4, c0_5, c0_6, c0_7, rfl⟩ := list_len8 hl0
  obtain ⟨c, m, y, e, hy⟩ := hf0 0 _ rfl
  obtain rfl := Option.some.inj e
  obtain ⟨r, rfl, wf_r⟩ := cell_int Try.underlying5 hy
  obtain ⟨c, m, y, e, hy⟩ := hf0 1 _ rfl
  obtain rfl := Option.some.inj e
  obtain ⟨b, rfl, wf_b⟩ := cell_int Try.underlying5 hy
  obtain ⟨c, m, y, e, hy⟩ := hf0 2 _ rfl
  obtain rfl := Option.some.inj e
  obtain ⟨t, rfl, wf_t⟩ := cell_int Try.underlying5 hy
  obtain ⟨c, m, y, e, hy⟩ := hf0 3 _ rfl
  obtain rfl := Option.some.inj e
  obtain ⟨l, rfl, wf_l⟩ := cell_int Try.underlying47 hy
  obtain ⟨c, m, y, e, hy⟩ := hf0 4 _ rfl
  obtain rfl := Option.some.inj e
  obtain ⟨g, rfl, wf_g⟩ := cell_int Try.underlying5 hy
  obtain ⟨c, m, y, e, hy⟩ := hf0 5 _ rfl
  obtain rfl := Option.some.inj e
  obtain ⟨c, rfl, wf_c⟩ := cell_int Try.underlying5 hy
  obtain ⟨c, m, y, e, hy⟩ := hf0 6 _ rfl
  obtain rfl := Option.some.inj e
  obtain ⟨v, rfl, wf_v⟩ := cell_int Try.underlying5 hy
  obtain ⟨c, m, y, e, hy⟩ := hf0 7 _ rfl
  obtain rfl := Option.some.inj e
  obtain ⟨E, rfl⟩ := cell_bool Try.underlying4 hy
  obtain ⟨pz, xz, capz, sbz, soz, rfl, hnz, hsz⟩ := open_quads Try.underlying56 (u := 5) (by kernel_rfl) (by kernel_rfl) Try.underlying5 (hval 1 56 v1 rfl rfl) h1
  refine (lawWindow_any ⟨(bounds_u8 wf_r).1, (bounds_u8 wf_r).2, (bounds_u8 wf_b).1, (bounds_u8 wf_b).2, (bounds_u8 wf_t).1, (bounds_u8 wf_t).2, (bounds_u16 wf_l).1, (bounds_u16 wf_l).2, (bounds_u8 wf_g).1, (bounds_u8 wf_g).2⟩ (bounds_u8 wf_c).1 (bounds_u8 wf_c).2 (bounds_u8 wf_v).1 (bounds_u8 wf_v).2 pz sbz soz capz xz W_ hsz hnz).mono fun e W' ⟨he, hw⟩ => ?_
  subst he
  exact ⟨_, rfl, law_post laidOut (by intro t ht; rw [Try.params6] at ht; revert t; decide +kernel) rfl Try.underlying4 rfl rfl hW' hw⟩
theorem proved : Rows.GatesWindowSaid :=
  OpenClaim.holds_of_wide 6 Try.f6 rfl rfl rfl rfl rfl rfl rfl ⟨rfl, rfl, rfl, rfl, rfl⟩ rfl rfl rfl rfl rfl (by kernel_rfl) Try.func6 (by kernel_rfl)
    (of_decide_eq_true (by kernel_rfl)) (by unfold Func.isWrapper; rw [if_neg (of_decide_eq_false (by kernel_rfl))]; exact ⟨rfl, rfl⟩)
    (fun os started H enc _ => lifted os started H enc)
end Go.Proofs.Ytnogbjpiocckiaa.lawWindow
