/-
  LexersText: the text of tokens is taken apart to the same tokens: for every X (of which at most 60 tokens are made). No condition: for every input.
-/
import Derived.Test.YtbmflenlbbgjiaaEe
import Derived.Test.YtbmflenlbbgjiaaYs
import Derived.Test.YtbmflenlbbgjiaaY
namespace Go.Proofs.Ytbmflenlbbgjiaa.lawText
open Go.ChangeShapes Go.WideShapes Go.ChangeAt Go.RowKit Go.Joins Go.Deep
set_option linter.unusedVariables false
section
variable {H : Type} {enc : TypeId × Value → H} {P : Program} {w : World} {base : Nat} {spare : Nat → Bool} {held : Bool}
theorem open_bytes {t e : TypeId} {v : Value} {fuel : Nat} {y : DataW H × List MemPlace} (ht : P.underlying t = some (.slice e)) (hf : flatT P 20 e = some [e]) (hc : P.cellsOf e = 1)
    (u0 : P.underlying e = some (.int .u8)) (hg : DataW.trod enc P w base spare held fuel t [v] = some y) :
    ∃ (q : Option Addr) (L : List Int) (cap sb so : Nat), v = .slice q L.length cap ∧ L.length ≤ 9223372036854775807 ∧ BytesIn w q sb so L := by
  obtain ⟨q, n, cap, sb, so, C, rfl, hn, hz, hx⟩ := open_rows_cell ht hf (by simp [hc]) (by simp) hg
  have each : ∀ i, i < n → ∃ x : Int, C i 0 = .int .u8 x ∧ 0 ≤ x ∧ x ≤ 255 := by
    intro i hi
    obtain ⟨_, m0, z0, h0⟩ := hx i hi 0 e rfl
    obtain ⟨a0, e0, wf⟩ := cell_int u0 h0
    simp [Lit.wf, IntKind.min, IntKind.max, IntKind.signed, IntKind.bits] at wf
    exact ⟨a0, e0, wf.1, wf.2⟩
  obtain ⟨X, hX⟩ := choose_lt each
  refine ⟨q, (List.range n).map X, cap, sb, so, by simp, by simpa using hn, ⟨fun hp => (hz (by simpa using hp)).1, fun hp => (hz (by simpa using hp)).2, fun i hi => ?_, fun i hi => ?_⟩⟩
  · have hi' : i < n := by simpa using hi
    have := (hx i hi' 0 e rfl).1
    rw [(hX i hi').1] at this
    simpa using this
  · have hi' : i < n := by simpa using hi
    simpa using (hX i hi').2
end
set_option maxRecDepth 100000 in
set_option maxHeartbeats 4000000 in
theorem lifted (os : Os) (started : os.Started) (H : Type) (enc : TypeId × Value → H) :
    ReturnsInHanded {} Try.checked os 4 .any (Rows.lexersTextSpec.pre6 enc Try.prog Try.f4 Rows.lexersTextRow.domain false) (Rows.lexersTextSpec.post enc Try.prog Try.f4 false true false false) := by
  refine returnsInHanded_of_change (C := Try.checked) own started (by kernel_rfl) Try.func4
    (ChangeSpec.witness6 (enc := enc) (C := Try.checked) false ⟨#[], #[.agg #[.slice none 0 0]], []⟩ 8 (by kernel_rfl) (by kernel_rfl) (by kernel_rfl) (by kernel_rfl)) ?_
  intro W base args ds gs before hval0 hW hcnd _
  have hval : ∀ (j : Nat) t v, Try.f4.params[j]? = some t → args[j]? = some v → Value.okWide Try.prog W .any base t v := hval0
  have hW' := hW
  obtain ⟨p, q, hA0, hV, rfl, hfz, hnd⟩ := hW
  have hA : DataW.TrodAll enc Try.prog W 0 (fun _ => true) true Try.f4.params.toList args.toList ds p := hA0
  rw [Try.params4] at hA hval
  obtain ⟨v0, d0, rfl, rfl, h0⟩ := trodAll_one hA
  obtain ⟨rfl, rfl⟩ := trodVars_none hV
  obtain ⟨l0, m0, rfl, hl0, hf0⟩ := open_fields Try.underlying38 (by kernel_rfl) (show Try.prog.cellsOf 38 = _ by kernel_rfl) (hval 0 38 v0 rfl rfl) h0
  obtain ⟨c0_0, rfl⟩ := list_len1 hl0
  obtain ⟨c, y, e, hy⟩ := hf0 0 _ rfl
  obtain rfl := Option.some.inj e
  obtain ⟨q, L, cap, sb, so, rfl, hn, hs⟩ := open_bytes Try.underlying36 (by kernel_rfl) (by kernel_rfl) Try.underlying5 hy
  refine (lawText_any L q sb so cap hn W hs).mono fun e W' ⟨he, hw⟩ => ?_
  subst he
  exact ⟨_, rfl, law_post laidOut (by intro t ht; rw [Try.params4] at ht; revert t; decide +kernel) rfl Try.underlying4 rfl rfl hW' hw⟩
theorem proved : Rows.LexersTextSaid :=
  OpenClaim.holds_of_wide 4 Try.f4 rfl rfl rfl rfl rfl rfl rfl ⟨rfl, rfl, rfl, rfl, rfl⟩ rfl rfl rfl rfl rfl (by kernel_rfl) Try.func4 (by kernel_rfl)
    (of_decide_eq_true (by kernel_rfl)) (by unfold Func.isWrapper; rw [if_neg (of_decide_eq_false (by kernel_rfl))]; exact ⟨rfl, rfl⟩)
    (fun os started H enc _ => lifted os started H enc)
end Go.Proofs.Ytbmflenlbbgjiaa.lawText
