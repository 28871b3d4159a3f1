/-
  LexersCheck: tokens are right exactly as the definition says; lists with others have no text, and lists are the same exactly if all Kinds and Texts are: for any two lists of tokens (more than 30, or a text of more than 40 bytes: the examples of the chapter hold). No condition: for every input.
-/
import Derived.Test.YtbmflenlbbgjiaaCl
import Derived.Test.YtbmflenlbbgjiaaYs
import Derived.Test.YtbmflenlbbgjiaaY
namespace Go.Proofs.Ytbmflenlbbgjiaa.lawCheck
open Go.ChangeShapes Go.WideShapes Go.ChangeAt Go.RowKit Go.Joins Go.Deep
set_option linter.unusedVariables false
section
variable {H : Type} {enc : TypeId × Value → H} {P : Program} {w : World} {base : Nat} {spare : Nat → Bool} {held : Bool}
theorem open_toks {r : Reach} {b0 : Nat} {t e t0 t1 t2 : TypeId} {v : Value} {d : DataW H} {p : List MemPlace} (ht : P.underlying t = some (.slice e)) (hf : flatT P 20 e = some [t0, t1, t2]) (hc : P.cellsOf e = 3)
    (u0 : P.underlying t0 = some (.int .u8)) (u1 : P.underlying t1 = some .string) (u2 : P.underlying t2 = some (.int .i64))
    (hv : Value.okWide P w r b0 t v) (h : DataW.Trod enc P w base spare held t v d p) :
    ∃ (q : Option Addr) (xs : List Tok) (cap sb so : Nat), v = .slice q xs.length cap ∧ xs.length ≤ 9223372036854775807 ∧ (∀ i (h : i < xs.length), (xs[i]).2.1.size ≤ 9223372036854775807) ∧ ToksAt w q sb so xs := by
  obtain ⟨q, n, cap, sb, so, C, rfl, hn, hz, hx⟩ := open_rows ht hf (by simp [hc]) (by simp) hv h
  have each : ∀ i, i < n → ∃ x : Tok, C i 0 = .int .u8 x.1 ∧ C i 1 = .string x.2.1 ∧ C i 2 = .int .i64 x.2.2 ∧ x.2.1.size ≤ 9223372036854775807 := by
    intro i hi
    obtain ⟨_, m0, z0, h0⟩ := hx i hi 0 t0 rfl
    obtain ⟨_, m1, z1, h1⟩ := hx i hi 1 t1 rfl
    obtain ⟨_, m2, z2, h2⟩ := hx i hi 2 t2 rfl
    obtain ⟨a0, e0, _⟩ := cell_int u0 h0
    obtain ⟨a1, e1, l1⟩ := cell_string u1 h1
    obtain ⟨a2, e2, _⟩ := cell_int u2 h2
    exact ⟨(a0, a1, a2), e0, e1, e2, by unfold maxLen at l1; omega⟩
  obtain ⟨X, hX⟩ := choose_lt each
  refine ⟨q, (List.range n).map X, cap, sb, so, by simp, by simpa using hn, fun i hi => ?_, ⟨fun hp => (hz (by simpa using hp)).1, fun hp => (hz (by simpa using hp)).2, fun i hi => ?_, fun i hi => ?_, fun i hi => ?_⟩⟩
  · have hi' : i < n := by simpa using hi
    simpa using (hX i hi').2.2.2
  · have hi' : i < n := by simpa using hi
    have := (hx i hi' 0 t0 rfl).1
    rw [(hX i hi').1] at this
    simpa using this
  · have hi' : i < n := by simpa using hi
    have := (hx i hi' 1 t1 rfl).1
    rw [(hX i hi').2.1] at this
    simpa using this
  · have hi' : i < n := by simpa using hi
    have := (hx i hi' 2 t2 rfl).1
    rw [(hX i hi').2.2.1] at this
    simpa using this
end
set_option maxRecDepth 100000 in
set_option maxHeartbeats 4000000 in
theorem lifted (os : Os) (started : os.Started) (H : Type) (enc : TypeId × Value → H) :
    ReturnsInHanded {} Try.checked os 5 .any (Rows.lexersCheckSpec.pre6 enc Try.prog Try.f5 Rows.lexersCheckRow.domain false) (Rows.lexersCheckSpec.post enc Try.prog Try.f5 false true false false) := by
  refine returnsInHanded_of_change (C := Try.checked) own started (by kernel_rfl) Try.func5
    (ChangeSpec.witness6 (enc := enc) (C := Try.checked) false ⟨#[], #[.slice none 0 0, .slice none 0 0], []⟩ 8 (by kernel_rfl) (by kernel_rfl) (by kernel_rfl) (by kernel_rfl)) ?_
  intro W base args ds gs before hval0 hW hcnd _
  have hval : ∀ (j : Nat) t v, Try.f5.params[j]? = some t → args[j]? = some v → Value.okWide Try.prog W .any base t v := hval0
  have hW' := hW
  obtain ⟨p, q, hA0, hV, rfl, hfz, hnd⟩ := hW
  have hA : DataW.TrodAll enc Try.prog W 0 (fun _ => true) true Try.f5.params.toList args.toList ds p := hA0
  rw [Try.params5] at hA hval
  obtain ⟨v0, v1, d0, d1, p0, p1, rfl, rfl, rfl, h0, h1⟩ := trodAll_two hA
  obtain ⟨rfl, rfl⟩ := trodVars_none hV
  obtain ⟨pa, xa, capa, sba, soa, rfl, hna, hza, hsa⟩ := open_toks Try.underlying23 (t0 := 5) (t1 := 9) (t2 := 3) (by kernel_rfl) (by kernel_rfl) Try.underlying5 Try.underlying9 Try.underlying3 (hval 0 23 v0 rfl rfl) h0
  obtain ⟨pb, xb, capb, sbb, sob, rfl, hnb, hzb, hsb⟩ := open_toks Try.underlying23 (t0 := 5) (t1 := 9) (t2 := 3) (by kernel_rfl) (by kernel_rfl) Try.underlying5 Try.underlying9 Try.underlying3 (hval 1 23 v1 rfl rfl) h1
  refine (lawCheck_any xa xb pa pb sba soa capa sbb sob capb hna hnb hza W hsa hsb).mono fun e W' ⟨he, hw⟩ => ?_
  subst he
  exact ⟨_, rfl, law_post laidOut (by intro t ht; rw [Try.params5] at ht; revert t; decide +kernel) rfl Try.underlying4 rfl rfl hW' hw⟩
theorem proved : Rows.LexersCheckSaid :=
  OpenClaim.holds_of_wide 5 Try.f5 rfl rfl rfl rfl rfl rfl rfl ⟨rfl, rfl, rfl, rfl, rfl⟩ rfl rfl rfl rfl rfl (by kernel_rfl) Try.func5 (by kernel_rfl)
    (of_decide_eq_true (by kernel_rfl)) (by unfold Func.isWrapper; rw [if_neg (of_decide_eq_false (by kernel_rfl))]; exact ⟨rfl, rfl⟩)
    (fun os started H enc _ => lifted os started H enc)
end Go.Proofs.Ytbmflenlbbgjiaa.lawCheck
