/-
  Turns: arguments opened (values): numbers, truth values, where they lie.
-/
import Derived.Test.YtehbfajmileefaaZl
import Derived.Test.YtehbfajmileefaaYs
namespace Go.Proofs.Ytehbfajmileefaa.Px
open Go.ChangeShapes Go.WideShapes Go.ChangeAt Go.RowKit Go.Deep
set_option linter.unusedVariables false
/-- numbers that lie in memory -/
structure IntsAt (w : World) (q : Option Addr) (sb so : Nat) (L : List Int) : Prop where
  here : 0 < L.length → q = some ⟨sb, so, none⟩
  lt : 0 < L.length → sb < w.heap.size
  cell : ∀ i (h : i < L.length), w.cell? ⟨sb, so + i, none⟩ = some (.int .i64 L[i])
/-- truth values that lie in memory -/
structure BoolsAt (w : World) (q : Option Addr) (sb so : Nat) (L : List Bool) : Prop where
  here : 0 < L.length → q = some ⟨sb, so, none⟩
  lt : 0 < L.length → sb < w.heap.size
  cell : ∀ i (h : i < L.length), w.cell? ⟨sb, so + i, none⟩ = some (.bool L[i])
section
variable {H : Type} {enc : TypeId × Value → H} {P : Program} {w : World} {base : Nat} {spare : Nat → Bool} {held : Bool}
theorem open_ints {t e : TypeId} {v : Value} {fuel : Nat} {y : DataW H × List MemPlace} (ht : P.underlying t = some (.slice e)) (hf : flatT P 20 e = some [e]) (hc : P.cellsOf e = 1)
    (u0 : P.underlying e = some (.int .i64)) (hg : DataW.trod enc P w base spare held fuel t [v] = some y) :
    ∃ (q : Option Addr) (L : List Int) (cap sb so : Nat), v = .slice q L.length cap ∧ L.length ≤ 9223372036854775807 ∧ IntsAt w q sb so L := by
  obtain ⟨q, n, cap, sb, so, C, rfl, hn, hz, hx⟩ := open_rows_cell ht hf (by simp [hc]) (by simp) hg
  have each : ∀ i, i < n → ∃ x : Int, C i 0 = .int .i64 x := by
    intro i hi
    obtain ⟨_, m0, z0, h0⟩ := hx i hi 0 e rfl
    obtain ⟨a0, e0, _⟩ := cell_int u0 h0
    exact ⟨a0, e0⟩
  obtain ⟨X, hX⟩ := choose_lt each
  refine ⟨q, (List.range n).map X, cap, sb, so, by simp, by simpa using hn, ⟨fun hp => (hz (by simpa using hp)).1, fun hp => (hz (by simpa using hp)).2, fun i hi => ?_⟩⟩
  have hi' : i < n := by simpa using hi
  have := (hx i hi' 0 e rfl).1
  rw [hX i hi'] at this
  simpa using this
theorem open_bools {t e : TypeId} {v : Value} {r : Reach} {b0 : Nat} {d : DataW H} {p : List MemPlace} (ht : P.underlying t = some (.slice e)) (hf : flatT P 20 e = some [e]) (hc : P.cellsOf e = 1)
    (u0 : P.underlying e = some .bool) (hv : Value.okWide P w r b0 t v) (h : DataW.Trod enc P w base spare held t v d p) :
    ∃ (q : Option Addr) (L : List Bool) (cap sb so : Nat), v = .slice q L.length cap ∧ L.length ≤ 9223372036854775807 ∧ BoolsAt w q sb so L := by
  obtain ⟨q, n, cap, sb, so, C, rfl, hn, hz, hx⟩ := open_rows ht hf (by simp [hc]) (by simp) hv h
  have each : ∀ i, i < n → ∃ x : Bool, C i 0 = .bool x := by
    intro i hi
    obtain ⟨_, m0, z0, h0⟩ := hx i hi 0 e rfl
    obtain ⟨a0, e0⟩ := cell_bool u0 h0
    exact ⟨a0, e0⟩
  obtain ⟨X, hX⟩ := choose_lt each
  refine ⟨q, (List.range n).map X, cap, sb, so, by simp, by simpa using hn, ⟨fun hp => (hz (by simpa using hp)).1, fun hp => (hz (by simpa using hp)).2, fun i hi => ?_⟩⟩
  have hi' : i < n := by simpa using hi
  have := (hx i hi' 0 e rfl).1
  rw [hX i hi'] at this
  simpa using this
end
end Go.Proofs.Ytehbfajmileefaa.Px
