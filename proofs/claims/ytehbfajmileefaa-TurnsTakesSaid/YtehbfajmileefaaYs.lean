import Derived.Test.YtehbfajmileefaaY
namespace Go.Proofs.Ytehbfajmileefaa
open Go.ChangeShapes Go.WideShapes Go.ChangeAt Go.RowKit Go.Deep
set_option linter.unusedVariables false
theorem adds_none {a : Addr} (h : a.spot = none) (n : Nat) : a.add n = ⟨a.block, a.off + n, none⟩ := by
  cases a; simp only at h; subst h; unfold Addr.add; split
  · rename_i e; subst e; rfl
  · rfl
theorem cell_spot {w : World} {a : Addr} {v : Value} (h : w.cell? a = some v) : a.spot = none ∧ a.block < w.heap.size := by
  unfold World.cell? at h
  split at h
  · rename_i c _ _ heq
    split at h
    · cases h
    · rename_i hs
      exact ⟨by simpa using hs, (Array.getElem?_eq_some_iff.1 heq).1⟩
  · cases h
section
variable {H : Type} {enc : TypeId × Value → H} {P : Program} {w : World} {base : Nat} {spare : Nat → Bool} {held : Bool}
theorem open_rows {r : Reach} {b0 : Nat} {t e : TypeId} {ts : List TypeId} {v : Value} {d : DataW H} {p : List MemPlace} (ht : P.underlying t = some (.slice e)) (hf : flatT P 20 e = some ts) (hts : ts.length = P.cellsOf e) (hpos : 0 < ts.length)
    (hv : Value.okWide P w r b0 t v) (h : DataW.Trod enc P w base spare held t v d p) :
    ∃ (q : Option Addr) (n cap sb so : Nat) (C : Nat → Nat → Value), v = .slice q n cap ∧ n ≤ 9223372036854775807 ∧ (0 < n → q = some ⟨sb, so, none⟩ ∧ sb < w.heap.size) ∧
      ∀ i, i < n → ∀ (j : Nat) (s : TypeId), ts[j]? = some s → w.cell? ⟨sb, so + i * ts.length + j, none⟩ = some (C i j) ∧ ∃ m z, DataW.trod enc P w base spare held m s [C i j] = some z := by
  obtain ⟨a0, len, cap, rfl⟩ := okWide_slice ht hv
  obtain ⟨fuel, hg⟩ := h
  rcases open_slice ht hg with ⟨e1, _⟩ | ⟨a, len', cap', m, n, D, Pl, e1, hb, hl, hc, hm, _, hx⟩
  · simp [Value.cells] at e1
    obtain ⟨rfl, rfl, rfl⟩ := e1
    exact ⟨none, 0, 0, 0, 0, fun _ _ => default, rfl, by simp, fun h => absurd h (by simp), fun i h => absurd h (by simp)⟩
  · simp [Value.cells] at e1
    obtain ⟨rfl, rfl, rfl⟩ := e1
    have hlm : len ≤ m := by rw [hm]; split <;> omega
    have each : ∀ i, i < len → ∃ cs : List Value, cs.length = ts.length ∧ (∀ j, j < ts.length → w.cell? ((a.add (i * ts.length)).add j) = cs[j]?) ∧
        ∀ (j : Nat) (s : TypeId), ts[j]? = some s → ∃ c m z, cs[j]? = some c ∧ DataW.trod enc P w base spare held m s [c] = some z := by
      intro i hi
      obtain ⟨cs, h1, h2⟩ := hx i (by omega)
      obtain ⟨_, hlen, hcell⟩ := World.cells?_some h1
      refine ⟨cs, by omega, fun j hj => ?_, trod_flat 20 hf h2 (by omega)⟩
      rw [hts]
      have := hcell j (by omega)
      rw [this]
    obtain ⟨cs, hcs⟩ := choose_lt each
    have hz : 0 < len → a.spot = none ∧ a.block < w.heap.size := by
      intro hp
      obtain ⟨h1, h2, _⟩ := hcs 0 hp
      have h3 := h2 0 hpos
      rw [show 0 * ts.length = 0 by simp, show (a.add 0).add 0 = a from rfl, List.getElem?_eq_getElem (by omega)] at h3
      exact cell_spot h3
    refine ⟨some a, len, cap, a.block, a.off, fun i j => ((cs i)[j]?).getD default, rfl, by unfold maxLen at hc; omega, fun hp => ⟨?_, (hz hp).2⟩, fun i hi j s hj => ?_⟩
    · have := (hz hp).1
      cases a; simp only at this; subst this; rfl
    · obtain ⟨h1, h2, h3⟩ := hcs i hi
      obtain ⟨c, m', z, e1, e2⟩ := h3 j s hj
      have hjl : j < ts.length := (List.getElem?_eq_some_iff.1 hj).1
      have h4 := h2 j hjl
      have hz1 := (hz (by omega)).1
      rw [adds_none hz1, adds_none (by rfl), e1] at h4
      refine ⟨?_, m', z, ?_⟩
      · simp only [e1, Option.getD_some]; exact h4
      · simp only [e1, Option.getD_some]; exact e2
theorem open_rows_cell {t e : TypeId} {ts : List TypeId} {v : Value} {fuel : Nat} {y : DataW H × List MemPlace} (ht : P.underlying t = some (.slice e)) (hf : flatT P 20 e = some ts) (hts : ts.length = P.cellsOf e) (hpos : 0 < ts.length)
    (hg : DataW.trod enc P w base spare held fuel t [v] = some y) :
    ∃ (q : Option Addr) (n cap sb so : Nat) (C : Nat → Nat → Value), v = .slice q n cap ∧ n ≤ 9223372036854775807 ∧ (0 < n → q = some ⟨sb, so, none⟩ ∧ sb < w.heap.size) ∧
      ∀ i, i < n → ∀ (j : Nat) (s : TypeId), ts[j]? = some s → w.cell? ⟨sb, so + i * ts.length + j, none⟩ = some (C i j) ∧ ∃ m z, DataW.trod enc P w base spare held m s [C i j] = some z := by
  rcases open_slice ht hg with ⟨e1, _⟩ | ⟨a, len, cap, m, n, D, Pl, e1, hb, hl, hc, hm, _, hx⟩
  · simp at e1
    subst e1
    exact ⟨none, 0, 0, 0, 0, fun _ _ => default, rfl, by simp, fun h => absurd h (by simp), fun i h => absurd h (by simp)⟩
  · simp at e1
    subst e1
    have hlm : len ≤ m := by rw [hm]; split <;> omega
    have each : ∀ i, i < len → ∃ cs : List Value, cs.length = ts.length ∧ (∀ j, j < ts.length → w.cell? ((a.add (i * ts.length)).add j) = cs[j]?) ∧
        ∀ (j : Nat) (s : TypeId), ts[j]? = some s → ∃ c m z, cs[j]? = some c ∧ DataW.trod enc P w base spare held m s [c] = some z := by
      intro i hi
      obtain ⟨cs, h1, h2⟩ := hx i (by omega)
      obtain ⟨_, hlen, hcell⟩ := World.cells?_some h1
      refine ⟨cs, by omega, fun j hj => ?_, trod_flat 20 hf h2 (by omega)⟩
      rw [hts]
      have := hcell j (by omega)
      rw [this]
    obtain ⟨cs, hcs⟩ := choose_lt each
    have hz : 0 < len → a.spot = none ∧ a.block < w.heap.size := by
      intro hp
      obtain ⟨h1, h2, _⟩ := hcs 0 hp
      have h3 := h2 0 hpos
      rw [show 0 * ts.length = 0 by simp, show (a.add 0).add 0 = a from rfl, List.getElem?_eq_getElem (by omega)] at h3
      exact cell_spot h3
    refine ⟨some a, len, cap, a.block, a.off, fun i j => ((cs i)[j]?).getD default, rfl, by unfold maxLen at hc; omega, fun hp => ⟨?_, (hz hp).2⟩, fun i hi j s hj => ?_⟩
    · have := (hz hp).1
      cases a; simp only at this; subst this; rfl
    · obtain ⟨h1, h2, h3⟩ := hcs i hi
      obtain ⟨c, m', z, e1, e2⟩ := h3 j s hj
      have hjl : j < ts.length := (List.getElem?_eq_some_iff.1 hj).1
      have h4 := h2 j hjl
      have hz1 := (hz (by omega)).1
      rw [adds_none hz1, adds_none (by rfl), e1] at h4
      refine ⟨?_, m', z, ?_⟩
      · simp only [e1, Option.getD_some]; exact h4
      · simp only [e1, Option.getD_some]; exact e2
end
end Go.Proofs.Ytehbfajmileefaa
