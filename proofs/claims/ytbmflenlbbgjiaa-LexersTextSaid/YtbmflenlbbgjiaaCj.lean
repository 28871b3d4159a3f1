/-
  LexersCheck: tokens in memory, and Same.
-/
import Derived.Test.YtbmflenlbbgjiaaCi
namespace Go.Proofs.Ytbmflenlbbgjiaa
open Go.RowKit
set_option linter.unusedVariables false
set_option linter.unusedSimpArgs false
/-- a token: kind, text, offset -/
abbrev Tok := Int × ByteArray × Int
/-- tokens that lie in memory -/
structure ToksAt (w : World) (p : Option Addr) (sb so : Nat) (xs : List Tok) : Prop where
  here : 0 < xs.length → p = some ⟨sb, so, none⟩
  lt : 0 < xs.length → sb < w.heap.size
  kind : ∀ i (h : i < xs.length), w.cell? ⟨sb, so + i * 3, none⟩ = some (.int .u8 (xs[i]).1)
  text : ∀ i (h : i < xs.length), w.cell? ⟨sb, so + i * 3 + 1, none⟩ = some (.string (xs[i]).2.1)
  at_ : ∀ i (h : i < xs.length), w.cell? ⟨sb, so + i * 3 + 2, none⟩ = some (.int .i64 (xs[i]).2.2)
theorem toks_below {w w' : World} {p : Option Addr} {sb so : Nat} {xs : List Tok} (h : ToksAt w p sb so xs) (hb : Below w.heap.size w w') : ToksAt w' p sb so xs :=
  ⟨h.here, fun hx => Nat.lt_of_lt_of_le (h.lt hx) hb.size, fun i hi => (hb.cell (p := ⟨sb, so + i * 3, none⟩) (h.lt (by omega))).trans (h.kind i hi),
    fun i hi => (hb.cell (p := ⟨sb, so + i * 3 + 1, none⟩) (h.lt (by omega))).trans (h.text i hi), fun i hi => (hb.cell (p := ⟨sb, so + i * 3 + 2, none⟩) (h.lt (by omega))).trans (h.at_ i hi)⟩
def keyT (x : Tok) : Int × List UInt8 := (x.1, x.2.1.toList)
/-- the same kinds and texts -/
def sameB (xs ys : List Tok) : Bool := decide (xs.map keyT = ys.map keyT)
/-- .. up to an index -/
def sameTo (xs ys : List Tok) (k : Nat) : Prop := (xs.take k).map keyT = (ys.take k).map keyT
theorem same_len {xs ys : List Tok} (h : ¬ xs.length = ys.length) : sameB xs ys = false := by
  unfold sameB
  simp only [decide_eq_false_iff_not]
  intro e
  have := congrArg List.length e
  simp at this
  exact h this
theorem same_succ {xs ys : List Tok} {k : Nat} (h : sameTo xs ys k) (h1 : k < xs.length) (h2 : k < ys.length) (e1 : (xs[k]).1 = (ys[k]).1) (e2 : (xs[k]).2.1.toList = (ys[k]).2.1.toList) : sameTo xs ys (k + 1) := by
  unfold sameTo at h ⊢
  rw [List.take_add_one, List.take_add_one, List.map_append, List.map_append, h, List.getElem?_eq_getElem h1, List.getElem?_eq_getElem h2]
  simp [keyT, e1, e2]
theorem same_miss {xs ys : List Tok} {k : Nat} (h1 : k < xs.length) (h2 : k < ys.length) (e : ¬ ((xs[k]).1 = (ys[k]).1 ∧ (xs[k]).2.1.toList = (ys[k]).2.1.toList)) : sameB xs ys = false := by
  unfold sameB
  simp only [decide_eq_false_iff_not]
  intro he
  apply e
  have := congrArg (fun l => l[k]?) he
  simp [keyT, List.getElem?_eq_getElem h1, List.getElem?_eq_getElem h2] at this
  exact this
theorem same_all {xs ys : List Tok} (h : sameTo xs ys xs.length) (hl : xs.length = ys.length) : sameB xs ys = true := by
  unfold sameTo at h
  rw [List.take_length, hl, List.take_length] at h
  unfold sameB
  simp [h]
theorem same_self (xs : List Tok) : sameB xs xs = true := by simp [sameB]
set_option maxHeartbeats 8000000 in
theorem same_any (xs ys : List Tok) (pa pb : Option Addr) (sa oa ca sb ob cb : Nat) (hx : xs.length ≤ 9223372036854775807) (hy : ys.length ≤ 9223372036854775807) (w : World) (ha : ToksAt w pa sa oa xs) (hb : ToksAt w pb sb ob ys) :
    Calls Try.prog 16 #[.slice pa xs.length ca, .slice pb ys.length cb] w fun e w' => e = .returned (.bool (sameB xs ys)) ∧ Below w.heap.size w w' := by
  by_cases hl : xs.length = ys.length
  · have HL := Lib.hid hl
    have hl' : ((xs.length : Int) != (ys.length : Int)) = false := by simp [hl]
    clear hl
    go_enter Try.func16, Try.ntmps16
    go_wp2
    go_loopw [13] (fun i wr => ∃ k : Nat, k ≤ xs.length ∧ i = .int .i64 k ∧ Below w.heap.size w wr ∧ Hid (sameTo xs ys k)) (fun i _ => xs.length - (intOf i).toNat)
    case atStart => exact ⟨0, by omega, rfl, Below.refl _ _, Lib.hid (show sameTo xs ys 0 from rfl)⟩
    case round =>
      obtain ⟨k, hk, rfl, hbr, hn⟩ := hrel
      by_cases hlt : k < xs.length
      · have hlt2 : k < ys.length := by have := HL.out; omega
        obtain rfl := ha.here (by omega)
        obtain rfl := hb.here (by omega)
        have c1 : wr.cell? ⟨sa, oa + k * 3, none⟩ = some (.int .u8 (xs[k]).1) := by rw [hbr.cell (ha.lt (by omega))]; exact ha.kind k hlt
        have c2 : wr.cell? ⟨sa, oa + k * 3 + 1, none⟩ = some (.string (xs[k]).2.1) := by rw [hbr.cell (ha.lt (by omega))]; exact ha.text k hlt
        have d1 : wr.cell? ⟨sb, ob + k * 3, none⟩ = some (.int .u8 (ys[k]).1) := by rw [hbr.cell (hb.lt (by omega))]; exact hb.kind k hlt2
        have d2 : wr.cell? ⟨sb, ob + k * 3 + 1, none⟩ = some (.string (ys[k]).2.1) := by rw [hbr.cell (hb.lt (by omega))]; exact hb.text k hlt2
        have z0 : (0 : Int) ≤ (k : Int) := by omega
        have z1 : (k : Int) < (xs.length : Int) := by omega
        have z2 : (k : Int) < (ys.length : Int) := by omega
        have HB := Lib.hid hbr
        clear hbr
        by_cases e1 : (xs[k]).1 = (ys[k]).1
        · by_cases e2 : (xs[k]).2.1.toList = (ys[k]).2.1.toList
          · have HN := Lib.hid (same_succ hn.out hlt hlt2 e1 e2)
            have e1' : ((xs[k]).1 != (ys[k]).1) = false := by simp [e1]
            have e2' : ((xs[k]).2.1.toList == (ys[k]).2.1.toList) = true := by simp [e2]
            clear e1 e2 hn
            go_wp2
            go_quiet (fail)
            go_wp2
            go_roundw
            case rel => exact ⟨k + 1, by omega, by go_num, bdrewN HB.out _, HN⟩
            case measure => simp [intOf]; omega
          · have HV := Lib.hid (same_miss hlt hlt2 (fun h => e2 h.2))
            have e1' : ((xs[k]).1 != (ys[k]).1) = false := by simp [e1]
            have e2' : ((xs[k]).2.1.toList == (ys[k]).2.1.toList) = false := by simp [e2]
            clear e1 e2 hn
            go_wp2
            go_quiet (fail)
            go_wp2
            go_ret
            exact ⟨by (rw [HV.out]; try rfl), bdrewN HB.out _⟩
        · have HV := Lib.hid (same_miss hlt hlt2 (fun h => e1 h.1))
          have e1' : ((xs[k]).1 != (ys[k]).1) = true := by simp [e1]
          clear e1 hn
          go_wp2
          go_quiet (fail)
          go_wp2
          go_ret
          exact ⟨by (rw [HV.out]; try rfl), bdrewN HB.out _⟩
      · obtain rfl : k = xs.length := by omega
        have HV := Lib.hid (same_all hn.out HL.out)
        clear hn
        go_wp2
        go_ret
        exact ⟨by (rw [HV.out]; try rfl), hbr⟩
  · have HV := Lib.hid (same_len hl)
    have hl' : ((xs.length : Int) != (ys.length : Int)) = true := by simp; omega
    clear hl
    go_enter Try.func16, Try.ntmps16
    go_wp2
    go_ret
    exact ⟨by (rw [HV.out]; try rfl), Below.refl _ _⟩
end Go.Proofs.Ytbmflenlbbgjiaa
