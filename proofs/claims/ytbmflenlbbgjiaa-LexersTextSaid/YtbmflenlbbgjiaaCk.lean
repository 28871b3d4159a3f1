/-
  LexersCheck: Text: its error, and that there is no text then.
-/
import Derived.Test.YtbmflenlbbgjiaaCj
import Derived.Test.YtbmflenlbbgjiaaTb
namespace Go.Proofs.Ytbmflenlbbgjiaa
open Go.RowKit
set_option linter.unusedVariables false
set_option linter.unusedSimpArgs false
def chkT (x : Tok) : Int := chkL x.1 x.2.1.toList
/-- the first error -/
def firstE : List Tok → Int
  | [] => 0
  | x :: xs => if chkT x = 0 then firstE xs else chkT x
theorem firstE_append (a b : List Tok) : firstE (a ++ b) = if firstE a = 0 then firstE b else firstE a := by
  induction a with
  | nil => simp [firstE]
  | cons x xs ih =>
    simp only [List.cons_append, firstE, ih]
    by_cases h : chkT x = 0
    · simp [h]
    · simp [h]
theorem firstE_succ {xs : List Tok} {k : Nat} (h : k < xs.length) : firstE (xs.take (k + 1)) = if firstE (xs.take k) = 0 then chkT xs[k] else firstE (xs.take k) := by
  rw [List.take_add_one, List.getElem?_eq_getElem h, firstE_append]
  simp only [Option.toList_some, firstE]
  by_cases h0 : chkT xs[k] = 0 <;> simp [h0]
theorem firstE_here {xs : List Tok} {k : Nat} (h : k < xs.length) (h0 : firstE (xs.take k) = 0) (h1 : ¬ chkT xs[k] = 0) : firstE xs = chkT xs[k] := by
  have h2 := firstE_succ h
  rw [if_pos h0] at h2
  have h3 := firstE_append (xs.take (k + 1)) (xs.drop (k + 1))
  rw [List.take_append_drop, h2, if_neg h1] at h3
  exact h3
theorem firstE_next {xs : List Tok} {k : Nat} (h : k < xs.length) (h0 : firstE (xs.take k) = 0) (h1 : chkT xs[k] = 0) : firstE (xs.take (k + 1)) = 0 := by
  rw [firstE_succ h, if_pos h0]; exact h1
theorem firstE_end {xs : List Tok} (h0 : firstE (xs.take xs.length) = 0) : firstE xs = 0 := by rwa [List.take_length] at h0
set_option maxHeartbeats 8000000 in
theorem text_any (xs : List Tok) (p : Option Addr) (sb so cap : Nat) (hx : xs.length ≤ 30) (hz : ∀ i (h : i < xs.length), (xs[i]).2.1.size ≤ 40) (w : World) (hs : ToksAt w p sb so xs) :
    Calls Try.prog 15 #[.slice p xs.length cap] w fun e w' => (∃ s : ByteArray, e = .returned (.tuple #[.string s, .int .i64 (firstE xs)]) ∧ (firstE xs = 0 ∨ s = ⟨#[]⟩)) ∧ Below w.heap.size w w' := by
  go_enter Try.func15, Try.ntmps15
  go_wp2
  go_loopw [15] (fun i wr => ∃ k : Nat, k ≤ xs.length ∧ i = .int .i64 k ∧ Below w.heap.size w wr ∧ Hid (firstE (xs.take k) = 0)) (fun i _ => xs.length - (intOf i).toNat)
  case atStart => exact ⟨0, by omega, rfl, Below.refl _ _, Lib.hid (show firstE (xs.take 0) = 0 from rfl)⟩
  case round =>
    obtain ⟨k, hk, rfl, hbr, hn⟩ := hrel
    by_cases hlt : k < xs.length
    · obtain rfl := hs.here (by omega)
      have c1 : wr.cell? ⟨sb, so + k * 3, none⟩ = some (.int .u8 (xs[k]).1) := by rw [hbr.cell (hs.lt (by omega))]; exact hs.kind k hlt
      have c2 : wr.cell? ⟨sb, so + k * 3 + 1, none⟩ = some (.string (xs[k]).2.1) := by rw [hbr.cell (hs.lt (by omega))]; exact hs.text k hlt
      have c3 : wr.cell? ⟨sb, so + k * 3 + 2, none⟩ = some (.int .i64 (xs[k]).2.2) := by rw [hbr.cell (hs.lt (by omega))]; exact hs.at_ k hlt
      have z0 : (0 : Int) ≤ (k : Int) := by omega
      have z1 : (k : Int) < (xs.length : Int) := by omega
      have HB := Lib.hid hbr
      clear hbr
      go_wp2_with fail
      refine (check_any _ _ _ (by have := hz k hlt; omega) _).mono ?_
      rintro e w2 ⟨rfl, hb2⟩
      have hbk := bstep (balloc HB.out _) hb2
      have HBK := Lib.hid hbk
      clear hbk
      by_cases e0 : chkT xs[k] = 0
      · have HN := Lib.hid (firstE_next hlt hn.out e0)
        have e0' : (chkL (xs[k]).1 (xs[k]).2.1.toList != 0) = false := by unfold chkT at e0; simp [e0]
        clear e0 hn hb2
        go_wp2
        go_roundw
        case rel => exact ⟨k + 1, by omega, by go_num, HBK.out, HN⟩
        case measure => simp [intOf]; omega
      · have HV := Lib.hid (firstE_here hlt hn.out e0)
        have e0' : (chkL (xs[k]).1 (xs[k]).2.1.toList != 0) = true := by unfold chkT at e0; simp [e0]
        clear e0 hn hb2
        go_wp2
        refine bodyPost_ret (v := .tuple #[.string ⟨#[]⟩, .int .i64 (chkT xs[k])]) ?_ rfl ⟨⟨_, by rw [HV.out], .inr rfl⟩, HBK.out⟩
        simp only [results, Try.results15]
        go_simp
        rfl
    · obtain rfl : k = xs.length := by omega
      have HV := Lib.hid (firstE_end hn.out)
      clear hn
      go_wp2
      rename World => wo
      have hsz := hbr.size
      go_loopw [27] (fun i wr => ∃ (k : Nat) (l : List UInt8), k ≤ xs.length ∧ i = .int .i64 k ∧ l.length ≤ 41 * k ∧ wo.heap.size < wr.heap.size ∧ Hid (IsB wo.heap.size wo.heap.size l wr ∧ Below w.heap.size w wr)) (fun i _ => xs.length - (intOf i).toNat)
      case atStart => exact ⟨0, [], by omega, rfl, by simp, by simp, Lib.hid ⟨bNew wo, balloc hbr _⟩⟩
      case round =>
        obtain ⟨k, l, hk, rfl, hll, hwz, hi⟩ := hrel
        by_cases hlt : k < xs.length
        · obtain rfl := hs.here (by omega)
          have hbz := hi.out.2
          have c1 := (hbz.cell (p := ⟨sb, so + k * 3, none⟩) (hs.lt (by omega))).trans (hs.kind k hlt)
          have c2 := (hbz.cell (p := ⟨sb, so + k * 3 + 1, none⟩) (hs.lt (by omega))).trans (hs.text k hlt)
          have c3 := (hbz.cell (p := ⟨sb, so + k * 3 + 2, none⟩) (hs.lt (by omega))).trans (hs.at_ k hlt)
          have z0 : (0 : Int) ≤ (k : Int) := by omega
          have z1 : (k : Int) < (xs.length : Int) := by omega
          have hzk := hz k hlt
          clear hbz hbr
          have HB := Lib.hid hi.out.2
          have X0 := Lib.hid (heap_alloc_new wr (.cells #[.int .u8 (xs[k]).1, .string (xs[k]).2.1, .int .i64 (xs[k]).2.2] 32))
          have hia := hi.out.1.alloc (.cells #[.int .u8 (xs[k]).1, .string (xs[k]).2.1, .int .i64 (xs[k]).2.2] 32)
          have HIA := Lib.hid hia
          clear hia hi
          by_cases hk0 : k = 0
          · have z2 : ¬ (0 : Int) < (k : Int) := by omega
            clear hk0
            go_wp2_with fail
            refine (bString _ _ _ _ _ HIA.out (by omega) (by simp; omega)).mono ?_
            rintro e w4 ⟨rfl, hi4, hb4, hk4⟩
            have HI4 := Lib.hid hi4
            have HB4 := Lib.hid ((balloc HB.out _).trans (hb4.mono hsz))
            have hs4 : wr.heap.size + 1 ≤ w4.heap.size := by have := hb4.size; simpa using this
            clear hi4 hb4 hk4
            go_wp2
            go_roundw
            case rel => exact ⟨k + 1, l ++ (xs[k]).2.1.data.toList, by omega, by go_num, by simp only [List.length_append, Array.length_toList]; have : (xs[k]).2.1.data.size = (xs[k]).2.1.size := rfl; omega, by omega, Lib.hid ⟨HI4.out, HB4.out⟩⟩
            case measure => simp [intOf]; omega
          · have z2 : (0 : Int) < (k : Int) := by omega
            clear hk0
            go_wp2_with fail
            refine (bByte _ _ _ _ 32 rfl _ HIA.out (by omega) (by simp; omega)).mono ?_
            rintro e w3 ⟨rfl, hi3, hb3, hk3⟩
            have X3 := hk3 _ _ X0.out (by simp; omega) (by intro c fz h; simp at h)
            have x0 := cell_of_block (i := 0) X3 rfl
            have x1 := cell_of_block (i := 1) X3 rfl
            have x2 := cell_of_block (i := 2) X3 rfl
            have hs3 : wr.heap.size + 1 ≤ w3.heap.size := by have := hb3.size; simpa using this
            have HB3 := Lib.hid ((balloc HB.out _).trans (hb3.mono hsz))
            have HI3 := Lib.hid hi3
            clear hi3 hb3 hk3 X3
            go_wp2_with fail
            refine (bString _ _ _ _ _ HI3.out (by simp only [List.length_append, List.length_singleton]; omega) (by omega)).mono ?_
            rintro e w4 ⟨rfl, hi4, hb4, hk4⟩
            have HI4 := Lib.hid hi4
            have HB4 := Lib.hid (HB3.out.trans (hb4.mono hsz))
            have hs4 := hb4.size
            clear hi4 hb4 hk4
            go_wp2
            go_roundw
            case rel => exact ⟨k + 1, l ++ [32] ++ (xs[k]).2.1.data.toList, by omega, by go_num, by simp only [List.length_append, Array.length_toList, List.length_singleton]; have : (xs[k]).2.1.data.size = (xs[k]).2.1.size := rfl; omega, by omega, Lib.hid ⟨HI4.out, HB4.out⟩⟩
            case measure => simp [intOf]; omega
        · obtain rfl : k = xs.length := by omega
          have HI := Lib.hid hi.out.1
          have HB := Lib.hid hi.out.2
          have z2 : ¬ (1048576 : Int) < (l.length : Int) := by omega
          clear hi hbr
          go_wp2_with (first | (go_at_call 28; refine (bLen _ _ _ _ HI.out).mono ?_; rintro e w' ⟨rfl, rfl⟩) | fail)
          refine (bText _ _ _ _ HI.out (by omega)).mono ?_
          rintro e w3 ⟨rfl, hi3, hb3, hk3⟩
          have HB3 := Lib.hid (HB.out.trans (hb3.mono hsz))
          clear hi3 hb3 hk3
          go_wp2
          refine bodyPost_ret (v := .tuple #[.string ⟨l.toArray⟩, .int .i64 0]) ?_ rfl ⟨⟨_, by rw [HV.out], .inl HV.out⟩, HB3.out⟩
          simp only [results, Try.results15]
          go_simp
end Go.Proofs.Ytbmflenlbbgjiaa
