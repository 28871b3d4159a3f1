/-
  LexersLex: same, Bare.
-/
import Derived.Test.YtbmflenlbbgjiaaDf
import Derived.Lib.UnsafeStr
import Derived.Laws.IdiomStrings
namespace Go.Proofs.Ytbmflenlbbgjiaa
open Go.RowKit
set_option linter.unusedVariables false
set_option linter.unusedSimpArgs false
set_option maxRecDepth 100000 in
set_option maxHeartbeats 8000000 in
theorem same_ref (xs : List Tok) (pa pb : Option Addr) (sa oa sb ob cb : Nat) (hx : xs.length ≤ 4096) (hk : ∀ i (h : i < xs.length), 1 ≤ (xs[i]).1 ∧ (xs[i]).1 ≤ 3) (w : World) (ha : RowG .u8 w pa sa oa xs) (hb : RowG .i64 w pb sb ob xs) :
    Calls Try.prog 11 #[.slice pa xs.length xs.length, .slice pb xs.length cb] w fun e w' => e = .returned (.bool true) ∧ Below w.heap.size w w' := by
  go_enter Try.func11, Try.ntmps11
  go_wp2
  go_loopw [5] (fun i wr => ∃ k : Nat, k ≤ xs.length ∧ i = .int .i64 k ∧ Below w.heap.size w wr) (fun i _ => xs.length - (intOf i).toNat)
  case atStart => exact ⟨0, by omega, rfl, Below.refl _ _⟩
  case round =>
    obtain ⟨k, hkk, rfl, hbr⟩ := hrel
    by_cases hlt : k < xs.length
    · obtain rfl := ha.here (by omega)
      obtain rfl := hb.here (by omega)
      have c1 := (hbr.cell (p := ⟨sa, oa + k * 3, none⟩) (ha.lt (by omega))).trans (ha.kind k hlt)
      have c2 := (hbr.cell (p := ⟨sa, oa + k * 3 + 1, none⟩) (ha.lt (by omega))).trans (ha.text k hlt)
      have c3 := (hbr.cell (p := ⟨sa, oa + k * 3 + 2, none⟩) (ha.lt (by omega))).trans (ha.at_ k hlt)
      have d1 := (hbr.cell (p := ⟨sb, ob + k * 3, none⟩) (hb.lt (by omega))).trans (hb.kind k hlt)
      have d2 := (hbr.cell (p := ⟨sb, ob + k * 3 + 1, none⟩) (hb.lt (by omega))).trans (hb.text k hlt)
      have d3 := (hbr.cell (p := ⟨sb, ob + k * 3 + 2, none⟩) (hb.lt (by omega))).trans (hb.at_ k hlt)
      have z0 : (0 : Int) ≤ (k : Int) := by omega
      have z1 : (k : Int) < (xs.length : Int) := by omega
      have hk1 := (hk k hlt).1
      have hk3 := (hk k hlt).2
      have HB := Lib.hid hbr
      clear hbr
      generalize (xs[k]).1 = q at *
      generalize (xs[k]).2.1 = t at *
      generalize (xs[k]).2.2 = p at *
      go_wp2
      go_quiet (fail)
      go_wp2
      go_roundw
      case rel => exact ⟨k + 1, by omega, by go_num, bdrewN HB.out _⟩
      case measure => simp [intOf]; omega
    · obtain rfl : k = xs.length := by omega
      go_wp2
      go_ret
      exact ⟨rfl, hbr⟩
theorem conv_row {P : Program} {w : World} {base n : Nat} {e : TypeId} {v : Value} {l : List UInt8} (h : w.ownsRow base e 1 v n (Lib.byteCells l)) : (Conv.bytesToString v).run P w = .ok (.string (txt l)) w := by
  have hh := h
  obtain ⟨hl, h | ⟨g, cap, cur, rfl, hb, hg, h1, h2, h3, h4⟩⟩ := h
  · obtain ⟨rfl, rfl⟩ := h
    rw [Lib.byteCells_length] at hl
    obtain rfl := List.eq_nil_of_length_eq_zero (l := l) (by omega)
    rfl
  · rw [Lib.byteCells_length, Nat.mul_one] at hl
    subst hl
    have hread := hh.cells (g := g) rfl
    have hr := run_loadCells_list (P := P) w ⟨g, 0, none⟩ _ hread
    rw [Lib.byteCells_length] at hr
    have e1 : Lib.byteCells l = (l.map (fun b : UInt8 => (b.toNat : Int))).map (Value.int .u8) := by simp [Lib.byteCells]
    rw [run_bytesToString (P := P) w ⟨g, 0, none⟩ l.length _ (l.map fun b => (b.toNat : Int)) (by rw [hr, ← e1])]
    rw [foldl_push_byteCells]
    simp [txt, ByteArray.empty, ByteArray.emptyWithCapacity]
    rfl
theorem filt_succ {s : ByteArray} {k : Nat} (h : k < s.size) : (s.toList.take (k + 1)).filter nbU = (s.toList.take k).filter nbU ++ (if nbU s[k] = true then [s[k]] else []) := by
  have : s.toList[k]? = some s[k] := by
    rw [ByteArray.toList_eq]
    show s.data.toList[k]? = some s.data[k]
    simp
  rw [List.take_add_one, this, List.filter_append]
  congr 1
  cases hn : nbU s[k] <;> simp [hn]
set_option maxRecDepth 100000 in
set_option maxHeartbeats 8000000 in
theorem bare_any (s : ByteArray) (hs : s.size ≤ 4096) (w : World) :
    Calls Try.prog 13 #[.string s] w fun e w' => e = .returned (.string (txt (s.toList.filter nbU))) ∧ Below w.heap.size w w' := by
  have hl : s.toList.length = s.size := by rw [ByteArray.toList_eq]; simp
  have HL := Lib.hid hl
  clear hl
  obtain ⟨i0, hi, hz0, hz1, hz2⟩ := info_parts (P := Try.prog) (e := 5) (z := .int .u8 0) (size := 1) (bytes := 1) (by kernel_rfl)
  go_enter Try.func13, Try.ntmps13
  go_wp2
  go_loopw [3, 4] (fun sl i wr => ∃ (k n : Nat) (ao : Option Addr) (cap : Nat), k ≤ s.size ∧ n ≤ k ∧ i = .int .i64 k ∧ sl = .slice ao n cap ∧ Hid (((s.toList.take k).filter nbU).length = n ∧ wr.ownsRow w.heap.size 5 1 (.slice ao n cap) n (Lib.byteCells ((s.toList.take k).filter nbU)) ∧ Below w.heap.size w wr)) (fun _ i _ => s.size - (intOf i).toNat)
  case atStart => exact ⟨0, 0, none, 0, by omega, by omega, rfl, rfl, Lib.hid ⟨rfl, World.ownsRow_nil _ _ _ _, Below.refl _ _⟩⟩
  case round =>
    obtain ⟨k, n, ao, cap, hk, hnk, rfl, rfl, H⟩ := hrel
    by_cases hlt : k < s.size
    · have z0 : (0 : Int) ≤ (k : Int) := by omega
      have z1 : (k : Int) < (s.size : Int) := by omega
      by_cases hc : clsN ((s[k].toNat : Nat) : Int) = 1
      · have HF := Lib.hid (show (s.toList.take (k + 1)).filter nbU = (s.toList.take k).filter nbU by rw [filt_succ hlt, if_neg (by unfold nbU; simp [hc]), List.append_nil])
        rcases blank_iff.1 hc with h | h | h | h
        · have h32 : (((s[k].toNat : Nat) : Int) != 32) = false := by simp; omega
          clear h hc
          go_wp2
          go_roundw
          case rel => exact ⟨k + 1, n, ao, cap, by omega, by omega, by go_num, rfl, Lib.hid (by rw [HF.out]; exact H.out)⟩
          case measure => simp [intOf]; omega
        · have h32 : (((s[k].toNat : Nat) : Int) != 32) = true := by simp; omega
          have h9 : (((s[k].toNat : Nat) : Int) != 9) = false := by simp; omega
          clear h hc
          go_wp2
          go_roundw
          case rel => exact ⟨k + 1, n, ao, cap, by omega, by omega, by go_num, rfl, Lib.hid (by rw [HF.out]; exact H.out)⟩
          case measure => simp [intOf]; omega
        · have h32 : (((s[k].toNat : Nat) : Int) != 32) = true := by simp; omega
          have h9 : (((s[k].toNat : Nat) : Int) != 9) = true := by simp; omega
          have h10 : (((s[k].toNat : Nat) : Int) != 10) = false := by simp; omega
          clear h hc
          go_wp2
          go_roundw
          case rel => exact ⟨k + 1, n, ao, cap, by omega, by omega, by go_num, rfl, Lib.hid (by rw [HF.out]; exact H.out)⟩
          case measure => simp [intOf]; omega
        · have h32 : (((s[k].toNat : Nat) : Int) != 32) = true := by simp; omega
          have h9 : (((s[k].toNat : Nat) : Int) != 9) = true := by simp; omega
          have h10 : (((s[k].toNat : Nat) : Int) != 10) = true := by simp; omega
          have h13 : (((s[k].toNat : Nat) : Int) != 13) = false := by simp; omega
          clear h hc
          go_wp2
          go_roundw
          case rel => exact ⟨k + 1, n, ao, cap, by omega, by omega, by go_num, rfl, Lib.hid (by rw [HF.out]; exact H.out)⟩
          case measure => simp [intOf]; omega
      · have HF := Lib.hid (show (s.toList.take (k + 1)).filter nbU = (s.toList.take k).filter nbU ++ [s[k]] by rw [filt_succ hlt, if_pos (by unfold nbU; simp [hc])])
        have hnb : ¬ (((s[k].toNat : Nat) : Int) = 32 ∨ ((s[k].toNat : Nat) : Int) = 9 ∨ ((s[k].toNat : Nat) : Int) = 10 ∨ ((s[k].toNat : Nat) : Int) = 13) := (fun h => hc (blank_iff.2 h))
        have h32 : (((s[k].toNat : Nat) : Int) != 32) = true := by simp; omega
        have h9 : (((s[k].toNat : Nat) : Int) != 9) = true := by simp; omega
        have h10 : (((s[k].toNat : Nat) : Int) != 10) = true := by simp; omega
        have h13 : (((s[k].toNat : Nat) : Int) != 13) = true := by simp; omega
        have hown2 := H.out.2.1.alloc (.cells #[.int .u8 ((s[k].toNat : Nat) : Int)] 5)
        have hws := H.out.2.2.size
        clear hc hnb
        go_wp2_with (at_builtin; refine wpList_append_own _ rfl _ _ 36 rfl w.heap.size 5 i0 (.int .u8 0) 1 1 Try.underlying36 hi hz0 hz1 hz2 rfl (by decide) _ _ _ rfl hown2 ⟨wr.heap.size, 0, none⟩ 1 1 [.int .u8 ((s[k].toNat : Nat) : Int)] rfl rfl ?c1 ?c2 ?c3 ?c4 ?c5 ?_)
        try (case c1 => intro j x hj; match j, hj with | 0, hj => simp at hj; subst hj; exact cell_of_block (heap_alloc_new wr _) rfl)
        try (case c2 => simp [Value.oneCell'])
        try (case c3 => unfold maxLen; omega)
        try (case c4 => omega)
        try (case c5 => first | omega | (simp; omega))
        intro v' w3 hown3 hgrow _
        obtain ⟨ao', cap', rfl⟩ := own_slice hown3
        have HBW := Lib.hid ((balloc H.out.2.2 _).grown hgrow (by simp; omega) (fun k hk => (hown2.lt k hk).1))
        have HOW := Lib.hid hown3
        clear hown3 hown2 hgrow
        go_wp2
        go_roundw
        case rel => exact ⟨k + 1, n + 1, ao', cap', by omega, by omega, by go_num, rfl, Lib.hid ⟨by rw [HF.out, List.length_append, H.out.1]; rfl, by rw [HF.out, Lib.byteCells_append]; exact HOW.out, HBW.out⟩⟩
        case measure => simp [intOf]; omega
    · obtain rfl : k = s.size := by omega
      have hown := H.out.2.1
      rw [List.take_of_length_le (by rw [HL.out]; exact Nat.le_refl _)] at hown
      have HC := Lib.hid (conv_row (P := Try.prog) hown)
      have HB := Lib.hid H.out.2.2
      clear H hown
      go_wp2
      rw [run_convert_bytes_string wr 36 9 5 ao n cap Try.underlying36 Try.underlying5 Try.underlying9, HC.out]
      go_wp2
      go_ret
      exact ⟨rfl, HB.out⟩
end Go.Proofs.Ytbmflenlbbgjiaa
