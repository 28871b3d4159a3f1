/-
  LexersLex: the law.
-/
import Derived.Test.YtbmflenlbbgjiaaDg
import Derived.Test.YtbmflenlbbgjiaaLv
namespace Go.Proofs.Ytbmflenlbbgjiaa
open Go.RowKit
set_option linter.unusedVariables false
set_option linter.unusedSimpArgs false
theorem lex_len : ∀ (n : Nat) (l : List UInt8) (a : Nat), l.length ≤ n → (lexW l a).1.length ≤ l.length
  | 0, l, a, hn => by
    obtain rfl : l = [] := List.eq_nil_of_length_eq_zero (by omega)
    rw [lexW]; simp
  | n + 1, [], a, _ => by rw [lexW]; simp
  | n + 1, c :: r, a, hn => by
    simp only [List.length_cons] at hn
    rw [lexW]
    split
    · have := lex_len n r (a + 1) (by omega)
      simp only [List.length_cons]; omega
    · split
      · split
        · have := lex_len n (r.drop (tokL c r).2.1) (a + 1 + (tokL c r).2.1) (by simp; omega)
          simp only [List.length_cons, List.length_drop] at this ⊢; omega
        · simp
      · simp
theorem lexR_len (s : ByteArray) : (lexR s).1.length ≤ s.size := by
  have hl : s.toList.length = s.size := by rw [ByteArray.toList_eq]; simp
  have := lex_len _ s.toList 0 (Nat.le_refl _)
  unfold lexR joinR
  split
  · simp; omega
  · simp
theorem same_nil (w : World) :
    Calls Try.prog 11 #[.slice none 0 0, .slice none 0 0] w fun e w' => e = .returned (.bool true) ∧ Below w.heap.size w w' :=
  same_ref [] none none 0 0 0 0 0 (by simp) (fun i h => absurd h (by simp)) w ⟨fun h => absurd h (by simp), fun h => absurd h (by simp), fun i h => absurd h (by simp), fun i h => absurd h (by simp), fun i h => absurd h (by simp)⟩
    ⟨fun h => absurd h (by simp), fun h => absurd h (by simp), fun i h => absurd h (by simp), fun i h => absurd h (by simp), fun i h => absurd h (by simp)⟩
theorem cat_list (a b : ByteArray) : (a ++ b).toList = a.toList ++ b.toList := by
  rw [ByteArray.toList_eq, ByteArray.toList_eq, ByteArray.toList_eq]; simp
theorem check0 (k a : Int) (s : ByteArray) (hs : s.size ≤ 300) (h0 : chkL k s.toList = 0) (w : World) :
    Calls Try.prog 12 #[.agg #[.int .u8 k, .string s, .int .i64 a]] w fun e w' => e = .returned (.int .i64 0) ∧ Below w.heap.size w w' :=
  (check_any k a s hs w).mono fun e w' ⟨h1, h2⟩ => ⟨by rw [h1, h0], h2⟩
set_option maxRecDepth 100000 in
set_option maxHeartbeats 8000000 in
theorem lawLex_any (s : ByteArray) (hz : s.size ≤ 9223372036854775807) (w : World) :
    Calls Try.prog 3 #[.string s] w fun e w' => e = .returned (.bool true) ∧ Below w.heap.size w w' := by
  by_cases h300 : (300 : Int) < s.size
  · go_enter Try.func3, Try.ntmps3
    go_wp2_with fail
    refine (lives_any _).mono ?_
    rintro e w' ⟨rfl, hb⟩
    go_wp2
    go_ret
    exact ⟨rfl, hb⟩
  have hs : s.size ≤ 4096 := by omega
  go_enter Try.func3, Try.ntmps3
  go_wp2_with fail
  refine (lex_any s hs _).mono ?_
  rintro e1 w1 ⟨hp1, hb1⟩
  have HB1 := Lib.hid hb1
  clear hb1
  rcases hp1 with ⟨he, rfl, hnil⟩ | ⟨he, hsz, q1, g1, cap1, rfl, hcap, hr1⟩
  · have HE := Lib.hid he
    clear he
    go_wp2_with fail
    refine (refLex_any s hs _).mono ?_
    rintro e2 w2 ⟨hp2, hb2⟩
    have HB2 := Lib.hid (bstep HB1.out hb2)
    clear hb2
    rcases hp2 with ⟨he2, rfl, hnil2⟩ | ⟨he2, _⟩
    · clear hnil hnil2 he2
      have hne : ((lexR s).2.2 != 0) = true := by have := HE.out; simp; omega
      generalize (lexR s).2.1 = at1 at *
      generalize (lexR s).2.2 = er1 at *
      go_wp2_with fail
      refine (same_nil _).mono ?_
      rintro e w3 ⟨rfl, hb3⟩
      have HB3 := Lib.hid (bstep HB2.out hb3)
      clear hb3
      go_wp2_with fail
      refine (lives_any _).mono ?_
      rintro e w4 ⟨rfl, hb4⟩
      go_wp2
      go_ret
      exact ⟨rfl, bstep HB3.out hb4⟩
    · exact absurd he2 HE.out
  · have HR1 := Lib.hid hr1
    obtain rfl := hcap rfl
    have hlen := lexR_len s
    obtain ⟨hch, htx⟩ := lex_fine s he
    have HE := Lib.hid he
    clear he hsz hr1 hcap
    go_wp2_with fail
    refine (refLex_any s hs _).mono ?_
    rintro e2 w2 ⟨hp2, hb2⟩
    have HB2 := Lib.hid (bstep HB1.out hb2)
    have HR2 := Lib.hid (rowg_below HR1.out hb2)
    clear hb2
    rcases hp2 with ⟨he2, _⟩ | ⟨he2, hsz2, q2, g2, cap2, rfl, -, hr2⟩
    · exact absurd HE.out he2
    · have HQ2 := Lib.hid hr2
      clear he2 hsz2 hr2 HE
      generalize (lexR s).1 = xs at *
      have HCH := Lib.hid hch
      have HTX := Lib.hid htx
      clear hch htx
      go_wp2_with fail
      refine (same_ref xs q1 q2 g1 0 g2 0 cap2 (by omega) (fun i h => ⟨(chain_at HCH.out i h).2.2.2.1, (chain_at HCH.out i h).2.2.2.2.1⟩) _ HR2.out HQ2.out).mono ?_
      rintro e w3 ⟨rfl, hb3⟩
      have HB3 := Lib.hid (bstep HB2.out hb3)
      have HR3 := Lib.hid (rowg_below HR2.out hb3)
      clear hb3
      go_wp2
      go_loopw [9, 10] (fun st i wr => ∃ (k : Nat) (S : ByteArray), k ≤ xs.length ∧ i = .int .i64 k ∧ st = .string S ∧ S.size ≤ 40 * k ∧ Hid (S.toList = texts (xs.take k) ∧ Below w3.heap.size w3 wr)) (fun _ i _ => xs.length - (intOf i).toNat)
      case atStart => exact ⟨0, ByteArray.empty, by omega, rfl, rfl, by simp, Lib.hid ⟨by rw [ByteArray.toList_eq]; rfl, Below.refl _ _⟩⟩
      case round =>
        obtain ⟨k, S, hk, rfl, rfl, hS, H⟩ := hrel
        by_cases hlt : k < xs.length
        · obtain rfl := HR3.out.here (by omega)
          have hg := HR3.out.lt (by omega)
          have hgr : g1 < wr.heap.size := by have := H.out.2.size; omega
          have c1 := (H.out.2.cell (p := ⟨g1, 0 + k * 3, none⟩) hg).trans (HR3.out.kind k hlt)
          have c2 := (H.out.2.cell (p := ⟨g1, 0 + k * 3 + 1, none⟩) hg).trans (HR3.out.text k hlt)
          have c3 := (H.out.2.cell (p := ⟨g1, 0 + k * 3 + 2, none⟩) hg).trans (HR3.out.at_ k hlt)
          rw [Nat.zero_add] at c1 c2 c3
          obtain ⟨f1, f2, f3, f4, f5, f6⟩ := chain_at HCH.out k hlt
          have z0 : (0 : Int) ≤ (k : Int) := by omega
          have z1 : (k : Int) < (xs.length : Int) := by omega
          have HX := Lib.hid (texts_succ hlt)
          have F6 := Lib.hid f6
          clear f6
          by_cases hk0 : k = 0
          · have z2 : ¬ (0 : Int) < (k : Int) := by omega
            have z3 : ¬ 0 < k := by omega
            clear hk0
            go_wp2
            refine wp_region_grow (by kernel_rfl) (by kernel_rfl) ?_
            repeat (go_big_quiet_step ((go_at_call 12; exact grow_call (check0 _ _ _ (by omega) F6.out _))))
            refine wpQuiet_nil ?_
            intro w5 hb5
            have HB5 := Lib.hid (bstep H.out.2 hb5)
            have e2 := (hb5.cell (p := ⟨g1, k * 3 + 1, none⟩) hgr).trans c2
            have y1 : (S.size : Int) ≤ 163840 := by omega
            have y2 : ((xs[k]).2.1.size : Int) ≤ 40 := by omega
            clear hb5 c1 c2 c3
            go_wp2
            go_roundw
            case rel => exact ⟨k + 1, S ++ (xs[k]).2.1, by omega, by go_num, rfl, by rw [ByteArray.size_append]; omega, Lib.hid ⟨by rw [cat_list, H.out.1, HX.out], HB5.out⟩⟩
            case measure => simp [intOf]; omega
          · have z2 : (0 : Int) < (k : Int) := by omega
            have z3 : 0 < k := by omega
            have hkp : k - 1 < xs.length := by omega
            have p2 := (H.out.2.cell (p := ⟨g1, 0 + (k - 1) * 3 + 1, none⟩) hg).trans (HR3.out.text (k - 1) hkp)
            have p3 := (H.out.2.cell (p := ⟨g1, 0 + (k - 1) * 3 + 2, none⟩) hg).trans (HR3.out.at_ (k - 1) hkp)
            rw [Nat.zero_add] at p2 p3
            have z4 : (0 : Int) ≤ (k : Int) - 1 := by omega
            have z5 : (k : Int) - 1 < (xs.length : Int) := by omega
            obtain ⟨g1', g2', g3', -⟩ := chain_at HCH.out (k - 1) hkp
            have hnx : (xs[k - 1]).2.2 + (xs[k - 1]).2.1.size ≤ (xs[k]).2.2 := by
              have := chain_next HCH.out (k - 1) (by omega)
              simpa [show k - 1 + 1 = k by omega] using this
            clear hk0
            generalize (xs[k - 1]).2.2 = pa at *
            generalize (xs[k - 1]).2.1 = pt at *
            go_wp2
            have hny : ¬ ((xs[k]).2.2 < pa + pt.size) := by omega
            refine wp_region_grow (by kernel_rfl) (by kernel_rfl) ?_
            repeat (go_big_quiet_step ((go_at_call 12; exact grow_call (check0 _ _ _ (by omega) F6.out _))))
            refine wpQuiet_nil ?_
            intro w5 hb5
            have HB5 := Lib.hid (bstep H.out.2 hb5)
            have e2 := (hb5.cell (p := ⟨g1, k * 3 + 1, none⟩) hgr).trans c2
            have y1 : (S.size : Int) ≤ 163840 := by omega
            have y2 : ((xs[k]).2.1.size : Int) ≤ 40 := by omega
            clear hb5 c1 c2 c3
            go_wp2
            go_roundw
            case rel => exact ⟨k + 1, S ++ (xs[k]).2.1, by omega, by go_num, rfl, by rw [ByteArray.size_append]; omega, Lib.hid ⟨by rw [cat_list, H.out.1, HX.out], HB5.out⟩⟩
            case measure => simp [intOf]; omega
        · obtain rfl : k = xs.length := by omega
          have hSS : S = txt (s.toList.filter nbU) := by
            rw [bytes_inj, txt_list, H.out.1, List.take_length, HTX.out]
          have HB := Lib.hid (bstep HB3.out H.out.2)
          clear H
          go_wp2_with fail
          refine (bare_any s hs _).mono ?_
          rintro e w4 ⟨rfl, hb4⟩
          rw [← hSS]
          have HB4 := Lib.hid (bstep HB.out hb4)
          clear hb4 hSS
          go_wp2_with fail
          refine (lives_any _).mono ?_
          rintro e w5 ⟨rfl, hb5⟩
          go_wp2
          go_ret
          exact ⟨rfl, bstep HB4.out hb5⟩
end Go.Proofs.Ytbmflenlbbgjiaa
