/-
  LexersLex: Lex of the definition.
-/
import Derived.Test.YtbmflenlbbgjiaaDd
namespace Go.Proofs.Ytbmflenlbbgjiaa
open Go.RowKit
set_option linter.unusedVariables false
set_option linter.unusedSimpArgs false
theorem blank_iff {c : UInt8} : clsN ((c.toNat : Nat) : Int) = 1 ↔ (((c.toNat : Nat) : Int) = 32 ∨ ((c.toNat : Nat) : Int) = 9 ∨ ((c.toNat : Nat) : Int) = 10 ∨ ((c.toNat : Nat) : Int) = 13) := by
  unfold clsN blnks
  constructor
  · intro h
    by_cases hm : ((c.toNat : Nat) : Int) ∈ ([32, 9, 10, 13] : List Int)
    · simpa using hm
    · rw [if_neg hm] at h
      repeat' (split at h)
      all_goals omega
  · intro h
    rw [if_pos (by simpa using h)]
/-- the letters from an offset on -/
def letsF (s : ByteArray) (a k : Nat) : Prop := ((s.toList.drop a).take (k - a)).all letU = true
theorem letsF_succ {s : ByteArray} {a k : Nat} (h : letsF s a k) (h1 : a ≤ k) (hk : k < s.size) (hc : letB ((s[k].toNat : Nat) : Int) = true) : letsF s a (k + 1) := by
  unfold letsF at h ⊢
  rw [show k + 1 - a = (k - a) + 1 by omega, List.take_add_one, List.all_append, h, List.getElem?_drop, show a + (k - a) = k by omega]
  have : s.toList[k]? = some s[k] := by
    rw [ByteArray.toList_eq]
    show s.data.toList[k]? = some s.data[k]
    simp
  rw [this]
  simpa [letU] using hc
/-- behind the letters: the token -/
theorem tok_long {s : ByteArray} {a k : Nat} (ha : a < s.size) (hb : ¬ clsN ((s[a].toNat : Nat) : Int) = 1) (h : letsF s a k) (h1 : a ≤ k) (hk : k ≤ s.size) (hn : ∀ h : k < s.size, letB ((s[k].toNat : Nat) : Int) = false) :
    (k = a ∧ ¬ clsN ((s[a].toNat : Nat) : Int) = 2) ∨ (a + 1 ≤ k ∧ tokL s[a] (s.toList.drop (a + 1)) = if 16 < k - a then (0, 0, 6) else (if wordL (s.extract a k).toList = true then 2 else 1, k - (a + 1), 0)) := by
  by_cases hka : k = a
  · subst hka
    left
    refine ⟨rfl, fun hc => ?_⟩
    have := (cls_cases s[k]).2.2.1.1 hc
    unfold letU at this
    rw [hn ha] at this
    cases this
  · right
    refine ⟨by omega, ?_⟩
    unfold letsF at h
    rw [list_at ha, show k - a = (k - (a + 1)) + 1 by omega, List.take_succ_cons, List.all_cons] at h
    simp only [Bool.and_eq_true] at h
    refine tok_let ha ((cls_cases s[a]).2.2.1.2 h.1) h.2 (by omega) hk fun hx hc => ?_
    have := (cls_cases s[k]).2.2.1.1 hc
    unfold letU at this
    rw [hn hx] at this
    cases this
theorem ext_tok {s : ByteArray} {a m : Nat} (ha : a < s.size) : (s.extract a (a + 1 + m)).toList = s[a] :: (s.toList.drop (a + 1)).take m := by
  rw [ext_at, show a + 1 + m - a = m + 1 by omega, list_at ha, List.take_succ_cons]
theorem kind_tok {s : ByteArray} {a m : Nat} {q : Int} (ha : a < s.size) (h : tokL s[a] (s.toList.drop (a + 1)) = (q, m, 0)) : kindL (s.extract a (a + 1 + m)).toList = q ∧ 1 ≤ q ∧ q ≤ 3 := by
  rw [ext_tok ha]; exact tok_kind h
theorem kind_none {s : ByteArray} {a : Nat} (ha : a < s.size) (h0 : clsN ((s[a].toNat : Nat) : Int) = 0) : kindL (s.extract a (a + 1)).toList = 0 := by
  have := ext_tok (s := s) (a := a) (m := 0) ha
  rw [Nat.add_zero] at this
  rw [this]; exact kind_01 (.inl h0)
theorem c45 {c : UInt8} : clsN ((c.toNat : Nat) : Int) = 4 ↔ ((c.toNat : Nat) : Int) = 45 := by
  rw [(cls_cases c).2.1]
  constructor
  · rintro rfl; rfl
  · intro h
    apply UInt8.toNat_inj.1
    have : (c.toNat : Nat) = 45 := by omega
    rw [this]; rfl
set_option maxRecDepth 100000 in
set_option maxHeartbeats 8000000 in
theorem refLex_any (s : ByteArray) (hs : s.size ≤ 4096) (w : World) :
    Calls Try.prog 10 #[.string s] w fun e w' => lexP .i64 s false e w' ∧ Below w.heap.size w w' := by
  obtain ⟨i0, hi, hz0, hz1, hz2⟩ := info_parts (P := Try.prog) (e := 56) (z := .agg #[.int .i64 0, .string ⟨#[]⟩, .int .i64 0]) (size := 3) (bytes := 32) (by kernel_rfl)
  go_enter Try.func10, Try.ntmps10
  go_wp2
  go_loopw [5, 6] (fun sl p wr => ∃ (a : Nat) (acc : List Tok) (ao : Option Addr) (cap : Nat), p = .int .i64 a ∧ sl = .slice ao acc.length cap ∧ a ≤ s.size ∧ acc.length ≤ a ∧ Hid (lexAt s acc a ∧ wr.ownsRow w.heap.size 56 3 (.slice ao acc.length cap) acc.length (flatG .i64 acc) ∧ Below w.heap.size w wr)) (fun _ p _ => s.size - (intOf p).toNat)
  case atStart => exact ⟨0, [], none, 0, rfl, rfl, by omega, by simp, Lib.hid ⟨at_start s, World.ownsRow_nil _ _ _ _, Below.refl _ _⟩⟩
  case round =>
    obtain ⟨a, acc, ao, cap, rfl, rfl, ha, hacc, H⟩ := hrel
    by_cases hlt : a < s.size
    · have z0 : (0 : Int) ≤ (a : Int) := by omega
      have z1 : (a : Int) < (s.size : Int) := by omega
      by_cases hc : clsN ((s[a].toNat : Nat) : Int) = 1
      · have HC := Lib.hid hc
        rcases blank_iff.1 hc with h | h | h | h
        · have h32 : (((s[a].toNat : Nat) : Int) == 32) = true := by simp; omega
          clear h hc
          go_wp2
          go_roundw
          case rel => exact ⟨a + 1, acc, ao, cap, by go_num, rfl, by omega, by omega, Lib.hid ⟨at_blank H.out.1 hlt HC.out, H.out.2⟩⟩
          case measure => simp [intOf]; omega
        · have h32 : (((s[a].toNat : Nat) : Int) == 32) = false := by simp; omega
          have h9 : (((s[a].toNat : Nat) : Int) == 9) = true := by simp; omega
          clear h hc
          go_wp2
          go_roundw
          case rel => exact ⟨a + 1, acc, ao, cap, by go_num, rfl, by omega, by omega, Lib.hid ⟨at_blank H.out.1 hlt HC.out, H.out.2⟩⟩
          case measure => simp [intOf]; omega
        · have h32 : (((s[a].toNat : Nat) : Int) == 32) = false := by simp; omega
          have h9 : (((s[a].toNat : Nat) : Int) == 9) = false := by simp; omega
          have h10 : (((s[a].toNat : Nat) : Int) == 10) = true := by simp; omega
          clear h hc
          go_wp2
          go_roundw
          case rel => exact ⟨a + 1, acc, ao, cap, by go_num, rfl, by omega, by omega, Lib.hid ⟨at_blank H.out.1 hlt HC.out, H.out.2⟩⟩
          case measure => simp [intOf]; omega
        · have h32 : (((s[a].toNat : Nat) : Int) == 32) = false := by simp; omega
          have h9 : (((s[a].toNat : Nat) : Int) == 9) = false := by simp; omega
          have h10 : (((s[a].toNat : Nat) : Int) == 10) = false := by simp; omega
          have h13 : (((s[a].toNat : Nat) : Int) == 13) = true := by simp; omega
          clear h hc
          go_wp2
          go_roundw
          case rel => exact ⟨a + 1, acc, ao, cap, by go_num, rfl, by omega, by omega, Lib.hid ⟨at_blank H.out.1 hlt HC.out, H.out.2⟩⟩
          case measure => simp [intOf]; omega
      · have HC := Lib.hid hc
        have hnb : ¬ (((s[a].toNat : Nat) : Int) = 32 ∨ ((s[a].toNat : Nat) : Int) = 9 ∨ ((s[a].toNat : Nat) : Int) = 10 ∨ ((s[a].toNat : Nat) : Int) = 13) := (fun h => hc (blank_iff.2 h))
        have h32 : (((s[a].toNat : Nat) : Int) == 32) = false := by simp; omega
        have h9 : (((s[a].toNat : Nat) : Int) == 9) = false := by simp; omega
        have h10 : (((s[a].toNat : Nat) : Int) == 10) = false := by simp; omega
        have h13 : (((s[a].toNat : Nat) : Int) == 13) = false := by simp; omega
        clear hc hnb
        go_wp2
        go_loop [8] (fun p => ∃ k : Nat, a ≤ k ∧ k ≤ s.size ∧ p = .int .i64 k ∧ Hid (letsF s a k)) (fun p => s.size - (intOf p).toNat)
        case atStart => exact ⟨a, by omega, by omega, rfl, Lib.hid (by unfold letsF; simp)⟩
        case round =>
          obtain ⟨k, hak, hk, rfl, hn⟩ := hrel
          have y0 : (0 : Int) ≤ (k : Int) := by omega
          have y1 : (k : Int) ≤ (s.size : Int) := by omega
          have y2 : (a : Int) ≤ (k : Int) := by omega
          by_cases hgo : ∃ h : k < s.size, letB ((s[k].toNat : Nat) : Int) = true
          · obtain ⟨hkl, hl⟩ := hgo
            have y3 : (k : Int) < (s.size : Int) := by omega
            have hbk : (0 : Int) ≤ ((s[k].toNat : Nat) : Int) ∧ ((s[k].toNat : Nat) : Int) ≤ 255 := by have := s[k].toNat_lt; omega
            have HL := Lib.hid hl
            clear hl
            go_wp2_with (go_at_call 23; refine (letter_any _ hbk.1 hbk.2 _).mono ?_; rintro e w' ⟨rfl, rfl⟩; rw [HL.out])
            go_round
            case rel => exact ⟨k + 1, by omega, by omega, by go_num, Lib.hid (letsF_succ hn.out hak hkl HL.out)⟩
            case measure => simp [intOf]; omega
          · have hln := fun h : k < s.size => (show letB ((s[k].toNat : Nat) : Int) = false by
              cases hx : letB ((s[k].toNat : Nat) : Int)
              · rfl
              · exact absurd ⟨h, hx⟩ hgo)
            have HTL := Lib.hid (tok_long hlt HC.out hn.out hak hk hln)
            have HLN := Lib.hid hln
            clear hn hgo hln
            by_cases hkl : k < s.size
            · have y3 : (k : Int) < (s.size : Int) := by omega
              have hbk : (0 : Int) ≤ ((s[k].toNat : Nat) : Int) ∧ ((s[k].toNat : Nat) : Int) ≤ 255 := by have := s[k].toNat_lt; omega
              have HLK := Lib.hid (HLN.out hkl)
              rcases HTL.out with ⟨rfl, h2⟩ | ⟨hk1, hTL⟩
              · clear HTL
                have y5 : ¬ (16 : Int) < (k : Int) - k := by omega
                rcases (cls_cases s[k]).2.2.2.2 with h | h | h | h | h
                · have HT := Lib.hid (show tokL s[k] (s.toList.drop (k + 1)) = (0, 0, 5) by unfold tokL; rw [if_neg (by omega), if_neg (by omega), if_neg h2])
                  have h45 : (((s[k].toNat : Nat) : Int) == 45) = false := by have := (c45 (c := s[k])); simp; omega
                  have HKN := Lib.hid (kind_none hlt h)
                  clear h h2
                  have HV := Lib.hid (at_err H.out.1 hlt HC.out HT.out (by omega))
                  go_wp2_with (first | (go_at_call 23; refine (letter_any _ hbk.1 hbk.2 _).mono ?_; rintro e w' ⟨rfl, rfl⟩; rw [HLK.out]) | fail)
                  refine (kind_any _ (by simp; omega) _).mono ?_
                  rintro e w2 ⟨rfl, hb2⟩
                  rw [HKN.out]
                  go_wp2
                  refine bodyPost_ret (v := .tuple #[.slice none 0 0, .int .i64 k, .int .i64 5]) ?_ rfl ⟨.inl ⟨by rw [HV.out]; simp, by rw [HV.out], by rw [HV.out]⟩, bstep H.out.2.2 hb2⟩
                  simp only [results, Try.results10]
                  go_simp
                · exact absurd h HC.out
                · exact absurd h h2
                · have HT := Lib.hid (show tokL s[k] (s.toList.drop (k + 1)) = (3, 0, 0) by unfold tokL; rw [if_pos h])
                  have h45 : (((s[k].toNat : Nat) : Int) == 45) = false := by have := (c45 (c := s[k])); simp; omega
                  clear h h2
                  have HK := Lib.hid (kind_tok hlt HT.out)
                  rw [show k + 1 + (0) = k + 1 by omega] at HK
                  have hq0 : ((3 : Int) == 0) = false := by (have := HK.out.2; simp; try omega)
                  have hme := tok_end hlt HT.out
                  go_wp2_with (first | (go_at_call 23; refine (letter_any _ hbk.1 hbk.2 _).mono ?_; rintro e w' ⟨rfl, rfl⟩; rw [HLK.out]) | fail)
                  refine (kind_any _ (by simp; omega) _).mono ?_
                  rintro e w2 ⟨rfl, hb2⟩
                  rw [HK.out.1]
                  have hown2 := ownsRow_below H.out.2.1 hb2
                  have hown4 := hown2.alloc (.cells #[.int .i64 3, .string (s.extract k (k + 1)), .int .i64 k] 56)
                  have HB2 := Lib.hid (bstep H.out.2.2 hb2)
                  have hws := HB2.out.size
                  clear hb2 hown2
                  go_wp2_with (at_builtin; refine wpList_append_own _ rfl _ _ 27 rfl w.heap.size 56 i0 (.agg #[.int .i64 0, .string ⟨#[]⟩, .int .i64 0]) 3 32 Try.underlying27 hi hz0 hz1 hz2 rfl (by decide) _ _ _ rfl hown4 ⟨w2.heap.size, 0, none⟩ 1 1 [.int .i64 3, .string (s.extract k (k + 1)), .int .i64 k] rfl rfl ?c1 ?c2 ?c3 ?c4 ?c5 ?_)
                  try (case c1 => intro j x hj; match j, hj with | 0, hj => simp at hj; subst hj; exact cell_of_block (heap_alloc_new w2 _) rfl | 1, hj => simp at hj; subst hj; exact cell_of_block (heap_alloc_new w2 _) rfl | 2, hj => simp at hj; subst hj; exact cell_of_block (heap_alloc_new w2 _) rfl)
                  try (case c2 => simp [Value.oneCell'])
                  try (case c3 => unfold maxLen; omega)
                  try (case c4 => omega)
                  try (case c5 => first | omega | (simp; omega))
                  intro v' w3 hown3 hgrow _
                  obtain ⟨ao', cap', rfl⟩ := own_slice hown3
                  have HBW := Lib.hid ((balloc HB2.out _).grown hgrow (by simp; omega) (fun k hk => (hown4.lt k hk).1))
                  have HOW := Lib.hid hown3
                  clear hown3 hown4 hgrow
                  go_wp2
                  go_roundw
                  case rel =>
                    refine ⟨k + 1 + (0), acc ++ [(3, s.extract k (k + 1 + (0)), (k : Int))], ao', cap', ?_, by simp, hme, by simp; omega, Lib.hid ⟨at_tok H.out.1 hlt HC.out HT.out, ?_, HBW.out⟩⟩
                    · (congr 1; try omega)
                    · rw [flatG_snoc, show k + 1 + (0) = k + 1 by omega]; simpa using HOW.out
                  case measure => simp [intOf]; omega
                · have h45 : (((s[k].toNat : Nat) : Int) == 45) = true := by have := (c45 (c := s[k])); simp; omega
                  by_cases hn1 : k + 1 < s.size
                  · have y6 : (k : Int) + 1 < (s.size : Int) := by omega
                    have hd : (s.toList.drop (k + 1)).head? = some s[k + 1] := by rw [list_at hn1]; rfl
                    by_cases h62 : ((s[k + 1].toNat : Nat) : Int) = 62
                    · have HT := Lib.hid (show tokL s[k] (s.toList.drop (k + 1)) = (3, 1, 0) by
                        unfold tokL
                        rw [if_neg (by omega), if_pos h, hd, if_pos]
                        congr 1
                        apply UInt8.toNat_inj.1
                        have : (s[k + 1].toNat : Nat) = 62 := by omega
                        rw [this]; rfl)
                      have h62' : (((s[k + 1].toNat : Nat) : Int) == 62) = true := by simp; omega
                      clear h h2 hd h62
                      have HK := Lib.hid (kind_tok hlt HT.out)
                      rw [show k + 1 + (1) = k + 2 by omega] at HK
                      have hq0 : ((3 : Int) == 0) = false := by (have := HK.out.2; simp; try omega)
                      have hme := tok_end hlt HT.out
                      go_wp2_with (first | (go_at_call 23; refine (letter_any _ hbk.1 hbk.2 _).mono ?_; rintro e w' ⟨rfl, rfl⟩; rw [HLK.out]) | fail)
                      refine (kind_any _ (by simp; omega) _).mono ?_
                      rintro e w2 ⟨rfl, hb2⟩
                      rw [HK.out.1]
                      have hown2 := ownsRow_below H.out.2.1 hb2
                      have hown4 := hown2.alloc (.cells #[.int .i64 3, .string (s.extract k (k + 2)), .int .i64 k] 56)
                      have HB2 := Lib.hid (bstep H.out.2.2 hb2)
                      have hws := HB2.out.size
                      clear hb2 hown2
                      go_wp2_with (at_builtin; refine wpList_append_own _ rfl _ _ 27 rfl w.heap.size 56 i0 (.agg #[.int .i64 0, .string ⟨#[]⟩, .int .i64 0]) 3 32 Try.underlying27 hi hz0 hz1 hz2 rfl (by decide) _ _ _ rfl hown4 ⟨w2.heap.size, 0, none⟩ 1 1 [.int .i64 3, .string (s.extract k (k + 2)), .int .i64 k] rfl rfl ?c1 ?c2 ?c3 ?c4 ?c5 ?_)
                      try (case c1 => intro j x hj; match j, hj with | 0, hj => simp at hj; subst hj; exact cell_of_block (heap_alloc_new w2 _) rfl | 1, hj => simp at hj; subst hj; exact cell_of_block (heap_alloc_new w2 _) rfl | 2, hj => simp at hj; subst hj; exact cell_of_block (heap_alloc_new w2 _) rfl)
                      try (case c2 => simp [Value.oneCell'])
                      try (case c3 => unfold maxLen; omega)
                      try (case c4 => omega)
                      try (case c5 => first | omega | (simp; omega))
                      intro v' w3 hown3 hgrow _
                      obtain ⟨ao', cap', rfl⟩ := own_slice hown3
                      have HBW := Lib.hid ((balloc HB2.out _).grown hgrow (by simp; omega) (fun k hk => (hown4.lt k hk).1))
                      have HOW := Lib.hid hown3
                      clear hown3 hown4 hgrow
                      go_wp2
                      go_roundw
                      case rel =>
                        refine ⟨k + 1 + (1), acc ++ [(3, s.extract k (k + 1 + (1)), (k : Int))], ao', cap', ?_, by simp, hme, by simp; omega, Lib.hid ⟨at_tok H.out.1 hlt HC.out HT.out, ?_, HBW.out⟩⟩
                        · (congr 1; try omega)
                        · rw [flatG_snoc, show k + 1 + (1) = k + 2 by omega]; simpa using HOW.out
                      case measure => simp [intOf]; omega
                    · have HT := Lib.hid (show tokL s[k] (s.toList.drop (k + 1)) = (3, 0, 0) by
                        unfold tokL
                        rw [if_neg (by omega), if_pos h, hd, if_neg]
                        intro e
                        rw [Option.some.inj e] at h62
                        exact absurd rfl h62)
                      have h62' : (((s[k + 1].toNat : Nat) : Int) == 62) = false := by simp; omega
                      clear h h2 hd h62
                      have HK := Lib.hid (kind_tok hlt HT.out)
                      rw [show k + 1 + (0) = k + 1 by omega] at HK
                      have hq0 : ((3 : Int) == 0) = false := by (have := HK.out.2; simp; try omega)
                      have hme := tok_end hlt HT.out
                      go_wp2_with (first | (go_at_call 23; refine (letter_any _ hbk.1 hbk.2 _).mono ?_; rintro e w' ⟨rfl, rfl⟩; rw [HLK.out]) | fail)
                      refine (kind_any _ (by simp; omega) _).mono ?_
                      rintro e w2 ⟨rfl, hb2⟩
                      rw [HK.out.1]
                      have hown2 := ownsRow_below H.out.2.1 hb2
                      have hown4 := hown2.alloc (.cells #[.int .i64 3, .string (s.extract k (k + 1)), .int .i64 k] 56)
                      have HB2 := Lib.hid (bstep H.out.2.2 hb2)
                      have hws := HB2.out.size
                      clear hb2 hown2
                      go_wp2_with (at_builtin; refine wpList_append_own _ rfl _ _ 27 rfl w.heap.size 56 i0 (.agg #[.int .i64 0, .string ⟨#[]⟩, .int .i64 0]) 3 32 Try.underlying27 hi hz0 hz1 hz2 rfl (by decide) _ _ _ rfl hown4 ⟨w2.heap.size, 0, none⟩ 1 1 [.int .i64 3, .string (s.extract k (k + 1)), .int .i64 k] rfl rfl ?c1 ?c2 ?c3 ?c4 ?c5 ?_)
                      try (case c1 => intro j x hj; match j, hj with | 0, hj => simp at hj; subst hj; exact cell_of_block (heap_alloc_new w2 _) rfl | 1, hj => simp at hj; subst hj; exact cell_of_block (heap_alloc_new w2 _) rfl | 2, hj => simp at hj; subst hj; exact cell_of_block (heap_alloc_new w2 _) rfl)
                      try (case c2 => simp [Value.oneCell'])
                      try (case c3 => unfold maxLen; omega)
                      try (case c4 => omega)
                      try (case c5 => first | omega | (simp; omega))
                      intro v' w3 hown3 hgrow _
                      obtain ⟨ao', cap', rfl⟩ := own_slice hown3
                      have HBW := Lib.hid ((balloc HB2.out _).grown hgrow (by simp; omega) (fun k hk => (hown4.lt k hk).1))
                      have HOW := Lib.hid hown3
                      clear hown3 hown4 hgrow
                      go_wp2
                      go_roundw
                      case rel =>
                        refine ⟨k + 1 + (0), acc ++ [(3, s.extract k (k + 1 + (0)), (k : Int))], ao', cap', ?_, by simp, hme, by simp; omega, Lib.hid ⟨at_tok H.out.1 hlt HC.out HT.out, ?_, HBW.out⟩⟩
                        · (congr 1; try omega)
                        · rw [flatG_snoc, show k + 1 + (0) = k + 1 by omega]; simpa using HOW.out
                      case measure => simp [intOf]; omega
                  · have y6 : ¬ (k : Int) + 1 < (s.size : Int) := by omega
                    have HT := Lib.hid (show tokL s[k] (s.toList.drop (k + 1)) = (3, 0, 0) by
                      have hl : s.toList.length = s.size := by rw [ByteArray.toList_eq]; simp
                      unfold tokL
                      rw [if_neg (by omega), if_pos h, List.drop_of_length_le (by omega), if_neg (by simp)])
                    clear h h2
                    have HK := Lib.hid (kind_tok hlt HT.out)
                    rw [show k + 1 + (0) = k + 1 by omega] at HK
                    have hq0 : ((3 : Int) == 0) = false := by (have := HK.out.2; simp; try omega)
                    have hme := tok_end hlt HT.out
                    go_wp2_with (first | (go_at_call 23; refine (letter_any _ hbk.1 hbk.2 _).mono ?_; rintro e w' ⟨rfl, rfl⟩; rw [HLK.out]) | fail)
                    refine (kind_any _ (by simp; omega) _).mono ?_
                    rintro e w2 ⟨rfl, hb2⟩
                    rw [HK.out.1]
                    have hown2 := ownsRow_below H.out.2.1 hb2
                    have hown4 := hown2.alloc (.cells #[.int .i64 3, .string (s.extract k (k + 1)), .int .i64 k] 56)
                    have HB2 := Lib.hid (bstep H.out.2.2 hb2)
                    have hws := HB2.out.size
                    clear hb2 hown2
                    go_wp2_with (at_builtin; refine wpList_append_own _ rfl _ _ 27 rfl w.heap.size 56 i0 (.agg #[.int .i64 0, .string ⟨#[]⟩, .int .i64 0]) 3 32 Try.underlying27 hi hz0 hz1 hz2 rfl (by decide) _ _ _ rfl hown4 ⟨w2.heap.size, 0, none⟩ 1 1 [.int .i64 3, .string (s.extract k (k + 1)), .int .i64 k] rfl rfl ?c1 ?c2 ?c3 ?c4 ?c5 ?_)
                    try (case c1 => intro j x hj; match j, hj with | 0, hj => simp at hj; subst hj; exact cell_of_block (heap_alloc_new w2 _) rfl | 1, hj => simp at hj; subst hj; exact cell_of_block (heap_alloc_new w2 _) rfl | 2, hj => simp at hj; subst hj; exact cell_of_block (heap_alloc_new w2 _) rfl)
                    try (case c2 => simp [Value.oneCell'])
                    try (case c3 => unfold maxLen; omega)
                    try (case c4 => omega)
                    try (case c5 => first | omega | (simp; omega))
                    intro v' w3 hown3 hgrow _
                    obtain ⟨ao', cap', rfl⟩ := own_slice hown3
                    have HBW := Lib.hid ((balloc HB2.out _).grown hgrow (by simp; omega) (fun k hk => (hown4.lt k hk).1))
                    have HOW := Lib.hid hown3
                    clear hown3 hown4 hgrow
                    go_wp2
                    go_roundw
                    case rel =>
                      refine ⟨k + 1 + (0), acc ++ [(3, s.extract k (k + 1 + (0)), (k : Int))], ao', cap', ?_, by simp, hme, by simp; omega, Lib.hid ⟨at_tok H.out.1 hlt HC.out HT.out, ?_, HBW.out⟩⟩
                      · (congr 1; try omega)
                      · rw [flatG_snoc, show k + 1 + (0) = k + 1 by omega]; simpa using HOW.out
                    case measure => simp [intOf]; omega
              · clear HTL
                by_cases h16 : (16 : Int) < (k : Int) - a
                · have HT := Lib.hid (hTL.trans (if_pos (by omega)))
                  have HV := Lib.hid (at_err H.out.1 hlt HC.out HT.out (by omega))
                  go_wp2_with (first | (go_at_call 23; refine (letter_any _ hbk.1 hbk.2 _).mono ?_; rintro e w' ⟨rfl, rfl⟩; rw [HLK.out]) | fail)
                  refine bodyPost_ret (v := .tuple #[.slice none 0 0, .int .i64 a, .int .i64 6]) ?_ rfl ⟨.inl ⟨by rw [HV.out]; simp, by rw [HV.out], by rw [HV.out]⟩, H.out.2.2⟩
                  simp only [results, Try.results10]
                  go_simp
                · have HT := Lib.hid (hTL.trans (if_neg (by omega)))
                  have hne : ((k : Int) == a) = false := by simp; omega
                  generalize hqd : (if wordL (s.extract a k).toList = true then (2 : Int) else 1) = qv at HT
                  have HK := Lib.hid (kind_tok hlt HT.out)
                  rw [show a + 1 + (k - (a + 1)) = k by omega] at HK
                  have hq0 : (qv == 0) = false := by (have := HK.out.2; simp; try omega)
                  have hme := tok_end hlt HT.out
                  go_wp2_with (first | (go_at_call 23; refine (letter_any _ hbk.1 hbk.2 _).mono ?_; rintro e w' ⟨rfl, rfl⟩; rw [HLK.out]) | fail)
                  refine (kind_any _ (by simp; omega) _).mono ?_
                  rintro e w2 ⟨rfl, hb2⟩
                  rw [HK.out.1]
                  have hown2 := ownsRow_below H.out.2.1 hb2
                  have hown4 := hown2.alloc (.cells #[.int .i64 qv, .string (s.extract a (k)), .int .i64 a] 56)
                  have HB2 := Lib.hid (bstep H.out.2.2 hb2)
                  have hws := HB2.out.size
                  clear hb2 hown2
                  go_wp2_with (at_builtin; refine wpList_append_own _ rfl _ _ 27 rfl w.heap.size 56 i0 (.agg #[.int .i64 0, .string ⟨#[]⟩, .int .i64 0]) 3 32 Try.underlying27 hi hz0 hz1 hz2 rfl (by decide) _ _ _ rfl hown4 ⟨w2.heap.size, 0, none⟩ 1 1 [.int .i64 qv, .string (s.extract a (k)), .int .i64 a] rfl rfl ?c1 ?c2 ?c3 ?c4 ?c5 ?_)
                  try (case c1 => intro j x hj; match j, hj with | 0, hj => simp at hj; subst hj; exact cell_of_block (heap_alloc_new w2 _) rfl | 1, hj => simp at hj; subst hj; exact cell_of_block (heap_alloc_new w2 _) rfl | 2, hj => simp at hj; subst hj; exact cell_of_block (heap_alloc_new w2 _) rfl)
                  try (case c2 => simp [Value.oneCell'])
                  try (case c3 => unfold maxLen; omega)
                  try (case c4 => omega)
                  try (case c5 => first | omega | (simp; omega))
                  intro v' w3 hown3 hgrow _
                  obtain ⟨ao', cap', rfl⟩ := own_slice hown3
                  have HBW := Lib.hid ((balloc HB2.out _).grown hgrow (by simp; omega) (fun k hk => (hown4.lt k hk).1))
                  have HOW := Lib.hid hown3
                  clear hown3 hown4 hgrow
                  go_wp2
                  go_roundw
                  case rel =>
                    refine ⟨a + 1 + (k - (a + 1)), acc ++ [(qv, s.extract a (a + 1 + (k - (a + 1))), (a : Int))], ao', cap', ?_, by simp, hme, by simp; omega, Lib.hid ⟨at_tok H.out.1 hlt HC.out HT.out, ?_, HBW.out⟩⟩
                    · (congr 1; try omega)
                    · rw [flatG_snoc, show a + 1 + (k - (a + 1)) = k by omega]; simpa using HOW.out
                  case measure => simp [intOf]; omega
            · have y3 : ¬ (k : Int) < (s.size : Int) := by omega
              rcases HTL.out with ⟨rfl, h2⟩ | ⟨hk1, hTL⟩
              · omega
              · clear HTL
                by_cases h16 : (16 : Int) < (k : Int) - a
                · have HT := Lib.hid (hTL.trans (if_pos (by omega)))
                  have HV := Lib.hid (at_err H.out.1 hlt HC.out HT.out (by omega))
                  go_wp2_with (first | fail)
                  refine bodyPost_ret (v := .tuple #[.slice none 0 0, .int .i64 a, .int .i64 6]) ?_ rfl ⟨.inl ⟨by rw [HV.out]; simp, by rw [HV.out], by rw [HV.out]⟩, H.out.2.2⟩
                  simp only [results, Try.results10]
                  go_simp
                · have HT := Lib.hid (hTL.trans (if_neg (by omega)))
                  have hne : ((k : Int) == a) = false := by simp; omega
                  generalize hqd : (if wordL (s.extract a k).toList = true then (2 : Int) else 1) = qv at HT
                  have HK := Lib.hid (kind_tok hlt HT.out)
                  rw [show a + 1 + (k - (a + 1)) = k by omega] at HK
                  have hq0 : (qv == 0) = false := by (have := HK.out.2; simp; try omega)
                  have hme := tok_end hlt HT.out
                  go_wp2_with (first | fail)
                  refine (kind_any _ (by simp; omega) _).mono ?_
                  rintro e w2 ⟨rfl, hb2⟩
                  rw [HK.out.1]
                  have hown2 := ownsRow_below H.out.2.1 hb2
                  have hown4 := hown2.alloc (.cells #[.int .i64 qv, .string (s.extract a (k)), .int .i64 a] 56)
                  have HB2 := Lib.hid (bstep H.out.2.2 hb2)
                  have hws := HB2.out.size
                  clear hb2 hown2
                  go_wp2_with (at_builtin; refine wpList_append_own _ rfl _ _ 27 rfl w.heap.size 56 i0 (.agg #[.int .i64 0, .string ⟨#[]⟩, .int .i64 0]) 3 32 Try.underlying27 hi hz0 hz1 hz2 rfl (by decide) _ _ _ rfl hown4 ⟨w2.heap.size, 0, none⟩ 1 1 [.int .i64 qv, .string (s.extract a (k)), .int .i64 a] rfl rfl ?c1 ?c2 ?c3 ?c4 ?c5 ?_)
                  try (case c1 => intro j x hj; match j, hj with | 0, hj => simp at hj; subst hj; exact cell_of_block (heap_alloc_new w2 _) rfl | 1, hj => simp at hj; subst hj; exact cell_of_block (heap_alloc_new w2 _) rfl | 2, hj => simp at hj; subst hj; exact cell_of_block (heap_alloc_new w2 _) rfl)
                  try (case c2 => simp [Value.oneCell'])
                  try (case c3 => unfold maxLen; omega)
                  try (case c4 => omega)
                  try (case c5 => first | omega | (simp; omega))
                  intro v' w3 hown3 hgrow _
                  obtain ⟨ao', cap', rfl⟩ := own_slice hown3
                  have HBW := Lib.hid ((balloc HB2.out _).grown hgrow (by simp; omega) (fun k hk => (hown4.lt k hk).1))
                  have HOW := Lib.hid hown3
                  clear hown3 hown4 hgrow
                  go_wp2
                  go_roundw
                  case rel =>
                    refine ⟨a + 1 + (k - (a + 1)), acc ++ [(qv, s.extract a (a + 1 + (k - (a + 1))), (a : Int))], ao', cap', ?_, by simp, hme, by simp; omega, Lib.hid ⟨at_tok H.out.1 hlt HC.out HT.out, ?_, HBW.out⟩⟩
                    · (congr 1; try omega)
                    · rw [flatG_snoc, show a + 1 + (k - (a + 1)) = k by omega]; simpa using HOW.out
                  case measure => simp [intOf]; omega
    · have HV := Lib.hid (at_end H.out.1 hlt ha)
      have hao : a = s.size := by omega
      obtain ⟨⟨h1, h2, h3⟩, g, hr⟩ := own_rowg H.out.2.1
      have z1 : ¬ (a : Int) < (s.size : Int) := by omega
      have HR := Lib.hid hr
      have HB := Lib.hid H.out.2.2
      clear H hr
      go_wp2
      refine bodyPost_ret (v := .tuple #[.slice ao acc.length cap, .int .i64 a, .int .i64 0]) ?_ rfl ⟨.inr ⟨by rw [HV.out], by rw [HV.out], ao, g, cap, by rw [HV.out, hao], fun h => by simp at h, by rw [HV.out]; exact HR.out⟩, HB.out⟩
      simp only [results, Try.results10]
      go_simp
end Go.Proofs.Ytbmflenlbbgjiaa
