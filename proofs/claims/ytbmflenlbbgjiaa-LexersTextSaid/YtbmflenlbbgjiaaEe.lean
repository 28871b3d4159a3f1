/-
  LexersText: Of, the text of tokens and what it is taken apart to, and the law.
-/
import Derived.Test.YtbmflenlbbgjiaaEa
import Derived.Test.YtbmflenlbbgjiaaTb
import Derived.Test.YtbmflenlbbgjiaaLv
namespace Go.Proofs.Ytbmflenlbbgjiaa
open Go.RowKit
set_option linter.unusedVariables false
set_option linter.unusedSimpArgs false
/-- bytes that lie in memory -/
structure BytesIn (w : World) (q : Option Addr) (sb so : Nat) (L : List Int) : Prop where
  here : 0 < L.length → q = some ⟨sb, so, none⟩
  lt : 0 < L.length → sb < w.heap.size
  byte : ∀ i (h : i < L.length), w.cell? ⟨sb, so + i, none⟩ = some (.int .u8 L[i])
  small : ∀ i (h : i < L.length), 0 ≤ L[i] ∧ L[i] ≤ 255
def tokF : Nat → List Int → List Tok
  | _, [] => []
  | i, n :: ns => (kindL (sg n), txt (sg n), (i : Int)) :: tokF (i + 1) ns
theorem tokF_len : ∀ (L : List Int) (i : Nat), (tokF i L).length = L.length
  | [], _ => rfl
  | n :: L, i => by simp only [tokF, List.length_cons, tokF_len L]
theorem tokF_snoc (n : Int) : ∀ (L : List Int) (i : Nat), tokF i (L ++ [n]) = tokF i L ++ [(kindL (sg n), txt (sg n), ((i + L.length : Nat) : Int))]
  | [], i => rfl
  | m :: L, i => by
    simp only [List.cons_append, tokF, tokF_snoc n L, List.length_cons]
    rw [show i + 1 + L.length = i + (L.length + 1) by omega]
theorem tokF_at : ∀ (L : List Int) (i k : Nat) (h : k < L.length) (h' : k < (tokF i L).length), (tokF i L)[k] = (kindL (sg L[k]), txt (sg L[k]), ((i + k : Nat) : Int))
  | n :: L, i, 0, _, _ => rfl
  | n :: L, i, k + 1, h, h' => by
    simp only [tokF, List.getElem_cons_succ]
    rw [tokF_at L (i + 1) k (by simpa using h)]
    rw [show i + 1 + k = i + (k + 1) by omega]
/-- what Of answers -/
def ofP (L : List Int) (e : Ending) (w' : World) : Prop :=
  ∃ q' g cap, e = .returned (.slice q' (tokF 0 (L.take 60)).length cap) ∧ RowG .u8 w' q' g 0 (tokF 0 (L.take 60))
set_option maxRecDepth 100000 in
set_option maxHeartbeats 8000000 in
theorem of_any (L : List Int) (q : Option Addr) (sb so c0 : Nat) (hn : L.length ≤ 9223372036854775807) (w : World) (hs : BytesIn w q sb so L) :
    Calls Try.prog 14 #[.agg #[.slice q L.length c0]] w fun e w' => ofP L e w' ∧ Below w.heap.size w w' := by
  obtain ⟨i0, hi, hz0, hz1, hz2⟩ := info_parts (P := Try.prog) (e := 32) (z := .agg #[.int .u8 0, .string ⟨#[]⟩, .int .i64 0]) (size := 3) (bytes := 32) (by kernel_rfl)
  go_enter Try.func14, Try.ntmps14
  go_wp2
  go_loopw [3, 4] (fun sl i wr => ∃ (k : Nat) (ao : Option Addr) (cap : Nat), k ≤ L.length ∧ k ≤ 60 ∧ i = .int .i64 k ∧ sl = .slice ao k cap ∧ Hid (wr.heap[w.heap.size]? = some (.cells #[.slice q L.length c0] 38) ∧ wr.ownsRow (w.heap.size + 1) 32 3 (.slice ao k cap) k (flatG .u8 (tokF 0 (L.take k))) ∧ Below w.heap.size w wr)) (fun _ i _ => L.length - (intOf i).toNat)
  case atStart => exact ⟨0, none, 0, by omega, by omega, rfl, rfl, Lib.hid ⟨heap_alloc_new w _, World.ownsRow_nil _ _ _ _, balloc (Below.refl _ _) _⟩⟩
  case round =>
    obtain ⟨k, ao, cap, hk, hk60, rfl, rfl, H⟩ := hrel
    have b0 := cell_of_block (i := 0) H.out.1 rfl
    by_cases hgo : k < L.length ∧ k < 60
    · obtain ⟨hlt, hlt60⟩ := hgo
      obtain rfl := hs.here (by omega)
      have cw := (H.out.2.2.cell (p := ⟨sb, so + k, none⟩) (hs.lt (by omega))).trans (hs.byte k hlt)
      obtain ⟨v0, v1⟩ := hs.small k hlt
      have z0 : (0 : Int) ≤ (k : Int) := by omega
      have z1 : (k : Int) < (L.length : Int) := by omega
      have z2 : (k : Int) < 60 := by omega
      have HTK := Lib.hid (show tokF 0 (L.take (k + 1)) = tokF 0 (L.take k) ++ [(kindL (sg L[k]), txt (sg L[k]), (k : Int))] by
        rw [List.take_add_one, List.getElem?_eq_getElem hlt]
        simp only [Option.toList_some]
        rw [tokF_snoc, List.length_take, Nat.min_eq_left hk, Nat.zero_add])
      obtain ⟨y1, y3⟩ := sg_kind L[k] v0
      obtain ⟨x1, x16⟩ := sg_len L[k] v0
      have HS16 := Lib.hid x16
      clear x1 x16
      generalize L[k] = n at *
      go_wp2_with fail
      refine (text_tab n v0 v1 _).mono ?_
      rintro e w2 ⟨rfl, hb2⟩
      have HB2 := Lib.hid (bstep H.out.2.2 hb2)
      have HO2 := Lib.hid (ownsRow_below H.out.2.1 hb2)
      have HX2 := Lib.hid (heap_below_keep hb2 H.out.1)
      clear hb2 b0 cw
      go_wp2_with fail
      refine (kind_any _ (by show (sg n).length ≤ 300; have := HS16.out; omega) _).mono ?_
      rintro e w3 ⟨rfl, hb3⟩
      rw [txt_list]
      have HB3 := Lib.hid (bstep HB2.out hb3)
      have hown3 := (ownsRow_below HO2.out hb3).alloc (.cells #[.int .u8 (kindL (sg n)), .string (txt (sg n)), .int .i64 k] 32)
      have HX3 := Lib.hid (heap_below_keep hb3 HX2.out)
      have hws := HB3.out.size
      have hw1 := lt_of_block HX3.out
      clear hb3
      go_wp2_with (at_builtin; refine wpList_append_own _ rfl _ _ 23 rfl (w.heap.size + 1) 32 i0 (.agg #[.int .u8 0, .string ⟨#[]⟩, .int .i64 0]) 3 32 Try.underlying23 hi hz0 hz1 hz2 rfl (by decide) _ _ _ rfl hown3 ⟨w3.heap.size, 0, none⟩ 1 1 [.int .u8 (kindL (sg n)), .string (txt (sg n)), .int .i64 k] rfl rfl ?c1 ?c2 ?c3 ?c4 ?c5 ?_)
      try (case c1 => intro j x hj; match j, hj with | 0, hj => simp at hj; subst hj; exact cell_of_block (heap_alloc_new w3 _) rfl | 1, hj => simp at hj; subst hj; exact cell_of_block (heap_alloc_new w3 _) rfl | 2, hj => simp at hj; subst hj; exact cell_of_block (heap_alloc_new w3 _) rfl)
      try (case c2 => simp [Value.oneCell'])
      try (case c3 => unfold maxLen; omega)
      try (case c4 => omega)
      try (case c5 => first | omega | (simp; omega))
      intro v' w4 hown4 hgrow _
      obtain ⟨ao', cap', rfl⟩ := own_slice hown4
      have HBW := Lib.hid ((balloc HB3.out _).grown hgrow (by simp; omega) (fun k hk => by have := (hown3.lt k hk).1; omega))
      have HXW := Lib.hid (heap_grown_keep hgrow hown3 (heap_alloc_keep HX3.out) (by omega))
      have HOW := Lib.hid hown4
      clear hown4 hown3 hgrow
      go_wp2
      go_roundw
      case rel => exact ⟨k + 1, ao', cap', by omega, by omega, by go_num, rfl, Lib.hid ⟨HXW.out, by rw [HTK.out, flatG_snoc]; exact HOW.out, HBW.out⟩⟩
      case measure => simp [intOf]; omega
    · have HT := Lib.hid (show L.take k = L.take 60 by
        by_cases h : k = 60
        · rw [h]
        · rw [List.take_of_length_le (by omega), List.take_of_length_le (by omega)])
      have hlk : (tokF 0 (L.take 60)).length = k := by rw [← HT.out, tokF_len, List.length_take, Nat.min_eq_left hk]
      have hown := H.out.2.1
      rw [HT.out] at hown
      have HOW := Lib.hid hown
      have HB := Lib.hid H.out.2.2
      have HLK := Lib.hid hlk
      clear hown H hlk
      have hfin : ∀ w', w' = wr → ∃ q' g cap', Value.slice ao k cap = .slice q' (tokF 0 (L.take 60)).length cap' ∧ RowG .u8 w' q' g 0 (tokF 0 (L.take 60)) := by
        rintro w' rfl
        have h := HOW.out
        rw [← HLK.out] at h
        obtain ⟨-, g, hr⟩ := own_rowg h
        exact ⟨ao, g, cap, by rw [HLK.out], hr⟩
      have HF := Lib.hid hfin
      clear hfin
      by_cases h1 : k < L.length
      · have z1 : (k : Int) < (L.length : Int) := by omega
        have z2 : ¬ (k : Int) < 60 := by omega
        clear hgo
        go_wp2
        obtain ⟨q', g, cap', e1, e2⟩ := HF.out _ rfl
        refine bodyPost_ret (v := .slice ao k cap) ?_ rfl ⟨⟨q', g, cap', by rw [e1], e2⟩, HB.out⟩
        simp only [results, Try.results14]
        go_simp
      · have z1 : ¬ (k : Int) < (L.length : Int) := by omega
        clear hgo
        go_wp2
        obtain ⟨q', g, cap', e1, e2⟩ := HF.out _ rfl
        refine bodyPost_ret (v := .slice ao k cap) ?_ rfl ⟨⟨q', g, cap', by rw [e1], e2⟩, HB.out⟩
        simp only [results, Try.results14]
        go_simp
def joinF : Bool → List Tok → List UInt8
  | _, [] => []
  | b, x :: xs => (if b = true then [32] else []) ++ x.2.1.toList ++ joinF true xs
def joinT (xs : List Tok) : List UInt8 := joinF false xs
theorem joinF_snoc (x : Tok) : ∀ (xs : List Tok) (b : Bool), joinF b (xs ++ [x]) = joinF b xs ++ (if b = true ∨ ¬ xs.length = 0 then [32] else []) ++ x.2.1.toList
  | [], b => by cases b <;> simp [joinF]
  | y :: xs, b => by
    simp only [List.cons_append, joinF, joinF_snoc x xs true, List.length_cons]
    simp
theorem joinT_succ {xs : List Tok} {k : Nat} (h : k < xs.length) : joinT (xs.take (k + 1)) = joinT (xs.take k) ++ (if k = 0 then [] else [32]) ++ (xs[k]).2.1.toList := by
  unfold joinT
  rw [List.take_add_one, List.getElem?_eq_getElem h]
  simp only [Option.toList_some]
  rw [joinF_snoc, List.length_take, Nat.min_eq_left (by omega)]
  by_cases h0 : k = 0 <;> simp [h0]
theorem joinF_len : ∀ (xs : List Tok) (b : Bool), (∀ i (h : i < xs.length), (xs[i]).2.1.size ≤ 16) → (joinF b xs).length ≤ 17 * xs.length
  | [], b, _ => by simp [joinF]
  | x :: xs, b, h => by
    have h0 := h 0 (by simp)
    have hr := joinF_len xs true (fun i hi => by have := h (i + 1) (by simpa using hi); simpa using this)
    have hl : x.2.1.toList.length = x.2.1.size := by rw [ByteArray.toList_eq]; simp
    simp only [List.getElem_cons_zero] at h0
    simp only [joinF, List.length_append, List.length_cons, hl]
    split <;> simp <;> omega
theorem tab_tok : ∀ l ∈ sgTab, ∀ r : List UInt8, (r = [] ∨ ∃ r', r = 32 :: r') → ∃ c t, l = c :: t ∧ ¬ clsN ((c.toNat : Nat) : Int) = 1 ∧ tokL c (t ++ r) = (kindL l, t.length, 0) := by
  intro l hl r hr
  have hcase : (l.all letU = true ∧ 1 ≤ l.length ∧ l.length ≤ 16) ∨ l ∈ sgns := by
    revert l
    decide +kernel
  match l, hl, hcase with
  | [], hl, _ => exact absurd hl (by decide +kernel)
  | c :: t, hl, hcase =>
    refine ⟨c, t, rfl, ?_, ?_⟩
    · have := (cls_cases c)
      rcases hcase with ⟨h1, -⟩ | h1
      · simp only [List.all_cons, Bool.and_eq_true] at h1
        have := this.2.2.1.2 h1.1
        omega
      · rcases sgns_cons h1 with ⟨-, h2⟩ | ⟨rfl, -⟩
        · by_cases h45 : c = 45
          · have := this.2.1.2 h45; omega
          · have := this.1.2 ⟨h2, h45⟩; omega
        · decide +kernel
    · rcases hcase with ⟨h1, -, h16⟩ | h1
      · simp only [List.all_cons, Bool.and_eq_true] at h1
        simp only [List.length_cons] at h16
        have h2 := (cls_cases c).2.2.1.2 h1.1
        have hw : (t ++ r).takeWhile letU = t := by
          rw [List.takeWhile_append_of_pos (by simpa using h1.2)]
          rcases hr with rfl | ⟨r', rfl⟩
          · simp
          · rw [List.takeWhile_cons_of_neg (by decide +kernel), List.append_nil]
        have hk := kind_2 (l := c :: t) (n := t.length + 1) (by omega) (by simp) (by rw [List.take_of_length_le (by simp)]; simp [h1.1, h1.2]) (by intro h; simp at h)
        rw [if_pos ⟨by simp, by omega⟩, List.take_of_length_le (by simp)] at hk
        unfold tokL
        rw [if_neg (by omega), if_neg (by omega), if_pos h2, hw, if_neg (by omega), hk]
      · rcases sgns_cons h1 with ⟨rfl, h2⟩ | ⟨rfl, rfl⟩
        · by_cases h45 : c = 45
          · subst h45
            unfold tokL
            rw [if_neg (by decide +kernel), if_pos (by decide +kernel), if_neg]
            · decide +kernel
            · rcases hr with rfl | ⟨r', rfl⟩ <;> simp
          · have h3 := (cls_cases c).1.2 ⟨h2, h45⟩
            unfold tokL
            rw [if_pos h3, kind_3 h3, if_pos rfl]
            rfl
        · unfold tokL
          rw [if_neg (by decide +kernel), if_pos (by decide +kernel), if_pos (by simp)]
          decide +kernel
theorem lex_tok (n : Int) (h0 : 0 ≤ n) (r : List UInt8) (hr : r = [] ∨ ∃ r', r = 32 :: r') (a : Nat) (R : List Tok) (z : Nat) (h : lexW r (a + (sg n).length) = (R, z, 0)) :
    lexW (sg n ++ r) a = ((kindL (sg n), txt (sg n), (a : Int)) :: R, z, 0) := by
  obtain ⟨c, t, hl, hc, ht⟩ := sg_all (p := fun l => ∀ r : List UInt8, (r = [] ∨ ∃ r', r = 32 :: r') → ∃ c t, l = c :: t ∧ ¬ clsN ((c.toNat : Nat) : Int) = 1 ∧ tokL c (t ++ r) = (kindL l, t.length, 0)) n h0 tab_tok r hr
  rw [hl] at ht h ⊢
  rw [List.cons_append, lexW, if_neg hc, ht]
  simp only [if_pos]
  rw [List.drop_left, List.take_left, show a + 1 + t.length = a + (c :: t).length by simp; omega, h]
  simp
theorem lex_join : ∀ (L : List Int) (i a : Nat) (b : Bool), (∀ n ∈ L, 0 ≤ n) → ∃ ts, lexW (joinF b (tokF i L)) a = (ts, a + (joinF b (tokF i L)).length, 0) ∧ ts.map keyT = (tokF i L).map keyT
  | [], i, a, b, _ => ⟨[], by simp [tokF, joinF, lexW], rfl⟩
  | n :: L, i, a, b, h => by
    have hn := h n (by simp)
    have hrest : joinF true (tokF (i + 1) L) = [] ∨ ∃ r', joinF true (tokF (i + 1) L) = 32 :: r' := by
      match L with
      | [] => exact .inl rfl
      | m :: L => exact .inr ⟨_, rfl⟩
    have key : ∀ a : Nat, ∃ ts, lexW (sg n ++ joinF true (tokF (i + 1) L)) a = (ts, a + (sg n ++ joinF true (tokF (i + 1) L)).length, 0) ∧ ts.map keyT = keyT (kindL (sg n), txt (sg n), (i : Int)) :: (tokF (i + 1) L).map keyT := by
      intro a
      obtain ⟨ts, h1, h2⟩ := lex_join L (i + 1) (a + (sg n).length) true (fun m hm => h m (by simp [hm]))
      refine ⟨(kindL (sg n), txt (sg n), (a : Int)) :: ts, ?_, ?_⟩
      · rw [lex_tok n hn _ hrest a ts _ h1, List.length_append, Nat.add_assoc]
      · rw [List.map_cons, h2]
        rfl
    simp only [tokF, joinF, txt_list, List.map_cons]
    cases b
    · simpa using key a
    · obtain ⟨ts, h1, h2⟩ := key (a + 1)
      refine ⟨ts, ?_, h2⟩
      simp only [if_pos]
      rw [List.append_assoc, List.singleton_append, lexW, if_pos (by decide +kernel), h1]
      simp; omega
set_option maxHeartbeats 8000000 in
theorem text_all (xs : List Tok) (p : Option Addr) (sb so cap : Nat) (hx : xs.length ≤ 60) (hc : ∀ i (h : i < xs.length), chkT xs[i] = 0) (hz : ∀ i (h : i < xs.length), (xs[i]).2.1.size ≤ 40) (w : World) (hs : ToksAt w p sb so xs) :
    Calls Try.prog 15 #[.slice p xs.length cap] w fun e w' => e = .returned (.tuple #[.string (txt (joinT xs)), .int .i64 0]) ∧ Below w.heap.size w w' := by
  go_enter Try.func15, Try.ntmps15
  go_wp2
  go_loopw [15] (fun i wr => ∃ k : Nat, k ≤ xs.length ∧ i = .int .i64 k ∧ Below w.heap.size w wr) (fun i _ => xs.length - (intOf i).toNat)
  case atStart => exact ⟨0, by omega, rfl, Below.refl _ _⟩
  case round =>
    obtain ⟨k, hk, rfl, hbr⟩ := hrel
    by_cases hlt : k < xs.length
    · obtain rfl := hs.here (by omega)
      have c1 : wr.cell? ⟨sb, so + k * 3, none⟩ = some (.int .u8 (xs[k]).1) := by rw [hbr.cell (hs.lt (by omega))]; exact hs.kind k hlt
      have c2 : wr.cell? ⟨sb, so + k * 3 + 1, none⟩ = some (.string (xs[k]).2.1) := by rw [hbr.cell (hs.lt (by omega))]; exact hs.text k hlt
      have c3 : wr.cell? ⟨sb, so + k * 3 + 2, none⟩ = some (.int .i64 (xs[k]).2.2) := by rw [hbr.cell (hs.lt (by omega))]; exact hs.at_ k hlt
      have z0 : (0 : Int) ≤ (k : Int) := by omega
      have z1 : (k : Int) < (xs.length : Int) := by omega
      have HB := Lib.hid hbr
      clear hbr
      go_wp2_with fail
      refine (check_any _ _ _ (by have := hz k hlt; omega) _).mono ?_
      rintro e w2 ⟨rfl, hb2⟩
      have hbk := bstep (balloc HB.out _) hb2
      have HBK := Lib.hid hbk
      clear hbk
      have e0' : (chkL (xs[k]).1 (xs[k]).2.1.toList != 0) = false := by have e0 := hc k hlt; unfold chkT at e0; simp [e0]
      clear hb2
      go_wp2
      go_roundw
      case rel => exact ⟨k + 1, by omega, by go_num, HBK.out⟩
      case measure => simp [intOf]; omega
    · obtain rfl : k = xs.length := by omega
      go_wp2
      rename World => wo
      have hsz := hbr.size
      go_loopw [27] (fun i wr => ∃ (k : Nat) (l : List UInt8), k ≤ xs.length ∧ i = .int .i64 k ∧ l.length ≤ 41 * k ∧ wo.heap.size < wr.heap.size ∧ Hid ((IsB wo.heap.size wo.heap.size l wr ∧ Below w.heap.size w wr) ∧ l = joinT (xs.take k))) (fun i _ => xs.length - (intOf i).toNat)
      case atStart => exact ⟨0, [], by omega, rfl, by simp, by simp, Lib.hid ⟨⟨bNew wo, balloc hbr _⟩, rfl⟩⟩
      case round =>
        obtain ⟨k, l, hk, rfl, hll, hwz, hi⟩ := hrel
        have HJ := Lib.hid hi.out.2
        replace hi := Lib.hid hi.out.1
        by_cases hlt : k < xs.length
        · obtain rfl := hs.here (by omega)
          have hbz := hi.out.2
          have c1 := (hbz.cell (p := ⟨sb, so + k * 3, none⟩) (hs.lt (by omega))).trans (hs.kind k hlt)
          have c2 := (hbz.cell (p := ⟨sb, so + k * 3 + 1, none⟩) (hs.lt (by omega))).trans (hs.text k hlt)
          have c3 := (hbz.cell (p := ⟨sb, so + k * 3 + 2, none⟩) (hs.lt (by omega))).trans (hs.at_ k hlt)
          have z0 : (0 : Int) ≤ (k : Int) := by omega
          have z1 : (k : Int) < (xs.length : Int) := by omega
          have hzk := hz k hlt
          clear hbz hbr
          have HB := Lib.hid hi.out.2
          have X0 := Lib.hid (heap_alloc_new wr (.cells #[.int .u8 (xs[k]).1, .string (xs[k]).2.1, .int .i64 (xs[k]).2.2] 32))
          have hia := hi.out.1.alloc (.cells #[.int .u8 (xs[k]).1, .string (xs[k]).2.1, .int .i64 (xs[k]).2.2] 32)
          have HIA := Lib.hid hia
          clear hia hi
          by_cases hk0 : k = 0
          · have z2 : ¬ (0 : Int) < (k : Int) := by omega
            have HK0 := Lib.hid hk0
            clear hk0
            go_wp2_with fail
            refine (bString _ _ _ _ _ HIA.out (by omega) (by simp; omega)).mono ?_
            rintro e w4 ⟨rfl, hi4, hb4, hk4⟩
            have HI4 := Lib.hid hi4
            have HB4 := Lib.hid ((balloc HB.out _).trans (hb4.mono hsz))
            have hs4 : wr.heap.size + 1 ≤ w4.heap.size := by have := hb4.size; simpa using this
            clear hi4 hb4 hk4
            go_wp2
            go_roundw
            case rel => exact ⟨k + 1, l ++ (xs[k]).2.1.data.toList, by omega, by go_num, by simp only [List.length_append, Array.length_toList]; have : (xs[k]).2.1.data.size = (xs[k]).2.1.size := rfl; omega, by omega, Lib.hid ⟨⟨HI4.out, HB4.out⟩, by rw [joinT_succ hlt, if_pos HK0.out, HJ.out, ByteArray.toList_eq]; simp⟩⟩
            case measure => simp [intOf]; omega
          · have z2 : (0 : Int) < (k : Int) := by omega
            have HK0 := Lib.hid hk0
            clear hk0
            go_wp2_with fail
            refine (bByte _ _ _ _ 32 rfl _ HIA.out (by omega) (by simp; omega)).mono ?_
            rintro e w3 ⟨rfl, hi3, hb3, hk3⟩
            have X3 := hk3 _ _ X0.out (by simp; omega) (by intro c fz h; simp at h)
            have x0 := cell_of_block (i := 0) X3 rfl
            have x1 := cell_of_block (i := 1) X3 rfl
            have x2 := cell_of_block (i := 2) X3 rfl
            have hs3 : wr.heap.size + 1 ≤ w3.heap.size := by have := hb3.size; simpa using this
            have HB3 := Lib.hid ((balloc HB.out _).trans (hb3.mono hsz))
            have HI3 := Lib.hid hi3
            clear hi3 hb3 hk3 X3
            go_wp2_with fail
            refine (bString _ _ _ _ _ HI3.out (by simp only [List.length_append, List.length_singleton]; omega) (by omega)).mono ?_
            rintro e w4 ⟨rfl, hi4, hb4, hk4⟩
            have HI4 := Lib.hid hi4
            have HB4 := Lib.hid (HB3.out.trans (hb4.mono hsz))
            have hs4 := hb4.size
            clear hi4 hb4 hk4
            go_wp2
            go_roundw
            case rel => exact ⟨k + 1, l ++ [32] ++ (xs[k]).2.1.data.toList, by omega, by go_num, by simp only [List.length_append, Array.length_toList, List.length_singleton]; have : (xs[k]).2.1.data.size = (xs[k]).2.1.size := rfl; omega, by omega, Lib.hid ⟨⟨HI4.out, HB4.out⟩, by rw [joinT_succ hlt, if_neg HK0.out, HJ.out, ByteArray.toList_eq]⟩⟩
            case measure => simp [intOf]; omega
        · obtain rfl : k = xs.length := by omega
          have HI := Lib.hid hi.out.1
          have HB := Lib.hid hi.out.2
          have z2 : ¬ (1048576 : Int) < (l.length : Int) := by omega
          clear hi hbr
          go_wp2_with (first | (go_at_call 28; refine (bLen _ _ _ _ HI.out).mono ?_; rintro e w' ⟨rfl, rfl⟩) | fail)
          refine (bText _ _ _ _ HI.out (by omega)).mono ?_
          rintro e w3 ⟨rfl, hi3, hb3, hk3⟩
          have HB3 := Lib.hid (HB.out.trans (hb3.mono hsz))
          clear hi3 hb3 hk3
          go_wp2
          refine bodyPost_ret (v := .tuple #[.string ⟨l.toArray⟩, .int .i64 0]) ?_ rfl ⟨by rw [HJ.out, List.take_length]; rfl, HB3.out⟩
          simp only [results, Try.results15]
          go_simp
theorem cat_lists (a b : ByteArray) : (a ++ b).toList = a.toList ++ b.toList := by
  rw [ByteArray.toList_eq, ByteArray.toList_eq, ByteArray.toList_eq]; simp
theorem lex_back (L : List Int) (h : ∀ n ∈ L, 0 ≤ n) : (lexR (txt (joinT (tokF 0 L)))).2.2 = 0 ∧ sameB (lexR (txt (joinT (tokF 0 L)))).1 (tokF 0 L) = true ∧ (lexR (txt (joinT (tokF 0 L)))).1.length = (tokF 0 L).length := by
  obtain ⟨ts, h1, h2⟩ := lex_join L 0 0 false h
  unfold lexR joinT
  rw [txt_list, h1]
  unfold joinR
  rw [if_pos rfl]
  refine ⟨rfl, ?_, ?_⟩
  · unfold sameB; simpa using h2
  · have := congrArg List.length h2
    simpa using this
theorem same_sym {xs ys : List Tok} (h : sameB xs ys = true) : sameB ys xs = true := by
  unfold sameB at h ⊢
  simp only [decide_eq_true_eq] at h ⊢
  exact h.symm
theorem tok_right (L : List Int) (h : ∀ i (h : i < L.length), 0 ≤ L[i]) : ∀ i (hi : i < (tokF 0 L).length), chkT (tokF 0 L)[i] = 0 ∧ (tokF 0 L)[i].2.1.size ≤ 16 := by
  intro i hi
  have hi' : i < L.length := by rwa [tokF_len] at hi
  rw [tokF_at L 0 i hi' hi]
  obtain ⟨h1, h3⟩ := sg_kind L[i] (h i hi')
  refine ⟨?_, (sg_len L[i] (h i hi')).2⟩
  unfold chkT
  simp only [txt_list]
  rw [chk_ok h1 h3, if_pos rfl]
set_option maxRecDepth 100000 in
set_option maxHeartbeats 8000000 in
theorem lawText_any (L : List Int) (q : Option Addr) (sb so c0 : Nat) (hn : L.length ≤ 9223372036854775807) (w : World) (hs : BytesIn w q sb so L) :
    Calls Try.prog 4 #[.agg #[.slice q L.length c0]] w fun e w' => e = .returned (.bool true) ∧ Below w.heap.size w w' := by
  have hsm : ∀ i (h : i < (L.take 60).length), 0 ≤ (L.take 60)[i] := by
    intro i h
    rw [List.getElem_take]
    exact (hs.small i (by rw [List.length_take] at h; omega)).1
  have hsm' : ∀ n ∈ L.take 60, 0 ≤ n := by
    intro n hm
    obtain ⟨i, hi, rfl⟩ := List.getElem_of_mem hm
    exact hsm i hi
  have hlk := lex_back (L.take 60) hsm'
  have htr := tok_right (L.take 60) hsm
  have hln : (tokF 0 (L.take 60)).length ≤ 60 := by rw [tokF_len, List.length_take]; omega
  have HLK := Lib.hid hlk
  have HTR := Lib.hid htr
  clear hlk htr hsm hsm'
  go_enter Try.func4, Try.ntmps4
  go_wp2_with fail
  refine (of_any L q sb so c0 hn _ ⟨hs.here, fun h => by have := hs.lt h; simp; omega, fun i h => by rw [World.cell?_of_block (w := w) (Below.heap_alloc w _ _ (hs.lt (by omega)))]; exact hs.byte i h, hs.small⟩).mono ?_
  rintro e w1 ⟨⟨q1, g1, cap1, rfl, hr1⟩, hb1⟩
  have HB1 := Lib.hid (bstep (balloc (Below.refl w.heap.size w) _) hb1)
  clear hb1
  have HLN := Lib.hid hln
  generalize tokF 0 (L.take 60) = xs at *
  have HR1 := Lib.hid hr1
  clear hr1
  have hxs : xs.length ≤ 60 := hln
  go_wp2_with fail
  refine (text_all xs q1 g1 0 cap1 hxs (fun i h => (HTR.out i h).1) (fun i h => by have := (HTR.out i h).2; omega) _ HR1.out.toks).mono ?_
  rintro e w2 ⟨rfl, hb2⟩
  have HB2 := Lib.hid (bstep HB1.out hb2)
  have HR2 := Lib.hid (rowg_below HR1.out hb2)
  have hjl := joinF_len xs false (fun i h => (HTR.out i h).2)
  have hJs : (txt (joinT xs)).size ≤ 1020 := by show (joinF false xs).length ≤ 1020; omega
  clear hb2 hjl
  have HJ := Lib.hid (rfl : txt (joinT xs) = txt (joinT xs))
  generalize hJ : txt (joinT xs) = J at *
  have HJD := Lib.hid hJ
  clear hJ HJ
  go_wp2
  go_loopw [6, 7] (fun st i wr => ∃ (k : Nat) (S : ByteArray), k ≤ xs.length ∧ i = .int .i64 k ∧ st = .string S ∧ S.size ≤ 17 * k ∧ Hid (S.toList = joinT (xs.take k) ∧ wr = w2)) (fun _ i _ => xs.length - (intOf i).toNat)
  case atStart => exact ⟨0, ByteArray.empty, by omega, rfl, rfl, by simp, Lib.hid ⟨by rw [ByteArray.toList_eq]; rfl, rfl⟩⟩
  case round =>
    obtain ⟨k, S, hk, rfl, rfl, hS, H⟩ := hrel
    obtain rfl := H.out.2
    by_cases hlt : k < xs.length
    · obtain rfl := HR2.out.here (by omega)
      have c2 := HR2.out.text k hlt
      rw [Nat.zero_add] at c2
      have hz := (HTR.out k hlt).2
      have z0 : (0 : Int) ≤ (k : Int) := by omega
      have z1 : (k : Int) < (xs.length : Int) := by omega
      have HX := Lib.hid (joinT_succ hlt)
      have y1 : (S.size : Int) ≤ 1020 := by omega
      have y2 : ((xs[k]).2.1.size : Int) ≤ 16 := by omega
      by_cases hk0 : k = 0
      · have z2 : ¬ (0 : Int) < (k : Int) := by omega
        have z3 : ¬ 0 < k := by omega
        have HK0 := Lib.hid hk0
        clear hk0
        go_wp2
        go_roundw
        case rel => exact ⟨k + 1, S ++ (xs[k]).2.1, by omega, by go_num, rfl, by rw [ByteArray.size_append]; omega, Lib.hid ⟨by rw [cat_lists, H.out.1, HX.out, if_pos HK0.out, List.append_nil], by first | rfl | trivial⟩⟩
        case measure => simp [intOf]; omega
      · have z2 : (0 : Int) < (k : Int) := by omega
        have z3 : 0 < k := by omega
        have HK0 := Lib.hid hk0
        clear hk0
        go_wp2
        go_roundw
        case rel => exact ⟨k + 1, S ++ ⟨#[32]⟩ ++ (xs[k]).2.1, by omega, by go_num, rfl, by rw [ByteArray.size_append, ByteArray.size_append]; have : (ByteArray.mk #[32]).size = 1 := rfl; omega, Lib.hid ⟨by rw [cat_lists, cat_lists, H.out.1, HX.out, if_neg HK0.out]; rw [show (ByteArray.mk #[32]).toList = [32] by rw [ByteArray.toList_eq]], by first | rfl | trivial⟩⟩
        case measure => simp [intOf]; omega
    · obtain rfl : k = xs.length := by omega
      have hSJ : S = J := by
        rw [bytes_inj, ← HJD.out, txt_list, H.out.1, List.take_length]
      subst hSJ
      clear H
      go_wp2_with fail
      refine (lex_any S (by omega) _).mono ?_
      rintro e w3 ⟨hp, hb3⟩
      have hlk := HLK.out
      have HB3 := Lib.hid (bstep HB2.out hb3)
      have HR3 := Lib.hid (rowg_below HR2.out hb3)
      clear hb3
      rcases hp with ⟨he, -, -⟩ | ⟨he, hsz, q3, g3, cap3, rfl, hcap, hr3⟩
      · exact absurd hlk.1 he
      · have HQ3 := Lib.hid hr3
        have HS1 := Lib.hid hlk.2.1
        have HS2 := Lib.hid (same_sym hlk.2.1)
        have hll := hlk.2.2
        have hll2 : (lexR S).1.length ≤ 60 := by omega
        clear hlk hr3 he hsz hcap HLK hll
        generalize (lexR S).1 = ys at *
        go_wp2_with fail
        refine (same_any ys xs _ _ g3 0 cap3 g1 0 cap1 (by omega) (by omega) _ HQ3.out.toks HR3.out.toks).mono ?_
        rintro e w4 ⟨rfl, hb4⟩
        rw [HS1.out]
        have HB4 := Lib.hid (bstep HB3.out hb4)
        have HR4 := Lib.hid (rowg_below HR3.out hb4)
        have HQ4 := Lib.hid (rowg_below HQ3.out hb4)
        clear hb4
        go_wp2_with fail
        refine (same_any xs ys _ _ g1 0 cap1 g3 0 cap3 (by omega) (by omega) _ HR4.out.toks HQ4.out.toks).mono ?_
        rintro e w5 ⟨rfl, hb5⟩
        rw [HS2.out]
        have HB5 := Lib.hid (bstep HB4.out hb5)
        clear hb5
        go_wp2_with fail
        refine (lives_any _).mono ?_
        rintro e w6 ⟨rfl, hb6⟩
        go_wp2
        go_ret
        exact ⟨rfl, bstep HB5.out hb6⟩
end Go.Proofs.Ytbmflenlbbgjiaa
