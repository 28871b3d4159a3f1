import Derived.Test.YteojndglglkgpaaR
import Derived.Test.YteojndglglkgpaaT
import Derived.Test.YteojndglglkgpaaL
namespace Go.Proofs.Yteojndglglkgpaa
open Go.RowKit
set_option linter.unusedVariables false
set_option linter.unusedSimpArgs false
/-- pairs of small numbers that lie in memory -/
structure PairsAt (w : World) (p : Option Addr) (sb so : Nat) (xs : List (Int × Int)) : Prop where
  here : 0 < xs.length → p = some ⟨sb, so, none⟩
  lt : 0 < xs.length → sb < w.heap.size
  fst : ∀ i (h : i < xs.length), w.cell? ⟨sb, so + i * 2, none⟩ = some (.int .u8 (xs[i]).1)
  snd : ∀ i (h : i < xs.length), w.cell? ⟨sb, so + i * 2 + 1, none⟩ = some (.int .u8 (xs[i]).2)
  small : ∀ i (h : i < xs.length), 0 ≤ (xs[i]).1 ∧ (xs[i]).1 ≤ 255 ∧ 0 ≤ (xs[i]).2 ∧ (xs[i]).2 ≤ 255
/-- the ticks of steps -/
def waits : List (Int × Int) → Int
  | [] => 0
  | x :: xs => x.1 + waits xs
/-- steps that are carried out -/
def Fine (ss : List (Int × Int)) : Prop := ∀ x ∈ ss, 0 ≤ x.1 ∧ x.1 ≤ 7 ∧ 0 ≤ x.2 ∧ x.2 ≤ 15
theorem waits_pos : ∀ {ss : List (Int × Int)}, Fine ss → 0 ≤ waits ss
  | [], _ => Int.le_refl _
  | x :: xs, h => by
    have := (h x (by simp)).1
    have := waits_pos (ss := xs) (fun y hy => h y (by simp [hy]))
    simp only [waits]; omega
theorem waits_snoc (ss : List (Int × Int)) (x : Int × Int) : waits (ss ++ [x]) = waits ss + x.1 := by
  induction ss with
  | nil => simp [waits]
  | cons y ys ih => simp only [List.cons_append, waits, ih]; omega
theorem playM_fine {R B : Int} : ∀ {ss : List (Int × Int)} {T L t : Int}, Fine ss → t + waits ss ≤ 4611686018427387904 → ∃ r, playM R B T L t ss = some r
  | [], T, L, _, _, _ => ⟨(T, L, []), by simp [playM]⟩
  | x :: xs, T, L, t, h, hw => by
    have hx := h x (by simp)
    have hf : Fine xs := fun y hy => h y (by simp [hy])
    have := waits_pos hf
    simp only [waits] at hw
    by_cases g : x.2 ≤ gM T R (t + x.1 - L) B
    · obtain ⟨r, hr⟩ := playM_fine (R := R) (B := B) (T := gM T R (t + x.1 - L) B - x.2) (L := t + x.1) (t := t + x.1) hf (by omega)
      exact ⟨_, by rw [playM_yes ⟨by omega, by omega, by omega⟩ g, hr]; rfl⟩
    · obtain ⟨r, hr⟩ := playM_fine (R := R) (B := B) (T := T) (L := L) (t := t + x.1) hf (by omega)
      exact ⟨_, by rw [playM_not ⟨by omega, by omega, by omega⟩ (by omega), hr]; rfl⟩
/-- the cells of steps -/
def flat : List (Int × Int) → List Value
  | [] => []
  | x :: xs => .int .i64 x.1 :: .int .i64 x.2 :: flat xs
theorem flat_snoc (ss : List (Int × Int)) (x : Int × Int) : flat (ss ++ [x]) = flat ss ++ [.int .i64 x.1, .int .i64 x.2] := by
  induction ss with
  | nil => rfl
  | cons y ys ih => simp only [List.cons_append, flat, ih]
theorem flat_len (ss : List (Int × Int)) : (flat ss).length = ss.length * 2 := by
  induction ss with
  | nil => rfl
  | cons y ys ih => simp only [List.length_cons, flat, ih]; omega
theorem flat_fst : ∀ (ss : List (Int × Int)) (i : Nat) (h : i < ss.length), (flat ss)[i * 2]? = some (.int .i64 (ss[i]).1)
  | x :: xs, 0, _ => rfl
  | x :: xs, i + 1, h => by
    rw [show (i + 1) * 2 = i * 2 + 1 + 1 by omega]
    simpa [flat] using flat_fst xs i (by simpa using h)
theorem flat_snd : ∀ (ss : List (Int × Int)) (i : Nat) (h : i < ss.length), (flat ss)[i * 2 + 1]? = some (.int .i64 (ss[i]).2)
  | x :: xs, 0, _ => rfl
  | x :: xs, i + 1, h => by
    rw [show (i + 1) * 2 + 1 = i * 2 + 1 + 1 + 1 by omega]
    simpa [flat] using flat_snd xs i (by simpa using h)
/-- what holds at the head of the loop that makes the steps -/
structure BuildHead (w : World) (ob : Nat) (R B T L : Int) (xs : List (Int × Int)) (k : Nat) (t' : Int) (sl : Value) (wr : World) : Prop where
  here : ∃ ss, ss.length = k ∧ Fine ss ∧ t' = L + waits ss ∧ t' ≤ 4611686018427387904 ∧ wr.heap[ob]? = some (bO R B T L) ∧ wr.ownsRow (ob + 1) 62 2 sl k (flat ss)
  below : Below w.heap.size w wr
  base : w.heap.size ≤ ob
  base_lt : ob < wr.heap.size
  le : k ≤ xs.length
  few : k ≤ 30
theorem owned_steps {w : World} {base : Nat} {e : TypeId} {v : Value} {ss : List (Int × Int)} (h : w.ownsRow base e 2 v ss.length (flat ss)) :
    ∃ q g cap, v = .slice q ss.length cap ∧ StepsAt w q g 0 ss := by
  obtain ⟨hl, h | ⟨g, cap, cur, hv, hb, hg, h1, h2, h3, h4⟩⟩ := h
  · obtain ⟨rfl, h0⟩ := h
    refine ⟨none, 0, 0, by rw [h0], ⟨fun h => absurd h (by omega), fun h => absurd h (by omega), fun i h => absurd h (by omega), fun i h => absurd h (by omega)⟩⟩
  · have hcell : ∀ j x, j < ss.length * 2 → (flat ss)[j]? = some x → w.cell? ⟨g, j, none⟩ = some x := by
      intro j x hj hx
      refine cell_of_block hg ?_
      rw [← h4, List.getElem?_take, if_pos hj] at hx
      simpa using hx
    refine ⟨_, g, cap, hv, ⟨fun _ => rfl, fun _ => lt_of_block hg, fun i hi => ?_, fun i hi => ?_⟩⟩
    · rw [Nat.zero_add]; exact hcell _ _ (by omega) (flat_fst ss i hi)
    · rw [Nat.zero_add]; exact hcell _ _ (by omega) (flat_snd ss i hi)
theorem winS_next {xs : List (Int × Int)} {ds : List Bool} {i k : Nat} (h : i ≤ k) (hk : k < xs.length) (hd : k < ds.length) : winS xs ds i (k + 1) = winS xs ds i k + (if ds[k] = true then (xs[k]).2 else 0) := by
  rw [winS, show ds.getD k false = ds[k] by simp [List.getD, hd], show xs.getD k (0, 0) = xs[k] by simp [List.getD, hk]]
  simp [h]
theorem winW_next {xs : List (Int × Int)} {i k : Nat} (hk : k < xs.length) : winW xs i (k + 1) = winW xs i k + (if i < k then (xs[k]).1 else 0) := by
  rw [winW, show xs.getD k (0, 0) = xs[k] by simp [List.getD, hk]]
theorem win_small {ss : List (Int × Int)} (hf : Fine ss) (ds : List Bool) (i : Nat) : ∀ k, k ≤ ss.length → 0 ≤ winS ss ds i k ∧ winS ss ds i k ≤ 15 * k ∧ 0 ≤ winW ss i k ∧ winW ss i k ≤ 7 * k
  | 0, _ => by simp [winS, winW]
  | k + 1, h => by
    have ih := win_small hf ds i k (by omega)
    have hx := hf _ (List.getElem_mem (show k < ss.length by omega))
    rw [winS, winW, show ss.getD k (0, 0) = ss[k] by simp [List.getD, show k < ss.length by omega]]
    split <;> split <;> omega
set_option maxRecDepth 100000 in
set_option maxHeartbeats 4000000 in
theorem lawWindow_any (HL : Lives) (r b t l g : Int) (hx : OkX r b t l g) (p : Option Addr) (sb so cap : Nat) (xs : List (Int × Int)) (w : World) (hs : PairsAt w p sb so xs) (hn : xs.length ≤ 9223372036854775807) :
    Calls Try.prog 7 #[xV r b t l g, .slice p xs.length cap] w fun e w' => e = .returned (.bool true) ∧ Below w.heap.size w w' := by
  have HLV := Lib.hid HL
  clear HL
  have hok := of_ok hx
  obtain ⟨a1, a2, a3, a4, a5, a6, a7, a8⟩ := okB_iff hok
  have HOK := Lib.hid hok
  clear hok
  obtain ⟨i0, hi, hz0, hz1, hz2⟩ := info_parts (P := Try.prog) (e := 62) (z := .agg #[.int .i64 0, .int .i64 0]) (size := 2) (bytes := 16) (by kernel_rfl)
  go_enter Try.func7, Try.ntmps7
  go_wp2_with fail
  refine (of_any r b t l g hx _).mono ?_
  rintro e w1 ⟨rfl, hb1⟩
  generalize ofR r g = R at *
  generalize ofB b g = B at *
  generalize ofT b t g = T at *
  generalize ofL l g = L at *
  have B1 := Lib.hid hb1
  have sz1 := hb1.size
  clear hb1
  go_wp2_with fail
  have HOB := Lib.hid (heap_alloc_new w1 (bO R B T L))
  go_loopw [6, 7, 8] (fun sl tt i wr => ∃ (k : Nat) (t' : Int), i = .int .i64 k ∧ tt = .int .i64 t' ∧ BuildHead w w1.heap.size R B T L xs k t' sl wr) (fun _ _ i _ => xs.length - (intOf i).toNat)
  case atStart =>
    refine ⟨0, L, rfl, rfl, ⟨⟨[], rfl, fun x hx => (by cases hx), by simp [waits], a8, HOB.out, World.ownsRow_nil _ _ _ _⟩, ?_, ?_, by simp, Nat.zero_le _, by omega⟩⟩
    · have hb1 := B1.out
      repeat (first | (with_reducible exact Below.refl _ _) | (with_reducible assumption) | (with_reducible refine bset ?_ (by first | omega | (simp; done) | (simp; omega)) _) | (with_reducible refine balloc ?_ _) | (with_reducible refine bdrew ?_) | (with_reducible refine bdrewN ?_ _) | (with_reducible refine bstep ?_ (by assumption)))
    · simp at sz1; omega
  case round =>
    obtain ⟨k, t', rfl, rfl, H⟩ := hrel
    obtain ⟨ss, hlen, hfine, ht', hle, hob, hown⟩ := H.here
    subst ht'
    by_cases hlt : k < xs.length ∧ k < 30
    · obtain ⟨hlt, hlt2⟩ := hlt
      obtain rfl := hs.here (by omega)
      have hsb := hs.lt (by omega)
      have cw : wr.cell? ⟨sb, so + k * 2, none⟩ = some (.int .u8 (xs[k]).1) := by rw [H.below.cell hsb]; exact hs.fst k hlt
      have cn : wr.cell? ⟨sb, so + k * 2 + 1, none⟩ = some (.int .u8 (xs[k]).2) := by rw [H.below.cell hsb]; exact hs.snd k hlt
      obtain ⟨v1, v2, v3, v4⟩ := hs.small k hlt
      have z0 : (0 : Int) ≤ (k : Int) := by omega
      have z1 : (k : Int) < (xs.length : Int) := by omega
      have hsb' : sb < wr.heap.size := by have := H.below.size; omega
      have wp := waits_pos hfine
      have HH := Lib.hid H
      have HO := Lib.hid hown
      clear H hown
      generalize (xs[k]).1 = u at *
      generalize (xs[k]).2 = v at *
      by_cases c : u % 8 ≤ 4611686018427387904 - (L + waits ss)
      · have hown2 := HO.out.alloc (.cells #[.int .i64 (u % 8), .int .i64 (v % 16)] 62)
        have q1 := HH.out.base
        have q2 := HH.out.base_lt
        go_wp2_with (at_builtin; refine wpList_append_own _ rfl _ _ 51 rfl (w1.heap.size + 1) 62 i0 (.agg #[.int .i64 0, .int .i64 0]) 2 16 Try.underlying51 hi hz0 hz1 hz2 rfl (by decide) _ _ _ rfl hown2 ⟨wr.heap.size, 0, none⟩ 1 1 [.int .i64 (u % 8), .int .i64 (v % 16)] rfl rfl ?c1 ?c2 ?c3 ?c4 ?c5 ?_)
        try (case c1 => intro j x hj; match j, hj with | 0, hj => simp at hj; subst hj; exact cell_of_block (heap_alloc_new wr _) rfl | 1, hj => simp at hj; subst hj; exact cell_of_block (heap_alloc_new wr _) rfl)
        try (case c2 => simp [Value.oneCell'])
        try (case c3 => unfold maxLen; omega)
        try (case c4 => omega)
        try (case c5 => first | omega | (simp; omega))
        intro v' w3 hown3 hgrow _
        go_wp2
        go_roundw
        case rel =>
          refine ⟨k + 1, L + waits ss + u % 8, by go_num, by go_num, ⟨ss ++ [(u % 8, v % 16)], by simp [hlen], ?_, by rw [waits_snoc]; omega, by omega, heap_grown_keep hgrow hown2 (heap_alloc_keep hob) (by omega), by rw [flat_snoc]; simpa using hown3⟩, ?_, q1, ?_, by omega, by omega⟩
          · intro y hy
            rcases List.mem_append.1 hy with hy | hy
            · exact hfine y hy
            · simp at hy; subst hy; exact ⟨by omega, by omega, by omega, by omega⟩
          · exact Turned.below (turned_grown (talloc (Turned.of_below HH.out.below) _) hgrow hown2 (by omega))
          · have := hgrow.size; simp at this; omega
        case measure => simp [intOf]; omega
      · have hown2 := HO.out.alloc (.cells #[.int .i64 (4611686018427387904 - (L + waits ss)), .int .i64 (v % 16)] 62)
        have q1 := HH.out.base
        have q2 := HH.out.base_lt
        go_wp2_with (at_builtin; refine wpList_append_own _ rfl _ _ 51 rfl (w1.heap.size + 1) 62 i0 (.agg #[.int .i64 0, .int .i64 0]) 2 16 Try.underlying51 hi hz0 hz1 hz2 rfl (by decide) _ _ _ rfl hown2 ⟨wr.heap.size, 0, none⟩ 1 1 [.int .i64 (4611686018427387904 - (L + waits ss)), .int .i64 (v % 16)] rfl rfl ?d1 ?d2 ?d3 ?d4 ?d5 ?_)
        try (case d1 => intro j x hj; match j, hj with | 0, hj => simp at hj; subst hj; exact cell_of_block (heap_alloc_new wr _) rfl | 1, hj => simp at hj; subst hj; exact cell_of_block (heap_alloc_new wr _) rfl)
        try (case d2 => simp [Value.oneCell'])
        try (case d3 => unfold maxLen; omega)
        try (case d4 => omega)
        try (case d5 => first | omega | (simp; omega))
        intro v' w3 hown3 hgrow _
        go_wp2
        go_roundw
        case rel =>
          refine ⟨k + 1, L + waits ss + 4611686018427387904 - (L + waits ss), by go_num, by go_num, ⟨ss ++ [(4611686018427387904 - (L + waits ss), v % 16)], by simp [hlen], ?_, by rw [waits_snoc]; omega, by omega, heap_grown_keep hgrow hown2 (heap_alloc_keep hob) (by omega), by rw [flat_snoc]; simpa using hown3⟩, ?_, q1, ?_, by omega, by omega⟩
          · intro y hy
            rcases List.mem_append.1 hy with hy | hy
            · exact hfine y hy
            · simp at hy; subst hy; exact ⟨by omega, by omega, by omega, by omega⟩
          · exact Turned.below (turned_grown (talloc (Turned.of_below HH.out.below) _) hgrow hown2 (by omega))
          · have := hgrow.size; simp at this; omega
        case measure => simp [intOf]; omega
    · have hk30 := H.few
      have hkl := H.le
      obtain rfl : ss.length = k := hlen
      obtain ⟨q, gs, cs, rfl, hst⟩ := owned_steps hown
      obtain ⟨rr, hr⟩ := playM_fine (R := R) (B := B) (T := T) (L := L) (t := L) hfine hle
      have hl60 : ss.length ≤ 4096 := by omega
      have c0 := cell_of_block (i := 0) hob rfl
      have c1 := cell_of_block (i := 1) hob rfl
      have c2 := cell_of_block (i := 2) hob rfl
      have c3 := cell_of_block (i := 3) hob rfl
      have HR := Lib.hid hr
      have HF := Lib.hid hfine
      have HOB2 := Lib.hid hob
      have HH := Lib.hid H
      clear hr hfine hob H hown
      have z0 : (0 : Int) ≤ (ss.length : Int) := by omega
      have hcase : (ss.length < xs.length ∧ ¬ (ss.length : Int) < 30) ∨ ¬ ss.length < xs.length := by omega
      rcases hcase with ⟨hl1, hl2⟩ | hl1
      · have z1 : (ss.length : Int) < (xs.length : Int) := by omega
        go_wp2_with fail
        refine (play_any R B T L q gs 0 cs ss hl60 _ hst).mono ?_
        rintro e w2 ⟨hb2, hp2⟩
        rcases hp2 with ⟨h9, _⟩ | ⟨_, h9, _⟩ | ⟨_, _, h9, _⟩ | ⟨_, _, ⟨r1, r2, ds⟩, u, h9, hbools, he⟩
        · rw [HOK.out] at h9; cases h9
        · omega
        · rw [HR.out] at h9; cases h9
        have hpl := h9
        dsimp only at hbools he
        subst he
        have hdl : ds.length = ss.length := playM_len hpl
        obtain ⟨qb, gb, rfl, hbo⟩ := hbools.uni
        have HPL := Lib.hid hpl
        have HBO := Lib.hid hbo
        have HB2 := Lib.hid hb2
        have HST := Lib.hid (steps_below hst hb2)
        have sz2 := hb2.size
        have hob2 : w2.heap[w1.heap.size]? = some (bO R B T L) := heap_below_keep hb2 HOB2.out
        have HO2 := Lib.hid hob2
        clear hb2 hpl h9 hbo hbools hst c0 c1 c2 c3 hob2
        go_wp2_with fail
        obtain ⟨wo, rfl⟩ : ∃ wo : World, wo = wr := ⟨_, rfl⟩
        go_loopw [13] (fun i wx => ∃ I : Nat, i = .int .i64 I ∧ I ≤ ss.length ∧ Below w2.heap.size w2 wx) (fun i _ => ss.length - (intOf i).toNat)
        case atStart => exact ⟨0, rfl, Nat.zero_le _, (Below.refl _ _).alloc (Nat.le_refl _) _⟩
        case round =>
          obtain ⟨I, rfl, hI, hbx⟩ := hrel
          by_cases hltI : I < ss.length
          · have y0 : (0 : Int) ≤ (I : Int) := by omega
            have y1 : (I : Int) < (ss.length : Int) := by omega
            have HBX := Lib.hid hbx
            clear hbx
            go_wp2_with fail
            obtain ⟨wp, rfl⟩ : ∃ wp : World, wp = wr := ⟨_, rfl⟩
            go_loopw [14, 15, 16] (fun sm tk k wx => ∃ K : Nat, k = .int .i64 K ∧ I ≤ K ∧ K ≤ ss.length ∧ sm = .int .i64 (winS ss ds I K) ∧ tk = .int .i64 (winW ss I K) ∧ Below w2.heap.size w2 wx) (fun _ _ k _ => ss.length - (intOf k).toNat)
            case atStart => exact ⟨I, rfl, Nat.le_refl _, by omega, by rw [winS_zero (Nat.le_refl _)], by rw [winW_zero (by omega)], HBX.out⟩
            case round =>
              obtain ⟨K, rfl, k1, k2, rfl, rfl, hbk⟩ := hrel
              by_cases hK : K < ss.length
              · obtain ⟨rfl, hgb, hcb⟩ := HBO.out (by omega)
                obtain rfl := HST.out.here (by omega)
                have hgs := HST.out.lt (by omega)
                have x1 : wr.cell? ⟨gs, K * 2, none⟩ = some (.int .i64 (ss[K]).1) := by have := HST.out.wait K hK; rw [Nat.zero_add] at this; rw [hbk.cell hgs]; exact this
                have x2 : wr.cell? ⟨gs, K * 2 + 1, none⟩ = some (.int .i64 (ss[K]).2) := by have := HST.out.take K hK; rw [Nat.zero_add] at this; rw [hbk.cell hgs]; exact this
                have x3 : wr.cell? ⟨gb, K, none⟩ = some (.bool (ds[K]'(by omega))) := by rw [hbk.cell hgb]; exact hcb K (by omega)
                have hob3 := heap_below_keep hbk HO2.out
                have c0 := cell_of_block (i := 0) hob3 rfl
                have c1 := cell_of_block (i := 1) hob3 rfl
                have hgs2 : gs < wr.heap.size := by have := hbk.size; omega
                have hgb2 : gb < wr.heap.size := by have := hbk.size; omega
                have eS := winS_next (xs := ss) (ds := ds) (i := I) (k := K) k1 hK (by omega)
                have eW := winW_next (xs := ss) (i := I) (k := K) hK
                have f1 := win_small HF.out ds I K k2
                have f2 := win_small HF.out ds I (K + 1) hK
                have hle2 := win_le HOK.out HPL.out (i := I) (k := K + 1) (by omega) hK (by dsimp only; omega)
                dsimp only at hle2
                have fx := HF.out _ (List.getElem_mem hK)
                have y2 : (0 : Int) ≤ (K : Int) := by omega
                have y3 : (K : Int) < (ss.length : Int) := by omega
                have hokk : okB R B B (winW ss I (K + 1)) = true := okB_true (by omega)
                have HKK := Lib.hid hokk
                have HBK := Lib.hid hbk
                have ES := Lib.hid eS
                have EW := Lib.hid eW
                clear hcb hob3 hokk hbk eS eW
                obtain ⟨S2, hS2⟩ : ∃ S2, S2 = winS ss ds I (K + 1) := ⟨_, rfl⟩
                obtain ⟨W2, hW2⟩ : ∃ W2, W2 = winW ss I (K + 1) := ⟨_, rfl⟩
                rw [← hS2, ← hW2] at f2 hle2
                have HS2 := Lib.hid hS2
                have HW2 := Lib.hid hW2
                have eS : S2 = winS ss ds I K + (if ds[K]'(by omega) = true then (ss[K]).2 else 0) := hS2.trans ES.out
                have eW : W2 = winW ss I K + (if I < K then (ss[K]).1 else 0) := hW2.trans EW.out
                have hokk : okB R B B W2 = true := okB_true (by omega)
                have HKK2 := Lib.hid hokk
                obtain ⟨M, hM⟩ : ∃ M, gM B R W2 9223372036854775807 = M := ⟨_, rfl⟩
                rw [hM] at hle2
                have HM := Lib.hid hM
                clear ES EW HKK hS2 hW2 hokk hM
                generalize winS ss ds I K = S1 at *
                generalize winW ss I K = W1 at *
                generalize (ss[K]).1 = u at *
                generalize (ss[K]).2 = v at *
                generalize (ds[K]'(by omega)) = d at *
                have EWH := Lib.hid eW
                have ESH := Lib.hid eS
                clear eW eS
                by_cases cI : I < K
                · have cI' : (I : Int) < (K : Int) := by omega
                  have eW2 : W2 = W1 + u := by have := EWH.out; rw [if_pos cI] at this; exact this
                  clear EWH
                  subst eW2
                  cases d
                  all_goals
                    have eS2 := ESH.out
                    clear ESH
                    simp only [Bool.false_eq_true, if_false, if_true, Int.add_zero] at eS2
                    subst eS2
                    go_wp2_with fail
                    refine (most_val R B _ M HKK2.out HM.out _).mono ?_
                    rintro e w3 ⟨rfl, hb3⟩
                    go_wp2
                    go_roundw
                    case rel =>
                      refine ⟨K + 1, by go_num, by omega, by omega, by rw [← HS2.out], by rw [← HW2.out], ?_⟩
                      have hbk := HBK.out
                      repeat (first | (with_reducible exact Below.refl _ _) | (with_reducible assumption) | (with_reducible refine bset ?_ (by first | omega | (simp; done) | (simp; omega)) _) | (with_reducible refine balloc ?_ _) | (with_reducible refine bdrew ?_) | (with_reducible refine bdrewN ?_ _) | (with_reducible refine bstep ?_ (by assumption)))
                    case measure => simp [intOf]; omega
                · have cI' : ¬ (I : Int) < (K : Int) := by omega
                  have eW2 : W2 = W1 := by have := EWH.out; rw [if_neg cI, Int.add_zero] at this; exact this
                  clear EWH
                  subst eW2
                  cases d
                  all_goals
                    have eS2 := ESH.out
                    clear ESH
                    simp only [Bool.false_eq_true, if_false, if_true, Int.add_zero] at eS2
                    subst eS2
                    go_wp2_with fail
                    refine (most_val R B _ M HKK2.out HM.out _).mono ?_
                    rintro e w3 ⟨rfl, hb3⟩
                    go_wp2
                    go_roundw
                    case rel =>
                      refine ⟨K + 1, by go_num, by omega, by omega, by rw [← HS2.out], by rw [← HW2.out], ?_⟩
                      have hbk := HBK.out
                      repeat (first | (with_reducible exact Below.refl _ _) | (with_reducible assumption) | (with_reducible refine bset ?_ (by first | omega | (simp; done) | (simp; omega)) _) | (with_reducible refine balloc ?_ _) | (with_reducible refine bdrew ?_) | (with_reducible refine bdrewN ?_ _) | (with_reducible refine bstep ?_ (by assumption)))
                    case measure => simp [intOf]; omega
              · obtain rfl : K = ss.length := by omega
                go_wp2_with fail
                go_roundw
                case rel => exact ⟨I + 1, by go_num, by omega, hbk⟩
                case measure => simp [intOf]; omega
          · obtain rfl : I = ss.length := by omega
            have hb1 := HH.out.below
            have hb2 := HB2.out
            go_wp2_with fail
            refine (HLV.out _).mono ?_
            rintro e w3 ⟨rfl, hb3⟩
            go_wp2
            go_ret
            refine ⟨rfl, ?_⟩
            repeat (first | (with_reducible exact Below.refl _ _) | (with_reducible assumption) | (with_reducible refine bset ?_ (by first | omega | (simp; done) | (simp; omega)) _) | (with_reducible refine balloc ?_ _) | (with_reducible refine bdrew ?_) | (with_reducible refine bdrewN ?_ _) | (with_reducible refine bstep ?_ (by assumption)))
      · have z1 : ¬ (ss.length : Int) < (xs.length : Int) := by omega
        go_wp2_with fail
        refine (play_any R B T L q gs 0 cs ss hl60 _ hst).mono ?_
        rintro e w2 ⟨hb2, hp2⟩
        rcases hp2 with ⟨h9, _⟩ | ⟨_, h9, _⟩ | ⟨_, _, h9, _⟩ | ⟨_, _, ⟨r1, r2, ds⟩, u, h9, hbools, he⟩
        · rw [HOK.out] at h9; cases h9
        · omega
        · rw [HR.out] at h9; cases h9
        have hpl := h9
        dsimp only at hbools he
        subst he
        have hdl : ds.length = ss.length := playM_len hpl
        obtain ⟨qb, gb, rfl, hbo⟩ := hbools.uni
        have HPL := Lib.hid hpl
        have HBO := Lib.hid hbo
        have HB2 := Lib.hid hb2
        have HST := Lib.hid (steps_below hst hb2)
        have sz2 := hb2.size
        have hob2 : w2.heap[w1.heap.size]? = some (bO R B T L) := heap_below_keep hb2 HOB2.out
        have HO2 := Lib.hid hob2
        clear hb2 hpl h9 hbo hbools hst c0 c1 c2 c3 hob2
        go_wp2_with fail
        obtain ⟨wo, rfl⟩ : ∃ wo : World, wo = wr := ⟨_, rfl⟩
        go_loopw [13] (fun i wx => ∃ I : Nat, i = .int .i64 I ∧ I ≤ ss.length ∧ Below w2.heap.size w2 wx) (fun i _ => ss.length - (intOf i).toNat)
        case atStart => exact ⟨0, rfl, Nat.zero_le _, (Below.refl _ _).alloc (Nat.le_refl _) _⟩
        case round =>
          obtain ⟨I, rfl, hI, hbx⟩ := hrel
          by_cases hltI : I < ss.length
          · have y0 : (0 : Int) ≤ (I : Int) := by omega
            have y1 : (I : Int) < (ss.length : Int) := by omega
            have HBX := Lib.hid hbx
            clear hbx
            go_wp2_with fail
            obtain ⟨wp, rfl⟩ : ∃ wp : World, wp = wr := ⟨_, rfl⟩
            go_loopw [14, 15, 16] (fun sm tk k wx => ∃ K : Nat, k = .int .i64 K ∧ I ≤ K ∧ K ≤ ss.length ∧ sm = .int .i64 (winS ss ds I K) ∧ tk = .int .i64 (winW ss I K) ∧ Below w2.heap.size w2 wx) (fun _ _ k _ => ss.length - (intOf k).toNat)
            case atStart => exact ⟨I, rfl, Nat.le_refl _, by omega, by rw [winS_zero (Nat.le_refl _)], by rw [winW_zero (by omega)], HBX.out⟩
            case round =>
              obtain ⟨K, rfl, k1, k2, rfl, rfl, hbk⟩ := hrel
              by_cases hK : K < ss.length
              · obtain ⟨rfl, hgb, hcb⟩ := HBO.out (by omega)
                obtain rfl := HST.out.here (by omega)
                have hgs := HST.out.lt (by omega)
                have x1 : wr.cell? ⟨gs, K * 2, none⟩ = some (.int .i64 (ss[K]).1) := by have := HST.out.wait K hK; rw [Nat.zero_add] at this; rw [hbk.cell hgs]; exact this
                have x2 : wr.cell? ⟨gs, K * 2 + 1, none⟩ = some (.int .i64 (ss[K]).2) := by have := HST.out.take K hK; rw [Nat.zero_add] at this; rw [hbk.cell hgs]; exact this
                have x3 : wr.cell? ⟨gb, K, none⟩ = some (.bool (ds[K]'(by omega))) := by rw [hbk.cell hgb]; exact hcb K (by omega)
                have hob3 := heap_below_keep hbk HO2.out
                have c0 := cell_of_block (i := 0) hob3 rfl
                have c1 := cell_of_block (i := 1) hob3 rfl
                have hgs2 : gs < wr.heap.size := by have := hbk.size; omega
                have hgb2 : gb < wr.heap.size := by have := hbk.size; omega
                have eS := winS_next (xs := ss) (ds := ds) (i := I) (k := K) k1 hK (by omega)
                have eW := winW_next (xs := ss) (i := I) (k := K) hK
                have f1 := win_small HF.out ds I K k2
                have f2 := win_small HF.out ds I (K + 1) hK
                have hle2 := win_le HOK.out HPL.out (i := I) (k := K + 1) (by omega) hK (by dsimp only; omega)
                dsimp only at hle2
                have fx := HF.out _ (List.getElem_mem hK)
                have y2 : (0 : Int) ≤ (K : Int) := by omega
                have y3 : (K : Int) < (ss.length : Int) := by omega
                have hokk : okB R B B (winW ss I (K + 1)) = true := okB_true (by omega)
                have HKK := Lib.hid hokk
                have HBK := Lib.hid hbk
                have ES := Lib.hid eS
                have EW := Lib.hid eW
                clear hcb hob3 hokk hbk eS eW
                obtain ⟨S2, hS2⟩ : ∃ S2, S2 = winS ss ds I (K + 1) := ⟨_, rfl⟩
                obtain ⟨W2, hW2⟩ : ∃ W2, W2 = winW ss I (K + 1) := ⟨_, rfl⟩
                rw [← hS2, ← hW2] at f2 hle2
                have HS2 := Lib.hid hS2
                have HW2 := Lib.hid hW2
                have eS : S2 = winS ss ds I K + (if ds[K]'(by omega) = true then (ss[K]).2 else 0) := hS2.trans ES.out
                have eW : W2 = winW ss I K + (if I < K then (ss[K]).1 else 0) := hW2.trans EW.out
                have hokk : okB R B B W2 = true := okB_true (by omega)
                have HKK2 := Lib.hid hokk
                obtain ⟨M, hM⟩ : ∃ M, gM B R W2 9223372036854775807 = M := ⟨_, rfl⟩
                rw [hM] at hle2
                have HM := Lib.hid hM
                clear ES EW HKK hS2 hW2 hokk hM
                generalize winS ss ds I K = S1 at *
                generalize winW ss I K = W1 at *
                generalize (ss[K]).1 = u at *
                generalize (ss[K]).2 = v at *
                generalize (ds[K]'(by omega)) = d at *
                have EWH := Lib.hid eW
                have ESH := Lib.hid eS
                clear eW eS
                by_cases cI : I < K
                · have cI' : (I : Int) < (K : Int) := by omega
                  have eW2 : W2 = W1 + u := by have := EWH.out; rw [if_pos cI] at this; exact this
                  clear EWH
                  subst eW2
                  cases d
                  all_goals
                    have eS2 := ESH.out
                    clear ESH
                    simp only [Bool.false_eq_true, if_false, if_true, Int.add_zero] at eS2
                    subst eS2
                    go_wp2_with fail
                    refine (most_val R B _ M HKK2.out HM.out _).mono ?_
                    rintro e w3 ⟨rfl, hb3⟩
                    go_wp2
                    go_roundw
                    case rel =>
                      refine ⟨K + 1, by go_num, by omega, by omega, by rw [← HS2.out], by rw [← HW2.out], ?_⟩
                      have hbk := HBK.out
                      repeat (first | (with_reducible exact Below.refl _ _) | (with_reducible assumption) | (with_reducible refine bset ?_ (by first | omega | (simp; done) | (simp; omega)) _) | (with_reducible refine balloc ?_ _) | (with_reducible refine bdrew ?_) | (with_reducible refine bdrewN ?_ _) | (with_reducible refine bstep ?_ (by assumption)))
                    case measure => simp [intOf]; omega
                · have cI' : ¬ (I : Int) < (K : Int) := by omega
                  have eW2 : W2 = W1 := by have := EWH.out; rw [if_neg cI, Int.add_zero] at this; exact this
                  clear EWH
                  subst eW2
                  cases d
                  all_goals
                    have eS2 := ESH.out
                    clear ESH
                    simp only [Bool.false_eq_true, if_false, if_true, Int.add_zero] at eS2
                    subst eS2
                    go_wp2_with fail
                    refine (most_val R B _ M HKK2.out HM.out _).mono ?_
                    rintro e w3 ⟨rfl, hb3⟩
                    go_wp2
                    go_roundw
                    case rel =>
                      refine ⟨K + 1, by go_num, by omega, by omega, by rw [← HS2.out], by rw [← HW2.out], ?_⟩
                      have hbk := HBK.out
                      repeat (first | (with_reducible exact Below.refl _ _) | (with_reducible assumption) | (with_reducible refine bset ?_ (by first | omega | (simp; done) | (simp; omega)) _) | (with_reducible refine balloc ?_ _) | (with_reducible refine bdrew ?_) | (with_reducible refine bdrewN ?_ _) | (with_reducible refine bstep ?_ (by assumption)))
                    case measure => simp [intOf]; omega
              · obtain rfl : K = ss.length := by omega
                go_wp2_with fail
                go_roundw
                case rel => exact ⟨I + 1, by go_num, by omega, hbk⟩
                case measure => simp [intOf]; omega
          · obtain rfl : I = ss.length := by omega
            have hb1 := HH.out.below
            have hb2 := HB2.out
            go_wp2_with fail
            refine (HLV.out _).mono ?_
            rintro e w3 ⟨rfl, hb3⟩
            go_wp2
            go_ret
            refine ⟨rfl, ?_⟩
            repeat (first | (with_reducible exact Below.refl _ _) | (with_reducible assumption) | (with_reducible refine bset ?_ (by first | omega | (simp; done) | (simp; omega)) _) | (with_reducible refine balloc ?_ _) | (with_reducible refine bdrew ?_) | (with_reducible refine bdrewN ?_ _) | (with_reducible refine bstep ?_ (by assumption)))
end Go.Proofs.Yteojndglglkgpaa
