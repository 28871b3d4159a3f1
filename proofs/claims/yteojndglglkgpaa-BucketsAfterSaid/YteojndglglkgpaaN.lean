import Derived.Test.YteojndglglkgpaaM
import Derived.Test.YteojndglglkgpaaJ
namespace Go.Proofs.Yteojndglglkgpaa
open Go.RowKit
set_option linter.unusedVariables false
set_option linter.unusedSimpArgs false
theorem heap_alloc_new_at (w : World) (o : Obj) {k : Nat} (h : k = w.heap.size) : (w.alloc o).heap[k]? = some o := by subst h; exact heap_alloc_new w o
theorem heap_drewN_keep {w : World} {k nq : Nat} {x : Obj} (h : w.heap[k]? = some x) : (w.drewN nq).heap[k]? = some x := h
theorem of_val (r b t l g R B T L : Int) (h : OkX r b t l g) (hR : ofR r g = R) (hB : ofB b g = B) (hT : ofT b t g = T) (hL : ofL l g = L) (w : World) :
    Calls Try.prog 22 #[xV r b t l g] w fun e w' => e = .returned (bV R B T L) ∧ Below w.heap.size w w' := by
  subst hR hB hT hL; exact of_any r b t l g h w
theorem okT_mk {R B T L t : Int} (h : okB R B T L = true) (h1 : L ≤ t) (h2 : t ≤ 4611686018427387904) : okT R B T L t = true := by
  rw [okT, h, inB_true ⟨h1, h2⟩]; rfl
theorem okN_mk {R B T L t n : Int} (h : okB R B T L = true) (h1 : L ≤ t) (h2 : t ≤ 4611686018427387904) (h3 : 0 ≤ n) : okN R B T L t n = true := by
  rw [okN, okT_mk h h1 h2]; simpa using h3
set_option maxRecDepth 100000 in
set_option maxHeartbeats 4000000 in
theorem lawAfter_zero_a (HL : Lives) (r b t l g n z0 z1 R B T L k h : Int) (hx : OkX r b t l g) (hR : ofR r g = R) (hB : ofB b g = B) (hT : ofT b t g = T) (hL : ofL l g = L) (hok : okB R B T L = true)
    (hn : 0 ≤ n ∧ n ≤ 4294967295) (hz : 0 ≤ z0 ∧ z0 ≤ 65535) (hz1 : 0 ≤ z1 ∧ z1 ≤ 65535) (cm : L + z0 ≤ 4611686018427387904) (hg : gM T R ((L + z0) - L) B = h) (hk : waM R B n h = k) (hc0k : k = 0) (w : World) :
    Calls Try.prog 5 #[xV r b t l g, .int .u32 n, .agg #[.int .u16 z0, .int .u16 z1]] w fun e w' => e = .returned (.bool true) ∧ Below w.heap.size w w' := by
  obtain ⟨a1, a2, a3, a4, a5, a6, a7, a8⟩ := okB_iff hok
  obtain ⟨n0, n1⟩ := hn
  obtain ⟨y0, y1⟩ := hz
  obtain ⟨x0, x1⟩ := hz1
  have hh1 : h ≤ B := by rw [← hg]; exact gM_le
  have hh0 : T ≤ h := by rw [← hg]; exact gM_ge (by omega) (by omega) (by omega)
  have hN := okN_mk hok (show L ≤ (L + z0) by omega) (show (L + z0) ≤ 4611686018427387904 by omega) n0
  -- looked at in between
  have u0 : 0 ≤ z1 % ((L + z0) - L + 1) := Int.emod_nonneg _ (by omega)
  have u1 : z1 % ((L + z0) - L + 1) < (L + z0) - L + 1 := Int.emod_lt_of_pos _ (by omega)
  obtain ⟨m, hm⟩ : ∃ m, z1 % ((L + z0) - L + 1) = m := ⟨_, rfl⟩
  rw [hm] at u0 u1
  obtain ⟨c, hc⟩ : ∃ c, gM T R (L + m - L) B = c := ⟨_, rfl⟩
  have hc0 : T ≤ c := by rw [← hc]; exact gM_ge (by omega) (by omega) (by omega)
  have hc1 : c ≤ B := by rw [← hc]; exact gM_le
  have hokc : okB R B c (L + m) = true := okB_true (by omega)
  have hsame : gM c R ((L + z0) - (L + m)) B = h := by
    rw [← hc, ← hg, gM_add a6 a1 (by omega) (by omega), show L + m - L + ((L + z0) - (L + m)) = (L + z0) - L by omega]
  have hTc := okT_mk hokc (show L + m ≤ (L + z0) by omega) (show (L + z0) ≤ 4611686018427387904 by omega)
  have hTT := okT_mk hok (show L ≤ (L + z0) by omega) (show (L + z0) ≤ 4611686018427387904 by omega)
  have hN0 := okN_mk (n := 0) hok (show L ≤ L + m by omega) (show L + m ≤ 4611686018427387904 by omega) (by omega)
  have h0c : 0 ≤ c := by omega
  subst hc0k
  have HLV := Lib.hid HL
  have HX := Lib.hid hx
  have HR := Lib.hid hR
  have HB := Lib.hid hB
  have HT := Lib.hid hT
  have HLL := Lib.hid hL
  have HN := Lib.hid hN
  have HG := Lib.hid hg
  have HK := Lib.hid hk
  have HM := Lib.hid hm
  have HC := Lib.hid hc
  have HSAME := Lib.hid hsame
  have HTC := Lib.hid hTc
  have HTT := Lib.hid hTT
  have HN0 := Lib.hid hN0
  clear HL hx hR hB hT hL hN hg hk hm hc hsame hTc hTT hN0 hok hokc
  go_enter Try.func5, Try.ntmps5
  go_wp2_with fail
  refine (of_val _ _ _ _ _ _ _ _ _ HX.out HR.out HB.out HT.out HLL.out _).mono ?_
  rintro e w1 ⟨rfl, hb1⟩
  have Z1 := Lib.hid (heap_below_keep hb1 (heap_alloc_new_at (k := w.heap.size + 1) (w.alloc (.cells #[.int .u8 r, .int .u8 b, .int .u8 t, .int .u16 l, .int .u8 g] 46)) (.cells #[.int .u16 z0, .int .u16 z1] 48) (by simp)))
  have HB1 := Lib.hid hb1
  clear hb1
  have lz := lt_of_block Z1.out
  have cz0 := cell_of_block (i := 0) Z1.out rfl
  have cz1 := cell_of_block (i := 1) Z1.out rfl
  go_wp2_with fail
  refine (after_val _ _ _ _ _ _ 0 HN.out (by rw [HG.out]; exact HK.out) _).mono ?_
  rintro e w2 ⟨rfl, hb2⟩
  have Z2 := Lib.hid (heap_below_keep hb2 (heap_alloc_keep Z1.out))
  have B2 := Lib.hid (heap_below_keep hb2 (heap_alloc_new w1 (bO R B T L)))
  have HB2 := Lib.hid hb2
  clear hb2
  clear lz cz0 cz1
  have lz := lt_of_block Z2.out
  have cz0 := cell_of_block (i := 0) Z2.out rfl
  have cz1 := cell_of_block (i := 1) Z2.out rfl
  have lb := lt_of_block B2.out
  have cb0 := cell_of_block (i := 0) B2.out rfl
  have cb1 := cell_of_block (i := 1) B2.out rfl
  have cb2 := cell_of_block (i := 2) B2.out rfl
  have cb3 := cell_of_block (i := 3) B2.out rfl
  go_wp2_with fail
  go_quiet (fail)
  rw [HM.out, IntWalk.wrap64_in (L + m) (by omega)]
  have hZq := heap_drewN_keep (w := w2) (nq := nq) Z2.out
  have hBq := heap_drewN_keep (w := w2) (nq := nq) B2.out
  have hbq : Below w2.heap.size w2 (w2.drewN nq) := bdrewN (Below.refl _ _) nq
  generalize w2.drewN nq = wq at hZq hBq hbq ⊢
  have Zq := Lib.hid hZq
  have Bq := Lib.hid hBq
  have HBq := Lib.hid hbq
  clear hbq hZq hBq
  clear lz cz0 cz1 lb cb0 cb1 cb2 cb3
  have lz := lt_of_block Zq.out
  have cz0 := cell_of_block (i := 0) Zq.out rfl
  have cz1 := cell_of_block (i := 1) Zq.out rfl
  have lb := lt_of_block Bq.out
  have cb0 := cell_of_block (i := 0) Bq.out rfl
  have cb1 := cell_of_block (i := 1) Bq.out rfl
  have cb2 := cell_of_block (i := 2) Bq.out rfl
  have cb3 := cell_of_block (i := 3) Bq.out rfl
  go_wp2_with fail
  refine (take_yval _ _ _ _ _ _ c HN0.out HC.out h0c _).mono ?_
  rintro e w3 ⟨rfl, hb3⟩
  have Z3 := Lib.hid (heap_below_keep hb3 Zq.out)
  have B3 := Lib.hid (heap_below_keep hb3 Bq.out)
  have HB3 := Lib.hid hb3
  clear hb3
  clear lz cz0 cz1 lb cb0 cb1 cb2 cb3
  have lz := lt_of_block Z3.out
  have cz0 := cell_of_block (i := 0) Z3.out rfl
  have cz1 := cell_of_block (i := 1) Z3.out rfl
  have lb := lt_of_block B3.out
  have cb0 := cell_of_block (i := 0) B3.out rfl
  have cb1 := cell_of_block (i := 1) B3.out rfl
  have cb2 := cell_of_block (i := 2) B3.out rfl
  have cb3 := cell_of_block (i := 3) B3.out rfl
  go_wp2_with fail
  refine (at_val _ _ _ _ _ h HTT.out HG.out _).mono ?_
  rintro e w4 ⟨rfl, hb4⟩
  have Z4 := Lib.hid (heap_below_keep hb4 (heap_alloc_keep Z3.out))
  have B4 := Lib.hid (heap_below_keep hb4 (heap_alloc_keep B3.out))
  have C4 := Lib.hid (heap_below_keep hb4 (heap_alloc_new w3 (bO R B c (L + m))))
  have HB4 := Lib.hid hb4
  clear hb4
  clear lz cz0 cz1 lb cb0 cb1 cb2 cb3
  have lz := lt_of_block Z4.out
  have cz0 := cell_of_block (i := 0) Z4.out rfl
  have cz1 := cell_of_block (i := 1) Z4.out rfl
  have lb := lt_of_block B4.out
  have cb0 := cell_of_block (i := 0) B4.out rfl
  have cb1 := cell_of_block (i := 1) B4.out rfl
  have cb2 := cell_of_block (i := 2) B4.out rfl
  have cb3 := cell_of_block (i := 3) B4.out rfl
  have lc := lt_of_block C4.out
  have cc0 := cell_of_block (i := 0) C4.out rfl
  have cc1 := cell_of_block (i := 1) C4.out rfl
  have cc2 := cell_of_block (i := 2) C4.out rfl
  have cc3 := cell_of_block (i := 3) C4.out rfl
  go_wp2_with fail
  refine (at_val _ _ _ _ _ h HTC.out HSAME.out _).mono ?_
  rintro e w5 ⟨rfl, hb5⟩
  have Z5 := Lib.hid (heap_below_keep hb5 Z4.out)
  have B5 := Lib.hid (heap_below_keep hb5 B4.out)
  have C5 := Lib.hid (heap_below_keep hb5 C4.out)
  have HB5 := Lib.hid hb5
  clear hb5
  clear lz cz0 cz1 lb cb0 cb1 cb2 cb3 lc cc0 cc1 cc2 cc3
  have lz := lt_of_block Z5.out
  have cz0 := cell_of_block (i := 0) Z5.out rfl
  have cz1 := cell_of_block (i := 1) Z5.out rfl
  have lb := lt_of_block B5.out
  have cb0 := cell_of_block (i := 0) B5.out rfl
  have cb1 := cell_of_block (i := 1) B5.out rfl
  have cb2 := cell_of_block (i := 2) B5.out rfl
  have cb3 := cell_of_block (i := 3) B5.out rfl
  have lc := lt_of_block C5.out
  have cc0 := cell_of_block (i := 0) C5.out rfl
  have cc1 := cell_of_block (i := 1) C5.out rfl
  have cc2 := cell_of_block (i := 2) C5.out rfl
  have cc3 := cell_of_block (i := 3) C5.out rfl
  go_wp2_with fail
  refine (HLV.out _).mono ?_
  rintro e w6 ⟨rfl, hb6⟩
  have Z6 := Lib.hid (heap_below_keep hb6 Z5.out)
  have B6 := Lib.hid (heap_below_keep hb6 B5.out)
  have C6 := Lib.hid (heap_below_keep hb6 C5.out)
  have HB6 := Lib.hid hb6
  clear hb6
  clear lz cz0 cz1 lb cb0 cb1 cb2 cb3 lc cc0 cc1 cc2 cc3
  have lz := lt_of_block Z6.out
  have cz0 := cell_of_block (i := 0) Z6.out rfl
  have cz1 := cell_of_block (i := 1) Z6.out rfl
  have lb := lt_of_block B6.out
  have cb0 := cell_of_block (i := 0) B6.out rfl
  have cb1 := cell_of_block (i := 1) B6.out rfl
  have cb2 := cell_of_block (i := 2) B6.out rfl
  have cb3 := cell_of_block (i := 3) B6.out rfl
  have lc := lt_of_block C6.out
  have cc0 := cell_of_block (i := 0) C6.out rfl
  have cc1 := cell_of_block (i := 1) C6.out rfl
  have cc2 := cell_of_block (i := 2) C6.out rfl
  have cc3 := cell_of_block (i := 3) C6.out rfl
  go_wp2
  go_ret
  refine ⟨rfl, ?_⟩
  have f0 := HB1.out
  have f1 := HB2.out
  have f2 := HBq.out
  have f3 := HB3.out
  have f4 := HB4.out
  have f5 := HB5.out
  have f6 := HB6.out
  repeat (first | (with_reducible exact Below.refl _ _) | (with_reducible assumption) | (with_reducible refine bset ?_ (by first | omega | (simp; done) | (simp; omega)) _) | (with_reducible refine balloc ?_ _) | (with_reducible refine bdrew ?_) | (with_reducible refine bdrewN ?_ _) | (with_reducible refine bstep ?_ (by assumption)))
set_option maxRecDepth 100000 in
set_option maxHeartbeats 4000000 in
theorem lawAfter_far_a (HL : Lives) (r b t l g n z0 z1 R B T L k h : Int) (hx : OkX r b t l g) (hR : ofR r g = R) (hB : ofB b g = B) (hT : ofT b t g = T) (hL : ofL l g = L) (hok : okB R B T L = true)
    (hn : 0 ≤ n ∧ n ≤ 4294967295) (hz : 0 ≤ z0 ∧ z0 ≤ 65535) (hz1 : 0 ≤ z1 ∧ z1 ≤ 65535) (cm : L + z0 ≤ 4611686018427387904) (hg : gM T R ((L + z0) - L) B = h) (hk : waM R B n h = k) (hc0k : 1 ≤ k ∧ k ≤ 2147483648) (hfar : 4611686018427387904 < (L + z0) + k) (w : World) :
    Calls Try.prog 5 #[xV r b t l g, .int .u32 n, .agg #[.int .u16 z0, .int .u16 z1]] w fun e w' => e = .returned (.bool true) ∧ Below w.heap.size w w' := by
  obtain ⟨a1, a2, a3, a4, a5, a6, a7, a8⟩ := okB_iff hok
  obtain ⟨n0, n1⟩ := hn
  obtain ⟨y0, y1⟩ := hz
  obtain ⟨x0, x1⟩ := hz1
  have hh1 : h ≤ B := by rw [← hg]; exact gM_le
  have hh0 : T ≤ h := by rw [← hg]; exact gM_ge (by omega) (by omega) (by omega)
  have hN := okN_mk hok (show L ≤ (L + z0) by omega) (show (L + z0) ≤ 4611686018427387904 by omega) n0
  -- looked at in between
  have u0 : 0 ≤ z1 % ((L + z0) - L + 1) := Int.emod_nonneg _ (by omega)
  have u1 : z1 % ((L + z0) - L + 1) < (L + z0) - L + 1 := Int.emod_lt_of_pos _ (by omega)
  obtain ⟨m, hm⟩ : ∃ m, z1 % ((L + z0) - L + 1) = m := ⟨_, rfl⟩
  rw [hm] at u0 u1
  obtain ⟨c, hc⟩ : ∃ c, gM T R (L + m - L) B = c := ⟨_, rfl⟩
  have hc0 : T ≤ c := by rw [← hc]; exact gM_ge (by omega) (by omega) (by omega)
  have hc1 : c ≤ B := by rw [← hc]; exact gM_le
  have hokc : okB R B c (L + m) = true := okB_true (by omega)
  have hsame : gM c R ((L + z0) - (L + m)) B = h := by
    rw [← hc, ← hg, gM_add a6 a1 (by omega) (by omega), show L + m - L + ((L + z0) - (L + m)) = (L + z0) - L by omega]
  have hTc := okT_mk hokc (show L + m ≤ (L + z0) by omega) (show (L + z0) ≤ 4611686018427387904 by omega)
  have hTT := okT_mk hok (show L ≤ (L + z0) by omega) (show (L + z0) ≤ 4611686018427387904 by omega)
  have hN0 := okN_mk (n := 0) hok (show L ≤ L + m by omega) (show L + m ≤ 4611686018427387904 by omega) (by omega)
  have h0c : 0 ≤ c := by omega
  obtain ⟨k0, k1⟩ := hc0k
  have HLV := Lib.hid HL
  have HX := Lib.hid hx
  have HR := Lib.hid hR
  have HB := Lib.hid hB
  have HT := Lib.hid hT
  have HLL := Lib.hid hL
  have HN := Lib.hid hN
  have HG := Lib.hid hg
  have HK := Lib.hid hk
  have HM := Lib.hid hm
  have HC := Lib.hid hc
  have HSAME := Lib.hid hsame
  have HTC := Lib.hid hTc
  have HTT := Lib.hid hTT
  have HN0 := Lib.hid hN0
  clear HL hx hR hB hT hL hN hg hk hm hc hsame hTc hTT hN0 hok hokc
  go_enter Try.func5, Try.ntmps5
  go_wp2_with fail
  refine (of_val _ _ _ _ _ _ _ _ _ HX.out HR.out HB.out HT.out HLL.out _).mono ?_
  rintro e w1 ⟨rfl, hb1⟩
  have Z1 := Lib.hid (heap_below_keep hb1 (heap_alloc_new_at (k := w.heap.size + 1) (w.alloc (.cells #[.int .u8 r, .int .u8 b, .int .u8 t, .int .u16 l, .int .u8 g] 46)) (.cells #[.int .u16 z0, .int .u16 z1] 48) (by simp)))
  have HB1 := Lib.hid hb1
  clear hb1
  have lz := lt_of_block Z1.out
  have cz0 := cell_of_block (i := 0) Z1.out rfl
  have cz1 := cell_of_block (i := 1) Z1.out rfl
  go_wp2_with fail
  refine (after_val _ _ _ _ _ _ k HN.out (by rw [HG.out]; exact HK.out) _).mono ?_
  rintro e w2 ⟨rfl, hb2⟩
  have Z2 := Lib.hid (heap_below_keep hb2 (heap_alloc_keep Z1.out))
  have B2 := Lib.hid (heap_below_keep hb2 (heap_alloc_new w1 (bO R B T L)))
  have HB2 := Lib.hid hb2
  clear hb2
  clear lz cz0 cz1
  have lz := lt_of_block Z2.out
  have cz0 := cell_of_block (i := 0) Z2.out rfl
  have cz1 := cell_of_block (i := 1) Z2.out rfl
  have lb := lt_of_block B2.out
  have cb0 := cell_of_block (i := 0) B2.out rfl
  have cb1 := cell_of_block (i := 1) B2.out rfl
  have cb2 := cell_of_block (i := 2) B2.out rfl
  have cb3 := cell_of_block (i := 3) B2.out rfl
  go_wp2_with fail
  go_quiet (fail)
  rw [HM.out, IntWalk.wrap64_in (L + m) (by omega)]
  have hZq := heap_drewN_keep (w := w2) (nq := nq) Z2.out
  have hBq := heap_drewN_keep (w := w2) (nq := nq) B2.out
  have hbq : Below w2.heap.size w2 (w2.drewN nq) := bdrewN (Below.refl _ _) nq
  generalize w2.drewN nq = wq at hZq hBq hbq ⊢
  have Zq := Lib.hid hZq
  have Bq := Lib.hid hBq
  have HBq := Lib.hid hbq
  clear hbq hZq hBq
  clear lz cz0 cz1 lb cb0 cb1 cb2 cb3
  have lz := lt_of_block Zq.out
  have cz0 := cell_of_block (i := 0) Zq.out rfl
  have cz1 := cell_of_block (i := 1) Zq.out rfl
  have lb := lt_of_block Bq.out
  have cb0 := cell_of_block (i := 0) Bq.out rfl
  have cb1 := cell_of_block (i := 1) Bq.out rfl
  have cb2 := cell_of_block (i := 2) Bq.out rfl
  have cb3 := cell_of_block (i := 3) Bq.out rfl
  go_wp2_with fail
  refine (take_yval _ _ _ _ _ _ c HN0.out HC.out h0c _).mono ?_
  rintro e w3 ⟨rfl, hb3⟩
  have Z3 := Lib.hid (heap_below_keep hb3 Zq.out)
  have B3 := Lib.hid (heap_below_keep hb3 Bq.out)
  have HB3 := Lib.hid hb3
  clear hb3
  clear lz cz0 cz1 lb cb0 cb1 cb2 cb3
  have lz := lt_of_block Z3.out
  have cz0 := cell_of_block (i := 0) Z3.out rfl
  have cz1 := cell_of_block (i := 1) Z3.out rfl
  have lb := lt_of_block B3.out
  have cb0 := cell_of_block (i := 0) B3.out rfl
  have cb1 := cell_of_block (i := 1) B3.out rfl
  have cb2 := cell_of_block (i := 2) B3.out rfl
  have cb3 := cell_of_block (i := 3) B3.out rfl
  go_wp2_with fail
  refine (at_val _ _ _ _ _ h HTT.out HG.out _).mono ?_
  rintro e w4 ⟨rfl, hb4⟩
  have Z4 := Lib.hid (heap_below_keep hb4 (heap_alloc_keep Z3.out))
  have B4 := Lib.hid (heap_below_keep hb4 (heap_alloc_keep B3.out))
  have C4 := Lib.hid (heap_below_keep hb4 (heap_alloc_new w3 (bO R B c (L + m))))
  have HB4 := Lib.hid hb4
  clear hb4
  clear lz cz0 cz1 lb cb0 cb1 cb2 cb3
  have lz := lt_of_block Z4.out
  have cz0 := cell_of_block (i := 0) Z4.out rfl
  have cz1 := cell_of_block (i := 1) Z4.out rfl
  have lb := lt_of_block B4.out
  have cb0 := cell_of_block (i := 0) B4.out rfl
  have cb1 := cell_of_block (i := 1) B4.out rfl
  have cb2 := cell_of_block (i := 2) B4.out rfl
  have cb3 := cell_of_block (i := 3) B4.out rfl
  have lc := lt_of_block C4.out
  have cc0 := cell_of_block (i := 0) C4.out rfl
  have cc1 := cell_of_block (i := 1) C4.out rfl
  have cc2 := cell_of_block (i := 2) C4.out rfl
  have cc3 := cell_of_block (i := 3) C4.out rfl
  go_wp2_with fail
  refine (at_val _ _ _ _ _ h HTC.out HSAME.out _).mono ?_
  rintro e w5 ⟨rfl, hb5⟩
  have Z5 := Lib.hid (heap_below_keep hb5 Z4.out)
  have B5 := Lib.hid (heap_below_keep hb5 B4.out)
  have C5 := Lib.hid (heap_below_keep hb5 C4.out)
  have HB5 := Lib.hid hb5
  clear hb5
  clear lz cz0 cz1 lb cb0 cb1 cb2 cb3 lc cc0 cc1 cc2 cc3
  have lz := lt_of_block Z5.out
  have cz0 := cell_of_block (i := 0) Z5.out rfl
  have cz1 := cell_of_block (i := 1) Z5.out rfl
  have lb := lt_of_block B5.out
  have cb0 := cell_of_block (i := 0) B5.out rfl
  have cb1 := cell_of_block (i := 1) B5.out rfl
  have cb2 := cell_of_block (i := 2) B5.out rfl
  have cb3 := cell_of_block (i := 3) B5.out rfl
  have lc := lt_of_block C5.out
  have cc0 := cell_of_block (i := 0) C5.out rfl
  have cc1 := cell_of_block (i := 1) C5.out rfl
  have cc2 := cell_of_block (i := 2) C5.out rfl
  have cc3 := cell_of_block (i := 3) C5.out rfl
  go_wp2_with fail
  refine (HLV.out _).mono ?_
  rintro e w6 ⟨rfl, hb6⟩
  have Z6 := Lib.hid (heap_below_keep hb6 Z5.out)
  have B6 := Lib.hid (heap_below_keep hb6 B5.out)
  have C6 := Lib.hid (heap_below_keep hb6 C5.out)
  have HB6 := Lib.hid hb6
  clear hb6
  clear lz cz0 cz1 lb cb0 cb1 cb2 cb3 lc cc0 cc1 cc2 cc3
  have lz := lt_of_block Z6.out
  have cz0 := cell_of_block (i := 0) Z6.out rfl
  have cz1 := cell_of_block (i := 1) Z6.out rfl
  have lb := lt_of_block B6.out
  have cb0 := cell_of_block (i := 0) B6.out rfl
  have cb1 := cell_of_block (i := 1) B6.out rfl
  have cb2 := cell_of_block (i := 2) B6.out rfl
  have cb3 := cell_of_block (i := 3) B6.out rfl
  have lc := lt_of_block C6.out
  have cc0 := cell_of_block (i := 0) C6.out rfl
  have cc1 := cell_of_block (i := 1) C6.out rfl
  have cc2 := cell_of_block (i := 2) C6.out rfl
  have cc3 := cell_of_block (i := 3) C6.out rfl
  go_wp2
  go_ret
  refine ⟨rfl, ?_⟩
  have f0 := HB1.out
  have f1 := HB2.out
  have f2 := HBq.out
  have f3 := HB3.out
  have f4 := HB4.out
  have f5 := HB5.out
  have f6 := HB6.out
  repeat (first | (with_reducible exact Below.refl _ _) | (with_reducible assumption) | (with_reducible refine bset ?_ (by first | omega | (simp; done) | (simp; omega)) _) | (with_reducible refine balloc ?_ _) | (with_reducible refine bdrew ?_) | (with_reducible refine bdrewN ?_ _) | (with_reducible refine bstep ?_ (by assumption)))
set_option maxRecDepth 100000 in
set_option maxHeartbeats 4000000 in
theorem lawAfter_never_a (HL : Lives) (r b t l g n z0 z1 R B T L k h : Int) (hx : OkX r b t l g) (hR : ofR r g = R) (hB : ofB b g = B) (hT : ofT b t g = T) (hL : ofL l g = L) (hok : okB R B T L = true)
    (hn : 0 ≤ n ∧ n ≤ 4294967295) (hz : 0 ≤ z0 ∧ z0 ≤ 65535) (hz1 : 0 ≤ z1 ∧ z1 ≤ 65535) (cm : L + z0 ≤ 4611686018427387904) (hg : gM T R ((L + z0) - L) B = h) (hk : waM R B n h = k) (hc0k : k = -1) (hlt : h < n) (hBn : B < n ∨ R = 0) (w : World) :
    Calls Try.prog 5 #[xV r b t l g, .int .u32 n, .agg #[.int .u16 z0, .int .u16 z1]] w fun e w' => e = .returned (.bool true) ∧ Below w.heap.size w w' := by
  obtain ⟨a1, a2, a3, a4, a5, a6, a7, a8⟩ := okB_iff hok
  obtain ⟨n0, n1⟩ := hn
  obtain ⟨y0, y1⟩ := hz
  obtain ⟨x0, x1⟩ := hz1
  have hh1 : h ≤ B := by rw [← hg]; exact gM_le
  have hh0 : T ≤ h := by rw [← hg]; exact gM_ge (by omega) (by omega) (by omega)
  have hN := okN_mk hok (show L ≤ (L + z0) by omega) (show (L + z0) ≤ 4611686018427387904 by omega) n0
  -- looked at in between
  have u0 : 0 ≤ z1 % ((L + z0) - L + 1) := Int.emod_nonneg _ (by omega)
  have u1 : z1 % ((L + z0) - L + 1) < (L + z0) - L + 1 := Int.emod_lt_of_pos _ (by omega)
  obtain ⟨m, hm⟩ : ∃ m, z1 % ((L + z0) - L + 1) = m := ⟨_, rfl⟩
  rw [hm] at u0 u1
  obtain ⟨c, hc⟩ : ∃ c, gM T R (L + m - L) B = c := ⟨_, rfl⟩
  have hc0 : T ≤ c := by rw [← hc]; exact gM_ge (by omega) (by omega) (by omega)
  have hc1 : c ≤ B := by rw [← hc]; exact gM_le
  have hokc : okB R B c (L + m) = true := okB_true (by omega)
  have hsame : gM c R ((L + z0) - (L + m)) B = h := by
    rw [← hc, ← hg, gM_add a6 a1 (by omega) (by omega), show L + m - L + ((L + z0) - (L + m)) = (L + z0) - L by omega]
  have hTc := okT_mk hokc (show L + m ≤ (L + z0) by omega) (show (L + z0) ≤ 4611686018427387904 by omega)
  have hTT := okT_mk hok (show L ≤ (L + z0) by omega) (show (L + z0) ≤ 4611686018427387904 by omega)
  have hN0 := okN_mk (n := 0) hok (show L ≤ L + m by omega) (show L + m ≤ 4611686018427387904 by omega) (by omega)
  have h0c : 0 ≤ c := by omega
  subst hc0k
  obtain ⟨e, he⟩ : ∃ e, gM T R (4611686018427387904 - L) B = e := ⟨_, rfl⟩
  have hle : e < n := by
    rcases hBn with q | q
    · have : e ≤ B := by rw [← he]; exact gM_le
      omega
    · subst q; rw [← he, gM_lo (by simp; omega)]; simp; omega
  have hNe := okN_mk (n := n) hok (show L ≤ 4611686018427387904 by omega) (Int.le_refl _) n0
  have HNE := Lib.hid hNe
  have HE := Lib.hid he
  clear hNe he hBn
  have HLV := Lib.hid HL
  have HX := Lib.hid hx
  have HR := Lib.hid hR
  have HB := Lib.hid hB
  have HT := Lib.hid hT
  have HLL := Lib.hid hL
  have HN := Lib.hid hN
  have HG := Lib.hid hg
  have HK := Lib.hid hk
  have HM := Lib.hid hm
  have HC := Lib.hid hc
  have HSAME := Lib.hid hsame
  have HTC := Lib.hid hTc
  have HTT := Lib.hid hTT
  have HN0 := Lib.hid hN0
  clear HL hx hR hB hT hL hN hg hk hm hc hsame hTc hTT hN0 hok hokc
  go_enter Try.func5, Try.ntmps5
  go_wp2_with fail
  refine (of_val _ _ _ _ _ _ _ _ _ HX.out HR.out HB.out HT.out HLL.out _).mono ?_
  rintro e w1 ⟨rfl, hb1⟩
  have Z1 := Lib.hid (heap_below_keep hb1 (heap_alloc_new_at (k := w.heap.size + 1) (w.alloc (.cells #[.int .u8 r, .int .u8 b, .int .u8 t, .int .u16 l, .int .u8 g] 46)) (.cells #[.int .u16 z0, .int .u16 z1] 48) (by simp)))
  have HB1 := Lib.hid hb1
  clear hb1
  have lz := lt_of_block Z1.out
  have cz0 := cell_of_block (i := 0) Z1.out rfl
  have cz1 := cell_of_block (i := 1) Z1.out rfl
  go_wp2_with fail
  refine (after_val _ _ _ _ _ _ (-1) HN.out (by rw [HG.out]; exact HK.out) _).mono ?_
  rintro e w2 ⟨rfl, hb2⟩
  have Z2 := Lib.hid (heap_below_keep hb2 (heap_alloc_keep Z1.out))
  have B2 := Lib.hid (heap_below_keep hb2 (heap_alloc_new w1 (bO R B T L)))
  have HB2 := Lib.hid hb2
  clear hb2
  clear lz cz0 cz1
  have lz := lt_of_block Z2.out
  have cz0 := cell_of_block (i := 0) Z2.out rfl
  have cz1 := cell_of_block (i := 1) Z2.out rfl
  have lb := lt_of_block B2.out
  have cb0 := cell_of_block (i := 0) B2.out rfl
  have cb1 := cell_of_block (i := 1) B2.out rfl
  have cb2 := cell_of_block (i := 2) B2.out rfl
  have cb3 := cell_of_block (i := 3) B2.out rfl
  go_wp2_with fail
  refine (take_nval _ _ _ _ _ _ e HNE.out HE.out hle _).mono ?_
  rintro e w3 ⟨rfl, hb3⟩
  have Z3 := Lib.hid (heap_below_keep hb3 Z2.out)
  have B3 := Lib.hid (heap_below_keep hb3 B2.out)
  have HB3 := Lib.hid hb3
  clear hb3
  clear lz cz0 cz1 lb cb0 cb1 cb2 cb3
  have lz := lt_of_block Z3.out
  have cz0 := cell_of_block (i := 0) Z3.out rfl
  have cz1 := cell_of_block (i := 1) Z3.out rfl
  have lb := lt_of_block B3.out
  have cb0 := cell_of_block (i := 0) B3.out rfl
  have cb1 := cell_of_block (i := 1) B3.out rfl
  have cb2 := cell_of_block (i := 2) B3.out rfl
  have cb3 := cell_of_block (i := 3) B3.out rfl
  go_wp2_with fail
  go_quiet (fail)
  rw [HM.out, IntWalk.wrap64_in (L + m) (by omega)]
  have hZq := heap_drewN_keep (w := (w3.alloc (bO R B T L))) (nq := nq) (heap_alloc_keep Z3.out)
  have hBq := heap_drewN_keep (w := (w3.alloc (bO R B T L))) (nq := nq) (heap_alloc_keep B3.out)
  have hbq : Below w3.heap.size w3 ((w3.alloc (bO R B T L)).drewN nq) := bdrewN (balloc (Below.refl _ _) _) nq
  generalize (w3.alloc (bO R B T L)).drewN nq = wq at hZq hBq hbq ⊢
  have Zq := Lib.hid hZq
  have Bq := Lib.hid hBq
  have HBq := Lib.hid hbq
  clear hbq hZq hBq
  clear lz cz0 cz1 lb cb0 cb1 cb2 cb3
  have lz := lt_of_block Zq.out
  have cz0 := cell_of_block (i := 0) Zq.out rfl
  have cz1 := cell_of_block (i := 1) Zq.out rfl
  have lb := lt_of_block Bq.out
  have cb0 := cell_of_block (i := 0) Bq.out rfl
  have cb1 := cell_of_block (i := 1) Bq.out rfl
  have cb2 := cell_of_block (i := 2) Bq.out rfl
  have cb3 := cell_of_block (i := 3) Bq.out rfl
  go_wp2_with fail
  refine (take_yval _ _ _ _ _ _ c HN0.out HC.out h0c _).mono ?_
  rintro e w4 ⟨rfl, hb4⟩
  have Z4 := Lib.hid (heap_below_keep hb4 Zq.out)
  have B4 := Lib.hid (heap_below_keep hb4 Bq.out)
  have HB4 := Lib.hid hb4
  clear hb4
  clear lz cz0 cz1 lb cb0 cb1 cb2 cb3
  have lz := lt_of_block Z4.out
  have cz0 := cell_of_block (i := 0) Z4.out rfl
  have cz1 := cell_of_block (i := 1) Z4.out rfl
  have lb := lt_of_block B4.out
  have cb0 := cell_of_block (i := 0) B4.out rfl
  have cb1 := cell_of_block (i := 1) B4.out rfl
  have cb2 := cell_of_block (i := 2) B4.out rfl
  have cb3 := cell_of_block (i := 3) B4.out rfl
  go_wp2_with fail
  refine (at_val _ _ _ _ _ h HTT.out HG.out _).mono ?_
  rintro e w5 ⟨rfl, hb5⟩
  have Z5 := Lib.hid (heap_below_keep hb5 (heap_alloc_keep Z4.out))
  have B5 := Lib.hid (heap_below_keep hb5 (heap_alloc_keep B4.out))
  have C5 := Lib.hid (heap_below_keep hb5 (heap_alloc_new w4 (bO R B c (L + m))))
  have HB5 := Lib.hid hb5
  clear hb5
  clear lz cz0 cz1 lb cb0 cb1 cb2 cb3
  have lz := lt_of_block Z5.out
  have cz0 := cell_of_block (i := 0) Z5.out rfl
  have cz1 := cell_of_block (i := 1) Z5.out rfl
  have lb := lt_of_block B5.out
  have cb0 := cell_of_block (i := 0) B5.out rfl
  have cb1 := cell_of_block (i := 1) B5.out rfl
  have cb2 := cell_of_block (i := 2) B5.out rfl
  have cb3 := cell_of_block (i := 3) B5.out rfl
  have lc := lt_of_block C5.out
  have cc0 := cell_of_block (i := 0) C5.out rfl
  have cc1 := cell_of_block (i := 1) C5.out rfl
  have cc2 := cell_of_block (i := 2) C5.out rfl
  have cc3 := cell_of_block (i := 3) C5.out rfl
  go_wp2_with fail
  refine (at_val _ _ _ _ _ h HTC.out HSAME.out _).mono ?_
  rintro e w6 ⟨rfl, hb6⟩
  have Z6 := Lib.hid (heap_below_keep hb6 Z5.out)
  have B6 := Lib.hid (heap_below_keep hb6 B5.out)
  have C6 := Lib.hid (heap_below_keep hb6 C5.out)
  have HB6 := Lib.hid hb6
  clear hb6
  clear lz cz0 cz1 lb cb0 cb1 cb2 cb3 lc cc0 cc1 cc2 cc3
  have lz := lt_of_block Z6.out
  have cz0 := cell_of_block (i := 0) Z6.out rfl
  have cz1 := cell_of_block (i := 1) Z6.out rfl
  have lb := lt_of_block B6.out
  have cb0 := cell_of_block (i := 0) B6.out rfl
  have cb1 := cell_of_block (i := 1) B6.out rfl
  have cb2 := cell_of_block (i := 2) B6.out rfl
  have cb3 := cell_of_block (i := 3) B6.out rfl
  have lc := lt_of_block C6.out
  have cc0 := cell_of_block (i := 0) C6.out rfl
  have cc1 := cell_of_block (i := 1) C6.out rfl
  have cc2 := cell_of_block (i := 2) C6.out rfl
  have cc3 := cell_of_block (i := 3) C6.out rfl
  go_wp2_with fail
  refine (HLV.out _).mono ?_
  rintro e w7 ⟨rfl, hb7⟩
  have Z7 := Lib.hid (heap_below_keep hb7 Z6.out)
  have B7 := Lib.hid (heap_below_keep hb7 B6.out)
  have C7 := Lib.hid (heap_below_keep hb7 C6.out)
  have HB7 := Lib.hid hb7
  clear hb7
  clear lz cz0 cz1 lb cb0 cb1 cb2 cb3 lc cc0 cc1 cc2 cc3
  have lz := lt_of_block Z7.out
  have cz0 := cell_of_block (i := 0) Z7.out rfl
  have cz1 := cell_of_block (i := 1) Z7.out rfl
  have lb := lt_of_block B7.out
  have cb0 := cell_of_block (i := 0) B7.out rfl
  have cb1 := cell_of_block (i := 1) B7.out rfl
  have cb2 := cell_of_block (i := 2) B7.out rfl
  have cb3 := cell_of_block (i := 3) B7.out rfl
  have lc := lt_of_block C7.out
  have cc0 := cell_of_block (i := 0) C7.out rfl
  have cc1 := cell_of_block (i := 1) C7.out rfl
  have cc2 := cell_of_block (i := 2) C7.out rfl
  have cc3 := cell_of_block (i := 3) C7.out rfl
  go_wp2
  go_ret
  refine ⟨rfl, ?_⟩
  have f0 := HB1.out
  have f1 := HB2.out
  have f2 := HB3.out
  have f3 := HBq.out
  have f4 := HB4.out
  have f5 := HB5.out
  have f6 := HB6.out
  have f7 := HB7.out
  repeat (first | (with_reducible exact Below.refl _ _) | (with_reducible assumption) | (with_reducible refine bset ?_ (by first | omega | (simp; done) | (simp; omega)) _) | (with_reducible refine balloc ?_ _) | (with_reducible refine bdrew ?_) | (with_reducible refine bdrewN ?_ _) | (with_reducible refine bstep ?_ (by assumption)))
set_option maxRecDepth 100000 in
set_option maxHeartbeats 4000000 in
theorem lawAfter_some_a (HL : Lives) (r b t l g n z0 z1 R B T L k h : Int) (hx : OkX r b t l g) (hR : ofR r g = R) (hB : ofB b g = B) (hT : ofT b t g = T) (hL : ofL l g = L) (hok : okB R B T L = true)
    (hn : 0 ≤ n ∧ n ≤ 4294967295) (hz : 0 ≤ z0 ∧ z0 ≤ 65535) (hz1 : 0 ≤ z1 ∧ z1 ≤ 65535) (cm : L + z0 ≤ 4611686018427387904) (hg : gM T R ((L + z0) - L) B = h) (hk : waM R B n h = k) (hc0k : 1 ≤ k ∧ k ≤ 2147483648) (hnear : (L + z0) + k ≤ 4611686018427387904) (hy : n ≤ gM h R k B) (hnot : gM h R (k - 1) B < n) (w : World) :
    Calls Try.prog 5 #[xV r b t l g, .int .u32 n, .agg #[.int .u16 z0, .int .u16 z1]] w fun e w' => e = .returned (.bool true) ∧ Below w.heap.size w w' := by
  obtain ⟨a1, a2, a3, a4, a5, a6, a7, a8⟩ := okB_iff hok
  obtain ⟨n0, n1⟩ := hn
  obtain ⟨y0, y1⟩ := hz
  obtain ⟨x0, x1⟩ := hz1
  have hh1 : h ≤ B := by rw [← hg]; exact gM_le
  have hh0 : T ≤ h := by rw [← hg]; exact gM_ge (by omega) (by omega) (by omega)
  have hN := okN_mk hok (show L ≤ (L + z0) by omega) (show (L + z0) ≤ 4611686018427387904 by omega) n0
  -- looked at in between
  have u0 : 0 ≤ z1 % ((L + z0) - L + 1) := Int.emod_nonneg _ (by omega)
  have u1 : z1 % ((L + z0) - L + 1) < (L + z0) - L + 1 := Int.emod_lt_of_pos _ (by omega)
  obtain ⟨m, hm⟩ : ∃ m, z1 % ((L + z0) - L + 1) = m := ⟨_, rfl⟩
  rw [hm] at u0 u1
  obtain ⟨c, hc⟩ : ∃ c, gM T R (L + m - L) B = c := ⟨_, rfl⟩
  have hc0 : T ≤ c := by rw [← hc]; exact gM_ge (by omega) (by omega) (by omega)
  have hc1 : c ≤ B := by rw [← hc]; exact gM_le
  have hokc : okB R B c (L + m) = true := okB_true (by omega)
  have hsame : gM c R ((L + z0) - (L + m)) B = h := by
    rw [← hc, ← hg, gM_add a6 a1 (by omega) (by omega), show L + m - L + ((L + z0) - (L + m)) = (L + z0) - L by omega]
  have hTc := okT_mk hokc (show L + m ≤ (L + z0) by omega) (show (L + z0) ≤ 4611686018427387904 by omega)
  have hTT := okT_mk hok (show L ≤ (L + z0) by omega) (show (L + z0) ≤ 4611686018427387904 by omega)
  have hN0 := okN_mk (n := 0) hok (show L ≤ L + m by omega) (show L + m ≤ 4611686018427387904 by omega) (by omega)
  have h0c : 0 ≤ c := by omega
  obtain ⟨k0, k1⟩ := hc0k
  obtain ⟨e, he⟩ : ∃ e, gM T R ((L + z0) + k - L) B = e := ⟨_, rfl⟩
  obtain ⟨d, hd⟩ : ∃ d, gM T R ((L + z0) + k - 1 - L) B = d := ⟨_, rfl⟩
  have hle : n ≤ e := by rw [← he, show (L + z0) + k - L = ((L + z0) - L) + k by omega, ← gM_add a6 a1 (by omega) (by omega), hg]; exact hy
  have hlt : d < n := by rw [← hd, show (L + z0) + k - 1 - L = ((L + z0) - L) + (k - 1) by omega, ← gM_add a6 a1 (by omega) (by omega), hg]; exact hnot
  have hNe := okN_mk (n := n) hok (show L ≤ (L + z0) + k by omega) (show (L + z0) + k ≤ 4611686018427387904 by omega) n0
  have hNd := okN_mk (n := n) hok (show L ≤ (L + z0) + k - 1 by omega) (show (L + z0) + k - 1 ≤ 4611686018427387904 by omega) n0
  have HNE := Lib.hid hNe
  have HND := Lib.hid hNd
  have HE := Lib.hid he
  have HD := Lib.hid hd
  clear hNe hNd he hd hy hnot
  have HLV := Lib.hid HL
  have HX := Lib.hid hx
  have HR := Lib.hid hR
  have HB := Lib.hid hB
  have HT := Lib.hid hT
  have HLL := Lib.hid hL
  have HN := Lib.hid hN
  have HG := Lib.hid hg
  have HK := Lib.hid hk
  have HM := Lib.hid hm
  have HC := Lib.hid hc
  have HSAME := Lib.hid hsame
  have HTC := Lib.hid hTc
  have HTT := Lib.hid hTT
  have HN0 := Lib.hid hN0
  clear HL hx hR hB hT hL hN hg hk hm hc hsame hTc hTT hN0 hok hokc
  go_enter Try.func5, Try.ntmps5
  go_wp2_with fail
  refine (of_val _ _ _ _ _ _ _ _ _ HX.out HR.out HB.out HT.out HLL.out _).mono ?_
  rintro e w1 ⟨rfl, hb1⟩
  have Z1 := Lib.hid (heap_below_keep hb1 (heap_alloc_new_at (k := w.heap.size + 1) (w.alloc (.cells #[.int .u8 r, .int .u8 b, .int .u8 t, .int .u16 l, .int .u8 g] 46)) (.cells #[.int .u16 z0, .int .u16 z1] 48) (by simp)))
  have HB1 := Lib.hid hb1
  clear hb1
  have lz := lt_of_block Z1.out
  have cz0 := cell_of_block (i := 0) Z1.out rfl
  have cz1 := cell_of_block (i := 1) Z1.out rfl
  go_wp2_with fail
  refine (after_val _ _ _ _ _ _ k HN.out (by rw [HG.out]; exact HK.out) _).mono ?_
  rintro e w2 ⟨rfl, hb2⟩
  have Z2 := Lib.hid (heap_below_keep hb2 (heap_alloc_keep Z1.out))
  have B2 := Lib.hid (heap_below_keep hb2 (heap_alloc_new w1 (bO R B T L)))
  have HB2 := Lib.hid hb2
  clear hb2
  clear lz cz0 cz1
  have lz := lt_of_block Z2.out
  have cz0 := cell_of_block (i := 0) Z2.out rfl
  have cz1 := cell_of_block (i := 1) Z2.out rfl
  have lb := lt_of_block B2.out
  have cb0 := cell_of_block (i := 0) B2.out rfl
  have cb1 := cell_of_block (i := 1) B2.out rfl
  have cb2 := cell_of_block (i := 2) B2.out rfl
  have cb3 := cell_of_block (i := 3) B2.out rfl
  go_wp2_with fail
  refine (take_nval _ _ _ _ _ _ d HND.out HD.out hlt _).mono ?_
  rintro e w3 ⟨rfl, hb3⟩
  have Z3 := Lib.hid (heap_below_keep hb3 Z2.out)
  have B3 := Lib.hid (heap_below_keep hb3 B2.out)
  have HB3 := Lib.hid hb3
  clear hb3
  clear lz cz0 cz1 lb cb0 cb1 cb2 cb3
  have lz := lt_of_block Z3.out
  have cz0 := cell_of_block (i := 0) Z3.out rfl
  have cz1 := cell_of_block (i := 1) Z3.out rfl
  have lb := lt_of_block B3.out
  have cb0 := cell_of_block (i := 0) B3.out rfl
  have cb1 := cell_of_block (i := 1) B3.out rfl
  have cb2 := cell_of_block (i := 2) B3.out rfl
  have cb3 := cell_of_block (i := 3) B3.out rfl
  go_wp2_with fail
  refine (take_yval _ _ _ _ _ _ e HNE.out HE.out hle _).mono ?_
  rintro e w4 ⟨rfl, hb4⟩
  have Z4 := Lib.hid (heap_below_keep hb4 (heap_alloc_keep Z3.out))
  have B4 := Lib.hid (heap_below_keep hb4 (heap_alloc_keep B3.out))
  have HB4 := Lib.hid hb4
  clear hb4
  clear lz cz0 cz1 lb cb0 cb1 cb2 cb3
  have lz := lt_of_block Z4.out
  have cz0 := cell_of_block (i := 0) Z4.out rfl
  have cz1 := cell_of_block (i := 1) Z4.out rfl
  have lb := lt_of_block B4.out
  have cb0 := cell_of_block (i := 0) B4.out rfl
  have cb1 := cell_of_block (i := 1) B4.out rfl
  have cb2 := cell_of_block (i := 2) B4.out rfl
  have cb3 := cell_of_block (i := 3) B4.out rfl
  go_wp2_with fail
  go_quiet (fail)
  rw [HM.out, IntWalk.wrap64_in (L + m) (by omega)]
  have hZq := heap_drewN_keep (w := (w4.alloc (bO R B (e - n) ((L + z0) + k)))) (nq := nq) (heap_alloc_keep Z4.out)
  have hBq := heap_drewN_keep (w := (w4.alloc (bO R B (e - n) ((L + z0) + k)))) (nq := nq) (heap_alloc_keep B4.out)
  have hbq : Below w4.heap.size w4 ((w4.alloc (bO R B (e - n) ((L + z0) + k))).drewN nq) := bdrewN (balloc (Below.refl _ _) _) nq
  generalize (w4.alloc (bO R B (e - n) ((L + z0) + k))).drewN nq = wq at hZq hBq hbq ⊢
  have Zq := Lib.hid hZq
  have Bq := Lib.hid hBq
  have HBq := Lib.hid hbq
  clear hbq hZq hBq
  clear lz cz0 cz1 lb cb0 cb1 cb2 cb3
  have lz := lt_of_block Zq.out
  have cz0 := cell_of_block (i := 0) Zq.out rfl
  have cz1 := cell_of_block (i := 1) Zq.out rfl
  have lb := lt_of_block Bq.out
  have cb0 := cell_of_block (i := 0) Bq.out rfl
  have cb1 := cell_of_block (i := 1) Bq.out rfl
  have cb2 := cell_of_block (i := 2) Bq.out rfl
  have cb3 := cell_of_block (i := 3) Bq.out rfl
  go_wp2_with fail
  refine (take_yval _ _ _ _ _ _ c HN0.out HC.out h0c _).mono ?_
  rintro e w5 ⟨rfl, hb5⟩
  have Z5 := Lib.hid (heap_below_keep hb5 Zq.out)
  have B5 := Lib.hid (heap_below_keep hb5 Bq.out)
  have HB5 := Lib.hid hb5
  clear hb5
  clear lz cz0 cz1 lb cb0 cb1 cb2 cb3
  have lz := lt_of_block Z5.out
  have cz0 := cell_of_block (i := 0) Z5.out rfl
  have cz1 := cell_of_block (i := 1) Z5.out rfl
  have lb := lt_of_block B5.out
  have cb0 := cell_of_block (i := 0) B5.out rfl
  have cb1 := cell_of_block (i := 1) B5.out rfl
  have cb2 := cell_of_block (i := 2) B5.out rfl
  have cb3 := cell_of_block (i := 3) B5.out rfl
  go_wp2_with fail
  refine (at_val _ _ _ _ _ h HTT.out HG.out _).mono ?_
  rintro e w6 ⟨rfl, hb6⟩
  have Z6 := Lib.hid (heap_below_keep hb6 (heap_alloc_keep Z5.out))
  have B6 := Lib.hid (heap_below_keep hb6 (heap_alloc_keep B5.out))
  have C6 := Lib.hid (heap_below_keep hb6 (heap_alloc_new w5 (bO R B c (L + m))))
  have HB6 := Lib.hid hb6
  clear hb6
  clear lz cz0 cz1 lb cb0 cb1 cb2 cb3
  have lz := lt_of_block Z6.out
  have cz0 := cell_of_block (i := 0) Z6.out rfl
  have cz1 := cell_of_block (i := 1) Z6.out rfl
  have lb := lt_of_block B6.out
  have cb0 := cell_of_block (i := 0) B6.out rfl
  have cb1 := cell_of_block (i := 1) B6.out rfl
  have cb2 := cell_of_block (i := 2) B6.out rfl
  have cb3 := cell_of_block (i := 3) B6.out rfl
  have lc := lt_of_block C6.out
  have cc0 := cell_of_block (i := 0) C6.out rfl
  have cc1 := cell_of_block (i := 1) C6.out rfl
  have cc2 := cell_of_block (i := 2) C6.out rfl
  have cc3 := cell_of_block (i := 3) C6.out rfl
  go_wp2_with fail
  refine (at_val _ _ _ _ _ h HTC.out HSAME.out _).mono ?_
  rintro e w7 ⟨rfl, hb7⟩
  have Z7 := Lib.hid (heap_below_keep hb7 Z6.out)
  have B7 := Lib.hid (heap_below_keep hb7 B6.out)
  have C7 := Lib.hid (heap_below_keep hb7 C6.out)
  have HB7 := Lib.hid hb7
  clear hb7
  clear lz cz0 cz1 lb cb0 cb1 cb2 cb3 lc cc0 cc1 cc2 cc3
  have lz := lt_of_block Z7.out
  have cz0 := cell_of_block (i := 0) Z7.out rfl
  have cz1 := cell_of_block (i := 1) Z7.out rfl
  have lb := lt_of_block B7.out
  have cb0 := cell_of_block (i := 0) B7.out rfl
  have cb1 := cell_of_block (i := 1) B7.out rfl
  have cb2 := cell_of_block (i := 2) B7.out rfl
  have cb3 := cell_of_block (i := 3) B7.out rfl
  have lc := lt_of_block C7.out
  have cc0 := cell_of_block (i := 0) C7.out rfl
  have cc1 := cell_of_block (i := 1) C7.out rfl
  have cc2 := cell_of_block (i := 2) C7.out rfl
  have cc3 := cell_of_block (i := 3) C7.out rfl
  go_wp2_with fail
  refine (HLV.out _).mono ?_
  rintro e w8 ⟨rfl, hb8⟩
  have Z8 := Lib.hid (heap_below_keep hb8 Z7.out)
  have B8 := Lib.hid (heap_below_keep hb8 B7.out)
  have C8 := Lib.hid (heap_below_keep hb8 C7.out)
  have HB8 := Lib.hid hb8
  clear hb8
  clear lz cz0 cz1 lb cb0 cb1 cb2 cb3 lc cc0 cc1 cc2 cc3
  have lz := lt_of_block Z8.out
  have cz0 := cell_of_block (i := 0) Z8.out rfl
  have cz1 := cell_of_block (i := 1) Z8.out rfl
  have lb := lt_of_block B8.out
  have cb0 := cell_of_block (i := 0) B8.out rfl
  have cb1 := cell_of_block (i := 1) B8.out rfl
  have cb2 := cell_of_block (i := 2) B8.out rfl
  have cb3 := cell_of_block (i := 3) B8.out rfl
  have lc := lt_of_block C8.out
  have cc0 := cell_of_block (i := 0) C8.out rfl
  have cc1 := cell_of_block (i := 1) C8.out rfl
  have cc2 := cell_of_block (i := 2) C8.out rfl
  have cc3 := cell_of_block (i := 3) C8.out rfl
  go_wp2
  go_ret
  refine ⟨rfl, ?_⟩
  have f0 := HB1.out
  have f1 := HB2.out
  have f2 := HB3.out
  have f3 := HB4.out
  have f4 := HBq.out
  have f5 := HB5.out
  have f6 := HB6.out
  have f7 := HB7.out
  have f8 := HB8.out
  repeat (first | (with_reducible exact Below.refl _ _) | (with_reducible assumption) | (with_reducible refine bset ?_ (by first | omega | (simp; done) | (simp; omega)) _) | (with_reducible refine balloc ?_ _) | (with_reducible refine bdrew ?_) | (with_reducible refine bdrewN ?_ _) | (with_reducible refine bstep ?_ (by assumption)))
set_option maxRecDepth 100000 in
set_option maxHeartbeats 4000000 in
theorem lawAfter_zero_b (HL : Lives) (r b t l g n z0 z1 R B T L k h : Int) (hx : OkX r b t l g) (hR : ofR r g = R) (hB : ofB b g = B) (hT : ofT b t g = T) (hL : ofL l g = L) (hok : okB R B T L = true)
    (hn : 0 ≤ n ∧ n ≤ 4294967295) (hz : 0 ≤ z0 ∧ z0 ≤ 65535) (hz1 : 0 ≤ z1 ∧ z1 ≤ 65535) (cm : 4611686018427387904 < L + z0) (hg : gM T R (4611686018427387904 - L) B = h) (hk : waM R B n h = k) (hc0k : k = 0) (w : World) :
    Calls Try.prog 5 #[xV r b t l g, .int .u32 n, .agg #[.int .u16 z0, .int .u16 z1]] w fun e w' => e = .returned (.bool true) ∧ Below w.heap.size w w' := by
  obtain ⟨a1, a2, a3, a4, a5, a6, a7, a8⟩ := okB_iff hok
  obtain ⟨n0, n1⟩ := hn
  obtain ⟨y0, y1⟩ := hz
  obtain ⟨x0, x1⟩ := hz1
  have hh1 : h ≤ B := by rw [← hg]; exact gM_le
  have hh0 : T ≤ h := by rw [← hg]; exact gM_ge (by omega) (by omega) (by omega)
  have hN := okN_mk hok (show L ≤ 4611686018427387904 by omega) (show 4611686018427387904 ≤ 4611686018427387904 by omega) n0
  -- looked at in between
  have u0 : 0 ≤ z1 % (4611686018427387904 - L + 1) := Int.emod_nonneg _ (by omega)
  have u1 : z1 % (4611686018427387904 - L + 1) < 4611686018427387904 - L + 1 := Int.emod_lt_of_pos _ (by omega)
  obtain ⟨m, hm⟩ : ∃ m, z1 % (4611686018427387904 - L + 1) = m := ⟨_, rfl⟩
  rw [hm] at u0 u1
  obtain ⟨c, hc⟩ : ∃ c, gM T R (L + m - L) B = c := ⟨_, rfl⟩
  have hc0 : T ≤ c := by rw [← hc]; exact gM_ge (by omega) (by omega) (by omega)
  have hc1 : c ≤ B := by rw [← hc]; exact gM_le
  have hokc : okB R B c (L + m) = true := okB_true (by omega)
  have hsame : gM c R (4611686018427387904 - (L + m)) B = h := by
    rw [← hc, ← hg, gM_add a6 a1 (by omega) (by omega), show L + m - L + (4611686018427387904 - (L + m)) = 4611686018427387904 - L by omega]
  have hTc := okT_mk hokc (show L + m ≤ 4611686018427387904 by omega) (show 4611686018427387904 ≤ 4611686018427387904 by omega)
  have hTT := okT_mk hok (show L ≤ 4611686018427387904 by omega) (show 4611686018427387904 ≤ 4611686018427387904 by omega)
  have hN0 := okN_mk (n := 0) hok (show L ≤ L + m by omega) (show L + m ≤ 4611686018427387904 by omega) (by omega)
  have h0c : 0 ≤ c := by omega
  subst hc0k
  have HLV := Lib.hid HL
  have HX := Lib.hid hx
  have HR := Lib.hid hR
  have HB := Lib.hid hB
  have HT := Lib.hid hT
  have HLL := Lib.hid hL
  have HN := Lib.hid hN
  have HG := Lib.hid hg
  have HK := Lib.hid hk
  have HM := Lib.hid hm
  have HC := Lib.hid hc
  have HSAME := Lib.hid hsame
  have HTC := Lib.hid hTc
  have HTT := Lib.hid hTT
  have HN0 := Lib.hid hN0
  clear HL hx hR hB hT hL hN hg hk hm hc hsame hTc hTT hN0 hok hokc
  go_enter Try.func5, Try.ntmps5
  go_wp2_with fail
  refine (of_val _ _ _ _ _ _ _ _ _ HX.out HR.out HB.out HT.out HLL.out _).mono ?_
  rintro e w1 ⟨rfl, hb1⟩
  have Z1 := Lib.hid (heap_below_keep hb1 (heap_alloc_new_at (k := w.heap.size + 1) (w.alloc (.cells #[.int .u8 r, .int .u8 b, .int .u8 t, .int .u16 l, .int .u8 g] 46)) (.cells #[.int .u16 z0, .int .u16 z1] 48) (by simp)))
  have HB1 := Lib.hid hb1
  clear hb1
  have lz := lt_of_block Z1.out
  have cz0 := cell_of_block (i := 0) Z1.out rfl
  have cz1 := cell_of_block (i := 1) Z1.out rfl
  go_wp2_with fail
  refine (after_val _ _ _ _ _ _ 0 HN.out (by rw [HG.out]; exact HK.out) _).mono ?_
  rintro e w2 ⟨rfl, hb2⟩
  have Z2 := Lib.hid (heap_below_keep hb2 (heap_alloc_keep Z1.out))
  have B2 := Lib.hid (heap_below_keep hb2 (heap_alloc_new w1 (bO R B T L)))
  have HB2 := Lib.hid hb2
  clear hb2
  clear lz cz0 cz1
  have lz := lt_of_block Z2.out
  have cz0 := cell_of_block (i := 0) Z2.out rfl
  have cz1 := cell_of_block (i := 1) Z2.out rfl
  have lb := lt_of_block B2.out
  have cb0 := cell_of_block (i := 0) B2.out rfl
  have cb1 := cell_of_block (i := 1) B2.out rfl
  have cb2 := cell_of_block (i := 2) B2.out rfl
  have cb3 := cell_of_block (i := 3) B2.out rfl
  go_wp2_with fail
  go_quiet (fail)
  rw [HM.out, IntWalk.wrap64_in (L + m) (by omega)]
  have hZq := heap_drewN_keep (w := w2) (nq := nq) Z2.out
  have hBq := heap_drewN_keep (w := w2) (nq := nq) B2.out
  have hbq : Below w2.heap.size w2 (w2.drewN nq) := bdrewN (Below.refl _ _) nq
  generalize w2.drewN nq = wq at hZq hBq hbq ⊢
  have Zq := Lib.hid hZq
  have Bq := Lib.hid hBq
  have HBq := Lib.hid hbq
  clear hbq hZq hBq
  clear lz cz0 cz1 lb cb0 cb1 cb2 cb3
  have lz := lt_of_block Zq.out
  have cz0 := cell_of_block (i := 0) Zq.out rfl
  have cz1 := cell_of_block (i := 1) Zq.out rfl
  have lb := lt_of_block Bq.out
  have cb0 := cell_of_block (i := 0) Bq.out rfl
  have cb1 := cell_of_block (i := 1) Bq.out rfl
  have cb2 := cell_of_block (i := 2) Bq.out rfl
  have cb3 := cell_of_block (i := 3) Bq.out rfl
  go_wp2_with fail
  refine (take_yval _ _ _ _ _ _ c HN0.out HC.out h0c _).mono ?_
  rintro e w3 ⟨rfl, hb3⟩
  have Z3 := Lib.hid (heap_below_keep hb3 Zq.out)
  have B3 := Lib.hid (heap_below_keep hb3 Bq.out)
  have HB3 := Lib.hid hb3
  clear hb3
  clear lz cz0 cz1 lb cb0 cb1 cb2 cb3
  have lz := lt_of_block Z3.out
  have cz0 := cell_of_block (i := 0) Z3.out rfl
  have cz1 := cell_of_block (i := 1) Z3.out rfl
  have lb := lt_of_block B3.out
  have cb0 := cell_of_block (i := 0) B3.out rfl
  have cb1 := cell_of_block (i := 1) B3.out rfl
  have cb2 := cell_of_block (i := 2) B3.out rfl
  have cb3 := cell_of_block (i := 3) B3.out rfl
  go_wp2_with fail
  refine (at_val _ _ _ _ _ h HTT.out HG.out _).mono ?_
  rintro e w4 ⟨rfl, hb4⟩
  have Z4 := Lib.hid (heap_below_keep hb4 (heap_alloc_keep Z3.out))
  have B4 := Lib.hid (heap_below_keep hb4 (heap_alloc_keep B3.out))
  have C4 := Lib.hid (heap_below_keep hb4 (heap_alloc_new w3 (bO R B c (L + m))))
  have HB4 := Lib.hid hb4
  clear hb4
  clear lz cz0 cz1 lb cb0 cb1 cb2 cb3
  have lz := lt_of_block Z4.out
  have cz0 := cell_of_block (i := 0) Z4.out rfl
  have cz1 := cell_of_block (i := 1) Z4.out rfl
  have lb := lt_of_block B4.out
  have cb0 := cell_of_block (i := 0) B4.out rfl
  have cb1 := cell_of_block (i := 1) B4.out rfl
  have cb2 := cell_of_block (i := 2) B4.out rfl
  have cb3 := cell_of_block (i := 3) B4.out rfl
  have lc := lt_of_block C4.out
  have cc0 := cell_of_block (i := 0) C4.out rfl
  have cc1 := cell_of_block (i := 1) C4.out rfl
  have cc2 := cell_of_block (i := 2) C4.out rfl
  have cc3 := cell_of_block (i := 3) C4.out rfl
  go_wp2_with fail
  refine (at_val _ _ _ _ _ h HTC.out HSAME.out _).mono ?_
  rintro e w5 ⟨rfl, hb5⟩
  have Z5 := Lib.hid (heap_below_keep hb5 Z4.out)
  have B5 := Lib.hid (heap_below_keep hb5 B4.out)
  have C5 := Lib.hid (heap_below_keep hb5 C4.out)
  have HB5 := Lib.hid hb5
  clear hb5
  clear lz cz0 cz1 lb cb0 cb1 cb2 cb3 lc cc0 cc1 cc2 cc3
  have lz := lt_of_block Z5.out
  have cz0 := cell_of_block (i := 0) Z5.out rfl
  have cz1 := cell_of_block (i := 1) Z5.out rfl
  have lb := lt_of_block B5.out
  have cb0 := cell_of_block (i := 0) B5.out rfl
  have cb1 := cell_of_block (i := 1) B5.out rfl
  have cb2 := cell_of_block (i := 2) B5.out rfl
  have cb3 := cell_of_block (i := 3) B5.out rfl
  have lc := lt_of_block C5.out
  have cc0 := cell_of_block (i := 0) C5.out rfl
  have cc1 := cell_of_block (i := 1) C5.out rfl
  have cc2 := cell_of_block (i := 2) C5.out rfl
  have cc3 := cell_of_block (i := 3) C5.out rfl
  go_wp2_with fail
  refine (HLV.out _).mono ?_
  rintro e w6 ⟨rfl, hb6⟩
  have Z6 := Lib.hid (heap_below_keep hb6 Z5.out)
  have B6 := Lib.hid (heap_below_keep hb6 B5.out)
  have C6 := Lib.hid (heap_below_keep hb6 C5.out)
  have HB6 := Lib.hid hb6
  clear hb6
  clear lz cz0 cz1 lb cb0 cb1 cb2 cb3 lc cc0 cc1 cc2 cc3
  have lz := lt_of_block Z6.out
  have cz0 := cell_of_block (i := 0) Z6.out rfl
  have cz1 := cell_of_block (i := 1) Z6.out rfl
  have lb := lt_of_block B6.out
  have cb0 := cell_of_block (i := 0) B6.out rfl
  have cb1 := cell_of_block (i := 1) B6.out rfl
  have cb2 := cell_of_block (i := 2) B6.out rfl
  have cb3 := cell_of_block (i := 3) B6.out rfl
  have lc := lt_of_block C6.out
  have cc0 := cell_of_block (i := 0) C6.out rfl
  have cc1 := cell_of_block (i := 1) C6.out rfl
  have cc2 := cell_of_block (i := 2) C6.out rfl
  have cc3 := cell_of_block (i := 3) C6.out rfl
  go_wp2
  go_ret
  refine ⟨rfl, ?_⟩
  have f0 := HB1.out
  have f1 := HB2.out
  have f2 := HBq.out
  have f3 := HB3.out
  have f4 := HB4.out
  have f5 := HB5.out
  have f6 := HB6.out
  repeat (first | (with_reducible exact Below.refl _ _) | (with_reducible assumption) | (with_reducible refine bset ?_ (by first | omega | (simp; done) | (simp; omega)) _) | (with_reducible refine balloc ?_ _) | (with_reducible refine bdrew ?_) | (with_reducible refine bdrewN ?_ _) | (with_reducible refine bstep ?_ (by assumption)))
set_option maxRecDepth 100000 in
set_option maxHeartbeats 4000000 in
theorem lawAfter_far_b (HL : Lives) (r b t l g n z0 z1 R B T L k h : Int) (hx : OkX r b t l g) (hR : ofR r g = R) (hB : ofB b g = B) (hT : ofT b t g = T) (hL : ofL l g = L) (hok : okB R B T L = true)
    (hn : 0 ≤ n ∧ n ≤ 4294967295) (hz : 0 ≤ z0 ∧ z0 ≤ 65535) (hz1 : 0 ≤ z1 ∧ z1 ≤ 65535) (cm : 4611686018427387904 < L + z0) (hg : gM T R (4611686018427387904 - L) B = h) (hk : waM R B n h = k) (hc0k : 1 ≤ k ∧ k ≤ 2147483648) (hfar : 4611686018427387904 < 4611686018427387904 + k) (w : World) :
    Calls Try.prog 5 #[xV r b t l g, .int .u32 n, .agg #[.int .u16 z0, .int .u16 z1]] w fun e w' => e = .returned (.bool true) ∧ Below w.heap.size w w' := by
  obtain ⟨a1, a2, a3, a4, a5, a6, a7, a8⟩ := okB_iff hok
  obtain ⟨n0, n1⟩ := hn
  obtain ⟨y0, y1⟩ := hz
  obtain ⟨x0, x1⟩ := hz1
  have hh1 : h ≤ B := by rw [← hg]; exact gM_le
  have hh0 : T ≤ h := by rw [← hg]; exact gM_ge (by omega) (by omega) (by omega)
  have hN := okN_mk hok (show L ≤ 4611686018427387904 by omega) (show 4611686018427387904 ≤ 4611686018427387904 by omega) n0
  -- looked at in between
  have u0 : 0 ≤ z1 % (4611686018427387904 - L + 1) := Int.emod_nonneg _ (by omega)
  have u1 : z1 % (4611686018427387904 - L + 1) < 4611686018427387904 - L + 1 := Int.emod_lt_of_pos _ (by omega)
  obtain ⟨m, hm⟩ : ∃ m, z1 % (4611686018427387904 - L + 1) = m := ⟨_, rfl⟩
  rw [hm] at u0 u1
  obtain ⟨c, hc⟩ : ∃ c, gM T R (L + m - L) B = c := ⟨_, rfl⟩
  have hc0 : T ≤ c := by rw [← hc]; exact gM_ge (by omega) (by omega) (by omega)
  have hc1 : c ≤ B := by rw [← hc]; exact gM_le
  have hokc : okB R B c (L + m) = true := okB_true (by omega)
  have hsame : gM c R (4611686018427387904 - (L + m)) B = h := by
    rw [← hc, ← hg, gM_add a6 a1 (by omega) (by omega), show L + m - L + (4611686018427387904 - (L + m)) = 4611686018427387904 - L by omega]
  have hTc := okT_mk hokc (show L + m ≤ 4611686018427387904 by omega) (show 4611686018427387904 ≤ 4611686018427387904 by omega)
  have hTT := okT_mk hok (show L ≤ 4611686018427387904 by omega) (show 4611686018427387904 ≤ 4611686018427387904 by omega)
  have hN0 := okN_mk (n := 0) hok (show L ≤ L + m by omega) (show L + m ≤ 4611686018427387904 by omega) (by omega)
  have h0c : 0 ≤ c := by omega
  obtain ⟨k0, k1⟩ := hc0k
  have HLV := Lib.hid HL
  have HX := Lib.hid hx
  have HR := Lib.hid hR
  have HB := Lib.hid hB
  have HT := Lib.hid hT
  have HLL := Lib.hid hL
  have HN := Lib.hid hN
  have HG := Lib.hid hg
  have HK := Lib.hid hk
  have HM := Lib.hid hm
  have HC := Lib.hid hc
  have HSAME := Lib.hid hsame
  have HTC := Lib.hid hTc
  have HTT := Lib.hid hTT
  have HN0 := Lib.hid hN0
  clear HL hx hR hB hT hL hN hg hk hm hc hsame hTc hTT hN0 hok hokc
  go_enter Try.func5, Try.ntmps5
  go_wp2_with fail
  refine (of_val _ _ _ _ _ _ _ _ _ HX.out HR.out HB.out HT.out HLL.out _).mono ?_
  rintro e w1 ⟨rfl, hb1⟩
  have Z1 := Lib.hid (heap_below_keep hb1 (heap_alloc_new_at (k := w.heap.size + 1) (w.alloc (.cells #[.int .u8 r, .int .u8 b, .int .u8 t, .int .u16 l, .int .u8 g] 46)) (.cells #[.int .u16 z0, .int .u16 z1] 48) (by simp)))
  have HB1 := Lib.hid hb1
  clear hb1
  have lz := lt_of_block Z1.out
  have cz0 := cell_of_block (i := 0) Z1.out rfl
  have cz1 := cell_of_block (i := 1) Z1.out rfl
  go_wp2_with fail
  refine (after_val _ _ _ _ _ _ k HN.out (by rw [HG.out]; exact HK.out) _).mono ?_
  rintro e w2 ⟨rfl, hb2⟩
  have Z2 := Lib.hid (heap_below_keep hb2 (heap_alloc_keep Z1.out))
  have B2 := Lib.hid (heap_below_keep hb2 (heap_alloc_new w1 (bO R B T L)))
  have HB2 := Lib.hid hb2
  clear hb2
  clear lz cz0 cz1
  have lz := lt_of_block Z2.out
  have cz0 := cell_of_block (i := 0) Z2.out rfl
  have cz1 := cell_of_block (i := 1) Z2.out rfl
  have lb := lt_of_block B2.out
  have cb0 := cell_of_block (i := 0) B2.out rfl
  have cb1 := cell_of_block (i := 1) B2.out rfl
  have cb2 := cell_of_block (i := 2) B2.out rfl
  have cb3 := cell_of_block (i := 3) B2.out rfl
  go_wp2_with fail
  go_quiet (fail)
  rw [HM.out, IntWalk.wrap64_in (L + m) (by omega)]
  have hZq := heap_drewN_keep (w := w2) (nq := nq) Z2.out
  have hBq := heap_drewN_keep (w := w2) (nq := nq) B2.out
  have hbq : Below w2.heap.size w2 (w2.drewN nq) := bdrewN (Below.refl _ _) nq
  generalize w2.drewN nq = wq at hZq hBq hbq ⊢
  have Zq := Lib.hid hZq
  have Bq := Lib.hid hBq
  have HBq := Lib.hid hbq
  clear hbq hZq hBq
  clear lz cz0 cz1 lb cb0 cb1 cb2 cb3
  have lz := lt_of_block Zq.out
  have cz0 := cell_of_block (i := 0) Zq.out rfl
  have cz1 := cell_of_block (i := 1) Zq.out rfl
  have lb := lt_of_block Bq.out
  have cb0 := cell_of_block (i := 0) Bq.out rfl
  have cb1 := cell_of_block (i := 1) Bq.out rfl
  have cb2 := cell_of_block (i := 2) Bq.out rfl
  have cb3 := cell_of_block (i := 3) Bq.out rfl
  go_wp2_with fail
  refine (take_yval _ _ _ _ _ _ c HN0.out HC.out h0c _).mono ?_
  rintro e w3 ⟨rfl, hb3⟩
  have Z3 := Lib.hid (heap_below_keep hb3 Zq.out)
  have B3 := Lib.hid (heap_below_keep hb3 Bq.out)
  have HB3 := Lib.hid hb3
  clear hb3
  clear lz cz0 cz1 lb cb0 cb1 cb2 cb3
  have lz := lt_of_block Z3.out
  have cz0 := cell_of_block (i := 0) Z3.out rfl
  have cz1 := cell_of_block (i := 1) Z3.out rfl
  have lb := lt_of_block B3.out
  have cb0 := cell_of_block (i := 0) B3.out rfl
  have cb1 := cell_of_block (i := 1) B3.out rfl
  have cb2 := cell_of_block (i := 2) B3.out rfl
  have cb3 := cell_of_block (i := 3) B3.out rfl
  go_wp2_with fail
  refine (at_val _ _ _ _ _ h HTT.out HG.out _).mono ?_
  rintro e w4 ⟨rfl, hb4⟩
  have Z4 := Lib.hid (heap_below_keep hb4 (heap_alloc_keep Z3.out))
  have B4 := Lib.hid (heap_below_keep hb4 (heap_alloc_keep B3.out))
  have C4 := Lib.hid (heap_below_keep hb4 (heap_alloc_new w3 (bO R B c (L + m))))
  have HB4 := Lib.hid hb4
  clear hb4
  clear lz cz0 cz1 lb cb0 cb1 cb2 cb3
  have lz := lt_of_block Z4.out
  have cz0 := cell_of_block (i := 0) Z4.out rfl
  have cz1 := cell_of_block (i := 1) Z4.out rfl
  have lb := lt_of_block B4.out
  have cb0 := cell_of_block (i := 0) B4.out rfl
  have cb1 := cell_of_block (i := 1) B4.out rfl
  have cb2 := cell_of_block (i := 2) B4.out rfl
  have cb3 := cell_of_block (i := 3) B4.out rfl
  have lc := lt_of_block C4.out
  have cc0 := cell_of_block (i := 0) C4.out rfl
  have cc1 := cell_of_block (i := 1) C4.out rfl
  have cc2 := cell_of_block (i := 2) C4.out rfl
  have cc3 := cell_of_block (i := 3) C4.out rfl
  go_wp2_with fail
  refine (at_val _ _ _ _ _ h HTC.out HSAME.out _).mono ?_
  rintro e w5 ⟨rfl, hb5⟩
  have Z5 := Lib.hid (heap_below_keep hb5 Z4.out)
  have B5 := Lib.hid (heap_below_keep hb5 B4.out)
  have C5 := Lib.hid (heap_below_keep hb5 C4.out)
  have HB5 := Lib.hid hb5
  clear hb5
  clear lz cz0 cz1 lb cb0 cb1 cb2 cb3 lc cc0 cc1 cc2 cc3
  have lz := lt_of_block Z5.out
  have cz0 := cell_of_block (i := 0) Z5.out rfl
  have cz1 := cell_of_block (i := 1) Z5.out rfl
  have lb := lt_of_block B5.out
  have cb0 := cell_of_block (i := 0) B5.out rfl
  have cb1 := cell_of_block (i := 1) B5.out rfl
  have cb2 := cell_of_block (i := 2) B5.out rfl
  have cb3 := cell_of_block (i := 3) B5.out rfl
  have lc := lt_of_block C5.out
  have cc0 := cell_of_block (i := 0) C5.out rfl
  have cc1 := cell_of_block (i := 1) C5.out rfl
  have cc2 := cell_of_block (i := 2) C5.out rfl
  have cc3 := cell_of_block (i := 3) C5.out rfl
  go_wp2_with fail
  refine (HLV.out _).mono ?_
  rintro e w6 ⟨rfl, hb6⟩
  have Z6 := Lib.hid (heap_below_keep hb6 Z5.out)
  have B6 := Lib.hid (heap_below_keep hb6 B5.out)
  have C6 := Lib.hid (heap_below_keep hb6 C5.out)
  have HB6 := Lib.hid hb6
  clear hb6
  clear lz cz0 cz1 lb cb0 cb1 cb2 cb3 lc cc0 cc1 cc2 cc3
  have lz := lt_of_block Z6.out
  have cz0 := cell_of_block (i := 0) Z6.out rfl
  have cz1 := cell_of_block (i := 1) Z6.out rfl
  have lb := lt_of_block B6.out
  have cb0 := cell_of_block (i := 0) B6.out rfl
  have cb1 := cell_of_block (i := 1) B6.out rfl
  have cb2 := cell_of_block (i := 2) B6.out rfl
  have cb3 := cell_of_block (i := 3) B6.out rfl
  have lc := lt_of_block C6.out
  have cc0 := cell_of_block (i := 0) C6.out rfl
  have cc1 := cell_of_block (i := 1) C6.out rfl
  have cc2 := cell_of_block (i := 2) C6.out rfl
  have cc3 := cell_of_block (i := 3) C6.out rfl
  go_wp2
  go_ret
  refine ⟨rfl, ?_⟩
  have f0 := HB1.out
  have f1 := HB2.out
  have f2 := HBq.out
  have f3 := HB3.out
  have f4 := HB4.out
  have f5 := HB5.out
  have f6 := HB6.out
  repeat (first | (with_reducible exact Below.refl _ _) | (with_reducible assumption) | (with_reducible refine bset ?_ (by first | omega | (simp; done) | (simp; omega)) _) | (with_reducible refine balloc ?_ _) | (with_reducible refine bdrew ?_) | (with_reducible refine bdrewN ?_ _) | (with_reducible refine bstep ?_ (by assumption)))
set_option maxRecDepth 100000 in
set_option maxHeartbeats 4000000 in
theorem lawAfter_never_b (HL : Lives) (r b t l g n z0 z1 R B T L k h : Int) (hx : OkX r b t l g) (hR : ofR r g = R) (hB : ofB b g = B) (hT : ofT b t g = T) (hL : ofL l g = L) (hok : okB R B T L = true)
    (hn : 0 ≤ n ∧ n ≤ 4294967295) (hz : 0 ≤ z0 ∧ z0 ≤ 65535) (hz1 : 0 ≤ z1 ∧ z1 ≤ 65535) (cm : 4611686018427387904 < L + z0) (hg : gM T R (4611686018427387904 - L) B = h) (hk : waM R B n h = k) (hc0k : k = -1) (hlt : h < n) (hBn : B < n ∨ R = 0) (w : World) :
    Calls Try.prog 5 #[xV r b t l g, .int .u32 n, .agg #[.int .u16 z0, .int .u16 z1]] w fun e w' => e = .returned (.bool true) ∧ Below w.heap.size w w' := by
  obtain ⟨a1, a2, a3, a4, a5, a6, a7, a8⟩ := okB_iff hok
  obtain ⟨n0, n1⟩ := hn
  obtain ⟨y0, y1⟩ := hz
  obtain ⟨x0, x1⟩ := hz1
  have hh1 : h ≤ B := by rw [← hg]; exact gM_le
  have hh0 : T ≤ h := by rw [← hg]; exact gM_ge (by omega) (by omega) (by omega)
  have hN := okN_mk hok (show L ≤ 4611686018427387904 by omega) (show 4611686018427387904 ≤ 4611686018427387904 by omega) n0
  -- looked at in between
  have u0 : 0 ≤ z1 % (4611686018427387904 - L + 1) := Int.emod_nonneg _ (by omega)
  have u1 : z1 % (4611686018427387904 - L + 1) < 4611686018427387904 - L + 1 := Int.emod_lt_of_pos _ (by omega)
  obtain ⟨m, hm⟩ : ∃ m, z1 % (4611686018427387904 - L + 1) = m := ⟨_, rfl⟩
  rw [hm] at u0 u1
  obtain ⟨c, hc⟩ : ∃ c, gM T R (L + m - L) B = c := ⟨_, rfl⟩
  have hc0 : T ≤ c := by rw [← hc]; exact gM_ge (by omega) (by omega) (by omega)
  have hc1 : c ≤ B := by rw [← hc]; exact gM_le
  have hokc : okB R B c (L + m) = true := okB_true (by omega)
  have hsame : gM c R (4611686018427387904 - (L + m)) B = h := by
    rw [← hc, ← hg, gM_add a6 a1 (by omega) (by omega), show L + m - L + (4611686018427387904 - (L + m)) = 4611686018427387904 - L by omega]
  have hTc := okT_mk hokc (show L + m ≤ 4611686018427387904 by omega) (show 4611686018427387904 ≤ 4611686018427387904 by omega)
  have hTT := okT_mk hok (show L ≤ 4611686018427387904 by omega) (show 4611686018427387904 ≤ 4611686018427387904 by omega)
  have hN0 := okN_mk (n := 0) hok (show L ≤ L + m by omega) (show L + m ≤ 4611686018427387904 by omega) (by omega)
  have h0c : 0 ≤ c := by omega
  subst hc0k
  obtain ⟨e, he⟩ : ∃ e, gM T R (4611686018427387904 - L) B = e := ⟨_, rfl⟩
  have hle : e < n := by
    rcases hBn with q | q
    · have : e ≤ B := by rw [← he]; exact gM_le
      omega
    · subst q; rw [← he, gM_lo (by simp; omega)]; simp; omega
  have hNe := okN_mk (n := n) hok (show L ≤ 4611686018427387904 by omega) (Int.le_refl _) n0
  have HNE := Lib.hid hNe
  have HE := Lib.hid he
  clear hNe he hBn
  have HLV := Lib.hid HL
  have HX := Lib.hid hx
  have HR := Lib.hid hR
  have HB := Lib.hid hB
  have HT := Lib.hid hT
  have HLL := Lib.hid hL
  have HN := Lib.hid hN
  have HG := Lib.hid hg
  have HK := Lib.hid hk
  have HM := Lib.hid hm
  have HC := Lib.hid hc
  have HSAME := Lib.hid hsame
  have HTC := Lib.hid hTc
  have HTT := Lib.hid hTT
  have HN0 := Lib.hid hN0
  clear HL hx hR hB hT hL hN hg hk hm hc hsame hTc hTT hN0 hok hokc
  go_enter Try.func5, Try.ntmps5
  go_wp2_with fail
  refine (of_val _ _ _ _ _ _ _ _ _ HX.out HR.out HB.out HT.out HLL.out _).mono ?_
  rintro e w1 ⟨rfl, hb1⟩
  have Z1 := Lib.hid (heap_below_keep hb1 (heap_alloc_new_at (k := w.heap.size + 1) (w.alloc (.cells #[.int .u8 r, .int .u8 b, .int .u8 t, .int .u16 l, .int .u8 g] 46)) (.cells #[.int .u16 z0, .int .u16 z1] 48) (by simp)))
  have HB1 := Lib.hid hb1
  clear hb1
  have lz := lt_of_block Z1.out
  have cz0 := cell_of_block (i := 0) Z1.out rfl
  have cz1 := cell_of_block (i := 1) Z1.out rfl
  go_wp2_with fail
  refine (after_val _ _ _ _ _ _ (-1) HN.out (by rw [HG.out]; exact HK.out) _).mono ?_
  rintro e w2 ⟨rfl, hb2⟩
  have Z2 := Lib.hid (heap_below_keep hb2 (heap_alloc_keep Z1.out))
  have B2 := Lib.hid (heap_below_keep hb2 (heap_alloc_new w1 (bO R B T L)))
  have HB2 := Lib.hid hb2
  clear hb2
  clear lz cz0 cz1
  have lz := lt_of_block Z2.out
  have cz0 := cell_of_block (i := 0) Z2.out rfl
  have cz1 := cell_of_block (i := 1) Z2.out rfl
  have lb := lt_of_block B2.out
  have cb0 := cell_of_block (i := 0) B2.out rfl
  have cb1 := cell_of_block (i := 1) B2.out rfl
  have cb2 := cell_of_block (i := 2) B2.out rfl
  have cb3 := cell_of_block (i := 3) B2.out rfl
  go_wp2_with fail
  refine (take_nval _ _ _ _ _ _ e HNE.out HE.out hle _).mono ?_
  rintro e w3 ⟨rfl, hb3⟩
  have Z3 := Lib.hid (heap_below_keep hb3 Z2.out)
  have B3 := Lib.hid (heap_below_keep hb3 B2.out)
  have HB3 := Lib.hid hb3
  clear hb3
  clear lz cz0 cz1 lb cb0 cb1 cb2 cb3
  have lz := lt_of_block Z3.out
  have cz0 := cell_of_block (i := 0) Z3.out rfl
  have cz1 := cell_of_block (i := 1) Z3.out rfl
  have lb := lt_of_block B3.out
  have cb0 := cell_of_block (i := 0) B3.out rfl
  have cb1 := cell_of_block (i := 1) B3.out rfl
  have cb2 := cell_of_block (i := 2) B3.out rfl
  have cb3 := cell_of_block (i := 3) B3.out rfl
  go_wp2_with fail
  go_quiet (fail)
  rw [HM.out, IntWalk.wrap64_in (L + m) (by omega)]
  have hZq := heap_drewN_keep (w := (w3.alloc (bO R B T L))) (nq := nq) (heap_alloc_keep Z3.out)
  have hBq := heap_drewN_keep (w := (w3.alloc (bO R B T L))) (nq := nq) (heap_alloc_keep B3.out)
  have hbq : Below w3.heap.size w3 ((w3.alloc (bO R B T L)).drewN nq) := bdrewN (balloc (Below.refl _ _) _) nq
  generalize (w3.alloc (bO R B T L)).drewN nq = wq at hZq hBq hbq ⊢
  have Zq := Lib.hid hZq
  have Bq := Lib.hid hBq
  have HBq := Lib.hid hbq
  clear hbq hZq hBq
  clear lz cz0 cz1 lb cb0 cb1 cb2 cb3
  have lz := lt_of_block Zq.out
  have cz0 := cell_of_block (i := 0) Zq.out rfl
  have cz1 := cell_of_block (i := 1) Zq.out rfl
  have lb := lt_of_block Bq.out
  have cb0 := cell_of_block (i := 0) Bq.out rfl
  have cb1 := cell_of_block (i := 1) Bq.out rfl
  have cb2 := cell_of_block (i := 2) Bq.out rfl
  have cb3 := cell_of_block (i := 3) Bq.out rfl
  go_wp2_with fail
  refine (take_yval _ _ _ _ _ _ c HN0.out HC.out h0c _).mono ?_
  rintro e w4 ⟨rfl, hb4⟩
  have Z4 := Lib.hid (heap_below_keep hb4 Zq.out)
  have B4 := Lib.hid (heap_below_keep hb4 Bq.out)
  have HB4 := Lib.hid hb4
  clear hb4
  clear lz cz0 cz1 lb cb0 cb1 cb2 cb3
  have lz := lt_of_block Z4.out
  have cz0 := cell_of_block (i := 0) Z4.out rfl
  have cz1 := cell_of_block (i := 1) Z4.out rfl
  have lb := lt_of_block B4.out
  have cb0 := cell_of_block (i := 0) B4.out rfl
  have cb1 := cell_of_block (i := 1) B4.out rfl
  have cb2 := cell_of_block (i := 2) B4.out rfl
  have cb3 := cell_of_block (i := 3) B4.out rfl
  go_wp2_with fail
  refine (at_val _ _ _ _ _ h HTT.out HG.out _).mono ?_
  rintro e w5 ⟨rfl, hb5⟩
  have Z5 := Lib.hid (heap_below_keep hb5 (heap_alloc_keep Z4.out))
  have B5 := Lib.hid (heap_below_keep hb5 (heap_alloc_keep B4.out))
  have C5 := Lib.hid (heap_below_keep hb5 (heap_alloc_new w4 (bO R B c (L + m))))
  have HB5 := Lib.hid hb5
  clear hb5
  clear lz cz0 cz1 lb cb0 cb1 cb2 cb3
  have lz := lt_of_block Z5.out
  have cz0 := cell_of_block (i := 0) Z5.out rfl
  have cz1 := cell_of_block (i := 1) Z5.out rfl
  have lb := lt_of_block B5.out
  have cb0 := cell_of_block (i := 0) B5.out rfl
  have cb1 := cell_of_block (i := 1) B5.out rfl
  have cb2 := cell_of_block (i := 2) B5.out rfl
  have cb3 := cell_of_block (i := 3) B5.out rfl
  have lc := lt_of_block C5.out
  have cc0 := cell_of_block (i := 0) C5.out rfl
  have cc1 := cell_of_block (i := 1) C5.out rfl
  have cc2 := cell_of_block (i := 2) C5.out rfl
  have cc3 := cell_of_block (i := 3) C5.out rfl
  go_wp2_with fail
  refine (at_val _ _ _ _ _ h HTC.out HSAME.out _).mono ?_
  rintro e w6 ⟨rfl, hb6⟩
  have Z6 := Lib.hid (heap_below_keep hb6 Z5.out)
  have B6 := Lib.hid (heap_below_keep hb6 B5.out)
  have C6 := Lib.hid (heap_below_keep hb6 C5.out)
  have HB6 := Lib.hid hb6
  clear hb6
  clear lz cz0 cz1 lb cb0 cb1 cb2 cb3 lc cc0 cc1 cc2 cc3
  have lz := lt_of_block Z6.out
  have cz0 := cell_of_block (i := 0) Z6.out rfl
  have cz1 := cell_of_block (i := 1) Z6.out rfl
  have lb := lt_of_block B6.out
  have cb0 := cell_of_block (i := 0) B6.out rfl
  have cb1 := cell_of_block (i := 1) B6.out rfl
  have cb2 := cell_of_block (i := 2) B6.out rfl
  have cb3 := cell_of_block (i := 3) B6.out rfl
  have lc := lt_of_block C6.out
  have cc0 := cell_of_block (i := 0) C6.out rfl
  have cc1 := cell_of_block (i := 1) C6.out rfl
  have cc2 := cell_of_block (i := 2) C6.out rfl
  have cc3 := cell_of_block (i := 3) C6.out rfl
  go_wp2_with fail
  refine (HLV.out _).mono ?_
  rintro e w7 ⟨rfl, hb7⟩
  have Z7 := Lib.hid (heap_below_keep hb7 Z6.out)
  have B7 := Lib.hid (heap_below_keep hb7 B6.out)
  have C7 := Lib.hid (heap_below_keep hb7 C6.out)
  have HB7 := Lib.hid hb7
  clear hb7
  clear lz cz0 cz1 lb cb0 cb1 cb2 cb3 lc cc0 cc1 cc2 cc3
  have lz := lt_of_block Z7.out
  have cz0 := cell_of_block (i := 0) Z7.out rfl
  have cz1 := cell_of_block (i := 1) Z7.out rfl
  have lb := lt_of_block B7.out
  have cb0 := cell_of_block (i := 0) B7.out rfl
  have cb1 := cell_of_block (i := 1) B7.out rfl
  have cb2 := cell_of_block (i := 2) B7.out rfl
  have cb3 := cell_of_block (i := 3) B7.out rfl
  have lc := lt_of_block C7.out
  have cc0 := cell_of_block (i := 0) C7.out rfl
  have cc1 := cell_of_block (i := 1) C7.out rfl
  have cc2 := cell_of_block (i := 2) C7.out rfl
  have cc3 := cell_of_block (i := 3) C7.out rfl
  go_wp2
  go_ret
  refine ⟨rfl, ?_⟩
  have f0 := HB1.out
  have f1 := HB2.out
  have f2 := HB3.out
  have f3 := HBq.out
  have f4 := HB4.out
  have f5 := HB5.out
  have f6 := HB6.out
  have f7 := HB7.out
  repeat (first | (with_reducible exact Below.refl _ _) | (with_reducible assumption) | (with_reducible refine bset ?_ (by first | omega | (simp; done) | (simp; omega)) _) | (with_reducible refine balloc ?_ _) | (with_reducible refine bdrew ?_) | (with_reducible refine bdrewN ?_ _) | (with_reducible refine bstep ?_ (by assumption)))
theorem lawAfter_any (HL : Lives) (r b t l g n z0 z1 : Int) (hx : OkX r b t l g) (hn : 0 ≤ n ∧ n ≤ 4294967295) (hz : 0 ≤ z0 ∧ z0 ≤ 65535) (hz1 : 0 ≤ z1 ∧ z1 ≤ 65535) (w : World) :
    Calls Try.prog 5 #[xV r b t l g, .int .u32 n, .agg #[.int .u16 z0, .int .u16 z1]] w fun e w' => e = .returned (.bool true) ∧ Below w.heap.size w w' := by
  have hok := of_ok hx
  obtain ⟨a1, a2, a3, a4, a5, a6, a7, a8⟩ := okB_iff hok
  by_cases cm : ofL l g + z0 ≤ 4611686018427387904
  · have hh1 : gM (ofT b t g) (ofR r g) (ofL l g + z0 - ofL l g) (ofB b g) ≤ ofB b g := gM_le
    have hh0 : ofT b t g ≤ gM (ofT b t g) (ofR r g) (ofL l g + z0 - ofL l g) (ofB b g) := gM_ge (by omega) (by omega) (by omega)
    rcases wa_spec (n := n) (by omega) hh1 a1 a4 hn.1 with ⟨e1, e2⟩ | ⟨e1, e2, e3⟩ | ⟨e1, e2, e3, e4⟩
    · exact lawAfter_zero_a HL r b t l g n z0 z1 _ _ _ _ _ _ hx rfl rfl rfl rfl hok hn hz hz1 cm rfl rfl e1 w
    · exact lawAfter_never_a HL r b t l g n z0 z1 _ _ _ _ _ _ hx rfl rfl rfl rfl hok hn hz hz1 cm rfl rfl e1 e2 e3 w
    · by_cases f : ofL l g + z0 + waM (ofR r g) (ofB b g) n (gM (ofT b t g) (ofR r g) (ofL l g + z0 - ofL l g) (ofB b g)) ≤ 4611686018427387904
      · exact lawAfter_some_a HL r b t l g n z0 z1 _ _ _ _ _ _ hx rfl rfl rfl rfl hok hn hz hz1 cm rfl rfl ⟨e1, e2⟩ f e3 e4 w
      · exact lawAfter_far_a HL r b t l g n z0 z1 _ _ _ _ _ _ hx rfl rfl rfl rfl hok hn hz hz1 cm rfl rfl ⟨e1, e2⟩ (by omega) w
  · have cm : 4611686018427387904 < ofL l g + z0 := by omega
    have hh1 : gM (ofT b t g) (ofR r g) (4611686018427387904 - ofL l g) (ofB b g) ≤ ofB b g := gM_le
    have hh0 : ofT b t g ≤ gM (ofT b t g) (ofR r g) (4611686018427387904 - ofL l g) (ofB b g) := gM_ge (by omega) (by omega) (by omega)
    rcases wa_spec (n := n) (by omega) hh1 a1 a4 hn.1 with ⟨e1, e2⟩ | ⟨e1, e2, e3⟩ | ⟨e1, e2, e3, e4⟩
    · exact lawAfter_zero_b HL r b t l g n z0 z1 _ _ _ _ _ _ hx rfl rfl rfl rfl hok hn hz hz1 cm rfl rfl e1 w
    · exact lawAfter_never_b HL r b t l g n z0 z1 _ _ _ _ _ _ hx rfl rfl rfl rfl hok hn hz hz1 cm rfl rfl e1 e2 e3 w
    · exact lawAfter_far_b HL r b t l g n z0 z1 _ _ _ _ _ _ hx rfl rfl rfl rfl hok hn hz hz1 cm rfl rfl ⟨e1, e2⟩ (by omega) w
end Go.Proofs.Yteojndglglkgpaa
