import Derived.Test.YtnogbjpiocckiaaC
import Derived.Test.YtnogbjpiocckiaaD
namespace Go.Proofs.Ytnogbjpiocckiaa
open Go.RowKit
set_option linter.unusedVariables false
set_option linter.unusedSimpArgs false
set_option maxHeartbeats 1000000 in
theorem refTime_any (R B T L t : Int) (w : World) :
    Calls Try.prog 21 #[bV R B T L, .int .i64 t] w fun e w' => e = .returned (.int .i64 (erB (okT R B T L t))) ∧ Below w.heap.size w w' := by
  cases hc : okB R B T L
  · have hx : okT R B T L t = false := by simp [okT, hc]
    have HX := Lib.hid hx
    have HC := Lib.hid hc
    clear hc hx
    go_enter Try.func21, Try.ntmps21
    go_wp2_with (go_at_call 28; refine (refCheck_any _ _ _ _ _).mono ?_; rintro e w1 ⟨rfl, hb1⟩; rw [HC.out]; simp only [erB, Bool.false_eq_true, if_false]; have hz1 := hb1.size; simp at hz1; obtain ⟨hc1, hf1⟩ := bcell hb1; have hk0 := fun o => hc1 w.heap.size o (by first | omega | (simp; done) | (simp; omega)))
    go_ret
    exact ⟨ret_int (by rw [HX.out]; rfl), by repeat (first | (with_reducible exact Below.refl _ _) | (with_reducible assumption) | (with_reducible refine bset ?_ (by first | omega | (simp; done) | (simp; omega)) _) | (with_reducible refine balloc ?_ _) | (with_reducible refine bdrew ?_) | (with_reducible refine bdrewN ?_ _) | (with_reducible refine bstep ?_ (by assumption)))⟩
  · have HC := Lib.hid hc
    by_cases h1 : t < L
    · have hx : okT R B T L t = false := by rw [okT, hc, inB_false (by omega)]; rfl
      have HX := Lib.hid hx
      clear hc hx
      go_enter Try.func21, Try.ntmps21
      go_wp2_with (go_at_call 28; refine (refCheck_any _ _ _ _ _).mono ?_; rintro e w1 ⟨rfl, hb1⟩; rw [HC.out]; simp only [erB, if_true]; have hz1 := hb1.size; simp at hz1; obtain ⟨hc1, hf1⟩ := bcell hb1; have hk0 := fun o => hc1 w.heap.size o (by first | omega | (simp; done) | (simp; omega)))
      go_ret
      exact ⟨ret_int (by rw [HX.out]; rfl), by repeat (first | (with_reducible exact Below.refl _ _) | (with_reducible assumption) | (with_reducible refine bset ?_ (by first | omega | (simp; done) | (simp; omega)) _) | (with_reducible refine balloc ?_ _) | (with_reducible refine bdrew ?_) | (with_reducible refine bdrewN ?_ _) | (with_reducible refine bstep ?_ (by assumption)))⟩
    · by_cases h2 : 4611686018427387904 < t
      · have hx : okT R B T L t = false := by rw [okT, hc, inB_false (by omega)]; rfl
        have HX := Lib.hid hx
        clear hc hx
        go_enter Try.func21, Try.ntmps21
        go_wp2_with (go_at_call 28; refine (refCheck_any _ _ _ _ _).mono ?_; rintro e w1 ⟨rfl, hb1⟩; rw [HC.out]; simp only [erB, if_true]; have hz1 := hb1.size; simp at hz1; obtain ⟨hc1, hf1⟩ := bcell hb1; have hk0 := fun o => hc1 w.heap.size o (by first | omega | (simp; done) | (simp; omega)))
        go_ret
        exact ⟨ret_int (by rw [HX.out]; rfl), by repeat (first | (with_reducible exact Below.refl _ _) | (with_reducible assumption) | (with_reducible refine bset ?_ (by first | omega | (simp; done) | (simp; omega)) _) | (with_reducible refine balloc ?_ _) | (with_reducible refine bdrew ?_) | (with_reducible refine bdrewN ?_ _) | (with_reducible refine bstep ?_ (by assumption)))⟩
      · have hx : okT R B T L t = true := by rw [okT, hc, inB_true (by omega)]; rfl
        have HX := Lib.hid hx
        clear hc hx
        go_enter Try.func21, Try.ntmps21
        go_wp2_with (go_at_call 28; refine (refCheck_any _ _ _ _ _).mono ?_; rintro e w1 ⟨rfl, hb1⟩; rw [HC.out]; simp only [erB, if_true]; have hz1 := hb1.size; simp at hz1; obtain ⟨hc1, hf1⟩ := bcell hb1; have hk0 := fun o => hc1 w.heap.size o (by first | omega | (simp; done) | (simp; omega)))
        go_ret
        exact ⟨ret_int (by rw [HX.out]; rfl), by repeat (first | (with_reducible exact Below.refl _ _) | (with_reducible assumption) | (with_reducible refine bset ?_ (by first | omega | (simp; done) | (simp; omega)) _) | (with_reducible refine balloc ?_ _) | (with_reducible refine bdrew ?_) | (with_reducible refine bdrewN ?_ _) | (with_reducible refine bstep ?_ (by assumption)))⟩
set_option maxHeartbeats 1000000 in
theorem refAt_ok (R B T L t : Int) (h : okT R B T L t = true) (w : World) :
    Calls Try.prog 22 #[bV R B T L, .int .i64 t] w fun e w' => e = .returned (.int .i64 (gM T R (t - L) B)) ∧ Below w.heap.size w w' := by
  obtain ⟨⟨a1, a2, a3, a4, a5, a6, a7, a8⟩, a9, a10⟩ := okT_iff h
  clear h
  go_enter Try.func22, Try.ntmps22
  go_wp2_with (go_at_call 32; refine (refGrown_any _ _ _ _ (by omega) (by omega) (by omega) (by omega) (by omega) (by omega) (by omega) _).mono ?_; rintro e w2 ⟨rfl, rfl⟩)
  go_ret
  exact ⟨rfl, by repeat (first | (with_reducible exact Below.refl _ _) | (with_reducible assumption) | (with_reducible refine bset ?_ (by first | omega | (simp; done) | (simp; omega)) _) | (with_reducible refine balloc ?_ _) | (with_reducible refine bdrew ?_) | (with_reducible refine bdrewN ?_ _) | (with_reducible refine bstep ?_ (by assumption)))⟩
set_option maxHeartbeats 1000000 in
theorem refMost_ok (R B t : Int) (h : okB R B B t = true) (w : World) :
    Calls Try.prog 20 #[.int .i64 R, .int .i64 B, .int .i64 t] w fun e w' => e = .returned (.int .i64 (gM B R t big)) ∧ w = w' := by
  obtain ⟨a1, a2, a3, a4, a5, a6, a7, a8⟩ := okB_iff h
  clear h
  go_enter Try.func20, Try.ntmps20
  go_wp2_with (go_at_call 32; refine (refGrown_any _ _ _ _ (by omega) (by omega) (by omega) (by omega) (by omega) (by omega) (by omega) _).mono ?_; rintro e w2 ⟨rfl, rfl⟩)
  go_ret
  exact ⟨rfl, rfl⟩

theorem wa_uniq {R B n g k : Int} (h0 : 0 ≤ g) (h1 : g ≤ B) (hR : 0 ≤ R) (hk : 0 ≤ k) (hn : n ≤ gM g R k B) (hl : k = 0 ∨ gM g R (k - 1) B < n) : waM R B n g = k := by
  unfold waM
  by_cases c1 : n ≤ g
  · rw [if_pos c1]
    rcases hl with hl | hl
    · exact hl.symm
    · by_cases e : k = 0
      · exact e.symm
      · have := gM_ge (tok := g) (rate := R) (tk := k - 1) (most := B) h1 hR (by omega); omega
  · rw [if_neg c1]
    have hk1 : 1 ≤ k := by
      by_cases e : k = 0
      · subst e; rw [gM_lo (by simp; omega)] at hn; simp at hn; omega
      · omega
    have hl' : gM g R (k - 1) B < n := by rcases hl with e | e; (· omega); exact e
    have hB : n ≤ B := Int.le_trans hn gM_le
    have hR0 : R ≠ 0 := by
      intro e; subst e; rw [gM_lo (by simp; omega)] at hn; simp at hn; omega
    rw [if_neg (by omega)]
    have e1 : n ≤ g + R * k := by
      by_cases c : B < g + R * k
      · omega
      · rw [gM_lo c] at hn; exact hn
    have e2 : g + R * (k - 1) < n := by
      by_cases c : B < g + R * (k - 1)
      · rw [gM_hi c] at hl'; omega
      · rw [gM_lo c] at hl'; exact hl'
    rw [Int.mul_sub, Int.mul_one] at e2
    have : k = (n - g + R - 1) / R := by
      apply Int.le_antisymm
      · rw [Int.le_ediv_iff_mul_le (by omega), Int.mul_comm]; omega
      · have : (n - g + R - 1) / R < k + 1 := by
          rw [Int.ediv_lt_iff_lt_mul (by omega), Int.add_mul, Int.mul_comm k R]; omega
        omega
    exact this.symm

set_option maxHeartbeats 1000000 in
theorem refAfter_ok (R B T L t n : Int) (h : okN R B T L t n = true) (w : World) :
    Calls Try.prog 23 #[bV R B T L, .int .i64 t, .int .i64 n] w fun e w' => e = .returned (.int .i64 (waM R B n (gM T R (t - L) B))) ∧ Below w.heap.size w w' := by
  have hT : okT R B T L t = true := by simp only [okN, Bool.and_eq_true] at h; exact h.1
  have H := Lib.hid hT
  have h0 : 0 ≤ n := by simp only [okN, Bool.and_eq_true, decide_eq_true_eq] at h; exact h.2
  obtain ⟨⟨a1, a2, a3, a4, a5, a6, a7, a8⟩, a9, a10⟩ := okT_iff hT
  have h2 : gM T R (t - L) B ≤ B := gM_le
  have h3 : T ≤ gM T R (t - L) B := gM_ge (by omega) (by omega) (by omega)
  clear h hT
  generalize hg : gM T R (t - L) B = g at *
  have HG := Lib.hid hg
  clear hg
  by_cases c : gM g R 2147483648 B < n
  · have hf : waM R B n g = -1 := by
      have c1 : ¬ n ≤ g := by have := gM_ge (tok := g) (rate := R) (tk := 2147483648) (most := B) h2 a1 (by omega); omega
      rw [waM, if_neg c1]
      by_cases e : R = 0
      · rw [if_pos (.inr e)]
      · have : B < g + R * 2147483648 ∨ g + R * 2147483648 = B := by omega
        have c2 : gM g R 2147483648 B = B := by
          rcases this with k | k
          · exact gM_hi k
          · rw [gM_lo (by omega)]; exact k
        rw [c2] at c
        rw [if_pos (.inl c)]
    have HF := Lib.hid hf
    have C := Lib.hid c
    clear hf c
    go_enter Try.func23, Try.ntmps23
    go_wp2_with fail
    refine (refAt_ok _ _ _ _ _ H.out _).mono ?_; rintro e w1 ⟨rfl, hb1⟩; rw [HG.out]; have hz1 := hb1.size; simp at hz1; obtain ⟨hc1, hf1⟩ := bcell hb1; have hk0 := fun o => hc1 w.heap.size o (by first | omega | (simp; done) | (simp; omega))
    clear hc1 hf1
    go_wp2_with fail
    refine (refGrown_any _ _ _ _ (by omega) (by omega) (by omega) (by omega) (by omega) (by omega) (by omega) _).mono ?_; rintro e w2 ⟨rfl, rfl⟩
    generalize gM g R 2147483648 B = m at *
    have hm := C.out
    go_wp2
    go_ret
    exact ⟨ret_int HF.out.symm, by repeat (first | (with_reducible exact Below.refl _ _) | (with_reducible assumption) | (with_reducible refine bset ?_ (by first | omega | (simp; done) | (simp; omega)) _) | (with_reducible refine balloc ?_ _) | (with_reducible refine bdrew ?_) | (with_reducible refine bdrewN ?_ _) | (with_reducible refine bstep ?_ (by assumption)))⟩
  · have C := Lib.hid c
    clear c
    go_enter Try.func23, Try.ntmps23
    go_wp2_with fail
    refine (refAt_ok _ _ _ _ _ H.out _).mono ?_; rintro e w1 ⟨rfl, hb1⟩; rw [HG.out]; have hz1 := hb1.size; simp at hz1; obtain ⟨hc1, hf1⟩ := bcell hb1; have hk0 := fun o => hc1 w.heap.size o (by first | omega | (simp; done) | (simp; omega))
    clear hc1 hf1
    go_wp2_with fail
    refine (refGrown_any _ _ _ _ (by omega) (by omega) (by omega) (by omega) (by omega) (by omega) (by omega) _).mono ?_; rintro e w2 ⟨rfl, rfl⟩
    have hm := C.out
    generalize hgm : gM g R 2147483648 B = m at *
    have HM := Lib.hid hgm
    clear hgm
    go_wp2
    go_loop [8, 9, 10] (fun x y _ => ∃ lo hi : Int, x = .int .i64 lo ∧ y = .int .i64 hi ∧ -1 ≤ lo ∧ lo < hi ∧ hi ≤ 2147483648 ∧ n ≤ gM g R hi B ∧ (lo = -1 ∨ gM g R lo B < n)) (fun x y _ => (intOf y - intOf x).toNat)
    case atStart => exact ⟨-1, 2147483648, rfl, rfl, by omega, by omega, by omega, by rw [HM.out]; omega, .inl rfl⟩
    case round =>
      obtain ⟨lo, hi, rfl, rfl, r1, r2, r3, r4, r5⟩ := hrel
      have R4 := Lib.hid r4
      have R5 := Lib.hid r5
      clear r4 r5
      by_cases d : 1 < hi - lo
      · have m1 : 0 ≤ (lo + hi) / 2 := by omega
        have m2 : (lo + hi) / 2 < hi := by omega
        have m3 : lo < (lo + hi) / 2 := by omega
        have m4 : 0 ≤ lo + hi := by omega
        go_wp2_with fail
        refine (refGrown_any _ _ _ _ (by omega) (by omega) (by omega) (by omega) (by omega) (by omega) (by omega) _).mono ?_; rintro e w2 ⟨rfl, rfl⟩
        generalize hmid : gM g R ((lo + hi) / 2) B = mid at *
        have HMID := Lib.hid hmid
        clear hmid
        by_cases f : mid < n
        · go_wp2
          go_round
          case rel => exact ⟨(lo + hi) / 2, hi, rfl, rfl, by omega, by omega, by omega, R4.out, .inr (by rw [HMID.out]; exact f)⟩
          case measure => simp [intOf]; omega
        · go_wp2
          go_round
          case rel => exact ⟨lo, (lo + hi) / 2, rfl, rfl, by omega, by omega, by omega, by rw [HMID.out]; omega, R5.out⟩
          case measure => simp [intOf]; omega
      · go_wp2
        go_ret
        refine ⟨ret_int (wa_uniq (by omega) (by omega) (by omega) (by omega) R4.out ?_).symm, by repeat (first | (with_reducible exact Below.refl _ _) | (with_reducible assumption) | (with_reducible refine bset ?_ (by first | omega | (simp; done) | (simp; omega)) _) | (with_reducible refine balloc ?_ _) | (with_reducible refine bdrew ?_) | (with_reducible refine bdrewN ?_ _) | (with_reducible refine bstep ?_ (by assumption)))⟩
        have e : lo = hi - 1 := by omega
        have r5 := R5.out
        rw [e] at r5
        rcases r5 with r5 | r5
        · exact .inl (by omega)
        · exact .inr r5
end Go.Proofs.Ytnogbjpiocckiaa
