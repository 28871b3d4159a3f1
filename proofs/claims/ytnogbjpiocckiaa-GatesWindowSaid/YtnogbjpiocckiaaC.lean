import Derived.Test.YtnogbjpiocckiaaB
namespace Go.Proofs.Ytnogbjpiocckiaa
open Go.RowKit
set_option linter.unusedVariables false
set_option linter.unusedSimpArgs false
abbrev takeV (R B T L : Int) (b : Bool) (e : Int) : Value := .tuple #[bV R B T L, .bool b, .int .i64 e]
theorem ret_two {a b c d : Int} (h : a = c) (g : b = d := by rfl) : Ending.returned (.tuple #[.int .i64 a, .int .i64 b]) = .returned (two c d) := by rw [h, g]
set_option maxHeartbeats 1000000 in
theorem take_yes (R B T L t n : Int) (h : okN R B T L t n = true) (hn : n ≤ gM T R (t - L) B) (w : World) :
    Calls Try.prog 24 #[bV R B T L, .int .i64 t, .int .i64 n] w fun e w' => e = .returned (takeV R B (gM T R (t - L) B - n) t true 0) ∧ Below w.heap.size w w' := by
  have H := Lib.hid h
  have h0 : 0 ≤ n := by simp only [okN, Bool.and_eq_true, decide_eq_true_eq] at h; exact h.2
  have h1 : B ≤ 2147483648 := by simp only [okN, Bool.and_eq_true] at h; exact (okT_iff h.1).1.2.2.2.1
  have h2 : gM T R (t - L) B ≤ B := gM_le
  clear h
  generalize hg : gM T R (t - L) B = g at *
  have HG := Lib.hid hg
  clear hg
  go_enter Try.func24, Try.ntmps24
  go_wp2_with (go_at_call 33; refine (asked_ok _ _ _ _ _ _ H.out _).mono ?_; rintro e w1 ⟨rfl, hb1⟩; rw [HG.out]; have hz1 := hb1.size; simp at hz1; obtain ⟨hc1, hf1⟩ := bcell hb1; have k2 : w1.cell? ⟨w.heap.size, 2, none⟩ = some (.int .i64 T) := (hc1 _ _ (by simp; omega)).trans (by go_simp); have k3 : w1.cell? ⟨w.heap.size, 3, none⟩ = some (.int .i64 L) := (hc1 _ _ (by simp; omega)).trans (by go_simp))
  refine bodyPost_ret (v := takeV R B (g - n) t true 0) ?_ rfl ⟨rfl, ?_⟩
  · simp only [results, Try.results24]
    go_simp
  · repeat (first | (with_reducible exact Below.refl _ _) | (with_reducible assumption) | (with_reducible refine bset ?_ (by first | omega | (simp; done) | (simp; omega)) _) | (with_reducible refine balloc ?_ _) | (with_reducible refine bdrew ?_) | (with_reducible refine bdrewN ?_ _) | (with_reducible refine bstep ?_ (by assumption)))
set_option maxHeartbeats 1000000 in
theorem take_not (R B T L t n : Int) (h : okN R B T L t n = true) (hn : gM T R (t - L) B < n) (w : World) :
    Calls Try.prog 24 #[bV R B T L, .int .i64 t, .int .i64 n] w fun e w' => e = .returned (takeV R B T L false 0) ∧ Below w.heap.size w w' := by
  have H := Lib.hid h
  clear h
  generalize hg : gM T R (t - L) B = g at *
  have HG := Lib.hid hg
  clear hg
  go_enter Try.func24, Try.ntmps24
  go_wp2_with (go_at_call 33; refine (asked_ok _ _ _ _ _ _ H.out _).mono ?_; rintro e w1 ⟨rfl, hb1⟩; rw [HG.out]; have hz1 := hb1.size; simp at hz1; obtain ⟨hc1, hf1⟩ := bcell hb1)
  refine bodyPost_ret (v := takeV R B T L false 0) ?_ rfl ⟨rfl, ?_⟩
  · simp only [results, Try.results24]
    go_simp
  · repeat (first | (with_reducible exact Below.refl _ _) | (with_reducible assumption) | (with_reducible refine bset ?_ (by first | omega | (simp; done) | (simp; omega)) _) | (with_reducible refine balloc ?_ _) | (with_reducible refine bdrew ?_) | (with_reducible refine bdrewN ?_ _) | (with_reducible refine bstep ?_ (by assumption)))
set_option maxHeartbeats 1000000 in
theorem take_no (R B T L t n : Int) (h : okN R B T L t n = false) (w : World) :
    Calls Try.prog 24 #[bV R B T L, .int .i64 t, .int .i64 n] w fun e w' => e = .returned (takeV 0 0 0 0 false 4) ∧ Below w.heap.size w w' := by
  have H := Lib.hid h
  clear h
  go_enter Try.func24, Try.ntmps24
  go_wp2_with (go_at_call 33; refine (asked_no _ _ _ _ _ _ H.out _).mono ?_; rintro e w1 ⟨rfl, hb1⟩; have hz1 := hb1.size; simp at hz1; obtain ⟨hc1, hf1⟩ := bcell hb1)
  refine bodyPost_ret (v := takeV 0 0 0 0 false 4) ?_ rfl ⟨rfl, ?_⟩
  · simp only [results, Try.results24]
    go_simp
  · repeat (first | (with_reducible exact Below.refl _ _) | (with_reducible assumption) | (with_reducible refine bset ?_ (by first | omega | (simp; done) | (simp; omega)) _) | (with_reducible refine balloc ?_ _) | (with_reducible refine bdrew ?_) | (with_reducible refine bdrewN ?_ _) | (with_reducible refine bstep ?_ (by assumption)))

/-- the wait -/
def waM (R B n have_ : Int) : Int := if n ≤ have_ then 0 else if B < n ∨ R = 0 then -1 else (n - have_ + R - 1) / R
set_option maxHeartbeats 1000000 in
theorem after_ok (R B T L t n : Int) (h : okN R B T L t n = true) (w : World) :
    Calls Try.prog 25 #[bV R B T L, .int .i64 t, .int .i64 n] w fun e w' => e = .returned (two (waM R B n (gM T R (t - L) B)) 0) ∧ Below w.heap.size w w' := by
  have H := Lib.hid h
  have h0 : 0 ≤ n := by simp only [okN, Bool.and_eq_true, decide_eq_true_eq] at h; exact h.2
  obtain ⟨⟨a1, a2, a3, a4, a5, a6, a7, a8⟩, a9, a10⟩ : (0 ≤ R ∧ R ≤ 2147483648 ∧ 1 ≤ B ∧ B ≤ 2147483648 ∧ 0 ≤ T ∧ T ≤ B ∧ 0 ≤ L ∧ L ≤ 4611686018427387904) ∧ L ≤ t ∧ t ≤ 4611686018427387904 := by simp only [okN, Bool.and_eq_true] at h; exact okT_iff h.1
  have h2 : gM T R (t - L) B ≤ B := gM_le
  have h3 : T ≤ gM T R (t - L) B := gM_ge (by omega) (by omega) (by omega)
  clear h
  generalize hg : gM T R (t - L) B = g at *
  have HG := Lib.hid hg
  clear hg
  by_cases c1 : n ≤ g
  · go_enter Try.func25, Try.ntmps25
    go_wp2_with (go_at_call 33; refine (asked_ok _ _ _ _ _ _ H.out _).mono ?_; rintro e w1 ⟨rfl, hb1⟩; rw [HG.out]; have hz1 := hb1.size; simp at hz1; obtain ⟨hc1, hf1⟩ := bcell hb1)
    go_ret2
    exact ⟨ret_two (by simp [waM, c1]), by repeat (first | (with_reducible exact Below.refl _ _) | (with_reducible assumption) | (with_reducible refine bset ?_ (by first | omega | (simp; done) | (simp; omega)) _) | (with_reducible refine balloc ?_ _) | (with_reducible refine bdrew ?_) | (with_reducible refine bdrewN ?_ _) | (with_reducible refine bstep ?_ (by assumption)))⟩
  · by_cases c2 : B < n
    · go_enter Try.func25, Try.ntmps25
      go_wp2_with (go_at_call 33; refine (asked_ok _ _ _ _ _ _ H.out _).mono ?_; rintro e w1 ⟨rfl, hb1⟩; rw [HG.out]; have hz1 := hb1.size; simp at hz1; obtain ⟨hc1, hf1⟩ := bcell hb1)
      go_ret2
      exact ⟨ret_two (by simp [waM, c1, c2]), by repeat (first | (with_reducible exact Below.refl _ _) | (with_reducible assumption) | (with_reducible refine bset ?_ (by first | omega | (simp; done) | (simp; omega)) _) | (with_reducible refine balloc ?_ _) | (with_reducible refine bdrew ?_) | (with_reducible refine bdrewN ?_ _) | (with_reducible refine bstep ?_ (by assumption)))⟩
    · by_cases c3 : R = 0
      · subst c3
        go_enter Try.func25, Try.ntmps25
        go_wp2_with (go_at_call 33; refine (asked_ok _ _ _ _ _ _ H.out _).mono ?_; rintro e w1 ⟨rfl, hb1⟩; rw [HG.out]; have hz1 := hb1.size; simp at hz1; obtain ⟨hc1, hf1⟩ := bcell hb1)
        go_ret2
        exact ⟨ret_two (by simp [waM, c1]), by repeat (first | (with_reducible exact Below.refl _ _) | (with_reducible assumption) | (with_reducible refine bset ?_ (by first | omega | (simp; done) | (simp; omega)) _) | (with_reducible refine balloc ?_ _) | (with_reducible refine bdrew ?_) | (with_reducible refine bdrewN ?_ _) | (with_reducible refine bstep ?_ (by assumption)))⟩
      · have c3' : 1 ≤ R := by omega
        have c3b : (R == 0) = false := by simpa using c3
        go_enter Try.func25, Try.ntmps25
        go_wp2_with (go_at_call 33; refine (asked_ok _ _ _ _ _ _ H.out _).mono ?_; rintro e w1 ⟨rfl, hb1⟩; rw [HG.out]; have hz1 := hb1.size; simp at hz1; obtain ⟨hc1, hf1⟩ := bcell hb1)
        go_ret2
        exact ⟨ret_two (by rw [waM, if_neg (by omega), if_neg (by omega)]), by repeat (first | (with_reducible exact Below.refl _ _) | (with_reducible assumption) | (with_reducible refine bset ?_ (by first | omega | (simp; done) | (simp; omega)) _) | (with_reducible refine balloc ?_ _) | (with_reducible refine bdrew ?_) | (with_reducible refine bdrewN ?_ _) | (with_reducible refine bstep ?_ (by assumption)))⟩
set_option maxHeartbeats 1000000 in
theorem after_no (R B T L t n : Int) (h : okN R B T L t n = false) (w : World) :
    Calls Try.prog 25 #[bV R B T L, .int .i64 t, .int .i64 n] w fun e w' => e = .returned (two 0 4) ∧ Below w.heap.size w w' := by
  have H := Lib.hid h
  clear h
  go_enter Try.func25, Try.ntmps25
  go_wp2_with (go_at_call 33; refine (asked_no _ _ _ _ _ _ H.out _).mono ?_; rintro e w1 ⟨rfl, hb1⟩; have hz1 := hb1.size; simp at hz1; obtain ⟨hc1, hf1⟩ := bcell hb1)
  go_ret2
  exact ⟨rfl, by repeat (first | (with_reducible exact Below.refl _ _) | (with_reducible assumption) | (with_reducible refine bset ?_ (by first | omega | (simp; done) | (simp; omega)) _) | (with_reducible refine balloc ?_ _) | (with_reducible refine bdrew ?_) | (with_reducible refine bdrewN ?_ _) | (with_reducible refine bstep ?_ (by assumption)))⟩
end Go.Proofs.Ytnogbjpiocckiaa
