/-
  LexersCheck: what a text is as a whole, from the token that begins it.
-/
import Derived.Test.YtbmflenlbbgjiaaCf
namespace Go.Proofs.Ytbmflenlbbgjiaa
open Go.RowKit
set_option linter.unusedVariables false
set_option linter.unusedSimpArgs false
/-- what Check answers -/
def chkL (k : Int) (l : List UInt8) : Int := if k < 1 ∨ 3 < k then 10 else if k = kindL l then 0 else if k = 1 then 6 else 5
theorem all_bytes {p : UInt8 → Prop} [DecidablePred p] (h : ∀ n : Fin 256, p (UInt8.ofNat n.1)) (c : UInt8) : p c := by
  have := h ⟨c.toNat, c.toNat_lt⟩
  simpa using this
theorem cls_cases : ∀ c : UInt8, (clsN (c.toNat : Nat) = 3 ↔ [c] ∈ sgns ∧ c ≠ 45) ∧ (clsN (c.toNat : Nat) = 4 ↔ c = 45) ∧ (clsN (c.toNat : Nat) = 2 ↔ letU c = true) ∧ (clsN (c.toNat : Nat) = 2 → [c] ∉ sgns) ∧
    (clsN (c.toNat : Nat) = 0 ∨ clsN (c.toNat : Nat) = 1 ∨ clsN (c.toNat : Nat) = 2 ∨ clsN (c.toNat : Nat) = 3 ∨ clsN (c.toNat : Nat) = 4) :=
  all_bytes (p := fun c => (clsN (c.toNat : Nat) = 3 ↔ [c] ∈ sgns ∧ c ≠ 45) ∧ (clsN (c.toNat : Nat) = 4 ↔ c = 45) ∧ (clsN (c.toNat : Nat) = 2 ↔ letU c = true) ∧ (clsN (c.toNat : Nat) = 2 → [c] ∉ sgns) ∧
    (clsN (c.toNat : Nat) = 0 ∨ clsN (c.toNat : Nat) = 1 ∨ clsN (c.toNat : Nat) = 2 ∨ clsN (c.toNat : Nat) = 3 ∨ clsN (c.toNat : Nat) = 4)) (by decide +kernel)
theorem sgns_cons {c : UInt8} {l : List UInt8} (h : c :: l ∈ sgns) : (l = [] ∧ [c] ∈ sgns) ∨ (c = 45 ∧ l = [62]) := by
  simp only [sgns, List.mem_cons, List.not_mem_nil, or_false, List.cons.injEq] at h ⊢
  rcases h with h | h | h | h | h | h | h | h | h | h | h | h | h | h | h <;> simp [h]
theorem word_all {l : List UInt8} (h : wordL l = true) : l.all letU = true ∧ 1 ≤ l.length ∧ l.length ≤ 9 := by
  unfold wordL at h
  simp only [Bool.or_eq_true, decide_eq_true_eq] at h
  rcases h with (rfl | rfl) | rfl <;> decide +kernel
theorem kind_not {c : UInt8} {l : List UInt8} (h : letU c = false) (hs : c :: l ∉ sgns) : kindL (c :: l) = 0 := by
  unfold kindL
  rw [if_neg hs, if_neg, if_neg]
  · rintro ⟨ha, -⟩
    simp [h] at ha
  · intro hw
    have := (word_all hw).1
    simp [h] at this
theorem let_not {c : UInt8} (h : clsN (c.toNat : Nat) ≠ 2) : letU c = false := by
  have := (cls_cases c).2.2.1
  cases hl : letU c
  · rfl
  · exact absurd (this.2 hl) h
/-- a sign of one byte -/
theorem kind_3 {c : UInt8} {l : List UInt8} (h : clsN (c.toNat : Nat) = 3) : kindL (c :: l) = if l = [] then 3 else 0 := by
  have hc := ((cls_cases c).1.1 h)
  by_cases hl : l = []
  · subst hl; unfold kindL; rw [if_pos hc.1, if_pos rfl]
  · rw [if_neg hl]
    refine kind_not (let_not (by omega)) fun hm => ?_
    rcases sgns_cons hm with ⟨rfl, -⟩ | ⟨h2, -⟩
    · exact hl rfl
    · exact hc.2 h2
theorem kind_4 {c : UInt8} {l : List UInt8} (h : clsN (c.toNat : Nat) = 4) : kindL (c :: l) = if l = [] ∨ l = [62] then 3 else 0 := by
  have hc := ((cls_cases c).2.1.1 h)
  subst hc
  by_cases hl : l = [] ∨ l = [62]
  · rcases hl with rfl | rfl <;> decide +kernel
  · rw [if_neg hl]
    refine kind_not (let_not (by omega)) fun hm => ?_
    rcases sgns_cons hm with ⟨rfl, -⟩ | ⟨-, rfl⟩
    · exact hl (.inl rfl)
    · exact hl (.inr rfl)
theorem kind_01 {c : UInt8} {l : List UInt8} (h : clsN (c.toNat : Nat) = 0 ∨ clsN (c.toNat : Nat) = 1) : kindL (c :: l) = 0 := by
  refine kind_not (let_not (by omega)) fun hm => ?_
  rcases sgns_cons hm with ⟨rfl, h1⟩ | ⟨h2, rfl⟩
  · by_cases h45 : c = 45
    · have := (cls_cases c).2.1.2 h45; omega
    · have := (cls_cases c).1.2 ⟨h1, h45⟩; omega
  · have := (cls_cases c).2.1.2 h2; omega
theorem kind_2 {l : List UInt8} {n : Nat} (h1 : 1 ≤ n) (hn : n ≤ l.length) (hl : (l.take n).all letU = true) (hx : ∀ h : n < l.length, clsN ((l[n].toNat : Nat) : Int) ≠ 2) :
    kindL l = if n = l.length ∧ n ≤ 16 then (if wordL (l.take n) = true then 2 else 1) else 0 := by
  have hs : l ∉ sgns := by
    match l, hn with
    | c :: l, hn =>
      intro hm
      have hc : letU c = true := by
        match n, h1 with
        | n + 1, _ => simp at hl; exact hl.1
      have h2 := (cls_cases c).2.2.1.2 hc
      rcases sgns_cons hm with ⟨rfl, h1⟩ | ⟨h3, rfl⟩
      · exact (cls_cases c).2.2.2.1 h2 h1
      · have := (cls_cases c).2.1.2 h3; omega
    | [], hn => simp at hn; omega
  unfold kindL
  rw [if_neg hs]
  by_cases hz : n = l.length
  · subst hz
    rw [List.take_length] at hl ⊢
    by_cases h16 : l.length ≤ 16
    · rw [if_pos (c := l.length = l.length ∧ l.length ≤ 16) ⟨rfl, h16⟩]
      by_cases hw : wordL l = true
      · rw [if_pos hw, if_pos hw]
      · rw [if_neg hw, if_neg hw, if_pos ⟨hl, h1, h16⟩]
    · rw [if_neg (c := l.length = l.length ∧ l.length ≤ 16) (by omega), if_neg, if_neg (by omega)]
      intro hw
      have := word_all hw
      omega
  · have hlt : n < l.length := by omega
    have hf := let_not (hx hlt)
    have hnot : ¬ l.all letU = true := by
      intro ha
      rw [List.all_eq_true] at ha
      have := ha _ (List.getElem_mem hlt)
      rw [hf] at this; cases this
    rw [if_neg (c := n = l.length ∧ n ≤ 16) (by omega), if_neg, if_neg (by rintro ⟨h, -⟩; exact hnot h)]
    intro hw
    exact hnot (word_all hw).1
theorem chk_ok {k : Int} {l : List UInt8} (h1 : 1 ≤ k) (h3 : k ≤ 3) : chkL k l = if kindL l = k then 0 else if k = 1 then 6 else 5 := by
  unfold chkL
  rw [if_neg (by omega)]
  by_cases h : kindL l = k
  · rw [if_pos h.symm, if_pos h]
  · rw [if_neg (fun e => h e.symm), if_neg h]
theorem ext_list (s : ByteArray) (n : Nat) : (s.extract 0 n).toList = s.toList.take n := by
  rw [ByteArray.toList_eq, ByteArray.toList_eq]
  simp
theorem ext_self {s : ByteArray} {n : Nat} (h : n ≤ s.size) : s.extract 0 n = s ↔ n = s.size := by
  constructor
  · intro e
    have := congrArg ByteArray.size e
    simp at this
    omega
  · rintro rfl
    simp
theorem list_cons {s : ByteArray} (h : 0 < s.size) : ∃ l, s.toList = s[0] :: l ∧ l.length + 1 = s.size ∧ ∀ h : 1 < s.size, ∃ m, l = s[1] :: m := by
  have hl : s.toList.length = s.size := by rw [ByteArray.toList_eq]; simp
  have h0 : s.toList[0]? = some s[0] := by
    rw [ByteArray.toList_eq]
    show s.data.toList[0]? = some s.data[0]
    simp
  have h1 : ∀ h : 1 < s.size, s.toList[1]? = some s[1] := by
    intro h
    rw [ByteArray.toList_eq]
    show s.data.toList[1]? = some s.data[1]
    simp
  match hx : s.toList with
  | [] => rw [hx] at hl; simp at hl; omega
  | a :: l =>
    rw [hx] at hl h0 h1
    simp at hl h0 h1
    subst h0
    refine ⟨l, rfl, hl, fun h => ?_⟩
    match l, h1 h with
    | b :: m, e => simp at e; subst e; exact ⟨m, rfl⟩
/-- what next tells about a text -/
def tells (s : ByteArray) (q : Int) (t : ByteArray) (e : Int) : Prop := ∀ k : Int, 1 ≤ k → k ≤ 3 → chkL k s.toList = if e = 0 ∧ q = k ∧ t = s then 0 else if k = 1 then 6 else 5
theorem fin_yes {q k : Int} {t s : ByteArray} (ht : t = s) (x : Int) : (if q = k then 0 else x) = if (0 : Int) = 0 ∧ q = k ∧ t = s then 0 else x := by simp [ht]
theorem fin_no {q k v : Int} {t s : ByteArray} (ht : ¬ t = s) (hv : v = 0) (h1 : 1 ≤ k) (x : Int) : (if v = k then 0 else x) = if (0 : Int) = 0 ∧ q = k ∧ t = s then 0 else x := by
  rw [if_neg (by omega), if_neg (by simp [ht])]
theorem nil_size {l : List UInt8} {n : Nat} (hn : l.length + 1 = n) : l = [] ↔ 1 = n := by
  constructor
  · rintro rfl; simpa using hn
  · intro h; match l, hn with | [], _ => rfl | _ :: _, hn => simp at hn; omega
theorem tells_3 {s : ByteArray} (h0 : 0 < s.size) (hc : clsN ((s[0].toNat : Nat) : Int) = 3) : tells s 3 (s.extract 0 1) 0 := by
  intro k h1 h3
  obtain ⟨l, hl, hn, -⟩ := list_cons h0
  have hx := (nil_size hn).trans (ext_self (s := s) (n := 1) (by omega)).symm
  rw [chk_ok h1 h3]
  by_cases h : l = []
  · rw [show kindL s.toList = 3 by rw [hl, kind_3 hc, if_pos h]]
    exact fin_yes (hx.1 h) _
  · exact fin_no (fun e => h (hx.2 e)) (by rw [hl, kind_3 hc, if_neg h]) h1 _
theorem tells_4a {s : ByteArray} (h0 : 0 < s.size) (hc : clsN ((s[0].toNat : Nat) : Int) = 4) (h1 : s.size = 1) : tells s 3 (s.extract 0 1) 0 := by
  intro k g1 g3
  obtain ⟨l, hl, hn, -⟩ := list_cons h0
  obtain rfl : l = [] := (nil_size hn).2 h1.symm
  rw [chk_ok g1 g3, show kindL s.toList = 3 by rw [hl, kind_4 hc, if_pos (.inl rfl)]]
  exact fin_yes ((ext_self (by omega)).2 h1.symm) _
theorem tells_4b {s : ByteArray} (h0 : 0 < s.size) (hc : clsN ((s[0].toNat : Nat) : Int) = 4) (h1 : 1 < s.size) (h2 : ¬ ((s[1].toNat : Nat) : Int) = 62) : tells s 3 (s.extract 0 1) 0 := by
  intro k g1 g3
  obtain ⟨l, hl, hn, hm⟩ := list_cons h0
  obtain ⟨m, rfl⟩ := hm h1
  rw [chk_ok g1 g3]
  refine fin_no (fun e => ?_) ?_ g1 _
  · have := (ext_self (s := s) (n := 1) (by omega)).1 e
    omega
  · rw [hl, kind_4 hc, if_neg]
    rintro (h | h)
    · cases h
    · simp only [List.cons.injEq] at h
      rw [h.1] at h2
      exact absurd rfl h2
theorem tells_4c {s : ByteArray} (h0 : 0 < s.size) (hc : clsN ((s[0].toNat : Nat) : Int) = 4) (h1 : 1 < s.size) (h2 : ((s[1].toNat : Nat) : Int) = 62) : tells s 3 (s.extract 0 2) 0 := by
  intro k g1 g3
  obtain ⟨l, hl, hn, hm⟩ := list_cons h0
  obtain ⟨m, rfl⟩ := hm h1
  have h62 : s[1] = 62 := by
    apply UInt8.toNat_inj.1
    have : (s[1].toNat : Nat) = 62 := by omega
    rw [this]; rfl
  have hx : m = [] ↔ s.extract 0 2 = s := by
    rw [ext_self (by omega)]
    simp only [List.length_cons] at hn
    exact (nil_size (l := m) (n := s.size - 1) (by omega)).trans (by omega)
  rw [chk_ok g1 g3]
  by_cases h : m = []
  · rw [show kindL s.toList = 3 by rw [hl, kind_4 hc, if_pos (.inr (by rw [h62, h]))]]
    exact fin_yes (hx.1 h) _
  · refine fin_no (fun e => h (hx.2 e)) ?_ g1 _
    rw [hl, kind_4 hc, if_neg]
    rintro (e | e)
    · cases e
    · simp only [List.cons.injEq] at e
      exact h e.2
theorem head_kind {s : ByteArray} {n : Nat} (h : headN s n) : kindL s.toList = if n = s.size ∧ n ≤ 16 then (if wordL (s.extract 0 n).toList = true then 2 else 1) else 0 := by
  obtain ⟨h1, hn, hl, hx⟩ := h
  have hL : s.toList.length = s.size := by rw [ByteArray.toList_eq]; simp
  rw [ext_list, ← hL]
  refine kind_2 h1 (by omega) hl fun hlt => ?_
  have hlt' : n < s.size := by omega
  have := hx hlt' hlt'
  have e : s.toList[n] = s[n] := by
    have : s.toList[n]? = some s[n] := by
      rw [ByteArray.toList_eq]
      show s.data.toList[n]? = some s.data[n]
      simp
    rw [List.getElem?_eq_getElem hlt] at this
    exact Option.some.inj this
  rw [e]; exact this
theorem tells_2 {s : ByteArray} {n : Nat} (h : headN s n) (h16 : n ≤ 16) : tells s (if wordL (s.extract 0 n).toList = true then 2 else 1) (s.extract 0 n) 0 := by
  intro k g1 g3
  rw [chk_ok g1 g3]
  have hx := ext_self h.2.1
  have hk := head_kind h
  by_cases hs : n = s.size
  · rw [if_pos ⟨hs, h16⟩] at hk
    rw [hk]
    exact fin_yes (hx.2 hs) _
  · rw [if_neg (by omega)] at hk
    exact fin_no (fun e => hs (hx.1 e)) hk g1 _
theorem tells_2x {s : ByteArray} {n : Nat} (h : headN s n) (h16 : 16 < n) : tells s 0 ⟨#[]⟩ 6 := by
  intro k g1 g3
  have hk := head_kind h
  rw [if_neg (by omega)] at hk
  rw [chk_ok g1 g3, hk, if_neg (c := (0 : Int) = k) (by omega), if_neg (c := (6 : Int) = 0 ∧ _) (by omega)]
theorem next_any (s : ByteArray) (h0 : 0 < s.size) (hs : s.size ≤ 300) (hc : ¬ (clsN ((s[0].toNat : Nat) : Int) = 0 ∨ clsN ((s[0].toNat : Nat) : Int) = 1)) (w : World) :
    Calls Try.prog 22 #[.string s, .int .i64 0] w fun r w' => (∃ (q : Int) (t : ByteArray) (e : Int), r = .returned (.tuple #[.agg #[.int .u8 q, .string t, .int .i64 0], .int .i64 e]) ∧ tells s q t e) ∧ Below w.heap.size w w' := by
  rcases (cls_cases s[0]).2.2.2.2 with h | h | h | h | h
  · exact absurd (.inl h) hc
  · exact absurd (.inr h) hc
  · refine (next2 s h0 hs h w).mono ?_
    rintro r w' ⟨⟨n, hn, ⟨h16, rfl⟩ | ⟨h16, rfl⟩⟩, hb⟩
    · exact ⟨⟨_, _, _, rfl, tells_2 hn h16⟩, hb⟩
    · exact ⟨⟨_, _, _, rfl, tells_2x hn h16⟩, hb⟩
  · refine (next3 s h0 hs h w).mono ?_
    rintro r w' ⟨rfl, hb⟩
    exact ⟨⟨_, _, _, rfl, tells_3 h0 h⟩, hb⟩
  · by_cases h1 : s.size = 1
    · refine (next4a s h0 hs h h1 w).mono ?_
      rintro r w' ⟨rfl, hb⟩
      exact ⟨⟨_, _, _, rfl, tells_4a h0 h h1⟩, hb⟩
    · by_cases h2 : ((s[1].toNat : Nat) : Int) = 62
      · refine (next4c s h0 hs h (by omega) h2 w).mono ?_
        rintro r w' ⟨rfl, hb⟩
        exact ⟨⟨_, _, _, rfl, tells_4c h0 h (by omega) h2⟩, hb⟩
      · refine (next4b s h0 hs h (by omega) h2 w).mono ?_
        rintro r w' ⟨rfl, hb⟩
        exact ⟨⟨_, _, _, rfl, tells_4b h0 h (by omega) h2⟩, hb⟩
end Go.Proofs.Ytbmflenlbbgjiaa
