/-
  NamesBack.
-/
import Derived.Test.YtfjlhplaifkenaaBc
namespace Go.Proofs.Ytfjlhplaifkenaa
open Go.Proofs.Ytfjlhplaifkenaa.Vx Go.RowKit
set_option maxRecDepth 100000
set_option linter.unusedVariables false
set_option linter.unusedSimpArgs false
theorem split_inj {α : Type} {c : α} : ∀ {h h' m m' : List α}, c ∉ h → c ∉ h' → (h ++ c :: m = h' ++ c :: m' ↔ h = h' ∧ m = m')
  | [], [], m, m', _, _ => by simp
  | [], y :: h', m, m', _, hn => by
    simp only [List.mem_cons, not_or] at hn
    simp only [List.nil_append, List.cons_append, List.cons.injEq]
    constructor
    · intro h; exact absurd h.1 hn.1
    · intro h; simp at h
  | x :: h, [], m, m', hn, _ => by
    simp only [List.mem_cons, not_or] at hn
    simp only [List.nil_append, List.cons_append, List.cons.injEq]
    constructor
    · intro h; exact absurd h.1.symm hn.1
    · intro h; simp at h
  | x :: h, y :: h', m, m', hn, hn' => by
    simp only [List.mem_cons, not_or] at hn hn'
    simp only [List.cons_append, List.cons.injEq, split_inj hn.2 hn'.2, and_assoc]
def pv (i : Nat) : T := .sfb 0 (.svar i)
def ev (i : Nat) : T := .eq (.len (.svar i)) (.int 0)
def ov (i : Nat) : T := .or (ev i) (pv i)
def cM : T := .str ⟨#[58]⟩
def hM : T := .str ⟨#[35]⟩
def tx0 (i : Nat) : T := .cat (.cat (.svar i) cM) (.svar (i + 1))
def tx1 (i : Nat) : T := .cat (.cat (tx0 i) hM) (.svar (i + 2))
def txI (i : Nat) : T := .ite (ev (i + 2)) (tx0 i) (tx1 i)
def samA : T := .and (.and (.seq (.svar 0) (.svar 3)) (.seq (.svar 1) (.svar 4))) (.seq (.svar 2) (.svar 5))
def l40 (i : Nat) : T := .le (.len (.svar i)) (.int 40)
def lenS (i : Nat) : T := .add (.add (.add (.add (.len (.svar i)) (.int 1)) (.len (.svar (i + 1)))) (.int 1)) (.len (.svar (i + 2)))
def gsB : Vcs := [([pv 0], .sfb 1 (.svar 0)), ([pv 1], .sfb 1 (.svar 1)), ([ov 2], .sfb 1 (.svar 2)), ([pv 3], .sfb 1 (.svar 3)), ([pv 4], .sfb 1 (.svar 4)),
  ([l40 0, l40 1, l40 2], .le (lenS 0) (.int 1000000000)), ([l40 0, l40 1, l40 2], .le (lenS 0) (.int 9223372036854775807)), ([l40 3, l40 4, l40 5], .le (lenS 3) (.int 9223372036854775807)),
  ([.not (pv 2), .not (ev 2), ov 2], .bool false),
  ([.not (.beq (.seq (tx0 0) (txI 3)) samA), ev 2, pv 0, pv 1, pv 3, pv 4, ov 5], .bool false),
  ([.not (.beq (.seq (tx1 0) (txI 3)) samA), pv 2, .not (ev 2), pv 0, pv 1, pv 3, pv 4, ov 5], .bool false),
  ([.not (.beq (.bool true) (.not (ev 2))), pv 2, ev 2], .bool false),
  ([.not (.beq (.bool true) (.not (ev 2))), .not (ev 2)], .bool false),
  ([.not (.beq (.and (pv 0) (.and (pv 1) (pv 2))) (.not (ev 2))), .not (pv 2), ev 2], .bool false)]
section
variable {l : List ByteArray}
theorem b_not (a : T) : T.b (envN l) (.not a) = !(T.b (envN l) a) := by simp only [T.b]
theorem b_and (a b : T) : T.b (envN l) (.and a b) = (T.b (envN l) a && T.b (envN l) b) := by simp only [T.b]
theorem b_or (a b : T) : T.b (envN l) (.or a b) = (T.b (envN l) a || T.b (envN l) b) := by simp only [T.b]
theorem b_beq (a b : T) : T.b (envN l) (.beq a b) = (T.b (envN l) a == T.b (envN l) b) := by simp only [T.b]
theorem b_seq (a b : T) : T.b (envN l) (.seq a b) = decide (bs l a = bs l b) := by simp only [T.b]; rfl
theorem pv_b (i : Nat) : T.b (envN l) (pv i) = isName (bs l (.svar i)) := by simp only [pv, T.b]; rfl
theorem ev_b (i : Nat) : T.b (envN l) (ev i) = true ↔ bs l (.svar i) = [] := by
  have e : T.b (envN l) (ev i) = eqB (T.i (envN l) (.len (.svar i))) (T.i (envN l) (.int 0)) := by simp only [ev, T.b]
  have e2 : T.i (envN l) (.len (.svar i)) = (bs l (.svar i)).length := by simp only [T.i, bs]; simp
  rw [e, eqB_t, e2]
  simp only [T.i]
  rw [← List.length_eq_zero_iff]
  omega
theorem letM {b : UInt8} (h : letB b = true) : b ≠ 58 ∧ b ≠ 35 := by
  constructor <;> (intro e; subst e; revert h; decide)
theorem isName_noM {l : List UInt8} (h : isName l = true) : noM l = true := by
  simp only [isName, Bool.and_eq_true, List.all_eq_true] at h
  simp only [noM, Bool.and_eq_true, Bool.not_eq_true', List.contains_eq_mem, decide_eq_false_iff_not]
  exact ⟨fun hm => (letM (h.2 _ hm)).1 rfl, fun hm => (letM (h.2 _ hm)).2 rfl⟩
theorem isName_ne {l : List UInt8} (h : isName l = true) : l ≠ [] := by
  intro e; subst e; simp [isName] at h
theorem ov_noM {i : Nat} (h : T.b (envN l) (ov i) = true) : noM (bs l (.svar i)) = true := by
  rw [ov, b_or, Bool.or_eq_true, ev_b, pv_b] at h
  rcases h with h | h
  · rw [h]; rfl
  · exact isName_noM h
theorem tx0_bs (i : Nat) : bs l (tx0 i) = bs l (.svar i) ++ (58 : UInt8) :: bs l (.svar (i + 1)) := by
  rw [tx0, bs_cat, bs_cat]
  have : bs l cM = [58] := by simp only [cM, bs, T.s]
  rw [this]; simp
theorem tx1_bs (i : Nat) : bs l (tx1 i) = bs l (.svar i) ++ (58 : UInt8) :: (bs l (.svar (i + 1)) ++ (35 : UInt8) :: bs l (.svar (i + 2))) := by
  rw [tx1, bs_cat, bs_cat, tx0_bs]
  have : bs l hM = [35] := by simp only [hM, bs, T.s]
  rw [this]; simp
theorem txI_bs (i : Nat) : bs l (txI i) = if bs l (.svar (i + 2)) = [] then bs l (tx0 i) else bs l (tx1 i) := by
  by_cases h : bs l (.svar (i + 2)) = []
  · rw [if_pos h]; simp only [bs, txI]; rw [ite_t (ev_b _ |>.2 h)]
  · rw [if_neg h]; simp only [bs, txI]; rw [ite_f (by rw [Bool.eq_false_iff]; intro h'; exact h ((ev_b _).1 h'))]
theorem samA_b : T.b (envN l) samA = decide (bs l (.svar 0) = bs l (.svar 3) ∧ bs l (.svar 1) = bs l (.svar 4) ∧ bs l (.svar 2) = bs l (.svar 5)) := by
  rw [samA, b_and, b_and, b_seq, b_seq, b_seq, Bool.eq_iff_iff]
  simp [and_assoc]
theorem m58 {l : List UInt8} (h : noM l = true) : (58 : UInt8) ∉ l := by
  simp only [noM, Bool.and_eq_true, Bool.not_eq_true', List.contains_eq_mem, decide_eq_false_iff_not] at h; exact h.1
theorem m35 {l : List UInt8} (h : noM l = true) : (35 : UInt8) ∉ l := by
  simp only [noM, Bool.and_eq_true, Bool.not_eq_true', List.contains_eq_mem, decide_eq_false_iff_not] at h; exact h.2
theorem gsB_ok : VOk (envN l) gsB := by
  intro x hx hp
  simp only [gsB, List.mem_cons, List.not_mem_nil, or_false] at hx
  rcases hx with rfl | rfl | rfl | rfl | rfl | rfl | rfl | rfl | rfl | rfl | rfl | rfl | rfl | rfl <;> simp only [List.mem_cons, List.not_mem_nil, or_false, forall_eq_or_imp, forall_eq] at hp
  · rw [pv_b] at hp; exact isName_noM hp
  · rw [pv_b] at hp; exact isName_noM hp
  · exact ov_noM hp
  · rw [pv_b] at hp; exact isName_noM hp
  · rw [pv_b] at hp; exact isName_noM hp
  · simp only [l40, lenS, le_t, Nat.reduceAdd] at hp ⊢; simp only [T.i] at hp ⊢; omega
  · simp only [l40, lenS, le_t, Nat.reduceAdd] at hp ⊢; simp only [T.i] at hp ⊢; omega
  · simp only [l40, lenS, le_t, Nat.reduceAdd] at hp ⊢; simp only [T.i] at hp ⊢; omega
  · exfalso
    obtain ⟨h1, h2, h3⟩ := hp
    rw [ov, b_or] at h3
    rw [b_not] at h1 h2
    cases ha : T.b (envN l) (pv 2) <;> cases hb : T.b (envN l) (ev 2) <;> simp [ha, hb] at h1 h2 h3
  · exfalso
    obtain ⟨h1, h2, h3, h4, h5, h6, h7⟩ := hp
    rw [pv_b] at h3 h4 h5 h6
    rw [ev_b] at h2
    have h7 := ov_noM h7
    rw [b_not, b_beq, b_seq, samA_b, tx0_bs, txI_bs, Bool.not_eq_true', beq_eq_false_iff_ne] at h1
    apply h1
    rw [Bool.eq_iff_iff, decide_eq_true_eq, decide_eq_true_eq]
    simp only [Nat.reduceAdd]
    by_cases hf : bs l (.svar 5) = []
    · rw [if_pos hf, tx0_bs, split_inj (m58 (isName_noM h3)) (m58 (isName_noM h5)), h2, hf]
      simp
    · rw [if_neg hf, tx1_bs, split_inj (m58 (isName_noM h3)) (m58 (isName_noM h5)), h2]
      constructor
      · rintro ⟨-, e⟩
        exact absurd (by rw [e]; simp) (m35 (isName_noM h4))
      · rintro ⟨-, -, e⟩
        exact absurd e.symm hf
  · exfalso
    obtain ⟨h1, h0, h2, h3, h4, h5, h6, h7⟩ := hp
    rw [pv_b] at h0 h3 h4 h5 h6
    have h7 := ov_noM h7
    have h0n := isName_ne h0
    rw [b_not, b_beq, b_seq, samA_b, tx1_bs, txI_bs, Bool.not_eq_true', beq_eq_false_iff_ne] at h1
    apply h1
    rw [Bool.eq_iff_iff, decide_eq_true_eq, decide_eq_true_eq]
    simp only [Nat.reduceAdd]
    by_cases hf : bs l (.svar 5) = []
    · rw [if_pos hf, tx0_bs, split_inj (m58 (isName_noM h3)) (m58 (isName_noM h5)), hf]
      constructor
      · rintro ⟨-, e⟩
        exact absurd (by rw [← e]; simp) (m35 (isName_noM h6))
      · rintro ⟨-, -, e⟩
        exact absurd e h0n
    · rw [if_neg hf, tx1_bs, split_inj (m58 (isName_noM h3)) (m58 (isName_noM h5)), split_inj (m35 (isName_noM h4)) (m35 (isName_noM h6))]
  · exfalso
    obtain ⟨-, h2, h3⟩ := hp
    rw [pv_b] at h2
    rw [ev_b] at h3
    exact isName_ne h2 h3
  · exfalso
    obtain ⟨h1, h2⟩ := hp
    rw [b_not, b_beq, h2] at h1
    simp [T.b] at h1
  · exfalso
    obtain ⟨h1, h2, h3⟩ := hp
    rw [b_not] at h2
    rw [b_not, b_beq, b_and, b_and, b_not, h3] at h1
    simp only [Bool.not_eq_true'] at h2
    rw [h2] at h1
    simp at h1
end
theorem lawBack_any (a b c d e f : ByteArray) (w : World) : Calls Try.prog 4 #[.agg #[.string a, .string b, .string c], .agg #[.string d, .string e, .string f]] w fun e w' => e = .returned (.bool true) ∧ Below w.heap.size w w' :=
  calls_goals' follows funsOk (envN [a, b, c, d, e, f]) (ctrsBOk _) (n := 1000) (f := 4) (args := [.agg [.str (.svar 0), .str (.svar 1), .str (.svar 2)], .agg [.str (.svar 3), .str (.svar 4), .str (.svar 5)]]) (pc := []) (gs := gsB)
    (by kernel_rfl) gsB_ok (xs := [.agg #[.string a, .string b, .string c], .agg #[.string d, .string e, .string f]]) rfl (fun t ht => by simp at ht) w
end Go.Proofs.Ytfjlhplaifkenaa
