/-
  The symbolic executor: what its operations say is so.
-/
import Derived.Test.YtnogbjpiocckiaaVb
import Derived.WalkSpells
import Derived.WalkLawsBesides
namespace Go.Proofs.Ytnogbjpiocckiaa.Vx
open Go.RowKit
set_option linter.unusedVariables false

/-! ### lists -/
theorem mapO_len {α β : Type} {f : α → Option β} : ∀ {l : List α} {m : List β}, mapO f l = some m → m.length = l.length
  | [], m, h => by simp [mapO] at h; simp [← h]
  | x :: l, m, h => by
    simp only [mapO, Option.bind_eq_some_iff, Option.map_eq_some_iff] at h
    obtain ⟨y, hy, ys, hys, rfl⟩ := h
    simp [mapO_len hys]
theorem mapO_get {α β : Type} {f : α → Option β} : ∀ {l : List α} {m : List β}, mapO f l = some m → ∀ {i : Nat} {x : α}, l[i]? = some x → ∃ y, m[i]? = some y ∧ f x = some y
  | [], m, h, i, x, hx => by simp at hx
  | z :: l, m, h, i, x, hx => by
    simp only [mapO, Option.bind_eq_some_iff, Option.map_eq_some_iff] at h
    obtain ⟨y, hy, ys, hys, rfl⟩ := h
    cases i with
    | zero => simp at hx; subst hx; exact ⟨y, rfl, hy⟩
    | succ i => simp at hx; simpa using mapO_get hys hx
section
variable {σ : Env} {ρ : Rho}
theorem denL_nil : denL σ ρ [] = some [] := by rw [denL]
theorem denL_cons {v : V} {l : List V} {xs : List Value} : denL σ ρ (v :: l) = some xs ↔ ∃ y ys, den σ ρ v = some y ∧ denL σ ρ l = some ys ∧ xs = y :: ys := by
  rw [denL]
  simp only [Option.bind_eq_some_iff, Option.map_eq_some_iff]
  constructor
  · rintro ⟨y, hy, ys, hys, rfl⟩; exact ⟨y, ys, hy, hys, rfl⟩
  · rintro ⟨y, ys, hy, hys, rfl⟩; exact ⟨y, hy, ys, hys, rfl⟩
theorem denL_len : ∀ {l : List V} {xs : List Value}, denL σ ρ l = some xs → xs.length = l.length
  | [], xs, h => by rw [denL_nil] at h; simp at h; simp [← h]
  | v :: l, xs, h => by
    obtain ⟨y, ys, _, h2, rfl⟩ := denL_cons.1 h
    simp [denL_len h2]
theorem denL_get : ∀ {l : List V} {xs : List Value}, denL σ ρ l = some xs → ∀ {i : Nat} {v : V}, l[i]? = some v → ∃ x, xs[i]? = some x ∧ den σ ρ v = some x
  | [], xs, h, i, v, hv => by simp at hv
  | w :: l, xs, h, i, v, hv => by
    obtain ⟨y, ys, h1, h2, rfl⟩ := denL_cons.1 h
    cases i with
    | zero => simp at hv; subst hv; exact ⟨y, rfl, h1⟩
    | succ i => simp at hv; simpa using denL_get h2 hv
theorem denL_append {l m : List V} {xs : List Value} : denL σ ρ (l ++ m) = some xs ↔ ∃ a b, denL σ ρ l = some a ∧ denL σ ρ m = some b ∧ xs = a ++ b := by
  induction l generalizing xs with
  | nil => simp [denL_nil]
  | cons v l ih =>
    simp only [List.cons_append, denL_cons, ih]
    constructor
    · rintro ⟨y, ys, h1, ⟨a, b, h2, h3, rfl⟩, rfl⟩
      exact ⟨y :: a, b, ⟨y, a, h1, h2, rfl⟩, h3, rfl⟩
    · rintro ⟨a, b, ⟨y, ys, h1, h2, rfl⟩, h3, rfl⟩
      exact ⟨y, ys ++ b, h1, ⟨ys, b, h2, h3, rfl⟩, rfl⟩
theorem denL_take {l : List V} {xs : List Value} (h : denL σ ρ l = some xs) (n : Nat) : denL σ ρ (l.take n) = some (xs.take n) := by
  induction l generalizing xs n with
  | nil => rw [denL_nil] at h; simp at h; subst h; simp [denL_nil]
  | cons v l ih =>
    obtain ⟨y, ys, h1, h2, rfl⟩ := denL_cons.1 h
    cases n with
    | zero => simp [denL_nil]
    | succ n => simp only [List.take_succ_cons]; exact denL_cons.2 ⟨y, _, h1, ih h2 n, rfl⟩
theorem denL_drop {l : List V} {xs : List Value} (h : denL σ ρ l = some xs) (n : Nat) : denL σ ρ (l.drop n) = some (xs.drop n) := by
  induction l generalizing xs n with
  | nil => rw [denL_nil] at h; simp at h; subst h; simp [denL_nil]
  | cons v l ih =>
    obtain ⟨y, ys, h1, h2, rfl⟩ := denL_cons.1 h
    cases n with
    | zero => exact h
    | succ n => simpa using ih h2 n
theorem denL_set {l : List V} {xs : List Value} (h : denL σ ρ l = some xs) (n : Nat) {v : V} {x : Value} (hv : den σ ρ v = some x) : denL σ ρ (l.set n v) = some (xs.set n x) := by
  induction l generalizing xs n with
  | nil => rw [denL_nil] at h; simp at h; subst h; simp [denL_nil]
  | cons w l ih =>
    obtain ⟨y, ys, h1, h2, rfl⟩ := denL_cons.1 h
    cases n with
    | zero => exact denL_cons.2 ⟨x, ys, hv, h2, rfl⟩
    | succ n => exact denL_cons.2 ⟨y, _, h1, ih h2 n, rfl⟩
theorem denL_replicate {v : V} {x : Value} (hv : den σ ρ v = some x) (n : Nat) : denL σ ρ (List.replicate n v) = some (List.replicate n x) := by
  induction n with
  | zero => simp [denL_nil]
  | succ n ih => simp only [List.replicate_succ]; exact denL_cons.2 ⟨x, _, hv, ih, rfl⟩
theorem denL_rep {l : List V} {xs : List Value} (h : denL σ ρ l = some xs) (n : Nat) : denL σ ρ (List.replicate n l).flatten = some (List.replicate n xs).flatten := by
  induction n with
  | zero => simp [denL_nil]
  | succ n ih => simp only [List.replicate_succ, List.flatten_cons]; exact denL_append.2 ⟨xs, _, h, ih, rfl⟩
theorem denL_put1 {l m : List V} {xs ys : List Value} (h : denL σ ρ l = some xs) (g : denL σ ρ m = some ys) (off : Nat) : denL σ ρ (put1 l off m) = some (xs.take off ++ ys ++ xs.drop (off + ys.length)) := by
  unfold put1
  rw [denL_len g]
  exact denL_append.2 ⟨_, _, denL_append.2 ⟨_, _, denL_take h _, g, rfl⟩, denL_drop h _, rfl⟩
theorem denL_mapO {α : Type} {f : α → Option V} {g : α → Value} (hf : ∀ x v, f x = some v → den σ ρ v = some (g x)) : ∀ {l : List α} {m : List V}, mapO f l = some m → denL σ ρ m = some (l.map g)
  | [], m, h => by simp [mapO] at h; subst h; simp [denL_nil]
  | x :: l, m, h => by
    simp only [mapO, Option.bind_eq_some_iff, Option.map_eq_some_iff] at h
    obtain ⟨y, hy, ys, hys, rfl⟩ := h
    exact denL_cons.2 ⟨g x, l.map g, hf x y hy, denL_mapO hf hys, rfl⟩
theorem ofCell_den {x : Value} {v : V} (h : ofCell x = some v) : den σ ρ v = some x := by
  unfold ofCell at h
  split at h <;> simp at h <;> subst h <;> simp [den, denL, T.i, T.b, T.s]
theorem ofValue_den {x : Value} {v : V} (h : ofValue x = some v) : den σ ρ v = some x := by
  unfold ofValue at h
  split at h
  · rename_i cs
    simp only [Option.map_eq_some_iff] at h
    obtain ⟨l, hl, rfl⟩ := h
    have := denL_mapO (σ := σ) (ρ := ρ) (g := id) (fun x v hx => ofCell_den hx) hl
    rw [den, this]
    simp
  · simp at h; subst h; simp [den, denL]
  · exact ofCell_den h
theorem one_den {v : V} {x : Value} (h : den σ ρ v = some x) (h1 : v.one = true) : x.oneCell' = true := by
  cases v <;> simp [V.one] at h1 <;> simp only [den, Option.some.injEq, Option.map_eq_some_iff, Option.bind_eq_some_iff] at h
  case int => subst h; rfl
  case bool => subst h; rfl
  case str => subst h; rfl
  case nilp => subst h; rfl
  case ptr => obtain ⟨r, _, rfl⟩ := h; rfl
  case nils => subst h; rfl
  case sl => obtain ⟨r, _, rfl⟩ := h; rfl
  case nilf => subst h; rfl
  case fn => obtain ⟨a, _, b, _, rfl⟩ := h; rfl
  case nili => subst h; rfl
  case nilm => subst h; rfl
  case nilc => subst h; rfl
  case val => split at h <;> simp at h; subst h; assumption
  case bad => simp at h
theorem cells_den {v : V} {x : Value} (h : den σ ρ v = some x) : denL σ ρ v.cells = some x.cells.toList := by
  cases v
  case agg l =>
    rw [den] at h
    simp only [Option.map_eq_some_iff] at h
    obtain ⟨cs, hcs, rfl⟩ := h
    simpa [V.cells, Value.cells] using hcs
  all_goals
    have hx : x.cells = #[x] := by
      simp only [den, Option.some.injEq, Option.map_eq_some_iff, Option.bind_eq_some_iff] at h
      first
        | (subst h; rfl)
        | (simp at h; done)
        | (obtain ⟨r, _, rfl⟩ := h; rfl)
        | (obtain ⟨a, _, b, _, rfl⟩ := h; rfl)
        | (split at h <;> simp at h; rename_i hh; subst h; revert hh; cases σ.v _ <;> simp [Value.oneCell', Value.cells])
    rw [hx]
    exact denL_cons.2 ⟨x, [], h, denL_nil, rfl⟩
theorem allOne_den {l : List V} {xs : List Value} (h : denL σ ρ l = some xs) (h1 : allOne l = true) : ∀ u ∈ xs, u.oneCell' = true := by
  induction l generalizing xs with
  | nil => rw [denL_nil] at h; simp at h; subst h; simp
  | cons v l ih =>
    obtain ⟨y, ys, h3, h2, rfl⟩ := denL_cons.1 h
    simp only [allOne, List.all_cons, Bool.and_eq_true] at h1
    intro u hu
    simp only [List.mem_cons] at hu
    rcases hu with rfl | hu
    · exact one_den h3 h1.1
    · exact ih h2 h1.2 u hu
end

/-! ### more places -/
def Ext (ρ ρ' : Rho) : Prop := ∀ i r, ρ i = some r → ρ' i = some r
theorem Ext.refl (ρ : Rho) : Ext ρ ρ := fun _ _ h => h
theorem Ext.trans {a b c : Rho} (h : Ext a b) (k : Ext b c) : Ext a c := fun i r hr => k i r (h i r hr)
mutual
theorem den_mono {σ : Env} {ρ ρ' : Rho} (he : Ext ρ ρ') : ∀ {v : V} {x : Value}, den σ ρ v = some x → den σ ρ' v = some x
  | .bad, _, h => by simp [den] at h
  | .int _ _, _, h | .bool _, _, h | .str _, _, h | .nilp, _, h | .nils, _, h | .nilf, _, h | .nili, _, h | .nilm, _, h | .nilc, _, h | .val _, _, h => by
    simpa [den] using h
  | .ptr id off, x, h => by
    simp only [den, Option.map_eq_some_iff] at h ⊢
    obtain ⟨r, hr, rfl⟩ := h
    exact ⟨r, he _ _ hr, rfl⟩
  | .sl id off len c, x, h => by
    simp only [den, Option.map_eq_some_iff] at h ⊢
    obtain ⟨r, hr, rfl⟩ := h
    exact ⟨r, he _ _ hr, rfl⟩
  | .fn f a b, x, h => by
    simp only [den, Option.map_eq_some_iff, Option.bind_eq_some_iff] at h ⊢
    obtain ⟨a', ha, b', hb, rfl⟩ := h
    exact ⟨a', denL_mono he ha, b', denL_mono he hb, rfl⟩
  | .agg l, x, h => by
    simp only [den, Option.map_eq_some_iff] at h ⊢
    obtain ⟨a', ha, rfl⟩ := h
    exact ⟨a', denL_mono he ha, rfl⟩
  | .tup l, x, h => by
    simp only [den, Option.map_eq_some_iff] at h ⊢
    obtain ⟨a', ha, rfl⟩ := h
    exact ⟨a', denL_mono he ha, rfl⟩
theorem denL_mono {σ : Env} {ρ ρ' : Rho} (he : Ext ρ ρ') : ∀ {l : List V} {xs : List Value}, denL σ ρ l = some xs → denL σ ρ' l = some xs
  | [], xs, h => by rw [denL_nil] at h ⊢; exact h
  | v :: l, xs, h => by
    obtain ⟨y, ys, h1, h2, rfl⟩ := denL_cons.1 h
    exact denL_cons.2 ⟨y, ys, den_mono he h1, denL_mono he h2, rfl⟩
end
mutual
theorem den_plain {σ : Env} {ρ ρ' : Rho} : ∀ {v : V} {x : Value}, v.plain = true → den σ ρ v = some x → den σ ρ' v = some x
  | .int _ _, _, _, h | .bool _, _, _, h | .str _, _, _, h | .nilp, _, _, h | .nils, _, _, h | .nilf, _, _, h | .nili, _, _, h | .nilm, _, _, h | .nilc, _, _, h => by
    simpa [den] using h
  | .val _, x, hp, h => by simp [V.plain] at hp
  | .bad, x, hp, h => by simp [V.plain] at hp
  | .ptr id off, x, hp, h => by simp [V.plain] at hp
  | .sl id off len c, x, hp, h => by simp [V.plain] at hp
  | .fn f a b, x, hp, h => by
    simp only [V.plain, Bool.and_eq_true] at hp
    simp only [den, Option.map_eq_some_iff, Option.bind_eq_some_iff] at h ⊢
    obtain ⟨a', ha, b', hb, rfl⟩ := h
    exact ⟨a', denL_plain hp.1 ha, b', denL_plain hp.2 hb, rfl⟩
  | .agg l, x, hp, h => by
    simp only [V.plain] at hp
    simp only [den, Option.map_eq_some_iff] at h ⊢
    obtain ⟨a', ha, rfl⟩ := h
    exact ⟨a', denL_plain hp ha, rfl⟩
  | .tup l, x, hp, h => by
    simp only [V.plain] at hp
    simp only [den, Option.map_eq_some_iff] at h ⊢
    obtain ⟨a', ha, rfl⟩ := h
    exact ⟨a', denL_plain hp ha, rfl⟩
theorem denL_plain {σ : Env} {ρ ρ' : Rho} : ∀ {l : List V} {xs : List Value}, V.plainL l = true → denL σ ρ l = some xs → denL σ ρ' l = some xs
  | [], xs, _, h => by rw [denL_nil] at h ⊢; exact h
  | v :: l, xs, hp, h => by
    simp only [V.plainL, Bool.and_eq_true] at hp
    obtain ⟨y, ys, h1, h2, rfl⟩ := denL_cons.1 h
    exact denL_cons.2 ⟨y, ys, den_plain hp.1 h1, denL_plain hp.2 h2, rfl⟩
end

mutual
theorem den_some {σ : Env} {ρ : Rho} : ∀ {v : V}, v.plain = true → ∃ x, den σ ρ v = some x
  | .int _ _, _ | .bool _, _ | .str _, _ | .nilp, _ | .nils, _ | .nilf, _ | .nili, _ | .nilm, _ | .nilc, _ => by simp [den]
  | .val _, h => by simp [V.plain] at h
  | .bad, h => by simp [V.plain] at h
  | .ptr id off, hp => by simp [V.plain] at hp
  | .sl id off len c, hp => by simp [V.plain] at hp
  | .fn f a b, hp => by
    simp only [V.plain, Bool.and_eq_true] at hp
    obtain ⟨x, hx⟩ := denL_some (σ := σ) (ρ := ρ) hp.1
    obtain ⟨y, hy⟩ := denL_some (σ := σ) (ρ := ρ) hp.2
    exact ⟨_, by rw [den, hx, hy]; rfl⟩
  | .agg l, hp => by
    simp only [V.plain] at hp
    obtain ⟨x, hx⟩ := denL_some (σ := σ) (ρ := ρ) hp
    exact ⟨_, by rw [den, hx]; rfl⟩
  | .tup l, hp => by
    simp only [V.plain] at hp
    obtain ⟨x, hx⟩ := denL_some (σ := σ) (ρ := ρ) hp
    exact ⟨_, by rw [den, hx]; rfl⟩
theorem denL_some {σ : Env} {ρ : Rho} : ∀ {l : List V}, V.plainL l = true → ∃ xs, denL σ ρ l = some xs
  | [], _ => ⟨[], denL_nil⟩
  | v :: l, hp => by
    simp only [V.plainL, Bool.and_eq_true] at hp
    obtain ⟨x, hx⟩ := den_some (σ := σ) (ρ := ρ) hp.1
    obtain ⟨xs, hxs⟩ := denL_some (σ := σ) (ρ := ρ) hp.2
    exact ⟨x :: xs, denL_cons.2 ⟨x, xs, hx, hxs, rfl⟩⟩
end

/-! ### terms -/
section
variable {σ : Env}
theorem inR_b {k : IntKind} {t : T} (h : (T.inR k t).b σ = true) : k.min ≤ t.i σ ∧ t.i σ ≤ k.max := by
  simp only [T.inR, T.b, T.i, Bool.and_eq_true, leB_t] at h
  exact h
theorem wrap_in {k : IntKind} {n : Int} (h : k.min ≤ n ∧ n ≤ k.max) : k.wrap n = n := by
  cases k <;> simp only [IntKind.min, IntKind.max, IntKind.signed, IntKind.bits, IntKind.wrap] at * <;> simp at * <;> omega
theorem mkAdd_i {k : IntKind} {a b : T} (h : ∀ t ∈ (mkAdd k a b).2, t.b σ = true) : (mkAdd k a b).1.i σ = k.wrap (a.i σ + b.i σ) := by
  unfold mkAdd at *
  split
  · rfl
  · rename_i x y hne
    split at h
    · rename_i m n; exact absurd rfl (hne m n rfl)
    · have := inR_b (h (T.inR k (.add a b)) (by simp))
      simp only [T.i] at this ⊢
      rw [wrap_in this]
theorem mkSub_i {k : IntKind} {a b : T} (h : ∀ t ∈ (mkSub k a b).2, t.b σ = true) : (mkSub k a b).1.i σ = k.wrap (a.i σ - b.i σ) := by
  unfold mkSub at *
  split
  · rfl
  · rename_i x y hne
    split at h
    · rename_i m n; exact absurd rfl (hne m n rfl)
    · have := inR_b (h (T.inR k (.sub a b)) (by simp))
      simp only [T.i] at this ⊢
      rw [wrap_in this]
theorem mkMul_i {k : IntKind} {a b : T} (h : ∀ t ∈ (mkMul k a b).2, t.b σ = true) : (mkMul k a b).1.i σ = k.wrap (a.i σ * b.i σ) := by
  unfold mkMul at *
  split
  · rfl
  · rename_i x y hne
    split at h
    · rename_i m n; exact absurd rfl (hne m n rfl)
    · have := inR_b (h (T.inR k (.mul a b)) (by simp))
      simp only [T.i] at this ⊢
      rw [wrap_in this]
theorem mkQuo_i {k : IntKind} {a b : T} {r : T × List T} (hr : mkQuo k a b = some r) (h : ∀ t ∈ r.2, t.b σ = true) : b.i σ ≠ 0 ∧ r.1.i σ = k.wrap ((a.i σ).tdiv (b.i σ)) := by
  unfold mkQuo at hr
  split at hr
  · split at hr <;> simp at hr; subst hr; simp [T.i]; assumption
  · simp at hr; subst hr
    have h1 := h (.not (.eq b (.int 0))) (by simp)
    have := inR_b (h (T.inR k (.quo a b)) (by simp))
    simp only [T.i] at this ⊢
    rw [wrap_in this]
    simp [T.b, T.i, eqB_f] at h1
    exact ⟨h1, rfl⟩
theorem mkRem_i {a b : T} {r : T × List T} (hr : mkRem a b = some r) (h : ∀ t ∈ r.2, t.b σ = true) : b.i σ ≠ 0 ∧ r.1.i σ = (a.i σ).tmod (b.i σ) := by
  unfold mkRem at hr
  split at hr
  · split at hr <;> simp at hr; subst hr; simp [T.i]; assumption
  · simp at hr; subst hr
    have h1 := h (.not (.eq b (.int 0))) (by simp)
    simp [T.b, T.i, eqB_f] at h1
    exact ⟨h1, by simp [T.i]⟩
theorem mkWrap_i {k : IntKind} {a : T} (h : ∀ t ∈ (mkWrap k a).2, t.b σ = true) : (mkWrap k a).1.i σ = k.wrap (a.i σ) := by
  unfold mkWrap at *
  split
  · rfl
  · rename_i x hne
    split at h
    · rename_i m; exact absurd rfl (hne m)
    · have := inR_b (h (T.inR k a) (by simp))
      rw [wrap_in this]
theorem mkLt_b (a b : T) : (mkLt a b).b σ = ltB (a.i σ) (b.i σ) := by
  unfold mkLt; split
  · rfl
  · split
    · rename_i h; subst h; simp [T.b, ltB]
    · rw [Bool.eq_iff_iff]; simp [T.b, ltB, leB]
theorem mkLe_b (a b : T) : (mkLe a b).b σ = leB (a.i σ) (b.i σ) := by
  unfold mkLe; split
  · rfl
  · split
    · rename_i h; subst h; simp [T.b, leB]
    · rfl
theorem mkEq_b (a b : T) : (mkEq a b).b σ = eqB (a.i σ) (b.i σ) := by
  unfold mkEq; split
  · rfl
  · split
    · rename_i h; subst h; simp [T.b, eqB]
    · simp [T.b]
theorem mkNot_b (a : T) : (mkNot a).b σ = !(a.b σ) := by
  unfold mkNot; split <;> simp [T.b]
theorem mkAnd_b (a b : T) : (mkAnd a b).b σ = (a.b σ && b.b σ) := by
  unfold mkAnd; split <;> simp [T.b]
theorem mkBeq_b (a b : T) : (mkBeq a b).b σ = (a.b σ == b.b σ) := by
  unfold mkBeq; split
  · simp [T.b]
  · split
    · rename_i h; subst h; simp [T.b]
    · simp [T.b]
theorem mkSeq_b (a b : T) : (mkSeq a b).b σ = sEqB (a.s σ) (b.s σ) := by
  unfold mkSeq; split
  · simp [T.b, T.s]
  · split
    · rename_i h; subst h; simp [T.b, sEqB]
    · simp [T.b]
theorem mkIte_i (c a b : T) : (mkIte c a b).i σ = if c.b σ = true then a.i σ else b.i σ := by
  unfold mkIte; split <;> simp [T.b, T.i]
theorem mkLen_i (s : T) : (mkLen s).i σ = ((s.s σ).size : Int) := by
  unfold mkLen; split <;> rfl
set_option maxHeartbeats 1000000 in
theorem fact1_b {p t : T} {b : Bool} (h : fact1 p t = some b) (hp : p.b σ = true) : t.b σ = b := by
  unfold fact1 at h
  split at h
  all_goals try (simp at h; done)
  all_goals
    split at h
    all_goals try (simp at h; done)
    all_goals
      split at h
      all_goals try (simp at h; done)
      rename_i hc
      simp only [Option.some.injEq] at h
      first
        | (obtain ⟨rfl, hc⟩ := hc)
        | (obtain rfl := hc)
      subst h
      simp only [T.b, T.i, leB_t, leB_f, eqB_t, eqB_f, Bool.not_eq_eq_eq_not, Bool.not_true] at hp ⊢
      first
        | omega
        | (rw [hp])
theorem facts_b {t : T} {b : Bool} : ∀ {pc : List T}, facts t pc = some b → (∀ t ∈ pc, t.b σ = true) → t.b σ = b
  | [], h, _ => by simp [facts] at h
  | p :: pc, h, hpc => by
    unfold facts at h
    split at h
    · rename_i hf; simp at h; subst h; exact fact1_b hf (hpc p (by simp))
    · exact facts_b h (fun t ht => hpc t (by simp [ht]))
theorem pcDec_b {pc : List T} {t : T} {b : Bool} (h : pcDec pc t = some b) (hpc : ∀ t ∈ pc, t.b σ = true) : t.b σ = b := by
  unfold pcDec at h
  split at h
  · simp at h; subst h; simp [T.b]
  · split at h
    · rename_i hm; simp at h; subst h; exact hpc _ (by simpa using hm)
    · split at h
      · rename_i hm; simp at h; subst h
        have := hpc _ (by simpa using hm)
        simp [T.b, this]
      · simp only [Option.map_eq_some_iff] at h
        obtain ⟨c, hc, rfl⟩ := h
        simp [T.b, facts_b hc hpc]
  · split at h
    · rename_i hm; simp at h; subst h; exact hpc _ (by simpa using hm)
    · split at h
      · rename_i hm; simp at h; subst h
        have := hpc _ (by simpa using hm)
        simpa [T.b] using this
      · exact facts_b h hpc
end
end Go.Proofs.Ytnogbjpiocckiaa.Vx
