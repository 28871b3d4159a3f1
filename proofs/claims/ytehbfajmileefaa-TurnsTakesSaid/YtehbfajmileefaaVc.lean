import Derived.Test.YtehbfajmileefaaVb
import Derived.WalkSpells
import Derived.WalkLawsBesides
namespace Go.Proofs.Ytehbfajmileefaa.Vx
open Go.RowKit
set_option linter.unusedVariables false
theorem mapO_len {α β : Type} {f : α → Option β} : ∀ {l : List α} {m : List β}, mapO f l = some m → m.length = l.length
  | [], m, h => by simp [mapO] at h; simp [← h]
  | x :: l, m, h => by
    simp only [mapO, Option.bind_eq_some_iff, Option.map_eq_some_iff] at h
    obtain ⟨y, hy, ys, hys, rfl⟩ := h
    simp [mapO_len hys]
theorem mapO_get {α β : Type} {f : α → Option β} : ∀ {l : List α} {m : List β}, mapO f l = some m → ∀ {i : Nat} {x : α}, l[i]? = some x → ∃ y, m[i]? = some y ∧ f x = some y
  | [], m, h, i, x, hx => by simp at hx
  | z :: l, m, h, i, x, hx => by
    simp only [mapO, Option.bind_eq_some_iff, Option.map_eq_some_iff] at h
    obtain ⟨y, hy, ys, hys, rfl⟩ := h
    cases i with
    | zero => simp at hx; subst hx; exact ⟨y, rfl, hy⟩
    | succ i => simp at hx; simpa using mapO_get hys hx
section
variable {σ : Env} {ρ : Rho}
theorem denL_nil : denL σ ρ [] = some [] := by rw [denL]
theorem denL_cons {v : V} {l : List V} {xs : List Value} : denL σ ρ (v :: l) = some xs ↔ ∃ y ys, den σ ρ v = some y ∧ denL σ ρ l = some ys ∧ xs = y :: ys := by
  rw [denL]
  simp only [Option.bind_eq_some_iff, Option.map_eq_some_iff]
  constructor
  · rintro ⟨y, hy, ys, hys, rfl⟩; exact ⟨y, ys, hy, hys, rfl⟩
  · rintro ⟨y, ys, hy, hys, rfl⟩; exact ⟨y, hy, ys, hys, rfl⟩
theorem denL_len : ∀ {l : List V} {xs : List Value}, denL σ ρ l = some xs → xs.length = l.length
  | [], xs, h => by rw [denL_nil] at h; simp at h; simp [← h]
  | v :: l, xs, h => by
    obtain ⟨y, ys, _, h2, rfl⟩ := denL_cons.1 h
    simp [denL_len h2]
theorem denL_get : ∀ {l : List V} {xs : List Value}, denL σ ρ l = some xs → ∀ {i : Nat} {v : V}, l[i]? = some v → ∃ x, xs[i]? = some x ∧ den σ ρ v = some x
  | [], xs, h, i, v, hv => by simp at hv
  | w :: l, xs, h, i, v, hv => by
    obtain ⟨y, ys, h1, h2, rfl⟩ := denL_cons.1 h
    cases i with
    | zero => simp at hv; subst hv; exact ⟨y, rfl, h1⟩
    | succ i => simp at hv; simpa using denL_get h2 hv
theorem denL_append {l m : List V} {xs : List Value} : denL σ ρ (l ++ m) = some xs ↔ ∃ a b, denL σ ρ l = some a ∧ denL σ ρ m = some b ∧ xs = a ++ b := by
  induction l generalizing xs with
  | nil => simp [denL_nil]
  | cons v l ih =>
    simp only [List.cons_append, denL_cons, ih]
    constructor
    · rintro ⟨y, ys, h1, ⟨a, b, h2, h3, rfl⟩, rfl⟩
      exact ⟨y :: a, b, ⟨y, a, h1, h2, rfl⟩, h3, rfl⟩
    · rintro ⟨a, b, ⟨y, ys, h1, h2, rfl⟩, h3, rfl⟩
      exact ⟨y, ys ++ b, h1, ⟨ys, b, h2, h3, rfl⟩, rfl⟩
theorem denL_take {l : List V} {xs : List Value} (h : denL σ ρ l = some xs) (n : Nat) : denL σ ρ (l.take n) = some (xs.take n) := by
  induction l generalizing xs n with
  | nil => rw [denL_nil] at h; simp at h; subst h; simp [denL_nil]
  | cons v l ih =>
    obtain ⟨y, ys, h1, h2, rfl⟩ := denL_cons.1 h
    cases n with
    | zero => simp [denL_nil]
    | succ n => simp only [List.take_succ_cons]; exact denL_cons.2 ⟨y, _, h1, ih h2 n, rfl⟩
theorem denL_drop {l : List V} {xs : List Value} (h : denL σ ρ l = some xs) (n : Nat) : denL σ ρ (l.drop n) = some (xs.drop n) := by
  induction l generalizing xs n with
  | nil => rw [denL_nil] at h; simp at h; subst h; simp [denL_nil]
  | cons v l ih =>
    obtain ⟨y, ys, h1, h2, rfl⟩ := denL_cons.1 h
    cases n with
    | zero => exact h
    | succ n => simpa using ih h2 n
theorem denL_set {l : List V} {xs : List Value} (h : denL σ ρ l = some xs) (n : Nat) {v : V} {x : Value} (hv : den σ ρ v = some x) : denL σ ρ (l.set n v) = some (xs.set n x) := by
  induction l generalizing xs n with
  | nil => rw [denL_nil] at h; simp at h; subst h; simp [denL_nil]
  | cons w l ih =>
    obtain ⟨y, ys, h1, h2, rfl⟩ := denL_cons.1 h
    cases n with
    | zero => exact denL_cons.2 ⟨x, ys, hv, h2, rfl⟩
    | succ n => exact denL_cons.2 ⟨y, _, h1, ih h2 n, rfl⟩
theorem denL_replicate {v : V} {x : Value} (hv : den σ ρ v = some x) (n : Nat) : denL σ ρ (List.replicate n v) = some (List.replicate n x) := by
  induction n with
  | zero => simp [denL_nil]
  | succ n ih => simp only [List.replicate_succ]; exact denL_cons.2 ⟨x, _, hv, ih, rfl⟩
theorem denL_rep {l : List V} {xs : List Value} (h : denL σ ρ l = some xs) (n : Nat) : denL σ ρ (List.replicate n l).flatten = some (List.replicate n xs).flatten := by
  induction n with
  | zero => simp [denL_nil]
  | succ n ih => simp only [List.replicate_succ, List.flatten_cons]; exact denL_append.2 ⟨xs, _, h, ih, rfl⟩
theorem denL_put1 {l m : List V} {xs ys : List Value} (h : denL σ ρ l = some xs) (g : denL σ ρ m = some ys) (off : Nat) : denL σ ρ (put1 l off m) = some (xs.take off ++ ys ++ xs.drop (off + ys.length)) := by
  unfold put1
  rw [denL_len g]
  exact denL_append.2 ⟨_, _, denL_append.2 ⟨_, _, denL_take h _, g, rfl⟩, denL_drop h _, rfl⟩
theorem denL_mapO {α : Type} {f : α → Option V} {g : α → Value} (hf : ∀ x v, f x = some v → den σ ρ v = some (g x)) : ∀ {l : List α} {m : List V}, mapO f l = some m → denL σ ρ m = some (l.map g)
  | [], m, h => by simp [mapO] at h; subst h; simp [denL_nil]
  | x :: l, m, h => by
    simp only [mapO, Option.bind_eq_some_iff, Option.map_eq_some_iff] at h
    obtain ⟨y, hy, ys, hys, rfl⟩ := h
    exact denL_cons.2 ⟨g x, l.map g, hf x y hy, denL_mapO hf hys, rfl⟩
theorem ofCell_den {x : Value} {v : V} (h : ofCell x = some v) : den σ ρ v = some x := by
  unfold ofCell at h
  split at h <;> simp at h <;> subst h <;> simp [den, denL, T.i, T.b, T.s]
theorem ofValue_den {x : Value} {v : V} (h : ofValue x = some v) : den σ ρ v = some x := by
  unfold ofValue at h
  split at h
  · rename_i cs
    simp only [Option.map_eq_some_iff] at h
    obtain ⟨l, hl, rfl⟩ := h
    have := denL_mapO (σ := σ) (ρ := ρ) (g := id) (fun x v hx => ofCell_den hx) hl
    rw [den, this]
    simp
  · simp at h; subst h; simp [den, denL]
  · exact ofCell_den h
theorem one_den {v : V} {x : Value} (h : den σ ρ v = some x) (h1 : v.one = true) : x.oneCell' = true := by
  cases v <;> simp [V.one] at h1 <;> simp only [den, Option.some.injEq, Option.map_eq_some_iff, Option.bind_eq_some_iff] at h
  case int => subst h; rfl
  case bool => subst h; rfl
  case str => subst h; rfl
  case nilp => subst h; rfl
  case ptr => obtain ⟨r, _, rfl⟩ := h; rfl
  case nils => subst h; rfl
  case sl => obtain ⟨r, _, rfl⟩ := h; rfl
  case nilf => subst h; rfl
  case fn => obtain ⟨a, _, b, _, rfl⟩ := h; rfl
  case nili => subst h; rfl
  case nilm => subst h; rfl
  case nilc => subst h; rfl
  case val => split at h <;> simp at h; subst h; rename_i hh; exact hh.1
  case bad => simp at h
  case mp => obtain ⟨r, _, rfl⟩ := h; rfl
theorem cells_den {v : V} {x : Value} (h : den σ ρ v = some x) : denL σ ρ v.cells = some x.cells.toList := by
  cases v
  case agg l =>
    rw [den] at h
    simp only [Option.map_eq_some_iff] at h
    obtain ⟨cs, hcs, rfl⟩ := h
    simpa [V.cells, Value.cells] using hcs
  all_goals
    have hx : x.cells = #[x] := by
      simp only [den, Option.some.injEq, Option.map_eq_some_iff, Option.bind_eq_some_iff] at h
      first
        | (subst h; rfl)
        | (simp at h; done)
        | (obtain ⟨r, _, rfl⟩ := h; rfl)
        | (obtain ⟨a, _, b, _, rfl⟩ := h; rfl)
        | (split at h <;> simp at h; rename_i hh; subst h; revert hh; cases σ.v _ <;> simp [Value.oneCell', Value.cells])
    rw [hx]
    exact denL_cons.2 ⟨x, [], h, denL_nil, rfl⟩
theorem allOne_den {l : List V} {xs : List Value} (h : denL σ ρ l = some xs) (h1 : allOne l = true) : ∀ u ∈ xs, u.oneCell' = true := by
  induction l generalizing xs with
  | nil => rw [denL_nil] at h; simp at h; subst h; simp
  | cons v l ih =>
    obtain ⟨y, ys, h3, h2, rfl⟩ := denL_cons.1 h
    simp only [allOne, List.all_cons, Bool.and_eq_true] at h1
    intro u hu
    simp only [List.mem_cons] at hu
    rcases hu with rfl | hu
    · exact one_den h3 h1.1
    · exact ih h2 h1.2 u hu
end
def Ext (ρ ρ' : Rho) : Prop := ∀ i r, ρ i = some r → ρ' i = some r
theorem Ext.refl (ρ : Rho) : Ext ρ ρ := fun _ _ h => h
theorem Ext.trans {a b c : Rho} (h : Ext a b) (k : Ext b c) : Ext a c := fun i r hr => k i r (h i r hr)
mutual
theorem den_mono {σ : Env} {ρ ρ' : Rho} (he : Ext ρ ρ') : ∀ {v : V} {x : Value}, den σ ρ v = some x → den σ ρ' v = some x
  | .bad, _, h => by simp [den] at h
  | .int _ _, _, h | .bool _, _, h | .str _, _, h | .nilp, _, h | .nils, _, h | .nilf, _, h | .nili, _, h | .nilm, _, h | .nilc, _, h | .val _, _, h => by
    simpa [den] using h
  | .ptr id off, x, h => by
    simp only [den, Option.map_eq_some_iff] at h ⊢
    obtain ⟨r, hr, rfl⟩ := h
    exact ⟨r, he _ _ hr, rfl⟩
  | .mp id, x, h => by
    simp only [den, Option.map_eq_some_iff] at h ⊢
    obtain ⟨r, hr, rfl⟩ := h
    exact ⟨r, he _ _ hr, rfl⟩
  | .sl id off len c, x, h => by
    simp only [den, Option.map_eq_some_iff] at h ⊢
    obtain ⟨r, hr, rfl⟩ := h
    exact ⟨r, he _ _ hr, rfl⟩
  | .fn f a b, x, h => by
    simp only [den, Option.map_eq_some_iff, Option.bind_eq_some_iff] at h ⊢
    obtain ⟨a', ha, b', hb, rfl⟩ := h
    exact ⟨a', denL_mono he ha, b', denL_mono he hb, rfl⟩
  | .agg l, x, h => by
    simp only [den, Option.map_eq_some_iff] at h ⊢
    obtain ⟨a', ha, rfl⟩ := h
    exact ⟨a', denL_mono he ha, rfl⟩
  | .tup l, x, h => by
    simp only [den, Option.map_eq_some_iff] at h ⊢
    obtain ⟨a', ha, rfl⟩ := h
    exact ⟨a', denL_mono he ha, rfl⟩
theorem denL_mono {σ : Env} {ρ ρ' : Rho} (he : Ext ρ ρ') : ∀ {l : List V} {xs : List Value}, denL σ ρ l = some xs → denL σ ρ' l = some xs
  | [], xs, h => by rw [denL_nil] at h ⊢; exact h
  | v :: l, xs, h => by
    obtain ⟨y, ys, h1, h2, rfl⟩ := denL_cons.1 h
    exact denL_cons.2 ⟨y, ys, den_mono he h1, denL_mono he h2, rfl⟩
end
mutual
theorem den_plain {σ : Env} {ρ ρ' : Rho} : ∀ {v : V} {x : Value}, v.plain = true → den σ ρ v = some x → den σ ρ' v = some x
  | .int _ _, _, _, h | .bool _, _, _, h | .str _, _, _, h | .nilp, _, _, h | .nils, _, _, h | .nilf, _, _, h | .nili, _, _, h | .nilm, _, _, h | .nilc, _, _, h => by
    simpa [den] using h
  | .val _, x, hp, h => by simp [V.plain] at hp
  | .bad, x, hp, h => by simp [V.plain] at hp
  | .ptr id off, x, hp, h => by simp [V.plain] at hp
  | .sl id off len c, x, hp, h => by simp [V.plain] at hp
  | .fn f a b, x, hp, h => by
    simp only [V.plain, Bool.and_eq_true] at hp
    simp only [den, Option.map_eq_some_iff, Option.bind_eq_some_iff] at h ⊢
    obtain ⟨a', ha, b', hb, rfl⟩ := h
    exact ⟨a', denL_plain hp.1 ha, b', denL_plain hp.2 hb, rfl⟩
  | .agg l, x, hp, h => by
    simp only [V.plain] at hp
    simp only [den, Option.map_eq_some_iff] at h ⊢
    obtain ⟨a', ha, rfl⟩ := h
    exact ⟨a', denL_plain hp ha, rfl⟩
  | .tup l, x, hp, h => by
    simp only [V.plain] at hp
    simp only [den, Option.map_eq_some_iff] at h ⊢
    obtain ⟨a', ha, rfl⟩ := h
    exact ⟨a', denL_plain hp ha, rfl⟩
theorem denL_plain {σ : Env} {ρ ρ' : Rho} : ∀ {l : List V} {xs : List Value}, V.plainL l = true → denL σ ρ l = some xs → denL σ ρ' l = some xs
  | [], xs, _, h => by rw [denL_nil] at h ⊢; exact h
  | v :: l, xs, hp, h => by
    simp only [V.plainL, Bool.and_eq_true] at hp
    obtain ⟨y, ys, h1, h2, rfl⟩ := denL_cons.1 h
    exact denL_cons.2 ⟨y, ys, den_plain hp.1 h1, denL_plain hp.2 h2, rfl⟩
end
mutual
theorem den_some {σ : Env} {ρ : Rho} : ∀ {v : V}, v.plain = true → ∃ x, den σ ρ v = some x
  | .int _ _, _ | .bool _, _ | .str _, _ | .nilp, _ | .nils, _ | .nilf, _ | .nili, _ | .nilm, _ | .nilc, _ => by simp [den]
  | .val _, h => by simp [V.plain] at h
  | .bad, h => by simp [V.plain] at h
  | .ptr id off, hp => by simp [V.plain] at hp
  | .sl id off len c, hp => by simp [V.plain] at hp
  | .fn f a b, hp => by
    simp only [V.plain, Bool.and_eq_true] at hp
    obtain ⟨x, hx⟩ := denL_some (σ := σ) (ρ := ρ) hp.1
    obtain ⟨y, hy⟩ := denL_some (σ := σ) (ρ := ρ) hp.2
    exact ⟨_, by rw [den, hx, hy]; rfl⟩
  | .agg l, hp => by
    simp only [V.plain] at hp
    obtain ⟨x, hx⟩ := denL_some (σ := σ) (ρ := ρ) hp
    exact ⟨_, by rw [den, hx]; rfl⟩
  | .tup l, hp => by
    simp only [V.plain] at hp
    obtain ⟨x, hx⟩ := denL_some (σ := σ) (ρ := ρ) hp
    exact ⟨_, by rw [den, hx]; rfl⟩
theorem denL_some {σ : Env} {ρ : Rho} : ∀ {l : List V}, V.plainL l = true → ∃ xs, denL σ ρ l = some xs
  | [], _ => ⟨[], denL_nil⟩
  | v :: l, hp => by
    simp only [V.plainL, Bool.and_eq_true] at hp
    obtain ⟨x, hx⟩ := den_some (σ := σ) (ρ := ρ) hp.1
    obtain ⟨xs, hxs⟩ := denL_some (σ := σ) (ρ := ρ) hp.2
    exact ⟨x :: xs, denL_cons.2 ⟨x, xs, hx, hxs, rfl⟩⟩
end
section
variable {σ : Env}
theorem inR_b {k : IntKind} {t : T} (h : (T.inR k t).b σ = true) : k.min ≤ t.i σ ∧ t.i σ ≤ k.max := by
  simp only [T.inR, T.b, T.i, Bool.and_eq_true, leB_t] at h
  exact h
theorem wrap_in {k : IntKind} {n : Int} (h : k.min ≤ n ∧ n ≤ k.max) : k.wrap n = n := by
  cases k <;> simp only [IntKind.min, IntKind.max, IntKind.signed, IntKind.bits, IntKind.wrap] at * <;> simp at * <;> omega
theorem mkAdd_i {k : IntKind} {a b : T} (h : ∀ t ∈ (mkAdd k a b).2, t.b σ = true) : (mkAdd k a b).1.i σ = k.wrap (a.i σ + b.i σ) := by
  unfold mkAdd at *
  split
  · rfl
  · rename_i x y hne
    split at h
    · rename_i m n; exact absurd rfl (hne m n rfl)
    · have := inR_b (h (T.inR k (.add a b)) (by simp))
      simp only [T.i] at this ⊢
      rw [wrap_in this]
theorem mkSub_i {k : IntKind} {a b : T} (h : ∀ t ∈ (mkSub k a b).2, t.b σ = true) : (mkSub k a b).1.i σ = k.wrap (a.i σ - b.i σ) := by
  unfold mkSub at *
  split
  · rfl
  · rename_i x y hne
    split at h
    · rename_i m n; exact absurd rfl (hne m n rfl)
    · have := inR_b (h (T.inR k (.sub a b)) (by simp))
      simp only [T.i] at this ⊢
      rw [wrap_in this]
theorem mkMul_i {k : IntKind} {a b : T} (h : ∀ t ∈ (mkMul k a b).2, t.b σ = true) : (mkMul k a b).1.i σ = k.wrap (a.i σ * b.i σ) := by
  unfold mkMul at *
  split
  · rfl
  · rename_i x y hne
    split at h
    · rename_i m n; exact absurd rfl (hne m n rfl)
    · have := inR_b (h (T.inR k (.mul a b)) (by simp))
      simp only [T.i] at this ⊢
      rw [wrap_in this]
theorem mkQuo_i {k : IntKind} {a b : T} {r : T × List T} (hr : mkQuo k a b = some r) (h : ∀ t ∈ r.2, t.b σ = true) : b.i σ ≠ 0 ∧ r.1.i σ = k.wrap ((a.i σ).tdiv (b.i σ)) := by
  unfold mkQuo at hr
  split at hr
  · split at hr <;> simp at hr; subst hr; simp [T.i]; assumption
  · simp at hr; subst hr
    have h1 := h (.not (.eq b (.int 0))) (by simp)
    have := inR_b (h (T.inR k (.quo a b)) (by simp))
    simp only [T.i] at this ⊢
    rw [wrap_in this]
    simp [T.b, T.i, eqB_f] at h1
    exact ⟨h1, rfl⟩
theorem mkRem_i {a b : T} {r : T × List T} (hr : mkRem a b = some r) (h : ∀ t ∈ r.2, t.b σ = true) : b.i σ ≠ 0 ∧ r.1.i σ = (a.i σ).tmod (b.i σ) := by
  unfold mkRem at hr
  split at hr
  · split at hr <;> simp at hr; subst hr; simp [T.i]; assumption
  · simp at hr; subst hr
    have h1 := h (.not (.eq b (.int 0))) (by simp)
    simp [T.b, T.i, eqB_f] at h1
    exact ⟨h1, by simp [T.i]⟩
theorem mkWrap_i {k : IntKind} {a : T} (h : ∀ t ∈ (mkWrap k a).2, t.b σ = true) : (mkWrap k a).1.i σ = k.wrap (a.i σ) := by
  unfold mkWrap at *
  split
  · rfl
  · rename_i x hne
    split at h
    · rename_i m; exact absurd rfl (hne m)
    · have := inR_b (h (T.inR k a) (by simp))
      rw [wrap_in this]
theorem mkLt_b (a b : T) : (mkLt a b).b σ = ltB (a.i σ) (b.i σ) := by
  unfold mkLt; split
  · rfl
  · split
    · rename_i h; subst h; simp [T.b, ltB]
    · rw [Bool.eq_iff_iff]; simp [T.b, ltB, leB]
theorem mkNot_b (a : T) : (mkNot a).b σ = !(a.b σ) := by
  unfold mkNot; split <;> simp [T.b]
theorem pickB_b (c : T) (p q : Bool) : (pickB c p q).b σ = if c.b σ = true then p else q := by
  cases h : c.b σ <;> cases p <;> cases q <;> simp [pickB, T.b, h, mkNot_b]
theorem mkLe_b (a b : T) : (mkLe a b).b σ = leB (a.i σ) (b.i σ) := by
  unfold mkLe; split
  · rfl
  · rw [pickB_b]; simp only [T.i]; split <;> rfl
  · rw [pickB_b]; simp only [T.i]; split <;> rfl
  · rw [Bool.eq_iff_iff]; simp only [T.b, T.i, leB_t]; omega
  · split
    · rename_i h; subst h; rw [Bool.eq_iff_iff]; simp only [T.b, T.i, leB_t]; omega
    · rfl
  · split
    · rename_i h; subst h; rw [Bool.eq_iff_iff]; simp only [T.b, T.i, leB_t]; omega
    · rfl
  · split
    · rename_i h; subst h; simp [T.b, leB]
    · rfl
theorem mkEq_b (a b : T) : (mkEq a b).b σ = eqB (a.i σ) (b.i σ) := by
  unfold mkEq; split
  · rfl
  · simp only [T.i]
    split
    · rename_i h
      cases eqB _ _ <;> cases eqB _ _ <;> simp [pickB, T.b, h, mkNot_b]
    · rename_i h
      simp only [Bool.not_eq_true] at h
      cases eqB _ _ <;> cases eqB _ _ <;> simp [pickB, T.b, h, mkNot_b]
  · split
    · rename_i h; subst h; simp [T.b, eqB]
    · simp [T.b]
theorem mkAnd_b (a b : T) : (mkAnd a b).b σ = (a.b σ && b.b σ) := by
  unfold mkAnd; split <;> simp [T.b]
theorem mkOr_b (a b : T) : (mkOr a b).b σ = (a.b σ || b.b σ) := by
  unfold mkOr; split <;> simp [T.b]
theorem mkIteB_b (c a b : T) : (mkIteB c a b).b σ = if c.b σ = true then a.b σ else b.b σ := by
  unfold mkIteB; split
  · simp [T.b]
  · simp [T.b]
  · split
    · rename_i h; subst h; simp
    · split <;> simp only [mkOr_b, mkAnd_b, mkNot_b, T.b] <;> cases c.b σ <;> simp
theorem mkBeq_b (a b : T) : (mkBeq a b).b σ = (a.b σ == b.b σ) := by
  unfold mkBeq; split
  · simp [T.b]
  · split
    · rename_i h; subst h; simp [T.b]
    · simp [T.b]
theorem mkIte_i (c a b : T) : (mkIte c a b).i σ = if c.b σ = true then a.i σ else b.i σ := by
  unfold mkIte; split
  · simp [T.b]
  · simp [T.b]
  · split
    · rename_i h; subst h; simp
    · simp [T.i]
theorem mkIte_b (c a b : T) : (mkIte c a b).b σ = if c.b σ = true then a.b σ else b.b σ := by
  unfold mkIte; split
  · simp [T.b]
  · simp [T.b]
  · split
    · rename_i h; subst h; simp
    · simp [T.b]
theorem mkIte_s (c a b : T) : (mkIte c a b).s σ = if c.b σ = true then a.s σ else b.s σ := by
  unfold mkIte; split
  · simp [T.b]
  · simp [T.b]
  · split
    · rename_i h; subst h; simp
    · simp [T.s]
theorem andL_b : ∀ (l : List T), (andL l).b σ = true ↔ ∀ t ∈ l, t.b σ = true
  | [] => by simp [andL, T.b]
  | t :: l => by simp [andL, mkAnd_b, andL_b l]
theorem contraB_no {a b : List T} (h : contraB a b = true) (ha : ∀ t ∈ a, t.b σ = true) (hb : ∀ t ∈ b, t.b σ = true) : False := by
  unfold contraB at h
  simp only [List.any_eq_true] at h
  obtain ⟨t, ht, hc⟩ := h
  have h1 := ha t ht
  have h2 := hb _ (by simpa using hc)
  rw [mkNot_b, h1] at h2
  simp at h2
mutual
theorem iteV_den {c : T} {ρ : Rho} : ∀ {v u z : V}, iteV c v u = some z → den σ ρ z = if c.b σ = true then den σ ρ v else den σ ρ u
  | .int k a, .int k' b, z, h => by
    simp only [iteV] at h
    split at h <;> simp at h
    rename_i hk; subst hk; subst h
    simp only [den, mkIte_i]; split <;> rfl
  | .bool a, .bool b, z, h => by simp [iteV] at h; subst h; simp only [den, mkIteB_b]; split <;> rfl
  | .str a, .str b, z, h => by simp [iteV] at h; subst h; simp only [den, mkIte_s]; split <;> rfl
  | .agg l, .agg m, z, h => by
    simp only [iteV, Option.map_eq_some_iff] at h
    obtain ⟨x, hx, rfl⟩ := h
    simp only [den, iteL_den hx]; split <;> rfl
  | .tup l, .tup m, z, h => by
    simp only [iteV, Option.map_eq_some_iff] at h
    obtain ⟨x, hx, rfl⟩ := h
    simp only [den, iteL_den hx]; split <;> rfl
  | .nilp, .nilp, z, h | .nils, .nils, z, h | .nilf, .nilf, z, h | .nili, .nili, z, h | .nilm, .nilm, z, h | .nilc, .nilc, z, h => by simp [iteV] at h; subst h; simp
theorem iteL_den {c : T} {ρ : Rho} : ∀ {l m x : List V}, iteL c l m = some x → denL σ ρ x = if c.b σ = true then denL σ ρ l else denL σ ρ m
  | [], [], x, h => by simp [iteL] at h; subst h; simp
  | v :: l, u :: m, x, h => by
    simp only [iteL, Option.bind_eq_some_iff, Option.map_eq_some_iff] at h
    obtain ⟨y, hy, ys, hys, rfl⟩ := h
    simp only [denL, iteV_den hy, iteL_den hys]
    split <;> rfl
end
theorem addT_i (a b : T) : (addT a b).i σ = a.i σ + b.i σ := by
  unfold addT; split <;> simp [T.i]
theorem mkLen_i : ∀ (s : T), (mkLen s).i σ = ((s.s σ).size : Int) := by
  intro s
  induction s with
  | str s => rfl
  | cat a b iha ihb => simp only [mkLen, addT_i, iha, ihb, T.s, ByteArray.size_append]; omega
  | _ => simp [mkLen, T.i]
theorem sEqB_t {a b : ByteArray} : sEqB a b = true ↔ a.data.toList = b.data.toList := by simp [sEqB]
theorem emp_b (a : T) {b : ByteArray} (h : b.data.toList.length = 0) : (mkEq (mkLen a) (.int 0)).b σ = sEqB (a.s σ) b := by
  rw [mkEq_b, mkLen_i, Bool.eq_iff_iff, eqB_t, sEqB_t]
  have hb : b.data.toList = [] := List.eq_nil_of_length_eq_zero h
  show ((a.s σ).size : Int) = 0 ↔ (a.s σ).data.toList = b.data.toList
  rw [hb]
  constructor
  · intro h1
    apply List.eq_nil_of_length_eq_zero
    have h2 : (a.s σ).size = 0 := by omega
    simpa using h2
  · intro h1
    have : (a.s σ).data.toList.length = 0 := by rw [h1]; rfl
    have : (a.s σ).size = 0 := by simpa using this
    omega
theorem sEqB_comm (a b : ByteArray) : sEqB a b = sEqB b a := by rw [Bool.eq_iff_iff, sEqB_t, sEqB_t]; exact eq_comm
theorem mkSeq_b (a b : T) : (mkSeq a b).b σ = sEqB (a.s σ) (b.s σ) := by
  unfold mkSeq; split
  · simp [T.b, T.s]
  · split
    · rename_i h
      rw [emp_b _ h]; rfl
    · simp [T.b]
  · split
    · rename_i h
      rw [emp_b _ h, sEqB_comm]; rfl
    · simp [T.b]
  · split
    · rename_i h; subst h; simp [T.b, sEqB]
    · simp [T.b]
mutual
theorem sameV_den {ρ : Rho} : ∀ {v u : V} {ts : List T}, sameV v u = some ts → (∀ t ∈ ts, t.b σ = true) → den σ ρ v = den σ ρ u
  | .int k a, .int k' b, z, h, hz => by
    simp only [sameV] at h
    split at h <;> simp at h
    rename_i hk; subst hk
    have : (mkEq a b).b σ = true := by
      split at h
      · rename_i e; rw [e]; rfl
      · subst h; exact hz _ (by simp)
    rw [mkEq_b, eqB_t] at this
    simp only [den, this]
  | .bool a, .bool b, z, h, hz => by
    simp [sameV] at h
    have : (mkBeq a b).b σ = true := by
      split at h
      · rename_i e; rw [e]; rfl
      · subst h; exact hz _ (by simp)
    rw [mkBeq_b] at this
    simp only [den, beq_iff_eq.1 this]
  | .str a, .str b, z, h, hz => by
    simp only [sameV] at h
    split at h
    · rename_i e; rw [e]
    · simp only [Option.some.injEq] at h
      have : (mkSeq a b).b σ = true := by
        split at h
        · rename_i e; rw [e]; rfl
        · subst h; exact hz _ (by simp)
      rw [mkSeq_b, sEqB_t] at this
      have e : a.s σ = b.s σ := by
        cases h1 : a.s σ; cases h2 : b.s σ
        rw [h1, h2] at this
        congr
        exact Array.toList_inj.1 this
      simp only [den, e]
  | .agg l, .agg m, z, h, hz => by simp only [den, sameL_den (by simpa [sameV] using h) hz]
  | .tup l, .tup m, z, h, hz => by simp only [den, sameL_den (by simpa [sameV] using h) hz]
  | .nilp, .nilp, z, h, hz | .nils, .nils, z, h, hz | .nilf, .nilf, z, h, hz | .nili, .nili, z, h, hz | .nilm, .nilm, z, h, hz | .nilc, .nilc, z, h, hz => rfl
theorem sameL_den {ρ : Rho} : ∀ {l m : List V} {ts : List T}, sameL l m = some ts → (∀ t ∈ ts, t.b σ = true) → denL σ ρ l = denL σ ρ m
  | [], [], x, h, hz => rfl
  | v :: l, u :: m, x, h, hz => by
    simp only [sameL, Option.bind_eq_some_iff, Option.map_eq_some_iff] at h
    obtain ⟨y, hy, ys, hys, rfl⟩ := h
    simp only [denL, sameV_den hy (fun t ht => hz t (by simp [ht])), sameL_den hys (fun t ht => hz t (by simp [ht]))]
end
theorem mkIdx_i (s c : T) : (mkIdx s c).i σ = Lib.indexByte (s.s σ).data.toList (c.i σ).toNat.toUInt8 := by
  unfold mkIdx; split <;> rfl
theorem mkCnt_i (s c : T) : (mkCnt s c).i σ = (Lib.countByte (s.s σ).data.toList (c.i σ).toNat.toUInt8 : Nat) := by
  unfold mkCnt; split <;> rfl
theorem mkCmp_i (s t : T) : (mkCmp s t).i σ = Lib.compareBytes (s.s σ).data.toList (t.s σ).data.toList := by
  unfold mkCmp; split <;> rfl
theorem mkSlt_b (a b : T) : (mkSlt a b).b σ = sLtB (a.s σ) (b.s σ) := by
  have irr : ∀ l : List UInt8, Op.bytesLess l l = false := fun l => by
    induction l with
    | nil => rfl
    | cons x l ih => simp [Op.bytesLess, ih]
  unfold mkSlt; split
  · simp [T.b, T.s]
  · split
    · rename_i h; subst h; simp [T.b, sLtB, irr]
    · simp [T.b]
theorem catT_s : ∀ (b a : T), (catT a b).s σ = a.s σ ++ b.s σ := by
  intro b
  induction b with
  | str y =>
    intro a
    unfold catT
    split <;> try simp_all [T.s]
    split
    · rename_i h
      rename_i b _ _
      have : b = ByteArray.empty := ByteArray.ext (Array.eq_empty_of_size_eq_zero (by simpa using h))
      simp [this]
    · simp [T.s]
  | cat x y ihx ihy =>
    intro a
    unfold catT
    split <;> simp_all [T.s, ByteArray.append_assoc]
  | _ => intro a; unfold catT; split <;> simp_all [T.s]
theorem mkCat_s {a b : T} (h : ∀ t ∈ (mkCat a b).2, t.b σ = true) : (mkCat a b).1.s σ = a.s σ ++ b.s σ ∧ (a.s σ).size + (b.s σ).size ≤ 9223372036854775807 := by
  refine ⟨catT_s b a, ?_⟩
  have hb : (mkLe (addT (mkLen a) (mkLen b)) (.int 9223372036854775807)).b σ = true := by
    unfold mkCat at h
    split at h
    · rename_i e; rw [e]; simp [T.b]
    · exact h _ (by simp)
  rw [mkLe_b, addT_i, mkLen_i, mkLen_i, leB_t] at hb
  simp only [T.i] at hb
  omega
set_option maxHeartbeats 1000000 in
theorem fact1_b {p t : T} {b : Bool} (h : fact1 p t = some b) (hp : p.b σ = true) : t.b σ = b := by
  unfold fact1 at h
  split at h
  all_goals try (simp at h; done)
  all_goals
    split at h
    all_goals try (simp at h; done)
    all_goals
      split at h
      all_goals try (simp at h; done)
      rename_i hc
      simp only [Option.some.injEq] at h
      first
        | (obtain ⟨rfl, hc⟩ := hc)
        | (obtain rfl := hc)
      subst h
      simp only [T.b, T.i, leB_t, leB_f, eqB_t, eqB_f, Bool.not_eq_eq_eq_not, Bool.not_true] at hp ⊢
      first
        | omega
        | (rw [hp])
theorem facts_b {t : T} {b : Bool} : ∀ {pc : List T}, facts t pc = some b → (∀ t ∈ pc, t.b σ = true) → t.b σ = b
  | [], h, _ => by simp [facts] at h
  | p :: pc, h, hpc => by
    unfold facts at h
    split at h
    · rename_i hf; simp at h; subst h; exact fact1_b hf (hpc p (by simp))
    · exact facts_b h (fun t ht => hpc t (by simp [ht]))
theorem pcDec_b {pc : List T} {t : T} {b : Bool} (h : pcDec pc t = some b) (hpc : ∀ t ∈ pc, t.b σ = true) : t.b σ = b := by
  unfold pcDec at h
  split at h
  · simp at h; subst h; simp [T.b]
  · split at h
    · rename_i hm; simp at h; subst h; exact hpc _ (by simpa using hm)
    · split at h
      · rename_i hm; simp at h; subst h
        have := hpc _ (by simpa using hm)
        simp [T.b, this]
      · simp only [Option.map_eq_some_iff] at h
        obtain ⟨c, hc, rfl⟩ := h
        simp [T.b, facts_b hc hpc]
  · split at h
    · rename_i hm; simp at h; subst h; exact hpc _ (by simpa using hm)
    · split at h
      · rename_i hm; simp at h; subst h
        have := hpc _ (by simpa using hm)
        simpa [T.b] using this
      · exact facts_b h hpc
def Hi (σ : Env) (t : T) (o : Option Int) : Prop := ∀ n, o = some n → t.i σ ≤ n
def Lo (σ : Env) (t : T) (o : Option Int) : Prop := ∀ n, o = some n → n ≤ t.i σ
theorem minO_hi {t : T} {a b : Option Int} (h : Hi σ t a) (k : Hi σ t b) : Hi σ t (minO a b) := by
  intro n hn
  cases a <;> cases b <;> simp [minO] at hn
  · exact k n (by rw [hn])
  · exact h n (by rw [hn])
  · have h1 := h _ rfl; have h2 := k _ rfl; split at hn <;> omega
theorem maxO_lo {t : T} {a b : Option Int} (h : Lo σ t a) (k : Lo σ t b) : Lo σ t (maxO a b) := by
  intro n hn
  cases a <;> cases b <;> simp [maxO] at hn
  · exact k n (by rw [hn])
  · exact h n (by rw [hn])
  · have h1 := h _ rfl; have h2 := k _ rfl; split at hn <;> omega
theorem hiF_ok {f : T → Option Int} (hf : ∀ x, Hi σ x (f x)) {t : T} : ∀ {pc : List T}, (∀ t ∈ pc, t.b σ = true) → Hi σ t (hiF f t pc)
  | [], _ => by intro n hn; simp [hiF] at hn
  | p :: pc, h => by
    have ih := hiF_ok hf (t := t) (pc := pc) (fun t ht => h t (List.mem_cons_of_mem _ ht))
    have hp := h p (by simp)
    unfold hiF
    simp only
    split
    · split
      · rename_i e; subst e
        refine minO_hi (fun m hm => ?_) ih
        simp at hm; subst hm
        simpa only [T.b, T.i, leB_t] using hp
      · exact ih
    · split
      · rename_i y _ e; subst e
        refine minO_hi (fun m hm => ?_) ih
        have h1 := hf y m hm
        simp only [T.b, leB_t] at hp
        omega
      · exact ih
    · split
      · rename_i e; subst e
        refine minO_hi (fun m hm => ?_) ih
        simp at hm; subst hm
        simp only [T.b, T.i, Bool.not_eq_eq_eq_not, Bool.not_true, leB_f] at hp
        omega
      · exact ih
    · split
      · rename_i y _ _ e; subst e
        refine minO_hi (fun m hm => ?_) ih
        simp only [Option.map_eq_some_iff] at hm
        obtain ⟨q, hq, rfl⟩ := hm
        have h1 := hf y q hq
        simp only [T.b, Bool.not_eq_eq_eq_not, Bool.not_true, leB_f] at hp
        omega
      · exact ih
    · split
      · rename_i e; subst e
        refine minO_hi (fun m hm => ?_) ih
        simp at hm; subst hm
        simp only [T.b, T.i, eqB_t] at hp
        omega
      · exact ih
    · split
      · rename_i e; subst e
        split
        · rename_i e2
          intro m hm
          simp at hm; subst hm
          have := ih _ e2
          simp only [T.b, T.i, Bool.not_eq_eq_eq_not, Bool.not_true, eqB_f] at hp
          omega
        · exact ih
      · exact ih
    · exact ih
theorem loF_ok {f : T → Option Int} (hf : ∀ x, Lo σ x (f x)) {t : T} : ∀ {pc : List T}, (∀ t ∈ pc, t.b σ = true) → Lo σ t (loF f t pc)
  | [], _ => by intro n hn; simp [loF] at hn
  | p :: pc, h => by
    have ih := loF_ok hf (t := t) (pc := pc) (fun t ht => h t (List.mem_cons_of_mem _ ht))
    have hp := h p (by simp)
    unfold loF
    simp only
    split
    · split
      · rename_i e; subst e
        refine maxO_lo (fun m hm => ?_) ih
        simp at hm; subst hm
        simpa only [T.b, T.i, leB_t] using hp
      · exact ih
    · split
      · rename_i y _ _ e; subst e
        refine maxO_lo (fun m hm => ?_) ih
        have h1 := hf y m hm
        simp only [T.b, leB_t] at hp
        omega
      · exact ih
    · split
      · rename_i e; subst e
        refine maxO_lo (fun m hm => ?_) ih
        simp at hm; subst hm
        simp only [T.b, T.i, Bool.not_eq_eq_eq_not, Bool.not_true, leB_f] at hp
        omega
      · exact ih
    · split
      · rename_i y _ e; subst e
        refine maxO_lo (fun m hm => ?_) ih
        simp only [Option.map_eq_some_iff] at hm
        obtain ⟨q, hq, rfl⟩ := hm
        have h1 := hf y q hq
        simp only [T.b, Bool.not_eq_eq_eq_not, Bool.not_true, leB_f] at hp
        omega
      · exact ih
    · split
      · rename_i e; subst e
        refine maxO_lo (fun m hm => ?_) ih
        simp at hm; subst hm
        simp only [T.b, T.i, eqB_t] at hp
        omega
      · exact ih
    · split
      · rename_i e; subst e
        split
        · rename_i e2
          intro m hm
          simp at hm; subst hm
          have := ih _ e2
          simp only [T.b, T.i, Bool.not_eq_eq_eq_not, Bool.not_true, eqB_f] at hp
          omega
        · exact ih
      · exact ih
    · exact ih
theorem add2_some {a b : Option Int} {n : Int} (h : add2 a b = some n) : ∃ x y, a = some x ∧ b = some y ∧ n = x + y := by
  cases a <;> cases b <;> simp [add2] at h
  exact ⟨_, _, rfl, rfl, h.symm⟩
theorem sub2_some {a b : Option Int} {n : Int} (h : sub2 a b = some n) : ∃ x y, a = some x ∧ b = some y ∧ n = x - y := by
  cases a <;> cases b <;> simp [sub2] at h
  exact ⟨_, _, rfl, rfl, h.symm⟩
theorem wrap_bnd (k : IntKind) (n : Int) : k.min ≤ k.wrap n ∧ k.wrap n ≤ k.max := by
  cases k <;> simp only [IntKind.wrap, IntKind.min, IntKind.max, IntKind.bits, IntKind.signed] <;> constructor <;> (try simp) <;> (try split) <;> omega
theorem tdiv_mono {a b n : Int} (h : a ≤ b) (hn : 0 < n) : a.tdiv n ≤ b.tdiv n := by
  by_cases h0 : 0 ≤ a
  · rw [Int.tdiv_eq_ediv_of_nonneg h0, Int.tdiv_eq_ediv_of_nonneg (by omega)]
    exact Int.ediv_le_ediv hn h
  · by_cases h1 : 0 ≤ b
    · have h2 : 0 ≤ b.tdiv n := Int.tdiv_nonneg h1 (by omega)
      have h3 : 0 ≤ (-a).tdiv n := Int.tdiv_nonneg (by omega) (by omega)
      rw [Int.neg_tdiv] at h3
      omega
    · have h4 : (-b).tdiv n ≤ (-a).tdiv n := by
        rw [Int.tdiv_eq_ediv_of_nonneg (by omega), Int.tdiv_eq_ediv_of_nonneg (by omega)]
        exact Int.ediv_le_ediv hn (by omega)
      rw [Int.neg_tdiv, Int.neg_tdiv] at h4
      omega
theorem bnd_ok {pc : List T} (hpc : ∀ t ∈ pc, t.b σ = true) : ∀ k t, Hi σ t (hiB pc k t) ∧ Lo σ t (loB pc k t) := by
  intro k
  induction k with
  | zero => intro t; cases t <;> exact ⟨fun n hn => by simp [hiB] at hn; try (subst hn; simp [T.i]), fun n hn => by simp [loB] at hn; try (subst hn; simp [T.i])⟩
  | succ k ih =>
    intro t
    have hF := hiF_ok (σ := σ) (f := hiB pc k) (fun x => (ih x).1) (t := t) hpc
    have lF := loF_ok (σ := σ) (f := loB pc k) (fun x => (ih x).2) (t := t) hpc
    cases t
    case int m => exact ⟨fun n hn => by simp [hiB] at hn; subst hn; simp [T.i], fun n hn => by simp [loB] at hn; subst hn; simp [T.i]⟩
    case add a b =>
      refine ⟨?_, ?_⟩
      · simp only [hiB]
        refine minO_hi (fun n hn => ?_) hF
        obtain ⟨x, y, hx, hy, rfl⟩ := add2_some hn
        have := (ih a).1 x hx; have := (ih b).1 y hy
        simp only [T.i]; omega
      · simp only [loB]
        refine maxO_lo (fun n hn => ?_) lF
        obtain ⟨x, y, hx, hy, rfl⟩ := add2_some hn
        have := (ih a).2 x hx; have := (ih b).2 y hy
        simp only [T.i]; omega
    case sub a b =>
      refine ⟨?_, ?_⟩
      · simp only [hiB]
        refine minO_hi (fun n hn => ?_) hF
        obtain ⟨x, y, hx, hy, rfl⟩ := sub2_some hn
        have := (ih a).1 x hx; have := (ih b).2 y hy
        simp only [T.i]; omega
      · simp only [loB]
        refine maxO_lo (fun n hn => ?_) (maxO_lo (fun n hn => ?_) lF)
        · unfold relLo at hn
          split at hn <;> simp at hn
          rename_i hc
          have := hpc _ (by simpa using hc)
          simp only [T.b, leB_t] at this
          subst hn
          simp only [T.i]; omega
        obtain ⟨x, y, hx, hy, rfl⟩ := sub2_some hn
        have := (ih a).2 x hx; have := (ih b).1 y hy
        simp only [T.i]; omega
    case ite c a b =>
      refine ⟨?_, ?_⟩
      · simp only [hiB]
        refine minO_hi (fun n hn => ?_) hF
        cases hx : hiB pc k a <;> cases hy : hiB pc k b <;> simp [hx, hy, max2] at hn
        have := (ih a).1 _ hx; have := (ih b).1 _ hy
        simp only [T.i]; split at hn <;> split <;> omega
      · simp only [loB]
        refine maxO_lo (fun n hn => ?_) lF
        cases hx : loB pc k a <;> cases hy : loB pc k b <;> simp [hx, hy, min2] at hn
        have := (ih a).2 _ hx; have := (ih b).2 _ hy
        simp only [T.i]; split at hn <;> split <;> omega
    case mul a b =>
      refine ⟨?_, ?_⟩
      · simp only [hiB]
        refine minO_hi (fun n hn => ?_) hF
        cases hx : hiB pc k a <;> cases hy : hiB pc k b <;> cases hu : loB pc k a <;> cases hw : loB pc k b <;> simp [hx, hy, hu, hw, mulHi] at hn
        have h1 := (ih a).1 _ hx; have h2 := (ih b).1 _ hy; have h3 := (ih a).2 _ hu; have h4 := (ih b).2 _ hw
        obtain ⟨⟨h5, h6⟩, rfl⟩ := hn
        simp only [T.i]
        exact Int.mul_le_mul h1 h2 (by omega) (by omega)
      · simp only [loB]
        refine maxO_lo (fun n hn => ?_) lF
        cases hu : loB pc k a <;> cases hw : loB pc k b <;> simp [hu, hw, mulLo] at hn
        have h3 := (ih a).2 _ hu; have h4 := (ih b).2 _ hw
        obtain ⟨⟨h5, h6⟩, rfl⟩ := hn
        simp only [T.i]
        exact Int.mul_le_mul h3 h4 h6 (by omega)
    case rem a b =>
      refine ⟨?_, ?_⟩
      · simp only [hiB]
        refine minO_hi (fun n hn => ?_) hF
        unfold remHi at hn
        split at hn <;> try (simp at hn; done)
        split at hn <;> simp at hn
        rename_i m hm
        subst hn
        simp only [T.i]
        have := Int.tmod_lt_of_pos (T.i σ a) hm
        omega
      · simp only [loB]
        refine maxO_lo (fun n hn => ?_) lF
        unfold remLo at hn
        split at hn <;> try (simp at hn; done)
        split at hn <;> try (simp at hn; done)
        rename_i m hm
        simp only [T.i]
        have h1 := Int.tmod_lt_of_pos (-(T.i σ a)) hm
        rw [Int.neg_tmod] at h1
        split at hn
        · rename_i x hx
          have h2 := (ih a).2 _ hx
          split at hn <;> simp at hn <;> subst hn
          · exact Int.tmod_nonneg _ (by omega)
          · omega
        · simp at hn; subst hn; omega
    case quo a b =>
      refine ⟨?_, ?_⟩
      · simp only [hiB]
        refine minO_hi (fun n hn => ?_) hF
        unfold quoB at hn
        split at hn <;> try (simp at hn; done)
        split at hn <;> try (simp at hn; done)
        rename_i m hm
        simp only [Option.map_eq_some_iff] at hn
        obtain ⟨x, hx, rfl⟩ := hn
        have h2 := (ih a).1 _ hx
        simp only [T.i]
        exact tdiv_mono h2 hm
      · simp only [loB]
        refine maxO_lo (fun n hn => ?_) lF
        unfold quoB at hn
        split at hn <;> try (simp at hn; done)
        split at hn <;> try (simp at hn; done)
        rename_i m hm
        simp only [Option.map_eq_some_iff] at hn
        obtain ⟨x, hx, rfl⟩ := hn
        have h2 := (ih a).2 _ hx
        simp only [T.i]
        exact tdiv_mono h2 hm
    case byte s i =>
      refine ⟨?_, ?_⟩
      · simp only [hiB]
        refine minO_hi (fun n hn => ?_) hF
        simp at hn
        subst hn
        simp only [T.i]
        have := ((T.s σ s).data.toList.getD (T.i σ i).toNat 0).toNat_lt
        omega
      · simp only [loB]
        refine maxO_lo (fun n hn => ?_) lF
        simp at hn
        subst hn
        simp [T.i]
    case wrap q a =>
      refine ⟨?_, ?_⟩
      · simp only [hiB]
        refine minO_hi (fun n hn => ?_) hF
        simp at hn
        subst hn
        exact (wrap_bnd q (T.i σ a)).2
      · simp only [loB]
        refine maxO_lo (fun n hn => ?_) lF
        simp at hn
        subst hn
        exact (wrap_bnd q (T.i σ a)).1
    case len s =>
      refine ⟨by simpa only [hiB] using hF, ?_⟩
      simp only [loB]
      refine maxO_lo (fun n hn => ?_) lF
      simp at hn
      subst hn
      simp [T.i]
    all_goals exact ⟨by simpa only [hiB] using hF, by simpa only [loB] using lF⟩
theorem leBnd_ok {pc : List T} (hpc : ∀ t ∈ pc, t.b σ = true) {a b : T} {r : Bool} (h : leBnd pc a b = some r) : leB (a.i σ) (b.i σ) = r := by
  have ha := bnd_ok (σ := σ) hpc 4 a
  have hb := bnd_ok (σ := σ) hpc 4 b
  have no : ∀ d, sub2 (loB pc 4 a) (hiB pc 4 b) = some d → 0 < d → leB (a.i σ) (b.i σ) = false := by
    intro d hd h0
    obtain ⟨x, y, hx, hy, rfl⟩ := sub2_some hd
    have := ha.2 x hx; have := hb.1 y hy
    rw [leB_f]; omega
  unfold leBnd at h
  split at h
  · rename_i d hd
    split at h
    · simp at h; subst h
      obtain ⟨x, y, hx, hy, rfl⟩ := sub2_some hd
      have := ha.1 x hx; have := hb.2 y hy
      rw [leB_t]; omega
    · split at h
      · rename_i d2 hd2
        split at h <;> simp at h
        subst h
        exact no d2 hd2 (by assumption)
      · simp at h
  · split at h
    · rename_i d2 hd2
      split at h <;> simp at h
      subst h
      exact no d2 hd2 (by assumption)
    · simp at h
theorem eqBnd_ok {pc : List T} (hpc : ∀ t ∈ pc, t.b σ = true) {a b : T} {r : Bool} (h : eqBnd pc a b = some r) : eqB (a.i σ) (b.i σ) = r := by
  unfold eqBnd at h
  split at h
  · rename_i h1 h2
    have h1 := leBnd_ok hpc h1; have h2 := leBnd_ok hpc h2
    simp at h; subst h
    rw [leB_t] at h1 h2
    rw [eqB_t]; omega
  · rename_i h1
    have h1 := leBnd_ok hpc h1
    simp at h; subst h
    rw [leB_f] at h1
    rw [eqB_f]; omega
  · rename_i h1 _
    have h1 := leBnd_ok hpc h1
    simp at h; subst h
    rw [leB_f] at h1
    rw [eqB_f]; omega
  · simp at h
theorem decT_b {pc : List T} (hpc : ∀ t ∈ pc, t.b σ = true) : ∀ {t : T} {b : Bool}, decT pc t = some b → t.b σ = b := by
  intro t
  induction t with
  | and a b iha ihb =>
    intro r h
    simp only [decT] at h
    split at h
    · rename_i h1; simp at h; subst h; simp [T.b, iha h1]
    · rename_i h1 h2; simp at h; subst h; simp [T.b, ihb h1]
    · rename_i h1 h2; simp at h; subst h; simp [T.b, iha h1, ihb h2]
    · exact pcDec_b h hpc
  | or a b iha ihb =>
    intro r h
    simp only [decT] at h
    split at h
    · rename_i h1; simp at h; subst h; simp [T.b, iha h1]
    · rename_i h1 h2; simp at h; subst h; simp [T.b, ihb h1]
    · rename_i h1 h2; simp at h; subst h; simp [T.b, iha h1, ihb h2]
    · exact pcDec_b h hpc
  | not a iha =>
    intro r h
    simp only [decT] at h
    split at h
    · rename_i h1; simp at h; subst h; simp [T.b, iha h1]
    · exact pcDec_b h hpc
  | le a b iha ihb =>
    intro r h
    simp only [decT] at h
    split at h
    · rename_i h1; simp at h; subst h; exact pcDec_b h1 hpc
    · simpa only [T.b] using leBnd_ok hpc h
  | eq a b iha ihb =>
    intro r h
    simp only [decT] at h
    split at h
    · rename_i h1; simp at h; subst h; exact pcDec_b h1 hpc
    · simpa only [T.b] using eqBnd_ok hpc h
  | _ => intro r h; exact pcDec_b (by simpa only [decT] using h) hpc
theorem convT_i {pc : List T} (hpc : ∀ t ∈ pc, t.b σ = true) (k : IntKind) (a : T) : (convT pc k a).i σ = k.wrap (a.i σ) := by
  unfold convT
  split
  · rfl
  · split
    · rename_i h
      have := inR_b (decT_b hpc h)
      rw [wrap_in this]
    · rfl
theorem againT_b {pc : List T} (hpc : ∀ t ∈ pc, t.b σ = true) (t : T) : (againT pc t).b σ = t.b σ := by
  unfold againT
  split
  · rename_i h; rw [decT_b hpc h]; rfl
  · rfl
theorem leaves_b : ∀ {t : T}, t.b σ = true → ∀ u ∈ leaves t, u.b σ = true := by
  intro t
  induction t with
  | and a b iha ihb =>
    intro h u hu
    simp only [T.b, Bool.and_eq_true] at h
    simp only [leaves, List.mem_append] at hu
    rcases hu with hu | hu
    · exact iha h.1 u hu
    · exact ihb h.2 u hu
  | _ => intro h u hu; simp only [leaves, List.mem_singleton] at hu; subst hu; exact h
theorem parts_b {t : T} (h : t.b σ = true) : ∀ u ∈ parts t, u.b σ = true := by
  intro u hu
  unfold parts at hu
  split at hu
  · simp only [T.b, Bool.and_eq_true] at h
    rcases List.mem_append.1 hu with hu | hu
    · exact leaves_b h.1 u hu
    · exact leaves_b h.2 u hu
  · simp only [T.b, Bool.not_eq_true', Bool.or_eq_false_iff] at h
    simp only [List.mem_cons, List.not_mem_nil, or_false] at hu
    rcases hu with rfl | rfl <;> rw [mkNot_b] <;> simp [h]
  · simp at hu
mutual
theorem simI_i {pc : List T} (hpc : ∀ t ∈ pc, t.b σ = true) : ∀ (t : T), (simI pc t).i σ = t.i σ
  | .ite c a b => by
    simp only [simI]
    split
    · rename_i h; simp only [T.i, decT_b hpc h, simI_i hpc a, if_true]
    · rename_i h; simp only [T.i, decT_b hpc h, simI_i hpc b, Bool.false_eq_true, if_false]
    · simp only [mkIte_i, simB_b hpc c, simI_i hpc a, simI_i hpc b, T.i]
  | .add a b => by simp only [simI, T.i, simI_i hpc a, simI_i hpc b]
  | .sub a b => by simp only [simI, T.i, simI_i hpc a, simI_i hpc b]
  | .fni f as => by simp only [simI, T.i, simA_l hpc as]
  | .cat _ _ | .ext _ _ _ | .slt _ _ | .idx _ _ | .cnt _ _ | .cmp _ _ | .sfb _ _ | .wrap _ _ | .int _ | .bool _ | .str _ | .var _ | .bvar _ | .svar _ | .mul _ _ | .quo _ _ | .rem _ _ | .len _ | .byte _ _ | .le _ _ | .lt _ _ | .eq _ _ | .beq _ _ | .seq _ _
  | .not _ | .and _ _ | .or _ _ | .fnb _ _ | .nil | .cons _ _ => by simp only [simI]
theorem simB_b {pc : List T} (hpc : ∀ t ∈ pc, t.b σ = true) : ∀ (t : T), (simB pc t).b σ = t.b σ
  | .ite c a b => by
    simp only [simB]
    split
    · rename_i h; simp only [T.b, decT_b hpc h, simB_b hpc a, if_true]
    · rename_i h; simp only [T.b, decT_b hpc h, simB_b hpc b, Bool.false_eq_true, if_false]
    · simp only [againT_b hpc, mkIteB_b, simB_b hpc c, simB_b hpc a, simB_b hpc b, T.b]
  | .le a b => by
    simp only [simB]
    split
    · rename_i h; rw [decT_b hpc h]; rfl
    · rw [againT_b hpc, mkLe_b, simI_i hpc a, simI_i hpc b]; rfl
  | .eq a b => by
    simp only [simB]
    split
    · rename_i h; rw [decT_b hpc h]; rfl
    · rw [againT_b hpc, mkEq_b, simI_i hpc a, simI_i hpc b]; rfl
  | .and a b => by
    simp only [simB]
    split
    · rename_i h; rw [decT_b hpc h]; rfl
    · rw [againT_b hpc, mkAnd_b, simB_b hpc a, simB_b hpc b]; rfl
  | .or a b => by
    simp only [simB]
    split
    · rename_i h; rw [decT_b hpc h]; rfl
    · rw [againT_b hpc, mkOr_b, simB_b hpc a, simB_b hpc b]; rfl
  | .not a => by
    simp only [simB]
    split
    · rename_i h; rw [decT_b hpc h]; rfl
    · rw [againT_b hpc, mkNot_b, simB_b hpc a]; rfl
  | .cat _ _ | .ext _ _ _ | .slt _ _ | .idx _ _ | .cnt _ _ | .cmp _ _ | .sfb _ _ | .wrap _ _ | .int _ | .bool _ | .str _ | .var _ | .bvar _ | .svar _ | .add _ _ | .sub _ _ | .mul _ _ | .quo _ _ | .rem _ _ | .len _ | .byte _ _ | .lt _ _ | .beq _ _ | .seq _ _
  | .fni _ _ | .fnb _ _ | .nil | .cons _ _ => by simp only [simB]; exact againT_b hpc _
theorem simA_l {pc : List T} (hpc : ∀ t ∈ pc, t.b σ = true) : ∀ (t : T), (simA pc t).l σ = t.l σ
  | .cons a as => by simp only [simA, T.l, simI_i hpc a, simA_l hpc as]
  | .cat _ _ | .ext _ _ _ | .slt _ _ | .idx _ _ | .cnt _ _ | .cmp _ _ | .sfb _ _ | .wrap _ _ | .int _ | .bool _ | .str _ | .var _ | .bvar _ | .svar _ | .add _ _ | .sub _ _ | .mul _ _ | .quo _ _ | .rem _ _ | .len _ | .byte _ _ | .le _ _ | .lt _ _ | .eq _ _ | .beq _ _ | .seq _ _
  | .not _ | .and _ _ | .or _ _ | .ite _ _ _ | .fni _ _ | .fnb _ _ | .nil => by simp only [simA]
end
theorem decG_b {pc : List T} (hpc : ∀ t ∈ pc, t.b σ = true) {t : T} {b : Bool} (h : decG pc t = some b) : t.b σ = b := by
  unfold decG at h
  split at h
  · rename_i e
    simp at h; subst h
    rw [← simB_b hpc t, e]; rfl
  · simp at h
mutual
theorem simV_den {pc : List T} (hpc : ∀ t ∈ pc, t.b σ = true) {ρ : Rho} : ∀ (v : V), den σ ρ (simV pc v) = den σ ρ v
  | .int k t => by simp only [simV, den, simI_i hpc t]
  | .bool t => by simp only [simV, den, simB_b hpc t]
  | .agg l => by simp only [simV, den, simL_den hpc l]
  | .tup l => by simp only [simV, den, simL_den hpc l]
  | .str _ | .nilp | .ptr _ _ | .nils | .sl _ _ _ _ | .nilf | .fn _ _ _ | .nili | .nilm | .nilc | .val _ | .bad | .mp _ => by simp only [simV]
theorem simL_den {pc : List T} (hpc : ∀ t ∈ pc, t.b σ = true) {ρ : Rho} : ∀ (l : List V), denL σ ρ (simL pc l) = denL σ ρ l
  | [] => by simp only [simL]
  | v :: l => by simp only [simL, denL, simV_den hpc v, simL_den hpc l]
end
theorem filt_ok {pc : List T} {l : List T} (hpc : ∀ t ∈ pc, t.b σ = true) (h : ∀ t ∈ l.filter (fun t => decG pc t != some true), t.b σ = true) : ∀ t ∈ l, t.b σ = true := fun t ht => by
  by_cases hd : decG pc t = some true
  · exact decG_b hpc hd
  · exact h t (List.mem_filter.2 ⟨ht, by simpa using hd⟩)
end
end Go.Proofs.Ytehbfajmileefaa.Vx
