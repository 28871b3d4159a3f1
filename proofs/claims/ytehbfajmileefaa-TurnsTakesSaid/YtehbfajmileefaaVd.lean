import Derived.Test.YtehbfajmileefaaVc
import Derived.ChangeKeysEq
namespace Go.Proofs.Ytehbfajmileefaa.Vx
open Go.RowKit
set_option linter.unusedVariables false
set_option linter.unusedSimpArgs false
theorem Tr.set_succ (f : Nat) (t : Tr) (i : Nat) (v : V) : Tr.set (f + 1) t i v = (match i with
    | 0 => .nd t.left v t.right
    | j + 1 => match Nat.beq (j % 2) 0 with
      | true => .nd (Tr.set f t.left (j / 2) v) t.val t.right
      | false => .nd t.left t.val (Tr.set f t.right (j / 2) v)) := by
  cases t <;> cases i <;> rfl
theorem Tr.get_set : ∀ (f : Nat) (t : Tr) (i j : Nat) (v : V), i < f → (Tr.set f t i v).get j = if j = i then v else t.get j
  | 0, t, i, j, v, h => by omega
  | f + 1, t, i, j, v, h => by
    have hl : ∀ k, t.left.get k = t.get (2 * k + 1) := fun k => by
      cases t with
      | lf => rfl
      | nd l u r =>
        have h1 : Nat.beq ((2 * k) % 2) 0 = true := by simp
        have h2 : 2 * k / 2 = k := by omega
        simp only [Tr.left, Tr.get, h1, h2]
    have hr : ∀ k, t.right.get k = t.get (2 * k + 1 + 1) := fun k => by
      cases t with
      | lf => rfl
      | nd l u r =>
        have h1 : Nat.beq ((2 * k + 1) % 2) 0 = false := by rw [show (2 * k + 1) % 2 = 1 by omega]; rfl
        have h2 : (2 * k + 1) / 2 = k := by omega
        simp only [Tr.right, Tr.get, h1, h2]
    have hv : t.val = t.get 0 := by cases t <;> rfl
    have sp : ∀ (l r : Tr) (u : V) (k : Nat), (Tr.nd l u r).get (k + 1) = if k % 2 = 0 then l.get (k / 2) else r.get (k / 2) := fun l r u k => by
      by_cases h1 : k % 2 = 0
      · rw [if_pos h1]
        have h1 : Nat.beq (k % 2) 0 = true := by simpa using h1
        simp only [Tr.get, h1]
      · rw [if_neg h1]
        have h1 : Nat.beq (k % 2) 0 = false := by rw [Bool.eq_false_iff]; simpa using h1
        simp only [Tr.get, h1]
    rw [Tr.set_succ]
    cases i with
    | zero =>
      simp only
      cases j with
      | zero => rfl
      | succ k =>
        rw [sp, if_neg (show ¬ (k + 1 = 0) by omega)]
        by_cases hk : k % 2 = 0
        · rw [if_pos hk, hl]; congr 1; omega
        · rw [if_neg hk, hr]; congr 1; omega
    | succ m =>
      by_cases hm : m % 2 = 0
      · have h1 : Nat.beq (m % 2) 0 = true := by simpa using hm
        simp only [h1]
        cases j with
        | zero => rw [if_neg (by omega)]; exact hv
        | succ k =>
          rw [sp]
          by_cases hk : k % 2 = 0
          · rw [if_pos hk, Tr.get_set f _ _ _ _ (by omega)]
            by_cases e : k = m
            · rw [if_pos (by rw [e]), if_pos (by rw [e])]
            · rw [if_neg (by omega), if_neg (by omega), hl]; congr 1; omega
          · rw [if_neg hk, if_neg (by omega), hr]; congr 1; omega
      · have h1 : Nat.beq (m % 2) 0 = false := by rw [Bool.eq_false_iff]; simpa using hm
        simp only [h1]
        cases j with
        | zero => rw [if_neg (by omega)]; exact hv
        | succ k =>
          rw [sp]
          by_cases hk : k % 2 = 0
          · rw [if_pos hk, if_neg (by omega), hl]; congr 1; omega
          · rw [if_neg hk, Tr.get_set f _ _ _ _ (by omega)]
            by_cases e : k = m
            · rw [if_pos (by rw [e]), if_pos (by rw [e])]
            · rw [if_neg (by omega), if_neg (by omega), hr]; congr 1; omega
theorem Fr.get_eq (F : Fr) (i : Nat) : F.get i = if i < F.n then some (F.t.get i) else none := by
  unfold Fr.get
  by_cases h : i < F.n
  · have h1 : Nat.blt i F.n = true := by simp [Nat.blt]; omega
    rw [if_pos h, h1]
  · have h1 : Nat.blt i F.n = false := by rw [Bool.eq_false_iff]; simp [Nat.blt]; omega
    rw [if_neg h, h1]
theorem Fr.set_eq (F : Fr) (i : Nat) (v : V) : F.set i v = if i < F.n then ⟨F.n, Tr.set F.n F.t i v⟩ else F := by
  obtain ⟨n, t⟩ := F
  simp only [Fr.set]
  by_cases h : i < n
  · have h1 : Nat.blt i n = true := by simp [Nat.blt]; omega
    rw [if_pos h, h1]
  · have h1 : Nat.blt i n = false := by rw [Bool.eq_false_iff]; simp [Nat.blt]; omega
    rw [if_neg h, h1]
theorem Fr.set_n (F : Fr) (i : Nat) (v : V) : (F.set i v).n = F.n := by rw [Fr.set_eq]; split <;> rfl
theorem Fr.get_set (F : Fr) (i j : Nat) (v : V) : (F.set i v).get j = if j = i ∧ i < F.n then some v else F.get j := by
  rw [Fr.get_eq, Fr.get_eq, Fr.set_n, Fr.set_eq]
  by_cases h : i < F.n
  · rw [if_pos h]
    by_cases e : j = i
    · subst e; simp [h, Tr.get_set _ _ _ _ _ h]
    · simp [e, Tr.get_set _ _ _ _ _ h]
  · simp [h]
theorem Fr.lt_of_get {F : Fr} {i : Nat} {v : V} (h : F.get i = some v) : i < F.n := by
  rw [Fr.get_eq] at h; split at h
  · assumption
  · simp at h
theorem Fr.get_some {F : Fr} {i : Nat} (h : i < F.n) : F.get i = some (F.t.get i) := by rw [Fr.get_eq, if_pos h]
theorem Fr.len_list (F : Fr) : F.list.length = F.n := by simp [Fr.list]
theorem Fr.get_list (F : Fr) (i : Nat) : F.list[i]? = F.get i := by
  rw [Fr.get_eq]; unfold Fr.list
  by_cases h : i < F.n
  · simp [h]
  · simp [h]
theorem Fr.set_list (F : Fr) (i : Nat) (v : V) : (F.set i v).list = F.list.set i v := by
  apply List.ext_getElem?
  intro j
  rw [Fr.get_list, Fr.get_set, List.getElem?_set, Fr.get_list, Fr.len_list]
  by_cases e : i = j
  · subst e
    by_cases h : i < F.n
    · simp [h]
    · simp [h, Fr.get_eq]
  · simp [e, Ne.symm e]
theorem Fr.fill_get : ∀ (l : List V) (i : Nat) (F : Fr) (j : Nat), i + l.length ≤ F.n → (Fr.fill l i F).n = F.n ∧ (Fr.fill l i F).get j = if i ≤ j ∧ j < i + l.length then l[j - i]? else F.get j
  | [], i, F, j, h => ⟨rfl, by rw [if_neg (by simp only [List.length_nil]; omega)]; rfl⟩
  | v :: l, i, F, j, h => by
    simp only [List.length_cons] at h
    obtain ⟨h1, h2⟩ := Fr.fill_get l (i + 1) (F.set i v) j (by rw [Fr.set_n]; omega)
    refine ⟨by rw [Fr.fill, h1, Fr.set_n], ?_⟩
    rw [Fr.fill, h2, Fr.get_set]
    by_cases e : j = i
    · subst e
      rw [if_neg (by omega), if_pos ⟨rfl, by omega⟩, if_pos (by simp only [List.length_cons]; omega)]
      simp
    · by_cases c : i + 1 ≤ j ∧ j < i + 1 + l.length
      · rw [if_pos c, if_pos (by simp only [List.length_cons]; omega), show j - i = (j - (i + 1)) + 1 by omega]
        simp
      · rw [if_neg c, if_neg (by omega), if_neg (by simp only [List.length_cons]; omega)]
theorem Fr.init_list (l : List V) (k : Nat) : (Fr.fill l 0 ⟨l.length + k, .lf⟩).list = l ++ List.replicate k .undef := by
  apply List.ext_getElem?
  intro j
  obtain ⟨h1, h2⟩ := Fr.fill_get l 0 ⟨l.length + k, .lf⟩ j (by simp)
  rw [Fr.get_list, h2]
  by_cases c : j < l.length
  · rw [if_pos (by omega), List.getElem?_append_left c]; simp
  · rw [if_neg (by omega), List.getElem?_append_right (by omega), Fr.get_eq, List.getElem?_replicate]
    by_cases d : j < l.length + k
    · rw [if_pos d, if_pos (by omega)]; rfl
    · rw [if_neg d, if_neg (by omega)]
structure Kp (S : Nat → Prop) (w w' : World) : Prop where
  os : w'.os = w.os
  tape : w'.tape = w.tape
  output : w'.output = w.output
  size : w.heap.size ≤ w'.heap.size
  block : ∀ k, S k → w'.heap[k]? = w.heap[k]?
theorem Kp.refl (S : Nat → Prop) (w : World) : Kp S w w := ⟨rfl, rfl, rfl, Nat.le_refl _, fun _ _ => rfl⟩
theorem Kp.trans {S : Nat → Prop} {a b c : World} (h : Kp S a b) (k : Kp S b c) : Kp S a c :=
  ⟨k.os.trans h.os, k.tape.trans h.tape, k.output.trans h.output, Nat.le_trans h.size k.size, fun i hi => (k.block i hi).trans (h.block i hi)⟩
theorem Kp.mono {S S' : Nat → Prop} {w w' : World} (h : Kp S w w') (hS : ∀ r, S' r → S r) : Kp S' w w' := ⟨h.os, h.tape, h.output, h.size, fun k hk => h.block k (hS k hk)⟩
theorem Kp.drew {S : Nat → Prop} {a w : World} (h : Kp S a w) : Kp S a w.drew := ⟨h.os, h.tape, h.output, h.size, h.block⟩
theorem Kp.alloc {S : Nat → Prop} {a w : World} (h : Kp S a w) (hS : ∀ r, S r → r < w.heap.size) (o : Obj) : Kp S a (w.alloc o) :=
  h.trans ⟨rfl, rfl, rfl, by simp, fun k hk => Below.heap_alloc _ _ _ (hS k hk)⟩
theorem Kp.of {n : Nat} {w w' : World} (h : Below n w w') : Kp (· < n) w w' := ⟨h.os, h.tape, h.output, h.size, fun k hk => h.block k hk⟩
theorem Kp.to {n : Nat} {w w' : World} (h : Kp (· < n) w w') : Below n w w' := ⟨h.os, h.tape, h.output, h.size, fun k hk => h.block k hk⟩
def entriesOf : List Value → Nat → List MapEntry
  | k :: v :: l, i => { key := k, val := v, born := i } :: entriesOf l (i + 1)
  | _, _ => []
def Blk.obj (b : Blk) (xs : List Value) (fz : Nat × Nat := (0, 0)) : Obj := match b.mp with
  | true => .map (entriesOf xs 0).toArray (xs.length / 2)
  | false => .cells xs.toArray b.ty fz
structure M (σ : Env) (ρ : Rho) (base : Nat → Prop) (H : Hp) (nx : Nat) (w : World) : Prop where
  size : ∀ r, base r → r < w.heap.size
  fresh : ∀ i, nx ≤ i → ρ i = none
  blk : ∀ i b, look H i = some b → ∃ r c cs sp, ρ i = some (r, c) ∧ (b.ro = false → ¬ base r) ∧ denL σ ρ b.cells = some cs ∧ (∃ fz, (b.ro = false → fz = (0, 0)) ∧ w.heap[r]? = some (b.obj (cs ++ sp) fz)) ∧
    (b.spare = false → sp = []) ∧ (b.mp = false → b.spare = true → (cs ++ sp).length = c * b.sz ∧ c ≤ maxLen ∧ 0 < b.sz) ∧ (b.mp = true → sp = [] ∧ cs.length % 2 = 0)
  inj : ∀ i j r c d, (look H i).isSome = true → (look H j).isSome = true → ρ i = some (r, c) → ρ j = some (r, d) → i = j
theorem lookC_look {H : Hp} {i : Nat} {b : Blk} (h : lookC H i = some b) : look H i = some b ∧ b.mp = false := by
  unfold lookC at h
  cases hl : look H i with
  | none => rw [hl] at h; simp at h
  | some c =>
    rw [hl] at h
    cases hm : c.mp <;> simp [hm] at h
    subst h
    exact ⟨rfl, hm⟩
theorem lookM_look {H : Hp} {i : Nat} {b : Blk} (h : lookM H i = some b) : look H i = some b ∧ b.mp = true := by
  unfold lookM at h
  cases hl : look H i with
  | none => rw [hl] at h; simp at h
  | some c =>
    rw [hl] at h
    cases hm : c.mp <;> simp [hm] at h
    subst h
    exact ⟨rfl, hm⟩
theorem look_lookC {H : Hp} {i : Nat} {b : Blk} (h : look H i = some b) (hm : b.mp = false) : lookC H i = some b := by
  unfold lookC
  rw [h]
  simp [hm]
theorem lookC_mono {H Hr : Hp} (hH : ∀ i b, look Hr i = some b → look H i = some b) (i : Nat) (b : Blk) (h : lookC Hr i = some b) : lookC H i = some b :=
  look_lookC (hH _ _ (lookC_look h).1) (lookC_look h).2
theorem lookM_mono {H Hr : Hp} (hH : ∀ i b, look Hr i = some b → look H i = some b) (i : Nat) (b : Blk) (h : lookM Hr i = some b) : lookM H i = some b := by
  obtain ⟨h1, h2⟩ := lookM_look h
  unfold lookM
  rw [hH _ _ h1]
  simp [h2]
theorem Blk.mp_false {b : Blk} (h : b.spare = true → 0 < b.sz) : b.mp = false := by
  obtain ⟨t, s, l, sp, ro⟩ := b
  cases sp <;> cases s <;> simp_all [Blk.mp]
theorem Blk.mp_cells (b : Blk) (l : List V) : ({ b with cells := l } : Blk).mp = b.mp := by
  obtain ⟨t, s, l, sp, ro⟩ := b
  cases sp <;> cases s <;> rfl
theorem Blk.mp_ro (b : Blk) (x : Bool) : ({ b with ro := x } : Blk).mp = b.mp := by
  obtain ⟨t, s, l, sp, ro⟩ := b
  cases sp <;> cases s <;> rfl
theorem Blk.obj_cells {b : Blk} (h : b.mp = false) (xs : List Value) {fz : Nat × Nat} : b.obj xs fz = .cells xs.toArray b.ty fz := by
  unfold Blk.obj
  rw [h]
theorem M.blkC {σ : Env} {ρ : Rho} {base : Nat → Prop} {H : Hp} {nx : Nat} {w : World} (h : M σ ρ base H nx w) (i : Nat) (b : Blk) (hb : lookC H i = some b) :
    ∃ r c cs sp, ρ i = some (r, c) ∧ (b.ro = false → ¬ base r) ∧ denL σ ρ b.cells = some cs ∧ (∃ fz, (b.ro = false → fz = (0, 0)) ∧ w.heap[r]? = some (.cells (cs ++ sp).toArray b.ty fz)) ∧
    (b.spare = false → sp = []) ∧ (b.spare = true → (cs ++ sp).length = c * b.sz ∧ c ≤ maxLen ∧ 0 < b.sz) := by
  obtain ⟨h1, h2⟩ := lookC_look hb
  obtain ⟨r, c, cs, sp, g1, g2, g3, g4, g5, g6, -⟩ := h.blk i b h1
  exact ⟨r, c, cs, sp, g1, g2, g3, by obtain ⟨fz, k1, k2⟩ := g4; exact ⟨fz, k1, by rw [k2, Blk.obj_cells h2]⟩, g5, g6 h2⟩
section
variable {P : Program} {σ : Env} {ρ : Rho} {w : World}
theorem run_isAgg {t : TypeId} {b : Bool} (h : aggB P t = some b) : (isAgg t).run P w = .ok b w := by
  unfold aggB at h
  split at h <;> simp at h
  · rename_i fs hu; subst h; simp [isAgg, run_underlying hu]
  · rename_i n e hu; subst h; simp [isAgg, run_underlying hu]
  · rename_i d h1 h2 hu
    subst h
    unfold isAgg
    rw [Sem.run_bind, run_underlying hu w]
    cases d <;> simp_all
theorem run_szOf {t : TypeId} {n : Nat} (h : szOf P t = some n) : (sizeOf t).run P w = .ok n w := by
  unfold szOf at h
  simp only [Option.map_eq_some_iff] at h
  obtain ⟨i, hi, rfl⟩ := h
  rw [run_sizeOf w hi]
  simp [Program.cellsOf, hi]
theorem run_zeroV {t : TypeId} {v : V} (h : zeroV P t = some v) : ∃ x, (zeroValue t).run P w = .ok x w ∧ den σ ρ v = some x := by
  unfold zeroV at h
  simp only [Option.bind_eq_some_iff] at h
  obtain ⟨x, ⟨i, hi, hz⟩, hx⟩ := h
  refine ⟨x, ?_, ofValue_den hx⟩
  simp only [zeroValue, Sem.run_bind, run_typeInfo w hi, Result.andThen_ok, hz, Sem.run_pure]
theorem extract_drop (xs : List Value) (a n : Nat) : xs.toArray.extract a (a + n) = ((xs.drop a).take n).toArray := by
  apply Array.ext'
  simp [List.extract_eq_take_drop]
theorem run_partV {t : TypeId} {cs : List V} {xs : List Value} {off : Nat} {v : V} (h : partV P t cs off = some v) (hd : denL σ ρ cs = some xs) :
    ∃ x, (part t xs.toArray off).run P w = .ok x w ∧ den σ ρ v = some x := by
  unfold partV at h
  split at h
  · rename_i ha
    simp only [Option.bind_eq_some_iff] at h
    obtain ⟨n, hn, h⟩ := h
    split at h <;> simp at h
    subst h
    refine ⟨.agg ((xs.drop off).take n).toArray, ?_, ?_⟩
    · simp [part, run_isAgg ha, run_szOf hn, extract_drop]
    · rw [den, denL_take (denL_drop hd off) n]; rfl
  · rename_i ha
    simp only [Option.bind_eq_some_iff] at h
    obtain ⟨u, hu, h⟩ := h
    split at h <;> simp at h
    subst h
    obtain ⟨x, hx, hdx⟩ := denL_get hd hu
    refine ⟨x, ?_, hdx⟩
    simp [part, run_isAgg ha, hx]
  · simp at h
theorem toList_beq (a b : ByteArray) : (a.toList == b.toList) = sEqB a b := by
  rw [ByteArray.toList_eq, ByteArray.toList_eq]
  unfold sEqB
  rw [Bool.eq_iff_iff]
  simp
theorem eqB_beq (a b : Int) : (a == b) = eqB a b := by
  unfold eqB
  rw [Bool.eq_iff_iff]
  simp
theorem run_eqV : ∀ (d : Nat) {t : TypeId} {x y : V} {a b : Value} {c : T}, eqV P d t x y = some c → den σ ρ x = some a → den σ ρ y = some b →
    ∀ w, (Op.equalIn d t a b).run P w = .ok (c.b σ) w
  | 0, t, x, y, a, b, c, h, _, _, w => by simp [eqV] at h
  | d + 1, t, x, y, a, b, c, h, hx, hy, w => by
    unfold eqV at h
    split at h
    · rename_i hu; simp at h; subst h; simp [den] at hx hy; subst hx; subst hy
      rw [run_equalIn_bool w d t _ _ hu, mkBeq_b]
    · rename_i hu; split at h <;> simp at h; rename_i hk; subst hk; subst h; simp [den] at hx hy; subst hx; subst hy
      rw [run_equalIn_int w d t _ _ _ _ hu, mkEq_b, eqB_beq]
    · rename_i hu; simp at h; subst h; simp [den] at hx hy; subst hx; subst hy
      rw [run_equalIn_string w d t _ _ hu, mkSeq_b, toList_beq]
    · rename_i hu; simp at h; subst h; simp [den] at hx hy; subst hx; subst hy
      simp [Op.equalIn, run_underlying hu, T.b]
    · rename_i hu; simp at h; subst h; simp [den] at hx hy; obtain ⟨r, s, -, rfl⟩ := hy; subst hx
      simp [Op.equalIn, run_underlying hu, T.b]
    · rename_i hu; simp at h; subst h; simp [den] at hx hy; obtain ⟨r, s, -, rfl⟩ := hx; subst hy
      simp [Op.equalIn, run_underlying hu, T.b]
    · rename_i hu
      split at h
      · rename_i hc
        simp at h; subst h
        simp only [Bool.and_eq_true, Option.isSome_iff_exists] at hc
        obtain ⟨⟨z, hz⟩, e1, e2⟩ := hc
        have e1 := Nat.eq_of_beq_eq_true e1
        have e2 := Nat.eq_of_beq_eq_true e2
        subst e1
        subst e2
        rw [hx] at hy
        simp at hy
        subst hy
        simp [den] at hx
        obtain ⟨r, s, -, rfl⟩ := hx
        unfold szOf at hz
        simp only [Option.map_eq_some_iff] at hz
        obtain ⟨j, hj, -⟩ := hz
        simp [Op.equalIn, run_underlying hu, sizeOf, typeInfo, hj, run_sameAddr_same, T.b]
      · simp at h
    · rename_i hu; simp at h; subst h; simp [den] at hx hy; subst hx; subst hy
      simp [Op.equalIn, run_underlying hu, T.b]
    · rename_i hu; simp at h; subst h; simp [den] at hx hy; obtain ⟨r, s, -, rfl⟩ := hy; subst hx
      simp [Op.equalIn, run_underlying hu, T.b]
    · rename_i hu; simp at h; subst h; simp [den] at hx hy; obtain ⟨r, s, -, rfl⟩ := hx; subst hy
      simp [Op.equalIn, run_underlying hu, T.b]
    · rename_i hu; simp at h; subst h; simp [den] at hx hy; subst hx; subst hy
      simp [Op.equalIn, run_underlying hu, T.b]
    · rename_i hu; simp at h; subst h; simp [den, Option.bind_eq_some_iff] at hx hy; obtain ⟨r, -, s, -, rfl⟩ := hy; subst hx
      simp [Op.equalIn, run_underlying hu, T.b]
    · rename_i hu; simp at h; subst h; simp [den, Option.bind_eq_some_iff] at hx hy; obtain ⟨r, -, s, -, rfl⟩ := hx; subst hy
      simp [Op.equalIn, run_underlying hu, T.b]
    · rename_i fs xs ys hu
      split at h
      · simp at h
      rename_i hst
      simp only [den, Option.map_eq_some_iff] at hx hy
      obtain ⟨as, has, rfl⟩ := hx
      obtain ⟨bs, hbs, rfl⟩ := hy
      have hf : P.fieldsOf t = fs := by simp [Program.fieldsOf, hu]
      rw [run_equalIn_struct w d t _ _ (by rw [hf]; exact hu) (by simpa using hst), hf]
      have key : ∀ (l : List Field) (c : T), eqFields P (eqV P d) xs ys l = some c → (Op.eqFields d as.toArray bs.toArray l).run P w = .ok (c.b σ) w := by
        intro l
        induction l with
        | nil => intro c h; simp [eqFields] at h; subst h; simp [Op.eqFields, T.b]
        | cons f l ih =>
          intro c h
          simp only [eqFields] at h
          split at h
          · simp at h
          · rename_i hn
            simp only [Option.bind_eq_some_iff, Option.map_eq_some_iff] at h
            obtain ⟨va, hva, vb, hvb, e, he, r, hr, rfl⟩ := h
            obtain ⟨xa, hxa, hda⟩ := run_partV (w := w) hva has
            obtain ⟨xb, hxb, hdb⟩ := run_partV (w := w) hvb hbs
            have hee := run_eqV d he hda hdb w
            rw [Op.eqFields, if_pos hn]
            simp only [Sem.run_bind, hxa, hxb, hee, Result.andThen_ok, mkAnd_b]
            cases hb : e.b σ
            · simp
            · simpa using ih r hr
      exact key _ _ h
    · rename_i n e xs ys hu
      simp only [Option.bind_eq_some_iff] at h
      obtain ⟨z, hz, h⟩ := h
      simp only [den, Option.map_eq_some_iff] at hx hy
      obtain ⟨as, has, rfl⟩ := hx
      obtain ⟨bs, hbs, rfl⟩ := hy
      unfold szOf at hz
      simp only [Option.map_eq_some_iff] at hz
      obtain ⟨i, hi, hz⟩ := hz
      have hc : P.cellsOf e = z := by simp [Program.cellsOf, hi, hz]
      rw [run_equalIn_array w d _ _ hu hi, hc]
      have key : ∀ (n j : Nat) (c : T), eqElems P (eqV P d) e z xs ys n j = some c → (Op.eqItems d e z as.toArray bs.toArray (List.range' j n)).run P w = .ok (c.b σ) w := by
        intro n
        induction n with
        | zero => intro j c h; simp [eqElems] at h; subst h; simp [Op.eqItems, T.b]
        | succ n ih =>
          intro j c h
          simp only [eqElems, Option.bind_eq_some_iff, Option.map_eq_some_iff] at h
          obtain ⟨va, hva, vb, hvb, q, hq, r, hr, rfl⟩ := h
          obtain ⟨xa, hxa, hda⟩ := run_partV (w := w) hva has
          obtain ⟨xb, hxb, hdb⟩ := run_partV (w := w) hvb hbs
          have hee := run_eqV d hq hda hdb w
          simp only [List.range'_succ, Op.eqItems, Sem.run_bind, hxa, hxb, hee, Result.andThen_ok, mkAnd_b]
          cases hb : q.b σ
          · simp
          · simpa using ih (j + 1) r hr
      rw [List.range_eq_range']
      exact key _ _ _ h
    · simp at h
variable {a : Act} {F : Fr}
def OpOk (σ : Env) (ρ : Rho) (F : Fr) (a : Act) : Prop := ∀ x v, opv F x = some v → den σ ρ v = some (a.eval x)
theorem opv_den (hF : OpOk σ ρ F a) {x : Operand} {v : V} (h : opv F x = some v) : den σ ρ v = some (a.eval x) := hF x v h
theorem opOk_of (hF : denL σ ρ F.list = some a.tmps.toList) : OpOk σ ρ F a := by
  intro x v h
  cases x with
  | tmp t =>
    simp only [opv] at h
    have h' : F.list[t]? = some v := by
      rw [Fr.get_list]
      split at h
      · simp at h
      · exact h
    obtain ⟨x, hx, hd⟩ := denL_get hF h'
    rw [hd]
    simp only [Act.eval, Array.getD_eq_getD_getElem?]
    rw [← Array.getElem?_toList, hx]
    rfl
  | const v => exact ofValue_den h
  | global g => simp [opv] at h
  | func f => simp only [opv, Option.some.injEq] at h; subst h; simp [den, denL, Act.eval]
theorem natLit_den {v : V} {n : Nat} {x : Value} (h : natLit v = some n) (hd : den σ ρ v = some x) : ∃ k, x = .int k n := by
  unfold natLit at h
  split at h <;> simp at h
  subst h
  simp [den, T.i] at hd
  exact ⟨_, hd.symm⟩
theorem run_boundV {v : Option V} {x : Option Value} {d y n : Nat} {code : BoundsCode} (h : boundV v d y = some n) (hx : ∀ u, v = some u → ∃ z, x = some z ∧ den σ ρ u = some z) (hn : v = none → x = none) :
    (v = none ∧ x = none ∧ n = d) ∨ (∃ z, x = some z ∧ (Instr.sliceBound z y code).run P w = .ok n w ∧ n ≤ y) := by
  unfold boundV at h
  split at h
  · simp at h; exact .inl ⟨rfl, hn rfl, h.symm⟩
  · rename_i u
    simp only [Option.bind_eq_some_iff] at h
    obtain ⟨m, hm, h⟩ := h
    split at h <;> simp at h
    rename_i hle
    subst h
    obtain ⟨z, rfl, hz⟩ := hx u rfl
    obtain ⟨k, rfl⟩ := natLit_den hm hz
    refine .inr ⟨_, rfl, ?_, hle⟩
    simp only [Instr.sliceBound, asIntOf, Sem.run_bind, Sem.run_pure, Result.andThen_ok]
    rw [if_pos ⟨by omega, by omega⟩]
    simp
end
end Go.Proofs.Ytehbfajmileefaa.Vx
