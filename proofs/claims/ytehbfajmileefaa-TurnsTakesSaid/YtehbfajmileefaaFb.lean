import Derived.Test.YtehbfajmileefaaFa
import Derived.Test.YtehbfajmileefaaVk
namespace Go.Proofs.Ytehbfajmileefaa.Fx
open Go.RowKit Go.Proofs.Ytehbfajmileefaa.Vx
set_option linter.unusedVariables false
set_option linter.unusedSimpArgs false
theorem lt8 {i : Nat} (h : i < 8) : i = 0 ∨ i = 1 ∨ i = 2 ∨ i = 3 ∨ i = 4 ∨ i = 5 ∨ i = 6 ∨ i = 7 := by omega
theorem N8.get_upd {α : Type} (n : N8 α) (k : α → α) {i j : Nat} (hi : i < 8) (hj : j < 8) : (n.upd i k).get j = if i = j then k (n.get j) else n.get j := by
  obtain ⟨a, b, c, d, e, f, g, h⟩ := n
  rcases lt8 hi with rfl | rfl | rfl | rfl | rfl | rfl | rfl | rfl <;> rcases lt8 hj with rfl | rfl | rfl | rfl | rfl | rfl | rfl | rfl <;> rfl
theorem gT_sT {i j : Nat} (hi : i < 512) (hj : j < 512) (x : X) (F : F8) : gT j (sT i x F) = if i = j then x else gT j F := by
  unfold gT sT
  rw [N8.get_upd _ _ (by omega) (by omega)]
  by_cases h1 : i / 64 = j / 64
  · rw [if_pos h1, N8.get_upd _ _ (by omega) (by omega)]
    by_cases h2 : i / 8 % 8 = j / 8 % 8
    · rw [if_pos h2, N8.get_upd _ _ (by omega) (by omega)]
      by_cases h3 : i % 8 = j % 8
      · rw [if_pos h3, if_pos (by omega)]
      · rw [if_neg h3, if_neg (by omega)]
    · rw [if_neg h2, if_neg (by omega)]
  · rw [if_neg h1, if_neg (by omega)]
theorem N8.get_all {α : Type} (x : α) {i : Nat} (hi : i < 8) : (N8.all x).get i = x := by
  rcases lt8 hi with rfl | rfl | rfl | rfl | rfl | rfl | rfl | rfl <;> rfl
theorem gT_none {i : Nat} (hi : i < 512) : gT i F8.none = .undef := by
  unfold gT F8.none
  rw [N8.get_all _ (by omega), N8.get_all _ (by omega), N8.get_all _ (by omega)]
theorem trOf_get : ∀ (n : Nat) (f : Nat → V) (i : Nat), i + 1 < 2 ^ n → (trOf n f).get i = f i
  | 0, f, i, h => by simp at h
  | n + 1, f, i, h => by
    show (Tr.nd (trOf n fun k => f (2 * k + 1)) (f 0) (trOf n fun k => f (2 * k + 2))).get i = f i
    cases i with
    | zero => rfl
    | succ j =>
      have h2 : 2 ^ (n + 1) = 2 * 2 ^ n := by rw [Nat.pow_succ]; omega
      simp only [Tr.get]
      cases hb : Nat.beq (j % 2) 0 with
      | true =>
        have hm : j % 2 = 0 := Nat.eq_of_beq_eq_true hb
        simp only
        rw [trOf_get n _ _ (by omega)]
        congr 1
        omega
      | false =>
        have hm : ¬ j % 2 = 0 := Nat.ne_of_beq_eq_false hb
        simp only
        rw [trOf_get n _ _ (by omega)]
        congr 1
        omega
theorem toFr_get {F : F8} {N i : Nat} (hi : i < N) (hN : N ≤ 511) : (toFr F N).get i = some (gT i F).toV := by
  rw [Fr.get_eq]
  unfold toFr
  rw [if_pos hi, trOf_get 10 _ i (by omega)]
theorem toX_toV (v : V) : (V.toX v).toV = v := by
  cases v with
  | int k t =>
    show (intX k (.int k t) (T.int? t)).toV = _
    rw [intQ_eq]
    split <;> rfl
  | bool t =>
    show (boolX (.bool t) (T.bool? t)).toV = _
    rw [boolQ_eq]
    split <;> rfl
  | _ => rfl
theorem toV_one (x : X) : x.cells = x.toV.cells := by
  cases x with
  | i k n => rfl
  | b b => rfl
  | v v => cases v <;> rfl
theorem fX_eq (x : X) (k : X → RX) : fX x k = k x := by cases x <;> rfl
theorem fN_eq (n : Nat) (k : Nat → RX) : fN n k = k n := by cases n <;> rfl
theorem fI_eq (n : Int) (k : Int → RX) : fI n k = k n := by
  cases n with
  | ofNat m => exact fN_eq m fun m => k (.ofNat m)
  | negSucc m => exact fN_eq m fun m => k (.negSucc m)
theorem fB_eq (b : Bool) (k : Bool → RX) : fB b k = k b := by cases b <;> rfl
theorem ifB_eq (b : Bool) (x y : RX) : ifB b x y = if b = true then x else y := by cases b <;> rfl
theorem ikF_eq (k k' : IntKind) : ikF k k' = decide (k = k') := by cases k <;> cases k' <;> rfl
section
variable {r : RX}
theorem caseI_some {x : X} {k : IntKind → Int → RX} (h : caseI x k = r) (hr : r ≠ .no) : ∃ kd n, x = .i kd n ∧ k kd n = r := by
  cases x with
  | i kd n => exact ⟨kd, n, rfl, h⟩
  | _ => exact absurd h.symm hr
theorem caseB_some {x : X} {k : Bool → RX} (h : caseB x k = r) (hr : r ≠ .no) : ∃ b, x = .b b ∧ k b = r := by
  cases x with
  | b b => exact ⟨b, rfl, h⟩
  | _ => exact absurd h.symm hr
theorem caseV_some {x : X} {k : V → RX} (h : caseV x k = r) (hr : r ≠ .no) : ∃ v, x = .v v ∧ k v = r := by
  cases x with
  | v v => exact ⟨v, rfl, h⟩
  | _ => exact absurd h.symm hr
theorem ifB_some {b : Bool} {x : RX} (h : ifB b x .no = r) (hr : r ≠ .no) : b = true ∧ x = r := by
  cases b with
  | true => exact ⟨rfl, h⟩
  | false => exact absurd h.symm hr
theorem optR_some {α : Type} {o : Option α} {k : α → RX} (h : optR o k = r) (hr : r ≠ .no) : ∃ y, o = some y ∧ k y = r := by
  cases o with
  | some y => exact ⟨y, rfl, h⟩
  | none => exact absurd h.symm hr
theorem ptrR_some {v : V} {k : Nat → Nat → RX} (h : ptrR v k = r) (hr : r ≠ .no) : ∃ i o, v = .ptr i o ∧ k i o = r := by
  cases v with
  | ptr i o => exact ⟨i, o, rfl, h⟩
  | _ => exact absurd h.symm hr
theorem aggR_some {v : V} {k : List V → RX} (h : aggR v k = r) (hr : r ≠ .no) : ∃ l, v = .agg l ∧ k l = r := by
  cases v with
  | agg l => exact ⟨l, rfl, h⟩
  | _ => exact absurd h.symm hr
theorem tupR_some {v : V} {k : List V → RX} (h : tupR v k = r) (hr : r ≠ .no) : ∃ l, v = .tup l ∧ k l = r := by
  cases v with
  | tup l => exact ⟨l, rfl, h⟩
  | _ => exact absurd h.symm hr
theorem strR_some {v : V} {k : T → RX} (h : strR v k = r) (hr : r ≠ .no) : ∃ t, v = .str t ∧ k t = r := by
  cases v with
  | str t => exact ⟨t, rfl, h⟩
  | _ => exact absurd h.symm hr
theorem slR_some {v : V} {z : RX} {k : Nat → Nat → Nat → RX} (h : slR v z k = r) (hr : r ≠ .no) : (v = .nils ∧ z = r) ∨ ∃ i o n c, v = .sl i o n c ∧ k i o n = r := by
  cases v with
  | nils => exact .inl ⟨rfl, h⟩
  | sl i o n c => exact .inr ⟨i, o, n, c, rfl, h⟩
  | _ => exact absurd h.symm hr
theorem slE_some {v : V} {z : RX} {k : Nat → Nat → Nat → RX} (h : slE v z k = r) (hr : r ≠ .no) : (v = .nils ∧ z = r) ∨ (∃ i, v = .val i ∧ Nat.beq (i % 2) 1 = true ∧ z = r) ∨ ∃ i o n c, v = .sl i o n c ∧ k i o n = r := by
  cases v with
  | nils => exact .inl ⟨rfl, h⟩
  | sl i o n c => exact .inr (.inr ⟨i, o, n, c, rfl, h⟩)
  | val i =>
    have h : (Bool.rec (motive := fun _ => RX) .no z (Nat.beq (i % 2) 1) : RX) = r := h
    cases hb : Nat.beq (i % 2) 1 with
    | false => rw [hb] at h; exact absurd h.symm hr
    | true => rw [hb] at h; exact .inr (.inl ⟨i, rfl, hb, h⟩)
  | _ => exact absurd h.symm hr
theorem blkR_some {b : Blk} {k : List V → Bool → RX} {r : RX} (h : blkR b k = r) (hr : r ≠ .no) : b.mp = false ∧ k b.cells b.ro = r := by
  obtain ⟨ty, sz, cells, sp, ro⟩ := b
  cases sz with
  | zero =>
    cases sp with
    | true => exact absurd h.symm hr
    | false => exact ⟨rfl, h⟩
  | succ n =>
    exact ⟨by cases sp <;> rfl, h⟩
theorem mmR_eq (M : Mm) (k : Hp → Nat → Nat → RX) : mmR M k = k M.H M.nx M.lw := by cases M; rfl
theorem strQ_some {t : T} {s : ByteArray} (h : T.str? t = some s) : t = .str s := by
  cases t with
  | str s' => simp [T.str?] at h; rw [h]
  | _ => simp [T.str?] at h
theorem lwX_some {x : X} {id lw : Nat} {k : Nat → RX} (h : lwX x id lw k = r) : ∃ l, k l = r := by
  cases x with
  | v v =>
    simp only [lwX] at h
    cases hp : V.plain v <;> rw [hp] at h <;> exact ⟨_, h⟩
  | _ => exact ⟨lw, h⟩
theorem takeR_eq : ∀ (n : Nat) (l : List V), takeR l n = if n ≤ l.length then some (l.take n) else none
  | 0, l => by simp; rfl
  | n + 1, [] => rfl
  | n + 1, v :: l => by
    have := takeR_eq n l
    show (Option.rec (motive := fun _ => Option (List V)) none (fun m => some (v :: m)) (takeR l n) : Option (List V)) = _
    rw [this]
    by_cases h : n ≤ l.length
    · rw [if_pos h, if_pos (by simpa using h)]; rfl
    · rw [if_neg h, if_neg (by simpa using h)]
theorem dropR_eq : ∀ (n : Nat) (l : List V), dropR l n = l.drop n
  | 0, l => rfl
  | n + 1, [] => rfl
  | n + 1, v :: l => dropR_eq n l
theorem setN_eq : ∀ (l : List V) (i : Nat) (v : V), setN l i v = if i < l.length then some (put1 l i [v]) else none
  | [], i, v => by simp; rfl
  | u :: l, 0, v => by simp [put1]; rfl
  | u :: l, i + 1, v => by
    have := setN_eq l i v
    show (Option.rec (motive := fun _ => Option (List V)) none (fun m => some (u :: m)) (setN l i v) : Option (List V)) = _
    rw [this]
    by_cases h : i < l.length
    · rw [if_pos h, if_pos (by simpa using h)]; simp [put1]
    · rw [if_neg h, if_neg (by simpa using h)]
theorem overN_eq : ∀ (vs l : List V), overN vs l = if vs.length ≤ l.length then some (vs ++ l.drop vs.length) else none
  | [], l => by simp; rfl
  | v :: vs, [] => rfl
  | v :: vs, u :: l => by
    have := overN_eq vs l
    show (Option.rec (motive := fun _ => Option (List V)) none (fun m => some (v :: m)) (overN vs l) : Option (List V)) = _
    rw [this]
    by_cases h : vs.length ≤ l.length
    · rw [if_pos h, if_pos (by simpa using h)]; rfl
    · rw [if_neg h, if_neg (by simpa using h)]
theorem setL_eq : ∀ (l : List V) (i : Nat) (vs : List V), setL l i vs = if i + vs.length ≤ l.length then some (put1 l i vs) else none
  | [], 0, vs => by
    show overN vs [] = _
    rw [overN_eq]
    cases vs <;> simp [put1]
  | [], i + 1, vs => by
    rw [if_neg (by simp)]; rfl
  | u :: l, 0, vs => by
    show overN vs (u :: l) = _
    rw [overN_eq]
    by_cases h : vs.length ≤ (u :: l).length
    · rw [if_pos h, if_pos (by simpa using h)]; simp [put1]
    · rw [if_neg h, if_neg (by simpa using h)]
  | u :: l, i + 1, vs => by
    have := setL_eq l i vs
    show (Option.rec (motive := fun _ => Option (List V)) none (fun m => some (u :: m)) (setL l i vs) : Option (List V)) = _
    rw [this]
    by_cases h : i + vs.length ≤ l.length
    · rw [if_pos h, if_pos (by simp; omega)]; simp [put1, show i + 1 + vs.length = (i + vs.length) + 1 by omega]
    · rw [if_neg h, if_neg (by simp; omega)]
theorem updF_some : ∀ {H H' : Hp} {i : Nat} {f : Blk → Option Blk}, updF H i f = some H' → ∃ b c, Vx.look H i = some b ∧ f b = some c ∧ H' = upd H i c
  | [], H', i, f, h => by simp [updF] at h
  | (j, b) :: H, H', i, f, h => by
    have e : updF ((j, b) :: H) i f = (Bool.rec (motive := fun _ => Option Hp) (Option.rec (motive := fun _ => Option Hp) none (fun m => some ((j, b) :: m)) (updF H i f)) (Option.rec (motive := fun _ => Option Hp) none (fun c => some ((j, c) :: H)) (f b)) (Nat.beq j i)) := rfl
    rw [e] at h
    cases hb : Nat.beq j i with
    | true =>
      rw [hb] at h
      cases hf : f b with
      | none => rw [hf] at h; simp at h
      | some c =>
        rw [hf] at h
        simp at h
        subst h
        exact ⟨b, c, by simp [Vx.look, hb], hf, by simp [upd, hb]⟩
    | false =>
      rw [hb] at h
      cases hu : updF H i f with
      | none => rw [hu] at h; simp at h
      | some m =>
        rw [hu] at h
        simp at h
        subst h
        obtain ⟨b', c, h1, h2, rfl⟩ := updF_some hu
        exact ⟨b', c, by simp [Vx.look, hb, h1], h2, by simp [upd, hb]⟩
theorem stB_some {off : Nat} {v : V} {b c : Blk} (h : stB off v b = some c) : b.mp = false ∧ b.ro = false ∧ off < b.cells.length ∧ c = { b with cells := put1 b.cells off [v] } := by
  obtain ⟨ty, sz, cells, sp, ro⟩ := b
  simp only [stB] at h
  cases ro with
  | true => simp at h
  | false =>
    have key : ∀ (h : (Option.rec (motive := fun _ => Option Blk) none (fun l => some ⟨ty, sz, l, sp, false⟩) (setN cells off v) : Option Blk) = some c), off < cells.length ∧ c = ⟨ty, sz, put1 cells off [v], sp, false⟩ := by
      intro h
      simp only [setN_eq] at h
      by_cases ho : off < cells.length
      · rw [if_pos ho] at h
        simp at h
        exact ⟨ho, h.symm⟩
      · rw [if_neg ho] at h; simp at h
    cases sz with
    | zero =>
      cases sp with
      | true => simp at h
      | false => exact ⟨rfl, rfl, key h⟩
    | succ n => exact ⟨by cases sp <;> rfl, rfl, key h⟩
theorem stL_some {off : Nat} {vs : List V} {b c : Blk} (h : stL off vs b = some c) : b.mp = false ∧ b.ro = false ∧ off + vs.length ≤ b.cells.length ∧ c = { b with cells := put1 b.cells off vs } := by
  obtain ⟨ty, sz, cells, sp, ro⟩ := b
  simp only [stL] at h
  cases ro with
  | true => simp at h
  | false =>
    have key : ∀ (h : (Option.rec (motive := fun _ => Option Blk) none (fun l => some ⟨ty, sz, l, sp, false⟩) (setL cells off vs) : Option Blk) = some c), off + vs.length ≤ cells.length ∧ c = ⟨ty, sz, put1 cells off vs, sp, false⟩ := by
      intro h
      simp only [setL_eq] at h
      by_cases ho : off + vs.length ≤ cells.length
      · rw [if_pos ho] at h
        simp at h
        exact ⟨ho, h.symm⟩
      · rw [if_neg ho] at h; simp at h
    cases sz with
    | zero =>
      cases sp with
      | true => simp at h
      | false => exact ⟨rfl, rfl, key h⟩
    | succ n => exact ⟨by cases sp <;> rfl, rfl, key h⟩
theorem lenB_eq : ∀ (l : List V) (n : Nat), lenB l n = decide (l.length = n)
  | [], 0 => rfl
  | [], n + 1 => rfl
  | v :: l, 0 => rfl
  | v :: l, n + 1 => by
    show lenB l n = _
    rw [lenB_eq]
    simp
theorem nthB_eq : ∀ (l : List UInt8) (i : Nat), nthB l i = l[i]?
  | [], i => by simp; rfl
  | v :: l, 0 => rfl
  | v :: l, i + 1 => nthB_eq l i
theorem eqBs_eq : ∀ (l m : List UInt8), eqBs l m = decide (l = m)
  | [], [] => rfl
  | [], d :: m => rfl
  | c :: l, [] => rfl
  | c :: l, d :: m => by
    have := eqBs_eq l m
    show (Bool.rec (motive := fun _ => Bool) false (eqBs l m) (Nat.beq c.toNat d.toNat) : Bool) = _
    rw [this]
    cases hb : Nat.beq c.toNat d.toNat with
    | true =>
      have : c = d := UInt8.toNat_inj.1 (Nat.eq_of_beq_eq_true hb)
      subst this
      simp
    | false =>
      have : ¬ c = d := fun e => by subst e; simp at hb
      simp [this]
end
end Go.Proofs.Ytehbfajmileefaa.Fx
