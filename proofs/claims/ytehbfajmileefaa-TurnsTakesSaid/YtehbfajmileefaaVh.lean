import Derived.Test.YtehbfajmileefaaVg
namespace Go.Proofs.Ytehbfajmileefaa.Vx
open Go.RowKit
set_option linter.unusedVariables false
set_option linter.unusedSimpArgs false
section
variable {P : Program} {σ : Env} {ρ : Rho} {w : World} {base : Nat → Prop} {nx : Nat} {H : Hp} {F : Fr} {a : Act}
theorem beq_t {a b : Nat} : Nat.beq a b = true ↔ a = b := by simp
theorem look_cons {i j : Nat} {b : Blk} : look ((j, b) :: H) i = if j = i then some b else look H i := by
  unfold look
  by_cases h : j = i
  · subst h; simp
  · have : Nat.beq j i = false := by rw [Bool.eq_false_iff]; simpa using h
    simp only [this, Bool.false_eq_true, if_false, if_neg h]
    cases H <;> rfl
theorem look_upd {i j : Nat} {b c : Blk} : look H i = some c → look (upd H i b) j = if i = j then some b else look H j := by
  intro h
  induction H with
  | nil => simp [look] at h
  | cons x H ih =>
    obtain ⟨k, d⟩ := x
    rw [look_cons] at h
    unfold upd
    by_cases hk : k = i
    · subst hk
      have : Nat.beq k k = true := by simp
      simp only [this, if_true, look_cons]
      by_cases h1 : k = j <;> simp [h1]
    · have : Nat.beq k i = false := by rw [Bool.eq_false_iff]; simpa using hk
      rw [if_neg hk] at h
      simp only [this, Bool.false_eq_true, if_false, look_cons, ih h]
      by_cases h1 : k = j
      · subst h1; simp [Ne.symm hk]
      · simp [h1]
theorem look_del {i j : Nat} : look (del H i) j = if i = j then none else look H j := by
  induction H with
  | nil => simp [del, look]
  | cons x H ih =>
    obtain ⟨k, d⟩ := x
    unfold del
    by_cases hk : k = i
    · subst hk
      have : Nat.beq k k = true := by simp
      simp only [this, if_true, ih, look_cons]
      by_cases h1 : k = j <;> simp [h1]
    · have : Nat.beq k i = false := by rw [Bool.eq_false_iff]; simpa using hk
      simp only [this, Bool.false_eq_true, if_false, look_cons, ih]
      by_cases h1 : k = j
      · subst h1; simp [Ne.symm hk]
      · simp [h1]
theorem M.lt (h : M σ ρ base H nx w) {i : Nat} {b : Blk} (hi : look H i = some b) {r c : Nat} (hr : ρ i = some (r, c)) : r < w.heap.size := by
  obtain ⟨r', c', cs, sp, h1, -, -, h2, -⟩ := h.blk i b hi
  rw [hr] at h1
  simp at h1
  obtain ⟨rfl, rfl⟩ := h1
  obtain ⟨fz, -, h2⟩ := h2
  exact (Array.getElem?_eq_some_iff.1 h2).1
def rhoPut (ρ : Rho) (i : Nat) (r : Nat × Nat) : Rho := fun j => if j = i then some r else ρ j
theorem ext_put {i : Nat} (h : ρ i = none) (r : Nat × Nat) : Ext ρ (rhoPut ρ i r) := by
  intro j q hj
  unfold rhoPut
  split
  · rename_i e; subst e; rw [h] at hj; simp at hj
  · exact hj
theorem M.allocObj (h : M σ ρ base H nx w) {k nx' : Nat} (hk : ρ k = none) (hkn : k < nx') (hnn : nx ≤ nx') {b : Blk} {cs sp : List Value} {c : Nat} (hd : denL σ ρ b.cells = some cs) (h1 : b.spare = false → sp = []) (h2 : b.mp = false → b.spare = true → (cs ++ sp).length = c * b.sz ∧ c ≤ maxLen ∧ 0 < b.sz) (h4 : b.mp = true → sp = [] ∧ cs.length % 2 = 0) :
    M σ (rhoPut ρ k (w.heap.size, c)) base ((k, b) :: H) nx' (w.alloc (b.obj (cs ++ sp))) := by
  have he := ext_put hk (w.heap.size, c)
  refine ⟨fun r hr => by have := h.size r hr; simp; omega, fun i hi => ?_, fun i b' hb => ?_, fun i j r q d hi hj hri hrj => ?_⟩
  · unfold rhoPut
    rw [if_neg (by omega)]
    exact h.fresh i (by omega)
  · rw [look_cons] at hb
    split at hb
    · rename_i e
      subst e
      simp at hb
      subst hb
      exact ⟨w.heap.size, c, cs, sp, by simp [rhoPut], fun _ hb => Nat.lt_irrefl _ (h.size _ hb), denL_mono he hd, ⟨(0, 0), fun _ => rfl, heap_alloc_new w _⟩, h1, h2, h4⟩
    · obtain ⟨r', c', cs', sp', g1, g2, g3, g4, g5, g6⟩ := h.blk i b' hb
      exact ⟨r', c', cs', sp', he _ _ g1, g2, denL_mono he g3, g4.imp fun fz k => ⟨k.1, (Below.heap_alloc w _ r' (Array.getElem?_eq_some_iff.1 k.2).1).trans k.2⟩, g5, g6⟩
  · rw [look_cons] at hi hj
    unfold rhoPut at hri hrj
    by_cases h3 : i = k
    · by_cases h4 : j = k
      · omega
      · rw [if_neg (Ne.symm h4)] at hj
        rw [if_neg h4] at hrj
        rw [if_pos h3] at hri
        simp only [Option.isSome_iff_exists] at hj
        obtain ⟨b', hb'⟩ := hj
        have := h.lt hb' hrj
        simp at hri
        omega
    · rw [if_neg (Ne.symm h3)] at hi
      rw [if_neg h3] at hri
      by_cases h4 : j = k
      · rw [if_pos h4] at hrj
        simp only [Option.isSome_iff_exists] at hi
        obtain ⟨b', hb'⟩ := hi
        have := h.lt hb' hri
        simp at hrj
        omega
      · rw [if_neg (Ne.symm h4)] at hj
        rw [if_neg h4] at hrj
        exact h.inj i j r q d hi hj hri hrj
theorem M.allocAt (h : M σ ρ base H nx w) {k nx' : Nat} (hk : ρ k = none) (hkn : k < nx') (hnn : nx ≤ nx') {b : Blk} {cs sp : List Value} {c : Nat} (hd : denL σ ρ b.cells = some cs) (h1 : b.spare = false → sp = []) (h2 : b.spare = true → (cs ++ sp).length = c * b.sz ∧ c ≤ maxLen ∧ 0 < b.sz) :
    M σ (rhoPut ρ k (w.heap.size, c)) base ((k, b) :: H) nx' (w.alloc (.cells (cs ++ sp).toArray b.ty)) := by
  have hm : b.mp = false := Blk.mp_false fun hs => (h2 hs).2.2
  have := h.allocObj hk hkn hnn hd h1 (fun _ => h2) (fun h3 => by rw [hm] at h3; cases h3)
  rwa [Blk.obj_cells hm] at this
theorem M.alloc (h : M σ ρ base H nx w) {b : Blk} {cs sp : List Value} {c : Nat} (hd : denL σ ρ b.cells = some cs) (h1 : b.spare = false → sp = []) (h2 : b.spare = true → (cs ++ sp).length = c * b.sz ∧ c ≤ maxLen ∧ 0 < b.sz) :
    M σ (rhoPut ρ nx (w.heap.size, c)) base ((nx, b) :: H) (nx + 1) (w.alloc (.cells (cs ++ sp).toArray b.ty)) :=
  h.allocAt (h.fresh nx (Nat.le_refl _)) (Nat.lt_succ_self _) (Nat.le_succ _) hd h1 h2
theorem M.sub (h : M σ ρ base H nx w) {H' : Hp} (hs : ∀ i b, look H' i = some b → look H i = some b) : M σ ρ base H' nx w :=
  ⟨h.size, h.fresh, fun i b hb => h.blk i b (hs i b hb), fun i j r c d hi hj => h.inj i j r c d (by
    simp only [Option.isSome_iff_exists] at hi ⊢; obtain ⟨b, hb⟩ := hi; exact ⟨b, hs _ _ hb⟩) (by
    simp only [Option.isSome_iff_exists] at hj ⊢; obtain ⟨b, hb⟩ := hj; exact ⟨b, hs _ _ hb⟩)⟩
theorem M.put (h : M σ ρ base H nx w) {i : Nat} {b : Blk} {cells : List V} {r c : Nat} {cs sp cs' : List Value} (hbC : lookC H i = some b) (hr : ρ i = some (r, c)) (hw : w.heap[r]? = some (.cells (cs ++ sp).toArray b.ty (0, 0)))
    (hlen : cs'.length = cs.length) (hcap : b.spare = true → (cs ++ sp).length = c * b.sz ∧ c ≤ maxLen ∧ 0 < b.sz) (hsp : b.spare = false → sp = []) (hbase : ¬ base r) (hd : denL σ ρ cells = some cs') :
    M σ ρ base (upd H i { b with cells := cells }) nx (w.setRow r (cs' ++ sp).toArray) := by
  obtain ⟨hb, hmp⟩ := lookC_look hbC
  have hL : ∀ j, look (upd H i { b with cells := cells }) j = if i = j then some { b with cells := cells } else look H j := fun j => look_upd hb
  refine ⟨fun r hr => by simp; exact h.size r hr, h.fresh, fun j b' hj => ?_, fun j k q c1 d hj hk => h.inj j k q c1 d ?_ ?_⟩
  · rw [hL] at hj
    split at hj
    · rename_i e
      subst e
      simp at hj
      subst hj
      refine ⟨r, c, cs', sp, hr, fun _ => hbase, hd, ⟨(0, 0), fun _ => rfl, by rw [Blk.obj_cells (by rw [Blk.mp_cells]; exact hmp)]; exact setRow_heap w r _ _ _ _ hw⟩, hsp, fun _ hs => ?_, fun h9 => by rw [Blk.mp_cells, hmp] at h9; cases h9⟩
      have := hcap hs
      simp only [List.length_append] at this ⊢
      rw [hlen]; exact this
    · rename_i hne
      obtain ⟨r', c', cs1, sp1, g1, g2, g3, g4, g5, g6⟩ := h.blk j b' hj
      refine ⟨r', c', cs1, sp1, g1, g2, g3, ?_, g5, g6⟩
      rw [setRow_other w r r' _ (fun e => hne (h.inj i j r' c c' (by simp [hb]) (by simp [hj]) (e ▸ hr) g1))]
      exact g4
  · rw [hL] at hj
    split at hj
    · rename_i e; subst e; simp [hb]
    · exact hj
  · rw [hL] at hk
    split at hk
    · rename_i e; subst e; simp [hb]
    · exact hk
theorem below_setRow (w : World) {r : Nat} (h : ¬ base r) (cs : Array Value) : Kp base w (w.setRow r cs) :=
  ⟨rfl, rfl, rfl, by simp, fun k hk => setRow_other w r k cs (fun e => h (e ▸ hk))⟩
theorem below_alloc (h : ∀ r, base r → r < w.heap.size) (o : Obj) : Kp base w (w.alloc o) := (Kp.refl _ _).alloc h o
theorem M.drew (h : M σ ρ base H nx w) : M σ ρ base H nx w.drew := ⟨h.size, h.fresh, h.blk, h.inj⟩
theorem zeros_cells (z : Array Value) (hz : z.size ≠ 0) (n : Nat) : (Array.range (n * z.size)).map (fun i => z[i % z.size]!) = (List.replicate n z.toList).flatten.toArray := by
  induction n with
  | zero => simp
  | succ n ih =>
    apply Array.ext'
    have e : (List.replicate (n + 1) z.toList).flatten = (List.replicate n z.toList).flatten ++ z.toList := by
      rw [List.replicate_succ', List.flatten_append]; simp
    rw [e]
    have h1 := congrArg Array.toList ih
    simp only [Array.toList_map, Array.toList_range] at h1 ⊢
    rw [Nat.succ_mul, List.range_add, List.map_append, h1]
    congr 1
    simp only [List.map_map]
    apply List.ext_getElem
    · simp
    · intro i h2 h3
      simp at h2 h3
      simp [Nat.mod_eq_of_lt h2, h2]
structure Res (P : Program) (σ : Env) (ρ : Rho) (base : Nat → Prop) (a : Act) (o : Oper) (w : World) (r : MR) : Prop where
  mk :: ex : ∃ nxt x ρ' w', (execOp a.eval o).run P w = .ok nxt w' ∧ (nxt = .value x ∨ (nxt = .skip ∧ x = undef)) ∧ Ext ρ ρ' ∧ den σ ρ' r.1 = some x ∧ M σ ρ' base r.2.1 r.2.2 w' ∧ Kp base w w' ∧ ∀ j, ρ j = none → look r.2.1 j = none → ρ' j = none
theorem put_none {k j : Nat} {r : Nat × Nat} {b : Blk} (h : ρ j = none) (h2 : look ((k, b) :: H) j = none) : rhoPut ρ k r j = none := by
  unfold rhoPut
  split
  · rename_i e; subst e; rw [look_cons, if_pos rfl] at h2; simp at h2
  · exact h
theorem evm_row (hM : M σ ρ base H nx w) {k nx' : Nat} (hk : ρ k = none) (hkn : k < nx') (hnn : nx ≤ nx') {ty : TypeId} {sz : Nat} {cells : List V} {cs : List Value} (hd : denL σ ρ cells = some cs) {o : Oper} {len : Nat} {v : V} {x : Value}
    (hr : (execOp a.eval o).run P w = .ok (.value x) (w.alloc (.cells cs.toArray ty)))
    (hv : ∀ c, den σ (rhoPut ρ k (w.heap.size, c)) v = some x) : Res P σ ρ base a o w (v, (k, ⟨ty, sz, cells, false, false⟩) :: H, nx') := by
  have := hM.allocAt hk hkn hnn (b := ⟨ty, sz, cells, false, false⟩) (cs := cs) (sp := []) (c := 0) hd (fun _ => rfl) (by simp)
  refine ⟨_, x, _, _, hr, .inl rfl, ext_put hk (w.heap.size, 0), hv 0, ?_, below_alloc hM.size _, fun j h1 h2 => put_none h1 h2⟩
  simpa using this
theorem evm_alloc (hM : M σ ρ base H nx w) {k nx' : Nat} (hk : ρ k = none) (hkn : k < nx') (hnn : nx ≤ nx') {t : TypeId} {z : V} {s : Nat} (hz : zeroV P t = some z) {o : Oper} (ho : o.op = .alloc t) : Res P σ ρ base a o w (.ptr k 0, (k, ⟨t, s, z.cells, false, false⟩) :: H, nx') := by
  obtain ⟨x, hx, hd⟩ := run_zeroV (w := w) (σ := σ) (ρ := ρ) hz
  refine evm_row (len := 0) hM hk hkn hnn (cells_den hd) (x := .pointer (some ⟨w.heap.size, 0, none⟩)) ?_ (fun c => by simp [den, rhoPut])
  unfold execOp
  simp [ho, Instr.alloc, hx, newVar, newRow]
theorem evm_box (hM : M σ ρ base H nx w) {k nx' : Nat} (hk : ρ k = none) (hkn : k < nx') (hnn : nx ≤ nx') (hF : OpOk σ ρ F a) {t : TypeId} {x : Operand} {v : V} {s : Nat} (hv : opv F x = some v) {o : Oper} (ho : o.op = .box t x) : Res P σ ρ base a o w (.ptr k 0, (k, ⟨t, s, v.cells, false, false⟩) :: H, nx') := by
  refine evm_row (len := 0) hM hk hkn hnn (cells_den (opv_den hF hv)) (x := .pointer (some ⟨w.heap.size, 0, none⟩)) ?_ (fun c => by simp [den, rhoPut])
  unfold execOp
  simp [ho, Instr.box, newVar, newRow]
theorem evm_buildSlice (hM : M σ ρ base H nx w) {k nx' : Nat} (hk : ρ k = none) (hkn : k < nx') (hnn : nx ≤ nx') (hF : OpOk σ ρ F a) {t e : TypeId} {len s : Nat} {parts : Array (Nat × Operand)} {ps : List (Nat × V)} {z : V} {l : List V} (hu : P.underlying t = some (.slice e)) (hs : szOf P e = some s)
    (hps : partsV F parts = some ps) (hle : ¬ (len * s > 16777216 ∨ s = 0)) (hz : zeroV P e = some z) (hzl : z.cells.length = s) (hl : fillV (fun i => some (i * s, s)) (List.replicate len z.cells).flatten ps = some l)
    {o : Oper} (ho : o.op = .buildSlice t len parts) : Res P σ ρ base a o w (.sl k 0 len (.is len), (k, ⟨e, s, l, false, false⟩) :: H, nx') := by
  obtain ⟨x, hx, hd⟩ := run_zeroV (w := w) (σ := σ) (ρ := ρ) hz
  have hzc := cells_den hd
  obtain ⟨hp1, hp2⟩ := parts_den (a := a) hF hps
  obtain ⟨ls, hls, hdl⟩ := fill_den hl (denL_rep hzc len) hp1 hp2
  refine evm_row (len := len) hM hk hkn hnn hdl (x := .slice (some ⟨w.heap.size, 0, none⟩) len len) ?_ (fun c => by simp [den, rhoPut, Cap.cap])
  have hxs : x.cells.size = s := by have := denL_len hzc; simp at this; omega
  have hx0 : x.cells.size ≠ 0 := by intro h; apply hle; right; rw [← hxs, h]
  have hzz := zeros_cells x.cells hx0 len
  unfold execOp
  simp only [ho, Instr.buildSlice, Sem.run_bind, run_underlying hu, Result.andThen_ok, run_szOf hs, Sem.run_ite]
  rw [if_neg (by omega)]
  by_cases h0 : len = 0
  · subst h0
    rw [if_pos (by omega)]
    have e0 : ∀ f : Nat → Value, (Array.range (0 * s)).map f = ((List.replicate 0 x.cells.toList).flatten).toArray := fun f => by simp
    simp only [Sem.run_pure, Result.andThen_ok, Sem.run_bind, e0, hls, newRow, run_newObj]
    rfl
  rw [if_neg (by rw [Nat.mul_eq_zero]; omega)]
  simp only [Sem.run_pure, Result.andThen_ok, Sem.run_bind, hx]
  rw [hxs] at hzz
  simp only [hxs, hzz, hls, Sem.run_pure, Sem.run_bind, newRow, run_newObj, Result.andThen_ok]
  rfl
theorem evm_store (hM : M σ ρ base H nx w) (hF : OpOk σ ρ F a) {t : TypeId} {x y : Operand} {id off s : Nat} {b : Blk} {v : V} (hx : opv F x = some (.ptr id off)) (hb : lookC H id = some b) (hy : opv F y = some v) (hs : szOf P t = some s)
    (hl : v.cells.length = s) (hle : off + s ≤ b.cells.length) (h1 : allOne v.cells = true) (hro : b.ro = false) {o : Oper} (ho : o.op = .store t x y) : Res P σ ρ base a o w (.undef, upd H id { b with cells := put1 b.cells off v.cells }, nx) := by
  obtain ⟨r, c, cs, sp, hr, hbase, hdc, ⟨fz, hfz, hw⟩, hsp, hcap⟩ := hM.blkC id b hb
  cases hfz hro
  have hv := cells_den (opv_den hF hy)
  have hlc := denL_len hdc
  have hlv := denL_len hv
  have hx' := opv_den hF hx
  simp [den, hr] at hx'
  have hst := run_storeCells_at P r off b.ty (a.eval y).cells.toList 0 (cs ++ sp).toArray w hw (by simp at hlv ⊢; omega) (allOne_den hv h1)
  have hput := denL_put1 hdc hv off
  refine ⟨.skip, undef, ρ, _, ?_, .inr ⟨rfl, rfl⟩, Ext.refl _, by simp [den, denL, undef], M.put hM hb hr hw (cs' := cs.take off ++ (a.eval y).cells.toList ++ cs.drop (off + (a.eval y).cells.toList.length)) ?_ hcap hsp (hbase hro) hput, below_setRow w (hbase hro) _, fun j h1 _ => h1⟩
  · unfold execOp
    simp only [ho, Instr.storeAt, Instr.sureAddr, ← hx', Sem.run_bind, Sem.run_pure, Result.andThen_ok, storeVar, run_szOf hs, Sem.run_ite]
    rw [if_neg (by simp at hlv; omega), hst]
    simp only [Result.andThen_ok]
    congr 3
    simp only [Nat.add_zero, List.append_assoc]
    rw [List.take_append_of_le_length (by omega), List.drop_append_of_le_length (by simp at hlv ⊢; omega)]
  · simp at hlv ⊢; omega
theorem evm_make (hM : M σ ρ base H nx w) {k nx' : Nat} (hk : ρ k = none) (hkn : k < nx') (hnn : nx ≤ nx') (hF : OpOk σ ρ F a) {t e : TypeId} {x y : Operand} {u v z : V} {ln cp : Nat} {i : TypeInfo} (hu : P.underlying t = some (.slice e)) (hx : opv F x = some u) (hxl : natLit u = some ln) (hy : opv F y = some v) (hyl : natLit v = some cp)
    (hi : P.info? e = some i) (hz : zeroV P e = some z) (h1 : ln ≤ cp) (h2 : cp * i.bytes ≤ maxBytes) (h3 : cp ≤ maxBytes) (h4 : z.cells.length = i.size) (h6 : 0 < i.size)
    {o : Oper} (ho : o.op = .makeSlice t x y) : Res P σ ρ base a o w (.sl k 0 ln (.is cp), (k, ⟨e, i.size, (List.replicate cp z.cells).flatten, false, false⟩) :: H, nx') := by
  have hz' := hz
  unfold zeroV at hz'
  simp only [hi, Option.bind_some, Option.bind_eq_some_iff] at hz'
  obtain ⟨zx, hzx, hzo⟩ := hz'
  have hd := ofValue_den (σ := σ) (ρ := ρ) hzo
  have hzc := cells_den hd
  obtain ⟨kx, ex⟩ := natLit_den hxl (opv_den hF hx)
  obtain ⟨ky, ey⟩ := natLit_den hyl (opv_den hF hy)
  have hl := denL_len hzc
  simp at hl
  have hm := run_make (P := P) w t e i zx hu hi hzx kx ky ln cp (by omega) (by omega) (by
    have : ((i.bytes * cp : Nat) : Int) ≤ 281474976710656 := by unfold maxBytes at h2; rw [Nat.mul_comm] at h2; omega
    rwa [Int.natCast_mul] at this) (by unfold maxBytes at h3; omega)
  refine evm_row (len := ln) hM hk hkn hnn (denL_rep hzc cp) (x := .slice (some ⟨w.heap.size, 0, none⟩) ln cp) ?_ (fun c => by simp [den, rhoPut, Cap.cap])
  unfold execOp
  simp only [ho, ex, ey, Sem.run_bind, hm, Result.andThen_ok, Sem.run_pure, Int.toNat_natCast]
  congr 3
  have hzz := zeros_cells zx.cells (by omega) cp
  rw [show zx.cells.size = i.size by omega] at hzz
  rw [← hzz]
  unfold madeCells
  rw [show zx.cells.size = i.size by omega]
theorem cells_read (hM : M σ ρ base H nx w) {id : Nat} {b : Blk} (hb : lookC H id = some b) (off n : Nat) (h : off + n ≤ b.cells.length) : readRow H id off n = some ((b.cells.drop off).take n) := by
  unfold readRow
  rw [hb]
  simp [h]
theorem evm_grown {nx0 : Nat} (hM : M σ ρ base H nx0 w) {nx' : Nat} (hk : ρ nx = none) (hkn : nx < nx') (hnn : nx0 ≤ nx') {H' : Hp} (hs : ∀ i b, look H' i = some b → look H i = some b) {e : TypeId} {z n c : Nat} {cells : List V} {cs : List Value} {zc : Array Value} (hd : denL σ ρ cells = some cs) (hl : cs.length = n * z) (hnc : n ≤ c) (hcm : c ≤ maxLen) (hz : 0 < z) (hzc : zc.size = z) {o : Oper}
    (hr : (execOp a.eval o).run P w = .ok (.value (.slice (some ⟨w.heap.size, 0, none⟩) n c)) (w.drew.alloc (.cells (cs.toArray ++ Builtin.zeroCells zc (c - n)) e))) :
    Res P σ ρ base a o w (.sl nx 0 n (.rest 0), (nx, ⟨e, z, cells, true, false⟩) :: H', nx') := by
  have hlen : (cs ++ (Builtin.zeroCells zc (c - n)).toList).length = c * z := by
    simp only [List.length_append, Array.length_toList, size_zeroCells, hzc, hl, ← Nat.add_mul]
    congr 1; omega
  have := (hM.sub hs).drew.allocAt hk hkn hnn (b := ⟨e, z, cells, true, false⟩) (cs := cs) (sp := (Builtin.zeroCells zc (c - n)).toList) (c := c) hd (by simp) (fun _ => ⟨hlen, hcm, hz⟩)
  refine ⟨_, _, _, _, hr, .inl rfl, ext_put hk (w.heap.size, c), by simp [den, rhoPut, Cap.cap], ?_, Kp.trans (b := w.drew) (Kp.drew (Kp.refl _ _)) (below_alloc (w := w.drew) hM.size _), fun j h1 h2 => put_none h1 h2⟩
  · have e1 : (cs ++ (Builtin.zeroCells zc (c - n)).toList).toArray = cs.toArray ++ Builtin.zeroCells zc (c - n) := by apply Array.ext'; simp
    rw [e1] at this
    exact this
end
end Go.Proofs.Ytehbfajmileefaa.Vx
