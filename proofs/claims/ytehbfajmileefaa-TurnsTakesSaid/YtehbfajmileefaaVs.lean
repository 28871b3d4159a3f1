import Derived.Test.YtehbfajmileefaaVh
namespace Go.Proofs.Ytehbfajmileefaa.Vx
open Go.RowKit
set_option linter.unusedVariables false
set_option linter.unusedSimpArgs false
section
variable {P : Program} {σ : Env} {ρ : Rho} {w : World} {base : Nat → Prop} {nx : Nat} {H : Hp} {F : Fr} {a : Act}
theorem entriesOf_push : ∀ (xs : List Value) (b : Nat) (k v : Value), xs.length % 2 = 0 → entriesOf (xs ++ [k, v]) b = entriesOf xs b ++ [⟨k, v, b + xs.length / 2⟩]
  | [], b, k, v, _ => by simp [entriesOf]
  | [_], b, k, v, h => by simp at h
  | x :: y :: l, b, k, v, h => by
    have := entriesOf_push l (b + 1) k v (by simp only [List.length_cons] at h; omega)
    rw [show b + (x :: y :: l).length / 2 = b + 1 + l.length / 2 by simp only [List.length_cons]; omega]
    simp only [List.cons_append, entriesOf, this]
theorem entriesOf_set : ∀ (xs : List Value) (b j : Nat) (v : Value), entriesOf (xs.set (2 * j + 1) v) b = (entriesOf xs b).modify j (fun e => { e with val := v })
  | [], b, j, v => by cases j <;> simp [entriesOf]
  | [x], b, j, v => by
    have : ([x].set (2 * j + 1) v) = [x] := by simp
    rw [this]
    cases j <;> simp [entriesOf]
  | x :: y :: l, b, 0, v => by simp [entriesOf]
  | x :: y :: l, b, j + 1, v => by
    have := entriesOf_set l (b + 1) j v
    rw [show 2 * (j + 1) + 1 = 2 * j + 1 + 1 + 1 by omega]
    simp only [List.set_cons_succ, entriesOf, this, List.modify_succ_cons]
theorem modify_key {l : List MapEntry} {j : Nat} {e : MapEntry} {x v : Value} (h : l[j]? = some e) (hk : e.key = x) : l.modify j (fun e => { e with key := x, val := v }) = l.modify j (fun e => { e with val := v }) := by
  apply List.ext_getElem?
  intro i
  simp only [List.getElem?_modify]
  by_cases hi : j = i
  · subst hi
    simp only [if_true, h, Option.map_eq_map, Option.map_some]
    rw [← hk]
  · simp [hi]
theorem lit_bits {k : V} (h : k.litB = true) {x : Value} (hd : den σ ρ k = some x) (n : Nat) : Instr.sameBits n x x = true := by
  unfold V.litB at h
  split at h <;> simp at h
  all_goals
    simp only [den, Option.some.injEq] at hd
    subst hd
    cases n <;> simp [Instr.sameBits, MapKept.bytes_beq]
theorem litL_bits {l : List V} (h : l.all V.litB = true) {xs : List Value} (hd : denL σ ρ l = some xs) (n : Nat) : ((xs.zip xs).all fun (x, y) => Instr.sameBits n x y) = true := by
  induction l generalizing xs with
  | nil => rw [denL_nil] at hd; simp at hd; subst hd; simp
  | cons v l ih =>
    obtain ⟨y, ys, h1, h2, rfl⟩ := denL_cons.1 hd
    simp only [List.all_cons, Bool.and_eq_true] at h
    simp only [List.zip_cons_cons, List.all_cons, Bool.and_eq_true]
    exact ⟨lit_bits h.1 h1 n, ih h.2 h2⟩
theorem key_bits {t : TypeId} {k : V} {x : Value} (h : keyB P t k = true) (hd : den σ ρ k = some x) (n : Nat) : Instr.sameBits (n + 1) x x = true := by
  unfold keyB at h
  split at h
  · exact lit_bits rfl hd _
  · exact lit_bits rfl hd _
  · exact lit_bits rfl hd _
  · simp only [Bool.and_eq_true] at h
    simp only [den, Option.map_eq_some_iff] at hd
    obtain ⟨xs, hxs, rfl⟩ := hd
    simp only [Instr.sameBits, beq_self_eq_true, Bool.true_and]
    exact litL_bits h.1 hxs n
  · simp at h
theorem M.putObj (h : M σ ρ base H nx w) {i : Nat} {b : Blk} {cells : List V} {r c : Nat} {cs' : List Value} (hb : lookM H i = some b) (hr : ρ i = some (r, c)) (hlt : r < w.heap.size) (hev : cs'.length % 2 = 0) (hbase : ¬ base r)
    (hd : denL σ ρ cells = some cs') : M σ ρ base (upd H i { b with cells := cells }) nx { w with heap := w.heap.setIfInBounds r (.map (entriesOf cs' 0).toArray (cs'.length / 2)) } := by
  obtain ⟨hb, hmp⟩ := lookM_look hb
  have hmp' : ({ b with cells := cells } : Blk).mp = true := by rw [Blk.mp_cells]; exact hmp
  have hL : ∀ j, look (upd H i { b with cells := cells }) j = if i = j then some { b with cells := cells } else look H j := fun j => look_upd hb
  refine ⟨fun r hr => by simp; exact h.size r hr, h.fresh, fun j b' hj => ?_, fun j k q c1 d hj hk => h.inj j k q c1 d ?_ ?_⟩
  · rw [hL] at hj
    split at hj
    · rename_i e
      subst e
      simp at hj
      subst hj
      refine ⟨r, c, cs', [], hr, fun _ => hbase, hd, ⟨(0, 0), fun _ => rfl, ?_⟩, fun _ => rfl, (fun h9 => by rw [hmp'] at h9; cases h9), fun _ => ⟨rfl, hev⟩⟩
      unfold Blk.obj
      rw [hmp']
      simp [hlt]
    · rename_i hne
      obtain ⟨r', c', cs1, sp1, g1, g2, g3, g4, g5, g6⟩ := h.blk j b' hj
      refine ⟨r', c', cs1, sp1, g1, g2, g3, ?_, g5, g6⟩
      have hrr : r ≠ r' := fun e => hne (h.inj i j r' c c' (by simp [hb]) (by simp [hj]) (e ▸ hr) g1)
      simp only [Array.getElem?_setIfInBounds_ne hrr]
      exact g4
  · rw [hL] at hj
    split at hj
    · rename_i e; subst e; simp [hb]
    · exact hj
  · rw [hL] at hk
    split at hk
    · rename_i e; subst e; simp [hb]
    · exact hk
theorem evm_makeMap (hM : M σ ρ base H nx w) {k nx' : Nat} (hk : ρ k = none) (hkn : k < nx') (hnn : nx ≤ nx') {o : Oper} (hr : (execOp a.eval o).run P w = .ok (.value (.map (some w.heap.size))) (w.alloc (.map #[] 0))) :
    Res P σ ρ base a o w (.mp k, (k, ⟨0, 0, [], true, false⟩) :: H, nx') := by
  have := hM.allocObj hk hkn hnn (b := ⟨0, 0, [], true, false⟩) (cs := []) (sp := []) (c := 0) denL_nil (fun _ => rfl) (fun h9 => by simp [Blk.mp] at h9) (fun _ => ⟨rfl, rfl⟩)
  refine ⟨_, _, _, _, hr, .inl rfl, ext_put hk (w.heap.size, 0), by simp [den, rhoPut], ?_, below_alloc hM.size _, fun j h1 h2 => put_none h1 h2⟩
  simpa [Blk.obj, Blk.mp, entriesOf] using this
theorem below_set {r : Nat} (h : ¬ base r) (o : Obj) : Kp base w { w with heap := w.heap.setIfInBounds r o } :=
  ⟨rfl, rfl, rfl, by simp, fun k hk => by
    have hne : r ≠ k := fun e => h (e ▸ hk)
    simp only [Array.getElem?_setIfInBounds_ne hne]⟩
theorem evm_mapUpdate (hM : M σ ρ base H nx w) (hF : OpOk σ ρ F a) {t : TypeId} {m k x : Operand} {vm vk vx : V} {r : MR} (hm : opv F m = some vm) (hk : opv F k = some vk) (hx : opv F x = some vx) (h : updV P t vm vk vx H nx = some r)
    {o : Oper} (ho : o.op = .mapUpdate t m k x) : Res P σ ρ base a o w r := by
  have hdm := opv_den hF hm
  have hdk := opv_den hF hk
  have hdx := opv_den hF hx
  unfold updV at h
  split at h
  · rename_i kt et id hu
    split at h
    · rename_i hkb
      simp only [Option.bind_eq_some_iff] at h
      obtain ⟨b, hb, h⟩ := h
      split at h
      · simp at h
      rename_i hro
      simp only [Bool.not_eq_true] at hro
      obtain ⟨r0, c, cs, hr0, hbase, hdc, hw, hev⟩ := hM.blkM hb
      have hbase := hbase hro
      simp only [den, hr0, Option.map_some, Option.some.injEq] at hdm
      obtain ⟨d, hd⟩ : ∃ d, P.underlying kt = some d := by
        cases hq : P.underlying kt with
        | none => simp [keyB, hq] at hkb
        | some d => exact ⟨d, rfl⟩
      have hck : (Instr.checkKey false 10000 kt (a.eval k)).run P w = .ok () w := key_ok (w := w) hkb hdk false 9998
      have hlt : r0 < w.heap.size := (Array.getElem?_eq_some_iff.1 hw).1
      have hlc := denL_len hdc
      split at h
      · rename_i j v' hf
        simp only [Option.bind_eq_some_iff] at h
        obtain ⟨k', hk', h⟩ := h
        split at h <;> simp at h
        rename_i heq
        subst h
        obtain ⟨y, e, h1, h2, h3, h4, h5⟩ := findM_asking (P := P) (w := w) hdk (b := 0) hf hdc
        obtain ⟨z, z1, z2, z3⟩ := h5 k' (by simpa using hk')
        have hzk : z = a.eval k := by
          rw [eqb_eq heq, hdk] at z1
          simpa using z1.symm
        simp only [Nat.sub_zero] at z2
        have hfk := findKey_of (P := P) (w := w) hd h1
        have hks : (Instr.keyThatStays (a.eval k) (a.eval k)).run P w = .ok (a.eval k) w := by
          simp [Instr.keyThatStays, key_bits hkb hdk 9999]
        have he := entriesOf_set cs 0 j (a.eval x)
        have hM' := hM.putObj (cells := b.cells.set (2 * j + 1) vx) (cs' := cs.set (2 * j + 1) (a.eval x)) hb hr0 hlt (by simpa using hev) hbase (denL_set hdc _ hdx)
        refine ⟨.skip, undef, ρ, _, ?_, .inr ⟨rfl, rfl⟩, Ext.refl _, by simp [den, denL, undef], hM', below_set hbase _, fun j h1 _ => h1⟩
        unfold execOp
        simp only [ho, ← hdm, Instr.mapUpdate, Sem.run_bind, run_underlying hu, Result.andThen_ok, MapKept.run_getObj_map hw, hck, hfk, List.getElem?_toArray, z2, Option.map_some, Option.getD_some, z3, hzk, hks, MapKept.run_setObj_map _ hw, Sem.run_pure]
        rw [he, ← modify_key z2 (z3.trans hzk)]
        simp
      · rename_i hf
        simp at h
        subst h
        have h1 := findM_asking (P := P) (w := w) hdk (b := 0) hf hdc
        simp only at h1
        have hfk := findKey_of (P := P) (w := w) hd h1
        have he := entriesOf_push cs 0 (a.eval k) (a.eval x) hev
        have hM' := hM.putObj (cells := b.cells ++ [vk, vx]) (cs' := cs ++ [a.eval k, a.eval x]) hb hr0 hlt (by simp; omega) hbase (denL_append.2 ⟨_, _, hdc, denL_cons.2 ⟨_, _, hdk, denL_cons.2 ⟨_, _, hdx, denL_nil, rfl⟩, rfl⟩, rfl⟩)
        refine ⟨.skip, undef, ρ, _, ?_, .inr ⟨rfl, rfl⟩, Ext.refl _, by simp [den, denL, undef], hM', below_set hbase _, fun j h1 _ => h1⟩
        unfold execOp
        simp only [ho, ← hdm, Instr.mapUpdate, Sem.run_bind, run_underlying hu, Result.andThen_ok, MapKept.run_getObj_map hw, hck, hfk, MapKept.run_setObj_map _ hw, Sem.run_pure]
        rw [he]
        have e2 : (cs ++ [a.eval k, a.eval x]).length / 2 = cs.length / 2 + 1 := by rw [List.length_append]; simp
        rw [e2]
        simp
      · simp at h
    · simp at h
  · simp at h
theorem exec_clear {o : Oper} {s : Operand} {t : TypeId} (ho : o.op = .call { callee := .builtin .clear, args := #[s], argTypes := #[t] }) {v : Value} {w' : World}
    (h : (Builtin.clear_ #[t] o.type #[a.eval s]).run P w = .ok v w') : (execOp a.eval o).run P w = .ok (.value v) w' := by
  unfold execOp
  simp [ho, resolve, invoke, builtin, h]
theorem evm_clear (hM : M σ ρ base H nx w) (hF : OpOk σ ρ F a) {t : TypeId} {s : Operand} {vs : V} {r : MR} (hs : opv F s = some vs) (h : clearV P t vs H nx = some r)
    {o : Oper} (ho : o.op = .call { callee := .builtin .clear, args := #[s], argTypes := #[t] }) : Res P σ ρ base a o w r := by
  have hds := opv_den hF hs
  unfold clearV at h
  split at h
  · rename_i e hu
    simp at h
    subst h
    simp [den] at hds
    refine ⟨_, .tuple #[], ρ, w, exec_clear ho ?_, .inl rfl, Ext.refl _, by simp [den, denL], hM, Kp.refl _ _, fun j h1 _ => h1⟩
    rw [← hds]
    simp [Builtin.clear_, run_underlying hu]
  · rename_i e id off n c hu
    split at h
    · rename_i h0
      simp at h
      subst h
      subst h0
      simp only [den, Option.map_eq_some_iff] at hds
      obtain ⟨q, -, hds⟩ := hds
      refine ⟨_, .tuple #[], ρ, w, exec_clear ho ?_, .inl rfl, Ext.refl _, by simp [den, denL], hM, Kp.refl _ _, fun j h1 _ => h1⟩
      rw [← hds]
      simp [Builtin.clear_, run_underlying hu]
    rename_i h0
    simp only [Option.bind_eq_some_iff] at h
    obtain ⟨z, hz, b, hb, h⟩ := h
    split at h <;> simp at h
    rename_i hc
    obtain ⟨hfit, hz0, hone, hro⟩ := hc
    subst h
    obtain ⟨zx, hzx, hd⟩ := run_zeroV (P := P) (w := w) (σ := σ) (ρ := ρ) hz
    have hzc := cells_den hd
    have hzl := denL_len hzc
    simp only [Array.length_toList] at hzl
    obtain ⟨r0, cc, cs, sp, hr0, hbase, hdc, ⟨fz, hfz, hw⟩, hsp, hcap⟩ := hM.blkC id b hb
    have hbase := hbase hro
    cases hfz hro
    have hlc := denL_len hdc
    simp [den, hr0] at hds
    have hnews := denL_rep hzc n
    have hzz := zeros_cells zx.cells (by omega) n
    have hlen : ((List.replicate n zx.cells.toList).flatten).length = n * z.cells.length := by simp [hzl]
    have h1 : ∀ u ∈ (List.replicate n zx.cells.toList).flatten, u.oneCell' = true := by
      intro u hu'
      simp only [List.mem_flatten, List.mem_replicate] at hu'
      obtain ⟨l, ⟨-, rfl⟩, hu'⟩ := hu'
      exact allOne_den hzc hone u hu'
    have hst := run_storeCells_at P r0 off b.ty (List.replicate n zx.cells.toList).flatten 0 (cs ++ sp).toArray w hw (by rw [hlen]; simp; omega) h1
    have hput := denL_put1 hdc hnews off
    refine ⟨_, .tuple #[], ρ, _, exec_clear ho ?_, .inl rfl, Ext.refl _, by simp [den, denL], M.put hM hb hr0 hw (cs' := cs.take off ++ (List.replicate n zx.cells.toList).flatten ++ cs.drop (off + (List.replicate n zx.cells.toList).flatten.length)) ?_ hcap hsp hbase hput, below_setRow w hbase _, fun j h1 _ => h1⟩
    · rw [← hds]
      have hn0 : n ≠ 0 := h0
      have e0 : (Builtin.clear_ #[t] o.type #[.slice (some ⟨r0, off, none⟩) n (c.cap cc)]).run P w = ((storeCells ⟨r0, off, none⟩ (Builtin.zeroCells zx.cells n).toList).run P w).andThen fun _ w' => .ok (.tuple #[]) w' := by
        cases n with
        | zero => exact absurd rfl hn0
        | succ n => simp [Builtin.clear_, run_underlying hu, hzx]
      rw [e0, show Builtin.zeroCells zx.cells n = (List.replicate n zx.cells.toList).flatten.toArray from hzz, List.toList_toArray, hst]
      simp only [Result.andThen_ok]
      congr 3
      simp only [Nat.add_zero, List.append_assoc]
      rw [List.take_append_of_le_length (by omega), List.drop_append_of_le_length (by rw [hlen]; omega)]
    · rw [List.length_append, List.length_append, List.length_take, List.length_drop, hlen]; omega
  · simp at h
end
end Go.Proofs.Ytehbfajmileefaa.Vx
