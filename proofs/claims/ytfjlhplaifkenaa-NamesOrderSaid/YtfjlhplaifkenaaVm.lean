/-
  The symbolic executor: a region that draws its order.
-/
import Derived.Test.YtfjlhplaifkenaaVk
namespace Go.Proofs.Ytfjlhplaifkenaa.Vx
open Go.RowKit
set_option linter.unusedVariables false
set_option linter.unusedSimpArgs false
section
variable {P : Program} {σ : Env} {ρ : Rho} {w : World} {base nx : Nat} {H : Hp} {F : Fr} {a : Act} {funs : List (FuncId × Func)}
theorem wanted_boolO (hF : OpOk σ ρ F a) {ops : Array Oper} {o : Oper} {j : Nat} {want : Bool} {t : T} (hg : o.guard = some (j, want)) (h : ((ops[j]?).bind (·.dst)).bind (fun d => opv F (.tmp d)) = some (.bool t)) :
    Region.wanted o (yielded ops a.tmps) = (t.b σ == want) := by
  simp only [Option.bind_eq_some_iff] at h
  obtain ⟨d, ⟨q, hq, hd⟩, hv⟩ := h
  have := den_bool (hF _ _ hv)
  simp only [Act.eval, Array.getD_eq_getD_getElem?] at this
  cases e : a.tmps[d]? with
  | none => rw [e] at this; simp [undef] at this
  | some x =>
    rw [e] at this
    simp at this
    subst this
    simp [Region.wanted, hg, yielded, hq, hd, e]
theorem wanted_undefO (hF : OpOk σ ρ F a) {ops : Array Oper} {o : Oper} {j : Nat} {want : Bool} (hg : o.guard = some (j, want)) (h : ((ops[j]?).bind (·.dst)).bind (fun d => opv F (.tmp d)) = some (.tup [])) :
    Region.wanted o (yielded ops a.tmps) = false := by
  simp only [Option.bind_eq_some_iff] at h
  obtain ⟨d, ⟨q, hq, hd⟩, hv⟩ := h
  have := hF _ _ hv
  simp [den, denL] at this
  simp only [Act.eval, Array.getD_eq_getD_getElem?] at this
  cases e : a.tmps[d]? with
  | none => simp [Region.wanted, hg, yielded, hq, hd, e]
  | some x =>
    rw [e] at this
    simp at this
    subst this
    simp [Region.wanted, hg, yielded, hq, hd, e]
theorem mergeLs_ok {n : Nat} : ∀ {l : List (V × St)} {v : V}, mergeLs n l = some v → ∀ lf ∈ l, (∀ t ∈ lf.2.pc, t.b σ = true) → den σ ρ v = den σ ρ lf.1
  | [], v, h, lf, hlf, _ => by simp at hlf
  | [x], v, h, lf, hlf, _ => by simp [mergeLs] at h; simp at hlf; subst hlf; rw [h]
  | x :: y :: l, v, h, lf, hlf, hpc => by
    simp only [mergeLs] at h
    split at h
    · rename_i hall
      simp only [Option.bind_eq_some_iff] at h
      obtain ⟨u, hu, hv⟩ := h
      rw [iteV_den hv]
      simp only [List.mem_cons] at hlf
      rcases hlf with rfl | hlf
      · rw [if_pos ((andL_b _).2 fun t ht => hpc t (List.mem_of_mem_take ht))]
      · rw [if_neg]
        · exact mergeLs_ok hu lf (by simpa using hlf) hpc
        · intro hc
          have := List.all_eq_true.1 hall lf (by simpa using hlf)
          exact contraB_no this ((andL_b _).1 hc) (fun t ht => hpc t (List.mem_of_mem_take ht))
    · simp at h
theorem M.dom (h : M σ ρ base H nx w) {j : Nat} (hj : ρ j = none) : look H j = none := by
  cases e : look H j with
  | none => rfl
  | some b =>
    obtain ⟨r, c, cs, sp, g1, -⟩ := h.blk j b e
    rw [hj] at g1
    simp at g1
/-- one operation, wherever it comes: of memory it needs what it saw -/
theorem recD_ok (hfs : FunsOk P funs) {call : FuncId → List V → St → Option COut} (hc : CallOk P σ call) {ops : Array Oper} {pc : List T} {nxT k : Nat} {o : Oper} {Hr : Hp} {r : Rec} {vs : Vcs}
    (h : recD P funs call ops pc nxT k o F Hr = some (r, vs)) (hv : VOk σ vs) (hpc : ∀ t ∈ pc, t.b σ = true) (hF : OpOk σ ρ F a) (hH : ∀ i b, look Hr i = some b → look H i = some b) (hM : M σ ρ base H nxT w) (hk : ρ k = none) (hkn : k < nxT) :
    if Region.wanted o (yielded ops a.tmps) then
      ∀ (K : Act → World → Prop) Q, (∀ x ρ' w', Ext ρ ρ' → den σ ρ' r.v = some x → M σ ρ' base (r.put H) nxT w' → Below base w w' → (∀ j, ρ j = none → j ≠ k → ρ' j = none) → K (a.put o.dst x) w') → o.wp P a w K Q
    else r.v = .undef ∧ r.wr = none := by
  have hMr : M σ ρ base Hr nxT w := hM.sub hH
  unfold recD at h
  simp only at h
  have go : (match isCall funs F o.op with
    | some g => match call g.1 g.2 ⟨⟨0, .lf⟩, [], nxT, pc⟩ with
      | some (ls, vc) => if V.plainL g.2 then (mergeLs pc.length ls).bind fun v => if V.plain v then some ((⟨v, none⟩ : Rec), vc) else none else none
      | _ => none
    | none => match evp P pc F Hr o.op with
      | some r => some (⟨r.1, none⟩, (r.2.filter fun t => decG pc t != some true).map fun t => (pc, t))
      | none => match o.op with
        | .store t a x => match opv F a with
          | some (.ptr id off) => (evm P F Hr k (.store t a x)).bind fun r => (look r.2.1 id).map fun b => (⟨.undef, some (id, b)⟩, [])
          | _ => none
        | .alloc t => (evm P F Hr k (.alloc t)).bind fun r => r.2.1.head?.map fun e => (⟨r.1, some e⟩, [])
        | .box t x => (evm P F Hr k (.box t x)).bind fun r => r.2.1.head?.map fun e => (⟨r.1, some e⟩, [])
        | .buildSlice t n ps => (evm P F Hr k (.buildSlice t n ps)).bind fun r => r.2.1.head?.map fun e => (⟨r.1, some e⟩, [])
        | _ => none) = some (r, vs) →
      ∀ (K : Act → World → Prop) Q, (∀ x ρ' w', Ext ρ ρ' → den σ ρ' r.v = some x → M σ ρ' base (r.put H) nxT w' → Below base w w' → (∀ j, ρ j = none → j ≠ k → ρ' j = none) → K (a.put o.dst x) w') → o.wp P a w K Q := by
    intro h K Q hK
    split at h
    · rename_i g hg
      split at h
      · rename_i ls vc hx
        split at h
        · rename_i hpl
          simp only [Option.bind_eq_some_iff] at h
          obtain ⟨v, hmv, h⟩ := h
          split at h <;> simp at h
          rename_i hpv
          obtain ⟨rfl, rfl⟩ := h
          obtain ⟨xs, hxs, hdx⟩ := exec_call (w := w) hfs hF hg
          unfold Oper.wp
          rw [hxs]
          simp only [Oper.upon]
          refine (hc _ _ _ _ hx hv w.heap.size ρ w xs hdx hpc hM.empty).mono ?_
          rintro e w' ⟨lf, hlf, y, ρ', rfl, k2, k3, k4, k5, k6, k7⟩
          rw [← mergeLs_ok (ρ := ρ') hmv lf hlf k5] at k2
          exact hK y ρ w' (Ext.refl _) (den_plain hpv k2) (hM.below k7) (k7.mono hM.size) (fun j h1 _ => h1)
        · simp at h
      · simp at h
    · split at h
      · rename_i q hq
        simp at h
        obtain ⟨rfl, rfl⟩ := h
        obtain ⟨x, hx, hd⟩ := evp_ok (P := P) (a := a) hq hpc (filt_ok hpc (hv.own hpc)) hF hMr
        unfold Oper.wp
        rw [hx]
        exact hK x ρ w (Ext.refl _) hd hM (Below.refl _ _) (fun j h1 _ => h1)
      · have alloc : ∀ (v : V) (e : Nat × Blk) (hr : r = ⟨v, some e⟩) (hek : e.1 = k), Res P σ ρ base a o w (v, e :: H, nxT) → o.wp P a w K Q := by
          intro v e hr hek hres
          subst hr
          obtain ⟨nxt, x, ρ', w', k1, k2, k3, k4, k5, k6, k7⟩ := hres.ex
          unfold Oper.wp
          rw [k1]
          have k7' : e.1 = k → ∀ j, ρ j = none → j ≠ k → ρ' j = none := fun hek j h1 h2 => k7 j h1 (by
            obtain ⟨e1, e2⟩ := e
            show look ((e1, e2) :: H) j = none
            rw [look_cons, if_neg (by intro h; exact h2 (by rw [← h]; exact hek))]
            exact hM.dom h1)
          rcases k2 with rfl | ⟨rfl, rfl⟩ <;> exact hK _ ρ' w' k3 k4 k5 k6 (k7' hek)
        split at h
        · rename_i t x y ho
          split at h
          · rename_i id off hx
            simp only [evm, hx, Option.bind_eq_some_iff, Option.map_eq_some_iff] at h
            obtain ⟨q, ⟨b, hb, v, hy, s, hs, h2⟩, b', hb', he⟩ := h
            split at h2 <;> simp at h2
            rename_i hcc
            simp at he
            obtain ⟨rfl, rfl⟩ := he
            obtain ⟨nxt, z, ρ', w', k1, k2, k3, k4, k5, k6, k7⟩ := (evm_store (P := P) hM hF hx (hH _ _ hb) hy hs hcc.1 hcc.2.1 hcc.2.2 ho).ex
            have hbb : b' = { b with cells := put1 b.cells off v.cells } := by
              rw [← h2, look_upd hb] at hb'
              simpa using hb'.symm
            have hll : ∀ j, look (upd H id { b with cells := put1 b.cells off v.cells }) j = look ((id, b') :: H) j := fun j => by
              rw [look_upd (hH _ _ hb), look_cons, hbb]
            unfold Oper.wp
            rw [k1]
            have fin := hK z ρ' w' k3 (by
              rcases k2 with rfl | ⟨rfl, rfl⟩
              · simp [den, denL] at k4 ⊢; exact k4
              · exact undef_den) (k5.sub fun j c hj => by rw [hll]; exact hj) k6 (fun j h1 h2 => k7 j h1 (by
              rw [look_upd (hH _ _ hb), if_neg (by intro e; subst e; have := hM.dom h1; rw [hH _ _ hb] at this; simp at this)]
              exact hM.dom h1))
            rcases k2 with rfl | ⟨rfl, rfl⟩ <;> exact fin
          · simp at h
        · rename_i t ho
          simp only [evm, Option.bind_eq_some_iff, Option.map_eq_some_iff] at h
          obtain ⟨q, ⟨z, hz, s, hs, hq⟩, e, he, hr⟩ := h
          simp only [Option.some.injEq] at hq
          subst hq
          simp at he hr
          subst he
          obtain ⟨rfl, rfl⟩ := hr
          exact alloc _ _ rfl rfl (evm_alloc (P := P) hM hk hkn (Nat.le_refl _) hz ho)
        · rename_i t x ho
          simp only [evm, Option.bind_eq_some_iff, Option.map_eq_some_iff] at h
          obtain ⟨q, ⟨z, hz, s, hs, hq⟩, e, he, hr⟩ := h
          simp only [Option.some.injEq] at hq
          subst hq
          simp at he hr
          subst he
          obtain ⟨rfl, rfl⟩ := hr
          exact alloc _ _ rfl rfl (evm_box (P := P) hM hk hkn (Nat.le_refl _) hF hz ho)
        · rename_i t n ps ho
          simp only [evm, Option.bind_eq_some_iff, Option.map_eq_some_iff] at h
          obtain ⟨q, h2, e, he, hr⟩ := h
          split at h2
          · rename_i el hu
            simp only [Option.bind_eq_some_iff] at h2
            obtain ⟨s, hs, pv, hps, h2⟩ := h2
            split at h2
            · simp at h2
            rename_i hle
            simp only [Option.bind_eq_some_iff] at h2
            obtain ⟨z, hz, h2⟩ := h2
            split at h2
            · rename_i hzl
              simp only [Option.bind_eq_some_iff, Option.some.injEq] at h2
              obtain ⟨l, hl, rfl⟩ := h2
              simp at he hr
              subst he
              obtain ⟨rfl, rfl⟩ := hr
              exact alloc _ _ rfl rfl (evm_buildSlice (P := P) hM hk hkn (Nat.le_refl _) hF hu hs hps hle hz hzl hl ho)
            · simp at h2
          · simp at h2
        · simp at h
  split at h
  · rename_i hg
    rw [if_pos (by simp [Region.wanted, hg])]
    exact go h
  · rename_i j want hg
    split at h
    · rename_i t ht
      have hw := wanted_boolO hF hg ht
      split at h
      · rename_i b hb
        have hbb := decG_b hpc hb
        split at h
        · rename_i hbw
          rw [if_pos (by rw [hw, hbb, hbw]; simp)]
          exact go h
        · rename_i hbw
          rw [if_neg (by rw [hw, hbb]; simpa using hbw)]
          simp at h
          exact ⟨by rw [← h.1], by rw [← h.1]⟩
      · simp at h
    · rename_i ht
      rw [if_neg (by rw [wanted_undefO hF hg ht]; simp)]
      simp at h
      exact ⟨by rw [← h.1], by rw [← h.1]⟩
    · simp at h
end
end Go.Proofs.Ytfjlhplaifkenaa.Vx
