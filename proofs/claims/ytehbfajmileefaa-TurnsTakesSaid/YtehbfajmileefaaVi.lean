import Derived.Test.YtehbfajmileefaaVs
namespace Go.Proofs.Ytehbfajmileefaa.Vx
open Go.RowKit
set_option linter.unusedVariables false
set_option linter.unusedSimpArgs false
section
variable {P : Program} {σ : Env} {ρ : Rho} {w : World} {base : Nat → Prop} {nx : Nat} {H : Hp} {F : Fr} {a : Act}
structure Src (P : Program) (u : TypeId) (z : Nat) (x : Value) (m : Nat) (news : List Value) (w : World) : Prop where
  und : (∃ e, P.underlying u = some (.slice e)) ∨ P.underlying u = some .string
  len : Builtin.lenOf x = pure m
  first : (Builtin.firstCells z m x).run P w = .ok news.toArray w
  drew : (Builtin.firstCells z m x).run P w.drew = .ok news.toArray w.drew
  count : news.length = m * z
set_option maxHeartbeats 1000000 in
theorem run_append_zero (t u ty e : TypeId) (i : TypeInfo) (ht : P.underlying t = some (.slice e)) (hi : P.info? e = some i) (b : Option Addr) (n c : Nat) (h : n ≤ c) {x : Value} (hs : Src P u i.size x 0 [] w) :
    (Builtin.append_ #[t, u] ty #[.slice b n c, x]).run P w = .ok (.slice b n c) w := by
  obtain ⟨hu, h1, h2, h3, h4⟩ := hs
  rcases hu with ⟨d, hu⟩ | hu <;> cases b <;> simp [Builtin.append_, run_underlying ht, run_underlying hu, sizeOf, typeInfo, hi, h1, h2, h, storeCells]
set_option maxHeartbeats 1000000 in
theorem run_appG_nil (t u ty e : TypeId) (i : TypeInfo) (z : Value) (ht : P.underlying t = some (.slice e)) (hi : P.info? e = some i) (hz : i.zero = some z)
    {x : Value} {n : Nat} {news : List Value} (hs : Src P u i.size x n news w)
    (h0 : 0 < n) (h63 : (n : Int) ≤ 9223372036854775807) (h48 : n * i.bytes ≤ 281474976710656) :
    (Builtin.append_ #[t, u] ty #[.slice none 0 0, x]).run P w =
      .ok (.slice (some ⟨w.heap.size, 0, none⟩) n (grownCap w n 0 e)) (w.drew.alloc (.cells (news.toArray ++ Builtin.zeroCells z.cells (grownCap w n 0 e - n)) e)) := by
  obtain ⟨hu, h1, h2, h3, h4⟩ := hs
  have hn : n ≠ 0 := by omega
  have h63' : ¬ (9223372036854775807 < (n : Int)) := by omega
  have h48' : ¬ (281474976710656 < Builtin.nextslicecap n 0 * i.bytes) := by rw [nextslicecap_zero h0]; omega
  rcases hu with ⟨d, hu⟩ | hu <;> simp [Builtin.append_, run_underlying ht, run_underlying hu, sizeOf, typeInfo, zeroValue, hi, hz, h1, hn, h63', h48', Question.forced, run_firstCells_none, h3, newRow, grownCap]
set_option maxHeartbeats 1000000 in
theorem run_appG_grow (t u ty e : TypeId) (i : TypeInfo) (z : Value) (ht : P.underlying t = some (.slice e)) (hi : P.info? e = some i) (hz : i.zero = some z)
    (b : Addr) (sLen sCap : Nat) (olds : List Value) (hlo : olds.length = sLen * i.size) (holds : ∀ j v, olds[j]? = some v → w.cell? (b.add j) = some v)
    {x : Value} {n : Nat} {news : List Value} (hs : Src P u i.size x n news w)
    (hg : sCap < sLen + n) (h63 : ((sLen + n : Nat) : Int) ≤ 9223372036854775807) (hfit : Builtin.nextslicecap (sLen + n) sCap * i.bytes ≤ 281474976710656) :
    (Builtin.append_ #[t, u] ty #[.slice (some b) sLen sCap, x]).run P w =
      .ok (.slice (some ⟨w.heap.size, 0, none⟩) (sLen + n) (grownCap w (sLen + n) sCap e))
        (w.drew.alloc (.cells (olds.toArray ++ news.toArray ++ Builtin.zeroCells z.cells (grownCap w (sLen + n) sCap e - (sLen + n))) e)) := by
  obtain ⟨hu, h1, h2, h3, h4⟩ := hs
  have hn : ¬ (sLen + n ≤ sCap) := by omega
  have h63' : ¬ (9223372036854775807 < ((sLen : Int) + (n : Int))) := by omega
  have h48' : ¬ (281474976710656 < Builtin.nextslicecap (sLen + n) sCap * i.bytes) := by omega
  have hfo := run_firstCells_some (P := P) w.drew i.size sLen b sLen sCap olds hlo (by simpa using holds)
  have e1 : ∀ r : Array Value, olds.toArray ++ news.toArray ++ r = (olds ++ (news ++ r.toList)).toArray := fun r => by apply Array.ext'; simp [List.append_assoc]
  rcases hu with ⟨d, hu⟩ | hu
  all_goals
    simp [Builtin.append_, run_underlying ht, run_underlying hu, sizeOf, typeInfo, zeroValue, hi, hz, h1, hn, h63', h48', Question.forced, h3, hfo, newRow, grownCap]
    try (congr 2; apply Array.ext'; simp [List.append_assoc])
set_option maxHeartbeats 1000000 in
theorem run_appG_room (t u ty e : TypeId) (i : TypeInfo) (ht : P.underlying t = some (.slice e)) (hi : P.info? e = some i)
    (g sLen sCap : Nat) (cur : Array Value) (hg : w.heap[g]? = some (.cells cur e (0, 0)))
    {x : Value} {m : Nat} {news : List Value} (hs : Src P u i.size x m news w) (h1 : ∀ u ∈ news, u.oneCell' = true)
    (hroom : sLen + m ≤ sCap) (hfit : sLen * i.size + news.length ≤ cur.size) :
    (Builtin.append_ #[t, u] ty #[.slice (some ⟨g, 0, none⟩) sLen sCap, x]).run P w =
      .ok (.slice (some ⟨g, 0, none⟩) (sLen + m) sCap) (w.setRow g (cur.toList.take (sLen * i.size) ++ news ++ cur.toList.drop (sLen * i.size + news.length)).toArray) := by
  obtain ⟨hu, h5, h2, h3, h4⟩ := hs
  have hst := run_storeCells_at P g (sLen * i.size) e news 0 cur w hg (by simpa using hfit) h1
  simp only [Nat.add_zero] at hst
  rcases hu with ⟨d, hu⟩ | hu <;> simp [Builtin.append_, run_underlying ht, run_underlying hu, sizeOf, typeInfo, hi, h5, hroom, h2, Addr.add_lit, hst]
theorem src_ok (hM : M σ ρ base H nx w) {t u e : TypeId} {z m : Nat} {x : V} {v : Value} {news : List V} (ht : P.underlying t = some (.slice e)) (h : srcV P t u z H x = some (news, m)) (hx : den σ ρ x = some v) :
    ∃ xs, Src P u z v m xs w ∧ denL σ ρ news = some xs := by
  cases x <;> simp only [srcV] at h <;> try (simp at h; done)
  case nils =>
    split at h <;> simp at h
    rename_i htu
    subst htu
    obtain ⟨rfl, rfl⟩ := h
    simp [den] at hx
    subst hx
    exact ⟨[], ⟨.inl ⟨_, ht⟩, rfl, by simp [Builtin.firstCells], by simp [Builtin.firstCells], by simp⟩, by simp [denL]⟩
  case sl xid xoff m' xc =>
    by_cases htu : t = u
    rotate_left
    · rw [if_neg htu] at h; simp at h
    rw [if_pos htu] at h
    subst htu
    by_cases hm0 : m' = 0
    · subst hm0
      simp at h
      obtain ⟨rfl, rfl⟩ := h
      simp only [den, Option.map_eq_some_iff] at hx
      obtain ⟨q, hq, rfl⟩ := hx
      exact ⟨[], ⟨.inl ⟨_, ht⟩, rfl, run_firstCells_some (P := P) w z 0 ⟨q.1, xoff, none⟩ 0 _ [] (by simp) (by simp), run_firstCells_some (P := P) w.drew z 0 ⟨q.1, xoff, none⟩ 0 _ [] (by simp) (by simp), by simp⟩, by simp [denL]⟩
    rw [if_neg hm0] at h
    simp at h
    obtain ⟨l, hnews, rfl, rfl⟩ := h
    obtain ⟨xr, xcap, xs, hxr, hdn, hxl, hnl, hread⟩ := read_den hM hnews
    simp [den, hxr] at hx
    subst hx
    exact ⟨xs, ⟨.inl ⟨_, ht⟩, rfl, run_firstCells_some (P := P) w z m' ⟨xr, xoff, none⟩ m' _ xs hxl hread, run_firstCells_some (P := P) w.drew z m' ⟨xr, xoff, none⟩ m' _ xs hxl (by simpa using hread), hxl⟩, hdn⟩
  case str s =>
    cases s <;> simp only at h <;> try (simp at h; done)
    rename_i s
    split at h <;> try (simp at h; done)
    rename_i hu
    split at h <;> simp at h
    rename_i hz
    subst hz
    obtain ⟨rfl, rfl⟩ := h
    simp [den, T.s] at hx
    subst hx
    have hx : (Array.map (fun b : UInt8 => Value.int IntKind.u8 (b.toNat : Int)) s.data).extract 0 s.size = Array.map (fun b : UInt8 => Value.int IntKind.u8 (b.toNat : Int)) s.data := by
      have hs : s.size = (Array.map (fun b : UInt8 => Value.int IntKind.u8 (b.toNat : Int)) s.data).size := by rw [Array.size_map]; rfl
      rw [hs, Array.extract_size]
    have hf : ∀ w, (Builtin.firstCells 1 s.size (.string s)).run P w = .ok (s.data.toList.map (fun b : UInt8 => Value.int .u8 (b.toNat : Int))).toArray w := fun w => by
      simp only [Builtin.firstCells, Sem.run_pure]
      congr 1
      show ((s.extract 0 s.size).data.map _) = _
      apply Array.ext'
      simp [ByteArray.data_extract]
    refine ⟨s.data.toList.map (fun b : UInt8 => Value.int .u8 (b.toNat : Int)), ⟨.inr hu, rfl, hf w, hf w.drew, by simp⟩, ?_⟩
    generalize s.data.toList = l
    induction l with
    | nil => simp [denL]
    | cons c l ih => simp [denL, den, T.i, ih]
theorem exec_append {o : Oper} {s x : Operand} {t u : TypeId} (ho : o.op = .call { callee := .builtin .append, args := #[s, x], argTypes := #[t, u] }) {v : Value} {w' : World}
    (h : (Builtin.append_ #[t, u] o.type #[a.eval s, a.eval x]).run P w = .ok v w') : (execOp a.eval o).run P w = .ok (.value v) w' := by
  unfold execOp
  simp [ho, resolve, invoke, builtin, h]
set_option maxHeartbeats 1000000 in
theorem appendV_nx {t u : TypeId} {vs vx : V} {r : MR} (h : appendV P t u vs vx H nx = some r) : r.2.2 = nx + 1 := by
  unfold appendV at h
  split at h
  rotate_left
  · simp at h
  simp only [Option.bind_eq_some_iff] at h
  obtain ⟨i, hi, zr, hzr, ⟨news, m⟩, hnews, h⟩ := h
  simp only at h
  repeat' split at h
  all_goals first
    | (simp at h; done)
    | (simp at h; rw [← h])
    | (simp only [Option.bind_eq_some_iff] at h
       obtain ⟨b, hb, h⟩ := h
       repeat' split at h
       all_goals first
         | (simp at h; done)
         | (simp at h; rw [← h]))
theorem evm_append {nx0 : Nat} (hM : M σ ρ base H nx0 w) {nx' : Nat} (hk : ρ nx = none) (hkn : nx < nx') (hnn : nx0 ≤ nx') (hF : OpOk σ ρ F a) {t u : TypeId} {s x : Operand} {vs vx : V} {r : MR} (hs : opv F s = some vs) (hx : opv F x = some vx) (h : appendV P t u vs vx H nx = some r)
    {o : Oper} (ho : o.op = .call { callee := .builtin .append, args := #[s, x], argTypes := #[t, u] }) : Res P σ ρ base a o w (r.1, r.2.1, nx') := by
  have hM' : M σ ρ base H nx' w := ⟨hM.size, fun i hi => hM.fresh i (by omega), hM.blk, hM.inj⟩
  have hds := opv_den hF hs
  have hdx := opv_den hF hx
  unfold appendV at h
  split at h
  rotate_left
  · simp at h
  rename_i e hu
  simp only [Option.bind_eq_some_iff] at h
  obtain ⟨i, hi, zr, hzr, ⟨news, m⟩, hnews, h⟩ := h
  obtain ⟨xs, hsrc, hdn⟩ := src_ok hM hu hnews hdx
  have hxl := hsrc.count
  have hnl := denL_len hdn
  simp only at h
  split at h
  · rename_i hm0
    subst hm0
    have hx0 : xs = [] := List.eq_nil_of_length_eq_zero (by simpa using hxl)
    subst hx0
    split at h
    · simp at h; subst h
      simp [den] at hds
      refine ⟨_, .slice none 0 0, ρ, w, exec_append ho ?_, .inl rfl, Ext.refl _, by simp [den], hM', Kp.refl _ _, fun j h1 _ => h1⟩
      rw [← hds]
      exact run_append_zero t u o.type e i hu hi none 0 0 (Nat.le_refl _) hsrc
    · rename_i id off n c
      split at h <;> simp at h
      rename_i hnc
      subst h
      refine ⟨_, a.eval s, ρ, w, exec_append ho ?_, .inl rfl, Ext.refl _, hds, hM', Kp.refl _ _, fun j h1 _ => h1⟩
      simp only [den, Option.map_eq_some_iff, Cap.cap] at hds
      obtain ⟨q, -, hds⟩ := hds
      rw [← hds]
      exact run_append_zero t u o.type e i hu hi _ n c hnc hsrc
    · rename_i id off n
      simp only [Option.bind_eq_some_iff] at h
      obtain ⟨b, hb, h⟩ := h
      split at h <;> simp at h
      rename_i hc
      subst h
      refine ⟨_, a.eval s, ρ, w, exec_append ho ?_, .inl rfl, Ext.refl _, hds, hM', Kp.refl _ _, fun j h1 _ => h1⟩
      obtain ⟨r0, c, cs, sp, hr0, -, hdc, ⟨fz, hfz, hw⟩, -, hcap⟩ := hM.blkC id b hb
      simp only [den, Option.map_eq_some_iff, Cap.cap] at hds
      obtain ⟨q, hq, hds⟩ := hds
      rw [hr0] at hq
      simp at hq
      subst hq
      obtain ⟨hc1, hc2, hc3⟩ := hcap hc.1
      rw [← hds]
      refine run_append_zero t u o.type e i hu hi _ n _ ?_ hsrc
      have h1 := denL_len hdc
      have h2 : n * b.sz ≤ c * b.sz := by rw [← hc1]; simp; omega
      have := Nat.le_of_mul_le_mul_right h2 hc3
      simpa using this
    · simp at h
  · rename_i hm0
    split at h
    · simp at h
    rename_i hcond
    simp only [Bool.or_eq_true, Bool.not_eq_true', not_or, Bool.not_eq_false] at hcond
    obtain ⟨⟨hone, hz0⟩, hzz⟩ := hcond
    have hz0 : 0 < i.size := by simp at hz0; omega
    have hm0 : 0 < m := by omega
    have hzz : zr.cells.size = i.size := by simpa using hzz
    have h1 := allOne_den hdn hone
    split at h
    · split at h <;> simp at h
      rename_i hb
      subst h
      simp [den] at hds
      have hr := run_appG_nil (P := P) (w := w) t u o.type e i zr hu hi hzr hsrc hm0 (by have := hb.2; unfold maxBytes at this; omega) (by have := hb.1; unfold maxBytes at this; omega)
      have hge := grownCap_ge w m 0 e
      have hcm : grownCap w m 0 e ≤ maxLen := grownCap_le_maxLen w m 0 e (by have := hb.2; unfold maxBytes at this; unfold maxLen; omega)
      refine evm_grown hM hk hkn hnn (fun i b h => h) (zc := zr.cells) hdn hxl hge hcm hz0 hzz (exec_append ho ?_)
      rw [← hds]
      exact hr
    · rename_i id n
      simp only [Option.bind_eq_some_iff] at h
      obtain ⟨b, hb, h⟩ := h
      split at h <;> simp at h
      rename_i hc
      obtain ⟨hsp, hty, hsz, hle, hby, hml, hro⟩ := hc
      subst h
      obtain ⟨r0, c, cs, sp, hr0, hbase, hdc, ⟨fz, hfz, hw⟩, -, hcap⟩ := hM.blkC id b hb
      have hbase := hbase hro
      cases hfz hro
      obtain ⟨hc1, hc2, hc3⟩ := hcap hsp
      have hlc := denL_len hdc
      simp [den, hr0, Cap.cap] at hds
      have hdt := denL_append.2 ⟨_, _, denL_take hdc (n * i.size), hdn, rfl⟩
      have hlt : (cs.take (n * i.size) ++ xs).length = (n + m) * i.size := by simp [hxl, Nat.add_mul]; omega
      by_cases hroom : n + m ≤ c
      · have hfit : n * i.size + xs.length ≤ (cs ++ sp).toArray.size := by
          have h2 : (n + m) * i.size ≤ c * i.size := Nat.mul_le_mul_right _ hroom
          rw [Nat.add_mul] at h2
          rw [← hsz] at h2 hxl ⊢
          simp only [List.size_toArray, hxl]
          omega
        have hr := run_appG_room (P := P) (w := w) t u o.type e i hu hi r0 n c (cs ++ sp).toArray (hty ▸ hw) hsrc h1 hroom hfit
        have hall : (cs ++ sp).toArray.toList.take (n * i.size) ++ xs ++ (cs ++ sp).toArray.toList.drop (n * i.size + xs.length) = (cs.take (n * i.size) ++ xs) ++ (cs ++ sp).drop (n * i.size + xs.length) := by
          simp only [List.append_assoc]
          rw [List.take_append_of_le_length (by omega)]
        rw [hall] at hr
        have hMs : M σ (rhoPut ρ nx (r0, c)) base ((nx, ⟨e, i.size, b.cells.take (n * i.size) ++ news, true, false⟩) :: del H id) nx' (w.setRow r0 (cs.take (n * i.size) ++ xs ++ (cs ++ sp).drop (n * i.size + xs.length)).toArray) := by
          have he := ext_put hk (r0, c)
          have other : ∀ j b', look (del H id) j = some b' → look H j = some b' ∧ j ≠ id := fun j b' hj => by
            rw [look_del] at hj
            split at hj
            · simp at hj
            · rename_i hne; exact ⟨hj, fun e => hne e.symm⟩
          have hnx : look H nx = none := by
            cases e1 : look H nx with
            | none => rfl
            | some b' =>
              obtain ⟨r', c', cs, sp, h1, -⟩ := hM.blk nx b' e1
              rw [hk] at h1
              simp at h1
          refine ⟨by simp; exact hM.size, fun j hj => ?_, fun j b' hj => ?_, fun j l q c1 d hj hl hrj hrl => ?_⟩
          · unfold rhoPut; rw [if_neg (by omega)]; exact hM.fresh j (by omega)
          · rw [look_cons] at hj
            split at hj
            · rename_i e1
              subst e1
              simp at hj
              subst hj
              have hmp : (⟨e, i.size, b.cells.take (n * i.size) ++ news, true, false⟩ : Blk).mp = false := Blk.mp_false fun _ => hz0
              refine ⟨r0, c, cs.take (n * i.size) ++ xs, (cs ++ sp).drop (n * i.size + xs.length), by simp [rhoPut], fun _ => hbase, denL_mono he hdt, ⟨(0, 0), fun _ => rfl, by rw [Blk.obj_cells hmp]; exact setRow_heap w r0 _ _ _ _ (hty ▸ hw)⟩, by simp, fun _ _ => ⟨?_, hc2, hz0⟩, fun h9 => by rw [hmp] at h9; cases h9⟩
              have hk : n * i.size ≤ cs.length := by omega
              have hf2 : n * i.size + xs.length ≤ cs.length + sp.length := by simpa using hfit
              show _ = c * i.size
              rw [← hsz, ← hc1]
              rw [hsz]
              simp only [List.length_append, List.length_drop, List.length_take, Nat.min_eq_left hk]
              omega
            · obtain ⟨hj1, hj2⟩ := other j b' hj
              obtain ⟨r', c', cs1, sp1, g1, g2, g3, g4, g5, g6⟩ := hM.blk j b' hj1
              refine ⟨r', c', cs1, sp1, he _ _ g1, g2, denL_mono he g3, ?_, g5, g6⟩
              rw [setRow_other w r0 r' _ (fun e => hj2 (hM.inj j id r' c' c (by simp [hj1]) (by simp [(lookC_look hb).1]) g1 (e ▸ hr0)))]
              exact g4
          · rw [look_cons] at hj hl
            unfold rhoPut at hrj hrl
            have key : ∀ j' q' d', (look (del H id) j').isSome = true → ρ j' = some (q', d') → q' ≠ r0 := fun j' q' d' hj' hr' e1 => by
              simp only [Option.isSome_iff_exists] at hj'
              obtain ⟨b', hb'⟩ := hj'
              obtain ⟨h5, h6⟩ := other _ _ hb'
              subst e1
              exact h6 (hM.inj j' id q' d' c (by simp [h5]) (by simp [(lookC_look hb).1]) hr' hr0)
            by_cases h3 : j = nx
            · by_cases h4 : l = nx
              · omega
              · rw [if_neg (Ne.symm h4)] at hl
                rw [if_neg h4] at hrl
                rw [if_pos h3] at hrj
                simp at hrj
                exact absurd hrj.1.symm (key _ _ _ hl hrl)
            · rw [if_neg (Ne.symm h3)] at hj
              rw [if_neg h3] at hrj
              by_cases h4 : l = nx
              · rw [if_pos h4] at hrl
                simp at hrl
                exact absurd hrl.1.symm (key _ _ _ hj hrj)
              · rw [if_neg (Ne.symm h4)] at hl
                rw [if_neg h4] at hrl
                simp only [Option.isSome_iff_exists] at hj hl
                obtain ⟨b1, hb1⟩ := hj
                obtain ⟨b2, hb2⟩ := hl
                exact hM.inj j l q c1 d (by simp [(other _ _ hb1).1]) (by simp [(other _ _ hb2).1]) hrj hrl
        refine ⟨_, _, _, _, exec_append ho (by rw [← hds]; exact hr), .inl rfl, ext_put hk (r0, c), by simp [den, rhoPut, Cap.cap], hMs, below_setRow w hbase _, fun j h1 h2 => put_none h1 h2⟩
      · have hro := cells_read hM hb 0 (n * i.size) (by omega)
        obtain ⟨r1, c1, ys, hr1, hdy, hyl, -, hready⟩ := read_den hM hro
        rw [hr0] at hr1
        simp only [Option.some.injEq, Prod.mk.injEq] at hr1
        obtain ⟨rfl, rfl⟩ := hr1
        have hr := run_appG_grow (P := P) (w := w) t u o.type e i zr hu hi hzr ⟨r0, 0, none⟩ n c ys hyl hready hsrc (by omega) (by unfold maxBytes at hml; omega) (growslice_fits (by omega) (by unfold maxBytes at hby; omega))
        have hge := grownCap_ge w (n + m) c e
        have hcm : grownCap w (n + m) c e ≤ maxLen := grownCap_le_maxLen w (n + m) c e (by unfold maxBytes at hml; unfold maxLen; omega)
        refine evm_grown hM hk hkn hnn (fun j b' hj => ?_) (zc := zr.cells) (cs := ys ++ xs) (denL_append.2 ⟨_, _, by simpa using hdy, hdn, rfl⟩) (by simp [hyl, hxl, Nat.add_mul]) hge hcm hz0 hzz (exec_append ho ?_)
        · rw [look_del] at hj; split at hj
          · simp at hj
          · exact hj
        · rw [← hds]
          have e1 : (ys ++ xs).toArray = ys.toArray ++ xs.toArray := by simp
          rw [e1]
          exact hr
    · rename_i id off n c
      simp only [Option.bind_eq_some_iff] at h
      obtain ⟨b, hb, h⟩ := h
      obtain ⟨r0, cc, cs, sp, hr0, hbase, hdc, ⟨fz, hfz, hw⟩, hsp, hcap⟩ := hM.blkC id b hb
      have hlc := denL_len hdc
      simp [den, hr0, Cap.cap] at hds
      split at h
      · rename_i hroom
        split at h <;> simp at h
        rename_i hc
        obtain ⟨hty, hoff, hfit, hro⟩ := hc
        have hbase := hbase hro
        cases hfz hro
        subst h
        subst hoff
        have hr := run_appG_room (P := P) (w := w) t u o.type e i hu hi r0 n c (cs ++ sp).toArray (hty ▸ hw) hsrc h1 hroom (by simp; omega)
        have hall : (cs ++ sp).toArray.toList.take (n * i.size) ++ xs ++ (cs ++ sp).toArray.toList.drop (n * i.size + xs.length) = (cs.take (n * i.size) ++ xs ++ cs.drop (n * i.size + xs.length)) ++ sp := by
          simp only [List.append_assoc]
          rw [List.take_append_of_le_length (by omega), List.drop_append_of_le_length (by omega)]
        rw [hall] at hr
        refine ⟨_, _, ρ, _, exec_append ho (by rw [← hds]; exact hr), .inl rfl, Ext.refl _, by simp [den, hr0, Cap.cap], M.put hM' hb hr0 hw (by simp; omega) hcap hsp hbase (denL_put1 hdc hdn _), below_setRow w hbase _, fun j h1 _ => h1⟩
      · rename_i hroom
        split at h <;> simp at h
        rename_i hc
        obtain ⟨hby, hml, hle⟩ := hc
        subst h
        have hro := cells_read hM hb off (n * i.size) hle
        obtain ⟨r1, c1, ys, hr1, hdy, hyl, -, hready⟩ := read_den hM hro
        rw [hr0] at hr1
        simp only [Option.some.injEq, Prod.mk.injEq] at hr1
        obtain ⟨rfl, rfl⟩ := hr1
        have hr := run_appG_grow (P := P) (w := w) t u o.type e i zr hu hi hzr ⟨r0, off, none⟩ n c ys hyl hready hsrc (by omega) (by unfold maxBytes at hml; omega) (growslice_fits (by omega) (by unfold maxBytes at hby; omega))
        have hge := grownCap_ge w (n + m) c e
        have hcm : grownCap w (n + m) c e ≤ maxLen := grownCap_le_maxLen w (n + m) c e (by unfold maxBytes at hml; unfold maxLen; omega)
        refine evm_grown hM hk hkn hnn (fun j b' hj => hj) (zc := zr.cells) (cs := ys ++ xs) (denL_append.2 ⟨_, _, hdy, hdn, rfl⟩) (by simp [hyl, hxl, Nat.add_mul]) hge hcm hz0 hzz (exec_append ho ?_)
        rw [← hds]
        have e1 : (ys ++ xs).toArray = ys.toArray ++ xs.toArray := by simp
        rw [e1]
        exact hr
    · simp at h
theorem exec_copy {o : Oper} {s x : Operand} {t u : TypeId} (ho : o.op = .call { callee := .builtin .copy, args := #[s, x], argTypes := #[t, u] }) {v : Value} {w' : World}
    (h : (Builtin.copy_ #[t, u] o.type #[a.eval s, a.eval x]).run P w = .ok v w') : (execOp a.eval o).run P w = .ok (.value v) w' := by
  unfold execOp
  simp [ho, resolve, invoke, builtin, h]
theorem evm_copy (hM : M σ ρ base H nx w) (hF : OpOk σ ρ F a) {t u : TypeId} {s x : Operand} {vs vx : V} {r : MR} (hs : opv F s = some vs) (hx : opv F x = some vx) (h : copyV P t vs vx H nx = some r)
    {o : Oper} (ho : o.op = .call { callee := .builtin .copy, args := #[s, x], argTypes := #[t, u] }) : Res P σ ρ base a o w r := by
  have hds := opv_den hF hs
  have hdx := opv_den hF hx
  unfold copyV at h
  split at h
  rotate_left
  · simp at h
  rename_i e hu
  simp only [Option.bind_eq_some_iff] at h
  obtain ⟨i, hi, h⟩ := h
  split at h
  · rename_i id off n c xid xoff m xc
    split at h
    rotate_left
    · simp at h
    rename_i hz
    simp only [Option.bind_eq_some_iff] at h
    obtain ⟨news, hnews, b, hb, h⟩ := h
    split at h
    rotate_left
    · simp at h
    rename_i hc
    simp only [Option.some.injEq] at h
    obtain ⟨hfit, hone, hro⟩ := hc
    subst h
    obtain ⟨xr, xcap, xs, hxr, hdn, hxl, hnl, hread⟩ := read_den hM hnews
    obtain ⟨r0, cc, cs, sp, hr0, hbase, hdc, ⟨fz, hfz, hw⟩, hsp, hcap⟩ := hM.blkC id b hb
    have hbase := hbase hro
    cases hfz hro
    have hlc := denL_len hdc
    have h1 := allOne_den hdn hone
    simp [den, hr0] at hds
    simp [den, hxr] at hdx
    have hr := run_copy_row (P := P) w t u o.type e r0 off n (c.cap cc) ⟨xr, xoff, none⟩ m (xc.cap xcap) (cs ++ sp).toArray b.ty xs hu (by simp [hi, hz]) hw hxl hread (by simp; omega) h1
    have hall : (cs ++ sp).toArray.toList.take off ++ xs ++ (cs ++ sp).toArray.toList.drop (off + xs.length) = (cs.take off ++ xs ++ cs.drop (off + xs.length)) ++ sp := by
      simp only [List.append_assoc]
      rw [List.take_append_of_le_length (by omega), List.drop_append_of_le_length (by omega)]
    rw [hall] at hr
    refine ⟨_, _, ρ, _, exec_copy ho (by rw [← hds, ← hdx]; exact hr), .inl rfl, Ext.refl _, by simp [den, T.i, goInt, hxl], M.put hM hb hr0 hw (by simp; omega) hcap hsp hbase (denL_put1 hdc hdn _), below_setRow w hbase _, fun j h1 _ => h1⟩
  · rename_i id off n c
    simp only [Option.some.injEq] at h
    subst h
    simp only [den, Option.map_eq_some_iff] at hds
    obtain ⟨q, -, hds⟩ := hds
    simp [den] at hdx
    refine ⟨_, _, ρ, w, exec_copy ho (by rw [← hds, ← hdx]; exact run_copy_nil (P := P) w t u o.type e _ _ _ hu (by simp [hi])), .inl rfl, Ext.refl _, by simp [den, T.i, goInt], hM, Kp.refl _ _, fun j h1 _ => h1⟩
  · simp only [Option.some.injEq] at h
    subst h
    simp [den] at hds hdx
    refine ⟨_, .int .i64 0, ρ, w, exec_copy ho ?_, .inl rfl, Ext.refl _, by simp [den, T.i], hM, Kp.refl _ _, fun j h1 _ => h1⟩
    rw [← hds, ← hdx]
    simp [Builtin.copy_, run_underlying hu, Builtin.lenOf, Builtin.firstCells, sizeOf, typeInfo, hi, goInt]
  · rename_i id off n c
    simp only [Option.some.injEq] at h
    subst h
    simp only [den, Option.map_eq_some_iff] at hdx
    obtain ⟨q, -, hdx⟩ := hdx
    simp [den] at hds
    refine ⟨_, .int .i64 0, ρ, w, exec_copy ho ?_, .inl rfl, Ext.refl _, by simp [den, T.i], hM, Kp.refl _ _, fun j h1 _ => h1⟩
    rw [← hds, ← hdx]
    simp [Builtin.copy_, run_underlying hu, Builtin.lenOf, Builtin.firstCells, sizeOf, typeInfo, hi, goInt, loadCells, loadCellsFrom]
  · simp at h
theorem exec_ustr {o : Oper} {s x : Operand} {t u : TypeId} (ho : o.op = .call { callee := .builtin .unsafeString, args := #[s, x], argTypes := #[t, u] }) {v : Value} {w' : World}
    (h : (Builtin.unsafeString_ #[t, u] o.type #[a.eval s, a.eval x]).run P w = .ok v w') : (execOp a.eval o).run P w = .ok (.value v) w' := by
  unfold execOp
  simp [ho, resolve, invoke, builtin, h]
theorem kp_freeze {p : Addr} (h : ¬ base p.block) (n : Nat) : Kp base w (w.freeze p n) := by
  unfold World.freeze
  split
  · exact Kp.refl _ _
  · refine ⟨rfl, rfl, rfl, by simp, fun k hk => ?_⟩
    simp only [Array.getElem?_modify]
    rw [if_neg (by intro e; apply h; first | rw [e]; exact hk | rw [← e]; exact hk)]
theorem evm_ustr (hM : M σ ρ base H nx w) (hF : OpOk σ ρ F a) {t u : TypeId} {s x : Operand} {vs vx : V} {r : MR} (hs : opv F s = some vs) (hx : opv F x = some vx) (h : ustrV P t vs vx H nx = some r)
    {o : Oper} (ho : o.op = .call { callee := .builtin .unsafeString, args := #[s, x], argTypes := #[t, u] }) : Res P σ ρ base a o w r := by
  have hds := opv_den hF hs
  have hdx := opv_den hF hx
  unfold ustrV at h
  split at h
  · rename_i e id k hu
    simp only [Option.bind_eq_some_iff] at h
    obtain ⟨b, hb, bs, hbs, h⟩ := h
    split at h <;> simp at h
    rename_i hc
    obtain ⟨c1, c2, c3, c4, c5, c6⟩ := hc
    subst h
    obtain ⟨r0, c, cs, sp, hr0, hbase, hdc, ⟨fz, hfz, hw⟩, -, -⟩ := hM.blkC id b hb
    have hbase := hbase c6
    have hl := denL_len hdc
    simp [den, hr0] at hds
    simp [den, T.i] at hdx
    unfold szOf at c2
    simp only [Option.map_eq_some_iff] at c2
    obtain ⟨j, hj, hz⟩ := c2
    have hd2 := denL_take hdc k
    rw [bytes_some hbs] at hd2
    simp only [Option.some.injEq] at hd2
    have hbl : bs.length = k := by
      have := congrArg List.length hd2
      simp at this
      omega
    have hr := Lib.run_unsafeString_row (P := P) w t u o.type e hu (by simp [Program.cellsOf, hj, hz]) r0 (cs ++ sp).length (by rw [← c1]; exact shape_of hw) bs (by intro h0; subst h0; simp at hbl; omega) (by simp; omega) (by unfold maxBytes at c5; omega) (fun i y hy => by
      have hi : i < k := by have := (List.getElem?_eq_some_iff.1 hy).1; omega
      rw [add_at, Nat.zero_add, cell_in hw (by omega)]
      have h1 : (cs.take k)[i]? = some (.int .u8 (y.toNat : Int)) := by rw [← hd2]; simp [hy]
      rw [List.getElem?_take_of_lt hi, List.getElem?_eq_getElem (by omega)] at h1
      exact h1)
    rw [hbl] at hr
    refine ⟨_, _, ρ, _, exec_ustr ho (by rw [← hds, ← hdx]; exact hr), .inl rfl, Ext.refl _, by simp [den, T.s], ?_, kp_freeze (p := ⟨r0, 0, none⟩) hbase k, fun j h1 _ => h1⟩
    have other : ∀ j b', look (del H id) j = some b' → look H j = some b' ∧ j ≠ id := fun j b' hj => by
      rw [look_del] at hj
      split at hj
      · simp at hj
      · rename_i hne; exact ⟨hj, fun e => hne e.symm⟩
    have hsz : (w.freeze ⟨r0, 0, none⟩ k).heap.size = w.heap.size := by unfold World.freeze; split <;> simp
    refine ⟨fun r hr => by rw [hsz]; exact hM.size r hr, hM.fresh, fun j b' hj => ?_, fun j l q c1 d hj hl hrj hrl => ?_⟩
    · obtain ⟨hj1, hj2⟩ := other j b' hj
      obtain ⟨r', c', cs1, sp1, g1, g2, g3, g4, g5, g6⟩ := hM.blk j b' hj1
      refine ⟨r', c', cs1, sp1, g1, g2, g3, ?_, g5, g6⟩
      have hne : r0 ≠ r' := fun e => hj2 (hM.inj j id r' c' c (by simp [hj1]) (by simp [(lookC_look hb).1]) g1 (e ▸ hr0))
      have := (kp_freeze (w := w) (base := fun q => q = r') (p := ⟨r0, 0, none⟩) hne k).block r' rfl
      rw [this]
      exact g4
    · simp only [Option.isSome_iff_exists] at hj hl
      obtain ⟨b1, hb1⟩ := hj
      obtain ⟨b2, hb2⟩ := hl
      exact hM.inj j l q c1 d (by simp [(other _ _ hb1).1]) (by simp [(other _ _ hb2).1]) hrj hrl
  · simp only [Option.some.injEq] at h
    subst h
    simp [den] at hds
    simp [den, T.i] at hdx
    exact ⟨_, _, ρ, w, exec_ustr ho (by rw [← hds, ← hdx]; exact Lib.run_unsafeString_none w t u o.type none), .inl rfl, Ext.refl _, by simp [den, T.s], hM, Kp.refl _ _, fun j h1 _ => h1⟩
  · simp at h
theorem evm_ok (hM : M σ ρ base H nx w) (hF : OpOk σ ρ F a) {o : Oper} {r : MR} (h : evm P F H nx o.op = some r) : Res P σ ρ base a o w r := by
  generalize ho : o.op = op at h
  cases op <;> simp only [evm] at h <;> try (simp at h; done)
  case alloc t =>
    simp only [Option.bind_eq_some_iff, Option.some.injEq] at h
    obtain ⟨z, hz, s, hs, rfl⟩ := h
    exact evm_alloc hM (hM.fresh nx (Nat.le_refl _)) (Nat.lt_succ_self _) (Nat.le_succ _) hz ho
  case box t x =>
    simp only [Option.bind_eq_some_iff, Option.some.injEq] at h
    obtain ⟨z, hz, s, hs, rfl⟩ := h
    exact evm_box hM (hM.fresh nx (Nat.le_refl _)) (Nat.lt_succ_self _) (Nat.le_succ _) hF hz ho
  case buildSlice t len parts =>
    split at h
    · rename_i e hu
      simp only [Option.bind_eq_some_iff] at h
      obtain ⟨s, hs, ps, hps, h⟩ := h
      split at h
      · simp at h
      rename_i hle
      simp only [Option.bind_eq_some_iff] at h
      obtain ⟨z, hz, h⟩ := h
      split at h
      · rename_i hzl
        simp only [Option.bind_eq_some_iff, Option.some.injEq] at h
        obtain ⟨l, hl, rfl⟩ := h
        exact evm_buildSlice hM (hM.fresh nx (Nat.le_refl _)) (Nat.lt_succ_self _) (Nat.le_succ _) hF hu hs hps hle hz hzl hl ho
      · simp at h
    · simp at h
  case store t x y =>
    split at h
    · rename_i id off hx
      simp only [Option.bind_eq_some_iff] at h
      obtain ⟨b, hb, v, hv, s, hs, h⟩ := h
      split at h <;> simp at h
      rename_i hc
      subst h
      exact evm_store hM hF hx hb hv hs hc.1 hc.2.1 hc.2.2.1 hc.2.2.2 ho
    · simp at h
  case makeMap t r =>
    split at h
    · simp only [Option.some.injEq] at h
      subst h
      refine evm_makeMap hM (hM.fresh nx (Nat.le_refl _)) (Nat.lt_succ_self _) (Nat.le_succ _) ?_
      unfold execOp
      simp [ho, Instr.makeMap]
    · rename_i q
      split at h
      · rename_i k e n hu hn
        simp only [Option.some.injEq] at h
        subst h
        simp only [Option.bind_eq_some_iff] at hn
        obtain ⟨v, hv, hn⟩ := hn
        refine evm_makeMap hM (hM.fresh nx (Nat.le_refl _)) (Nat.lt_succ_self _) (Nat.le_succ _) ?_
        obtain ⟨k, ek⟩ : ∃ k, a.eval q = .int k n := by
          unfold intLit at hn
          split at hn <;> simp at hn
          subst hn
          exact ⟨_, by simpa [T.i] using den_int (opv_den hF hv)⟩
        unfold execOp
        simp [ho, Instr.makeMap, ek, run_underlying hu, asInt, asIntOf]
      · simp at h
  case mapUpdate t m k x =>
    simp only [Option.bind_eq_some_iff] at h
    obtain ⟨vm, hm, vk, hk, vx, hx, h⟩ := h
    exact evm_mapUpdate hM hF hm hk hx h ho
  case makeSlice t x y =>
    split at h
    · rename_i e ln cp hu hx hy
      simp only [Option.bind_eq_some_iff] at h hx hy
      obtain ⟨i, hi, z, hz, h⟩ := h
      split at h <;> simp at h
      rename_i hc
      subst h
      obtain ⟨u, hu1, hu2⟩ := hx
      obtain ⟨v, hv1, hv2⟩ := hy
      exact evm_make hM (hM.fresh nx (Nat.le_refl _)) (Nat.lt_succ_self _) (Nat.le_succ _) hF hu hu1 hu2 hv1 hv2 hi hz hc.1 hc.2.1 hc.2.2.1 hc.2.2.2.1 hc.2.2.2.2 ho
    · simp at h
  case call c =>
    obtain ⟨callee, ⟨args⟩, ⟨argTypes⟩⟩ := c
    cases callee <;> try (simp at h; done)
    rename_i b
    cases b <;> try (simp at h; done)
    case append =>
      simp only at h
      split at h
      · rename_i s x t u
        simp only [Option.bind_eq_some_iff] at h
        obtain ⟨va, hva, vb, hvb, h⟩ := h
        have hr : r = (r.1, r.2.1, nx + 1) := by rw [← appendV_nx h]
        rw [hr]
        exact evm_append hM (hM.fresh nx (Nat.le_refl _)) (Nat.lt_succ_self _) (Nat.le_succ _) hF hva hvb h ho
      · simp at h
    case copy =>
      simp only at h
      split at h
      · rename_i s x t u
        simp only [Option.bind_eq_some_iff] at h
        obtain ⟨va, hva, vb, hvb, h⟩ := h
        exact evm_copy hM hF hva hvb h ho
      · simp at h
    case clear =>
      simp only at h
      split at h
      · rename_i s t
        simp only [Option.bind_eq_some_iff] at h
        obtain ⟨va, hva, h⟩ := h
        exact evm_clear hM hF hva h ho
      · simp at h
    case unsafeString =>
      simp only at h
      split at h
      · rename_i s x t u
        simp only [Option.bind_eq_some_iff] at h
        obtain ⟨va, hva, vb, hvb, h⟩ := h
        exact evm_ustr hM hF hva hvb h ho
      · simp at h
end
end Go.Proofs.Ytehbfajmileefaa.Vx
