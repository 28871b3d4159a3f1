import Derived.Test.YtehbfajmileefaaVe
namespace Go.Proofs.Ytehbfajmileefaa.Vx
open Go.RowKit
set_option linter.unusedVariables false
set_option linter.unusedSimpArgs false
section
variable {P : Program} {σ : Env} {ρ : Rho} {w : World} {base : Nat → Prop} {nx : Nat} {H : Hp} {F : Fr} {a : Act}
theorem foldl_put : ∀ (vs : List Value) (off k : Nat) (cs : List Value), off + k + vs.length ≤ cs.length →
    ((vs.zipIdx k).foldl (fun (cs : Array Value) (q : Value × Nat) => cs.setIfInBounds (off + q.2) q.1) cs.toArray) = (cs.take (off + k) ++ vs ++ cs.drop (off + k + vs.length)).toArray
  | [], off, k, cs, _ => by simp
  | v :: vs, off, k, cs, h => by
    simp only [List.zipIdx_cons, List.foldl_cons]
    have e : cs.toArray.setIfInBounds (off + k) v = (cs.set (off + k) v).toArray := by simp
    rw [e, foldl_put vs off (k + 1) (cs.set (off + k) v) (by simp at h ⊢; omega)]
    have := list_seg_step cs (off + k) v vs (by simp at h; omega)
    rw [show off + (k + 1) = off + k + 1 by omega, this]
    simp
theorem fill_den {place : Nat → Option (Nat × Nat)} : ∀ {ps : List (Nat × V)} {qs : List (Nat × Value)} {cells l : List V} {cs : List Value}, fillV place cells ps = some l → denL σ ρ cells = some cs →
    (∀ (i : Nat) (q : Nat × V), ps[i]? = some q → ∃ x, qs[i]? = some (q.1, x) ∧ den σ ρ q.2 = some x) → qs.length = ps.length → ∃ ls, Instr.fill place cs.toArray qs = some ls.toArray ∧ denL σ ρ l = some ls
  | [], qs, cells, l, cs, h, hc, hq, hl => by
    simp [fillV] at h
    subst h
    have : qs = [] := List.length_eq_zero_iff.1 (by simpa using hl)
    subst this
    exact ⟨cs, rfl, hc⟩
  | (i, v) :: ps, qs, cells, l, cs, h, hc, hq, hl => by
    match qs, hl with
    | q :: qs, hl =>
      obtain ⟨x, hx, hdx⟩ := hq 0 (i, v) rfl
      simp at hx
      subst hx
      unfold fillV at h
      split at h
      · simp at h
      · rename_i off size hp
        split at h
        · rename_i hc2
          obtain ⟨h1, h2⟩ := hc2
          have hcd := cells_den hdx
          have hlen := denL_len hcd
          have hlc := denL_len hc
          have hput := denL_put1 hc hcd off
          simp at hlen
          obtain ⟨ls, hls, hdl⟩ := fill_den (qs := qs) h hput (fun j q hj => by simpa using hq (j + 1) q (by simpa using hj)) (by simpa using hl)
          refine ⟨ls, ?_, hdl⟩
          have hcond : (decide (x.cells.size ≠ size) || decide (off + x.cells.size > cs.toArray.size)) = false := by simp; omega
          simp only [Instr.fill, hp, hcond, Bool.false_eq_true, if_false]
          have hf := foldl_put x.cells.toList off 0 cs (by simp; omega)
          simp only [Nat.add_zero] at hf
          rw [← hls, ← hf]
          congr 1
          rw [← Array.foldl_toList]
          congr 1
          simp
        · simp at h
theorem parts_den {parts : Array (Nat × Operand)} {ps : List (Nat × V)} (hF : OpOk σ ρ F a) (h : partsV F parts = some ps) :
    (∀ (i : Nat) (q : Nat × V), ps[i]? = some q → ∃ x, (parts.map fun (q : Nat × Operand) => (q.1, a.eval q.2)).toList[i]? = some (q.1, x) ∧ den σ ρ q.2 = some x) ∧ (parts.map fun (q : Nat × Operand) => (q.1, a.eval q.2)).toList.length = ps.length := by
  have hl := mapO_len h
  refine ⟨fun i q hi => ?_, by simp [hl]⟩
  have hlt : i < parts.toList.length := by
    have := (List.getElem?_eq_some_iff.1 hi).1
    omega
  obtain ⟨y, hy, hf⟩ := mapO_get h (List.getElem?_eq_getElem hlt)
  rw [hi] at hy
  simp only [Option.some.injEq] at hy
  subst hy
  simp only [Option.map_eq_some_iff] at hf
  obtain ⟨v, hv, rfl⟩ := hf
  refine ⟨a.eval parts.toList[i].2, ?_, opv_den hF hv⟩
  simp at hlt
  simp [hlt]
theorem mapM_fields {fs : List Field} {pl : List (Nat × Nat)} (h : mapO (fun (f : Field) => (szOf P f.type).map fun s => (f.offset, s)) fs = some pl) :
    (fs.mapM fun f => (do pure (f.offset, ← sizeOf f.type) : Sem (Nat × Nat))).run P w = .ok pl w := by
  induction fs generalizing pl with
  | nil => simp [mapO] at h; subst h; rfl
  | cons f fs ih =>
    simp only [mapO, Option.bind_eq_some_iff, Option.map_eq_some_iff] at h
    obtain ⟨y, ⟨s, hs, rfl⟩, ys, hys, rfl⟩ := h
    rw [List.mapM_cons]
    simp only [Sem.run_bind, run_szOf hs, Result.andThen_ok, Sem.run_pure, ih hys]
theorem run_buildV {t : TypeId} {parts : Array (Nat × Operand)} {v : V} (h : buildV P F t parts = some v) (hF : OpOk σ ρ F a) :
    ∃ x, (Instr.build t (parts.map fun (q : Nat × Operand) => (q.1, a.eval q.2))).run P w = .ok x w ∧ den σ ρ v = some x := by
  unfold buildV at h
  simp only [Option.bind_eq_some_iff] at h
  obtain ⟨z, hz, ps, hps, h⟩ := h
  obtain ⟨zx, hzr, hzd⟩ := run_zeroV (w := w) (σ := σ) (ρ := ρ) hz
  have hzc := cells_den hzd
  obtain ⟨hp1, hp2⟩ := parts_den (a := a) hF hps
  split at h
  · rename_i fs hu
    simp only [Option.bind_eq_some_iff, Option.map_eq_some_iff] at h
    obtain ⟨pl, hpl, l, hl, rfl⟩ := h
    obtain ⟨ls, hls, hdl⟩ := fill_den hl hzc hp1 hp2
    refine ⟨.agg ls.toArray, ?_, by rw [den, hdl]; rfl⟩
    have hm := mapM_fields (w := w) hpl
    simp only [Instr.build, Sem.run_bind, hzr, Result.andThen_ok, run_underlying hu]
    rw [Array.mapM_eq_mapM_toList]
    simp only [Sem.run_map, hm, Result.andThen_ok]
    have hfun : (fun (i : Nat) => pl.toArray[i]?) = fun i => pl[i]? := by funext i; simp
    rw [Array.toArray_toList] at hls
    simp only [hfun, hls, Sem.run_pure]
  · rename_i n e hu
    simp only [Option.bind_eq_some_iff, Option.map_eq_some_iff] at h
    obtain ⟨s, hs, l, hl, rfl⟩ := h
    obtain ⟨ls, hls, hdl⟩ := fill_den hl hzc hp1 hp2
    refine ⟨.agg ls.toArray, ?_, by rw [den, hdl]; rfl⟩
    rw [Array.toArray_toList] at hls
    simp only [Instr.build, Sem.run_bind, hzr, Result.andThen_ok, run_underlying hu, run_szOf hs, hls, Sem.run_pure]
  · simp at h
theorem add_at (b o j : Nat) : (⟨b, o, none⟩ : Addr).add j = ⟨b, o + j, none⟩ := by unfold Addr.add; split <;> simp_all
theorem cell_in {fz : Nat × Nat} {r o : Nat} {cs sp : List Value} {t : TypeId} (hw : w.heap[r]? = some (.cells (cs ++ sp).toArray t fz)) (h : o < cs.length) : w.cell? ⟨r, o, none⟩ = some cs[o] := by
  simp [World.cell?, hw, List.getElem?_append_left h, h]
theorem run_loadV {fz : Nat × Nat} {t : TypeId} {cells : List V} {cs sp : List Value} {r off : Nat} {ty : TypeId} {v : V} (h : partV P t cells off = some v) (hd : denL σ ρ cells = some cs)
    (hw : w.heap[r]? = some (.cells (cs ++ sp).toArray ty fz)) : ∃ x, (loadVar t ⟨r, off, none⟩).run P w = .ok x w ∧ den σ ρ v = some x := by
  have hlc := denL_len hd
  unfold partV at h
  split at h
  · rename_i ha
    simp only [Option.bind_eq_some_iff] at h
    obtain ⟨n, hn, h⟩ := h
    split at h <;> simp at h
    rename_i hle
    subst h
    refine ⟨.agg ((cs.drop off).take n).toArray, ?_, by rw [den, denL_take (denL_drop hd off) n]; rfl⟩
    have hll : ((cs.drop off).take n).length = n := by simp; omega
    have hl := run_loadCells_list (P := P) w ⟨r, off, none⟩ ((cs.drop off).take n) (fun j u hj => by
      rw [add_at]
      have hjn : j < n := by have := (List.getElem?_eq_some_iff.1 hj).1; omega
      rw [cell_in hw (by omega)]
      rw [List.getElem?_take_of_lt hjn, List.getElem?_drop, List.getElem?_eq_getElem (by omega)] at hj
      exact hj)
    rw [hll] at hl
    simp [loadVar, run_isAgg ha, run_szOf hn, hl]
  · rename_i ha
    simp only [Option.bind_eq_some_iff] at h
    obtain ⟨u, hu, h⟩ := h
    split at h <;> simp at h
    subst h
    obtain ⟨x, hx, hdx⟩ := denL_get hd hu
    refine ⟨x, ?_, hdx⟩
    have hlt := (List.getElem?_eq_some_iff.1 hx).1
    have hc := cell_in hw hlt
    rw [← (List.getElem?_eq_some_iff.1 hx).2]
    simp [loadVar, run_isAgg ha, hc]
  · simp at h
theorem pick_den {pc : List T} {t : T} {x y : Option V} {v : V} (h : pickV pc t x y = some v) (hpc : ∀ t ∈ pc, t.b σ = true) {u z : Value} (hx : ∀ q, x = some q → den σ ρ q = some u) (hy : ∀ q, y = some q → den σ ρ q = some z) :
    den σ ρ v = some (if t.b σ = true then u else z) := by
  unfold pickV at h
  split at h
  · rename_i hd; rw [decG_b hpc hd]; simpa using hx v h
  · rename_i hd; rw [decG_b hpc hd]; simpa using hy v h
  · split at h
    · simp at h; subst h
      rename_i p q
      have h1 := hx _ rfl; have h2 := hy _ rfl
      simp [den] at h1 h2
      subst h1; subst h2
      simp only [den, T.b]
      split <;> rfl
    · split at h <;> simp at h
      rename_i hk; subst hk; subst h
      have h1 := hx _ rfl; have h2 := hy _ rfl
      simp [den] at h1 h2
      subst h1; subst h2
      simp only [den, T.i]
      split <;> rfl
    · simp at h
theorem lenV_den {t : TypeId} {x : V} {n : T} (h : lenV P t x = some n) {u : Value} (hx : den σ ρ x = some u) (ty : TypeId) : (Builtin.len_ #[t] ty #[u]).run P w = .ok (.int .i64 (n.i σ)) w := by
  unfold lenV at h
  split at h
  · rename_i hu; simp at h; subst h; have := den_str hx; subst this; simp [Builtin.len_, run_underlying hu, goInt, mkLen_i]
  · rename_i hu; simp at h; subst h; simp [Builtin.len_, run_underlying hu, goInt, T.i]
  · rename_i hu; simp at h; subst h; simp [den] at hx; subst hx; simp [Builtin.len_, run_underlying hu, goInt, T.i]
  · rename_i hu; simp at h; subst h; simp [den] at hx; obtain ⟨r, s, -, rfl⟩ := hx; simp [Builtin.len_, run_underlying hu, goInt, T.i]
  · rename_i i hu
    cases hb : Nat.beq (i % 2) 1 with
    | false => rw [hb] at h; simp at h
    | true =>
      rw [hb] at h
      simp only [cond_true, Option.some.injEq] at h
      subst h
      simp only [den] at hx
      split at hx
      · rename_i hc
        simp only [Option.some.injEq] at hx
        subst hx
        have he := hc.2
        rw [empAt, hb, cond_true] at he
        revert he
        cases σ.v i with
        | slice a n c =>
          cases n with
          | zero => intro _; simp [Builtin.len_, run_underlying hu, goInt, T.i]
          | succ n => intro he; simp [empS] at he
        | _ => intro he; simp [empS] at he
      · simp at hx
  · rename_i hu; simp at h; subst h; simp [den] at hx; subst hx; simp [Builtin.len_, run_underlying hu, goInt, T.i]
  · rename_i hu; split at h <;> simp at h; rename_i hu2; subst h; simp [Builtin.len_, run_underlying hu, run_underlying hu2, goInt, T.i]
  · simp at h
theorem capV_den {t : TypeId} {x : V} {n : T} (h : capV P t x = some n) {u : Value} (hx : den σ ρ x = some u) (ty : TypeId) : (Builtin.cap_ #[t] ty #[u]).run P w = .ok (.int .i64 (n.i σ)) w := by
  unfold capV at h
  split at h
  · rename_i hu; simp at h; subst h; simp [Builtin.cap_, run_underlying hu, goInt, T.i]
  · rename_i hu; simp at h; subst h; simp [den] at hx; subst hx; simp [Builtin.cap_, run_underlying hu, goInt, T.i]
  · rename_i hu; simp at h; subst h; simp [den, Cap.cap] at hx; obtain ⟨r, s, -, rfl⟩ := hx; simp [Builtin.cap_, run_underlying hu, goInt, T.i]
  · simp at h
theorem min_den {x y v : V} (h : minmaxV true x y = some v) {u z : Value} (hx : den σ ρ x = some u) (hy : den σ ρ y = some z) (tys : Array TypeId) (ty : TypeId) : ∃ q, (Builtin.min_ tys ty #[u, z]).run P w = .ok q w ∧ den σ ρ v = some q := by
  unfold minmaxV at h
  split at h
  · split at h <;> simp at h
    rename_i hk; subst hk; subst h
    have e1 := den_int hx; have e2 := den_int hy; subst e1; subst e2
    refine ⟨_, rfl, ?_⟩
    simp only [den, mkIte_i, mkLt_b, ltB_t]
  · simp at h
theorem max_den {x y v : V} (h : minmaxV false x y = some v) {u z : Value} (hx : den σ ρ x = some u) (hy : den σ ρ y = some z) (tys : Array TypeId) (ty : TypeId) : ∃ q, (Builtin.max_ tys ty #[u, z]).run P w = .ok q w ∧ den σ ρ v = some q := by
  unfold minmaxV at h
  split at h
  · split at h <;> simp at h
    rename_i hk; subst hk; subst h
    have e1 := den_int hx; have e2 := den_int hy; subst e1; subst e2
    refine ⟨_, rfl, ?_⟩
    simp only [den, mkIte_i, mkLt_b, ltB_t]
    try rfl
  · simp at h
end
end Go.Proofs.Ytehbfajmileefaa.Vx
