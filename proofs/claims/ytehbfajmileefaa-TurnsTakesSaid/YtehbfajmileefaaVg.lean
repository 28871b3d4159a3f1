import Derived.Test.YtehbfajmileefaaVr
import Derived.Lib.UnsafeStr
import Derived.Lib.Builder
import Derived.Laws.BytesString
import Derived.Laws.Externs
import Derived.Laws.IdiomStrings
namespace Go.Proofs.Ytehbfajmileefaa.Vx
open Go.RowKit
set_option linter.unusedVariables false
set_option linter.unusedSimpArgs false
section
variable {P : Program} {σ : Env} {ρ : Rho} {w : World} {base : Nat → Prop} {nx : Nat} {H : Hp} {F : Fr} {a : Act}
def Rel (σ : Env) (ρ : Rho) (v : Option V) (x : Option Value) : Prop := (v = none ∧ x = none) ∨ ∃ u z, v = some u ∧ x = some z ∧ den σ ρ u = some z
theorem optV_rel (hF : OpOk σ ρ F a) {o : Option Operand} {v : Option V} (h : optV F o = some v) : Rel σ ρ v (o.map a.eval) := by
  cases o with
  | none => simp [optV] at h; subst h; exact .inl ⟨rfl, rfl⟩
  | some q =>
    simp only [optV, Option.map_eq_some_iff] at h
    obtain ⟨u, hu, rfl⟩ := h
    exact .inr ⟨u, _, rfl, rfl, opv_den hF hu⟩
theorem rel_bound {v : Option V} {x : Option Value} {d y n : Nat} (code : BoundsCode) (h : boundV v d y = some n) (hr : Rel σ ρ v x) :
    (x = none ∧ v = none ∧ n = d) ∨ (∃ z, x = some z ∧ v.isSome = true ∧ (Instr.sliceBound z y code).run P w = .ok n w ∧ n ≤ y) := by
  rcases hr with ⟨rfl, rfl⟩ | ⟨u, z, rfl, rfl, hz⟩
  · simp [boundV] at h; exact .inl ⟨rfl, rfl, h.symm⟩
  · rcases run_boundV (w := w) (P := P) (code := code) (x := some z) h (fun u' hu' => by simp at hu'; subst hu'; exact ⟨z, rfl, hz⟩) (by simp) with ⟨h1, _⟩ | ⟨z', h1, h2, h3⟩
    · simp at h1
    · simp at h1; subst h1; exact .inr ⟨z, rfl, rfl, h2, h3⟩
theorem run_bounds {lo hi mx : Option V} {l' h' m' : Option Value} (rl : Rel σ ρ lo l') (rh : Rel σ ρ hi h') (rm : Rel σ ρ mx m') (hmh : mx.isSome = true → hi.isSome = true) (isS : Bool) {len cap m h l : Nat}
    (hm : boundV mx cap cap = some m) (hh : boundV hi len m = some h) (hl : boundV lo 0 h = some l) : (Instr.sliceBounds isS len cap l' h' m').run P w = .ok (l, h, m) w := by
  unfold Instr.sliceBounds
  rcases rel_bound (P := P) (w := w) (if isS then .slice3Acap else .slice3Alen) hm rm with ⟨rfl, -, rfl⟩ | ⟨z, rfl, hms, hz, hzm⟩
  · rcases rel_bound (P := P) (w := w) (if isS then .sliceAcap else .sliceAlen) hh rh with ⟨rfl, -, rfl⟩ | ⟨y, rfl, hhs, hy, hym⟩
    · rcases rel_bound (P := P) (w := w) (.sliceB) hl rl with ⟨rfl, -, rfl⟩ | ⟨x, rfl, hls, hx, hxm⟩
      · simp
      · simp [hx]
    · rcases rel_bound (P := P) (w := w) (.sliceB) hl rl with ⟨rfl, -, rfl⟩ | ⟨x, rfl, hls, hx, hxm⟩
      · simp [hy]
      · simp [hy, hx]
  · rcases rel_bound (P := P) (w := w) .slice3B hh rh with ⟨rfl, hn, rfl⟩ | ⟨y, rfl, hhs, hy, hym⟩
    · have := hmh hms; rw [hn] at this; simp at this
    · rcases rel_bound (P := P) (w := w) (.slice3C) hl rl with ⟨rfl, -, rfl⟩ | ⟨x, rfl, hls, hx, hxm⟩
      · simp [hz, hy]
      · simp [hz, hy, hx]
theorem bound_le {v : Option V} {d y n : Nat} (h : boundV v d y = some n) (hd : d ≤ y) : n ≤ y := by
  unfold boundV at h
  split at h
  · simp at h; omega
  · simp only [Option.bind_eq_some_iff] at h
    obtain ⟨m, -, h⟩ := h
    split at h <;> simp at h
    omega
theorem mh {a b : Bool} (h : ¬ (a && !b) = true) : a = true → b = true := by cases a <;> cases b <;> simp_all
set_option maxHeartbeats 1000000 in
theorem run_sliceV (hM : M σ ρ base H nx w) {t : TypeId} {x v : V} {lo hi mx : Option V} {l' h' m' : Option Value} (h : sliceV P H t x lo hi mx = some v) {u : Value} (hx : den σ ρ x = some u)
    (rl : Rel σ ρ lo l') (rh : Rel σ ρ hi h') (rm : Rel σ ρ mx m') : ∃ z, (Instr.sliceAt t u l' h' m').run P w = .ok z w ∧ den σ ρ v = some z := by
  unfold sliceV at h
  split at h
  · rename_i e hu
    simp only [Option.bind_eq_some_iff] at h
    obtain ⟨z, hz, h⟩ := h
    split at h
    · simp at h
    rename_i hmh
    simp only [Option.bind_eq_some_iff, Option.map_eq_some_iff] at h
    obtain ⟨m, hm, hh, hhh, l, hl, rfl⟩ := h
    have hb := run_bounds (P := P) (w := w) rl rh rm (mh hmh) true hm hhh hl
    have h1 := bound_le hm (Nat.le_refl _)
    have h2 := bound_le hhh (by omega)
    have h3 := bound_le hl (by omega)
    have : m = 0 := by omega
    subst this
    have : hh = 0 := by omega
    subst this
    have : l = 0 := by omega
    subst this
    simp [den] at hx
    subst hx
    refine ⟨.slice none 0 0, ?_, by simp [den]⟩
    simp [Instr.sliceAt, Instr.slice, run_underlying hu, hb, run_szOf hz]
  · rename_i e id off len c hu
    simp only [Option.bind_eq_some_iff] at h
    obtain ⟨z, hz, h⟩ := h
    split at h
    · simp at h
    rename_i hmh
    simp only [Option.bind_eq_some_iff, Option.map_eq_some_iff] at h
    obtain ⟨m, hm, hh, hhh, l, hl, rfl⟩ := h
    have hb := run_bounds (P := P) (w := w) rl rh rm (mh hmh) true hm hhh hl
    simp only [den, Option.map_eq_some_iff, Cap.cap] at hx
    obtain ⟨r, hr, rfl⟩ := hx
    refine ⟨.slice (some ⟨r.1, if m = l then off else off + l * z, none⟩) (hh - l) (m - l), ?_, by simp [den, hr, Cap.cap]⟩
    simp only [Instr.sliceAt, Instr.slice, Sem.run_bind, run_underlying hu, hb, run_szOf hz, Result.andThen_ok, Sem.run_pure]
    split
    · rfl
    · simp [add_at]
  · rename_i e id off len q hu
    simp only [Option.bind_eq_some_iff] at h
    obtain ⟨z, hz, b, hb, h⟩ := h
    split at h
    · simp at h
    rename_i hcond
    simp only [Bool.or_eq_true, Bool.not_eq_true', not_or, Bool.not_eq_false, Nat.ble_eq] at hcond
    obtain ⟨hsp, hlen⟩ := hcond
    simp only [den, Option.map_eq_some_iff, Cap.cap] at hx
    obtain ⟨r, hr, rfl⟩ := hx
    obtain ⟨r0, c, cs, sp, hr0, -, hdc, ⟨fz, hfz, hw⟩, -, hcap⟩ := hM.blkC id b hb
    rw [hr] at hr0
    simp only [Option.some.injEq] at hr0
    subst hr0
    obtain ⟨hc1, hc2, hc3⟩ := hcap hsp
    have hle : q + len ≤ c := by
      have h1 := denL_len hdc
      have h2 : (q + len) * b.sz ≤ c * b.sz := by rw [← hc1]; simp; omega
      exact Nat.le_of_mul_le_mul_right h2 hc3
    split at h
    · rename_i m0 h0
      simp only [Option.bind_eq_some_iff, Option.map_eq_some_iff] at h
      obtain ⟨m, hm, hh, hhh, l, hl, rfl⟩ := h
      have hml : m ≤ len := bound_le hm (Nat.le_refl _)
      have hm' : boundV (some m0) (c - q) (c - q) = some m := by
        unfold boundV at hm ⊢
        simp only [Option.bind_eq_some_iff] at hm ⊢
        obtain ⟨n, hn, h4⟩ := hm
        split at h4 <;> simp at h4
        exact ⟨n, hn, by rw [if_pos (by omega), h4]⟩
      have hbb := run_bounds (P := P) (w := w) rl rh rm (by simp) true hm' hhh hl
      refine ⟨.slice (some ⟨r0, if m = l then off else off + l * z, none⟩) (hh - l) (m - l), ?_, by simp [den, hr, Cap.cap]⟩
      simp only [Instr.sliceAt, Instr.slice, Sem.run_bind, run_underlying hu, hbb, run_szOf hz, Result.andThen_ok, Sem.run_pure]
      split
      · rfl
      · simp [add_at]
    · simp at h
    · simp only [Option.bind_eq_some_iff] at h
      obtain ⟨hh, hhh, l, hl, h⟩ := h
      have hhl : hh ≤ len := bound_le hhh (Nat.le_refl _)
      have hhh' : boundV hi len (c - q) = some hh := by
        unfold boundV at hhh ⊢
        split
        · exact hhh
        · simp only [Option.bind_eq_some_iff] at hhh ⊢
          obtain ⟨n, hn, h4⟩ := hhh
          split at h4 <;> simp at h4
          exact ⟨n, hn, by rw [if_pos (by omega), h4]⟩
      have hbb := run_bounds (P := P) (w := w) (mx := none) (m' := m') (cap := c - q) (m := c - q) rl rh rm (by simp) true rfl hhh' hl
      split at h
      · rename_i hl0
        subst hl0
        simp at h
        subst h
        refine ⟨.slice (some ⟨r0, off, none⟩) hh (c - q), ?_, by simp [den, hr, Cap.cap]⟩
        simp [Instr.sliceAt, Instr.slice, run_underlying hu, hbb, run_szOf hz, Addr.add]
      · split at h <;> simp at h
        rename_i hl1
        subst h
        refine ⟨.slice (some ⟨r0, off + l * z, none⟩) (hh - l) (c - q - l), ?_, by simp [den, hr, Cap.cap]; omega⟩
        simp only [Instr.sliceAt, Instr.slice, Sem.run_bind, run_underlying hu, hbb, run_szOf hz, Result.andThen_ok, Sem.run_pure]
        rw [if_neg (by omega)]
        simp [add_at]
  · rename_i n e id off hu
    simp only [Option.bind_eq_some_iff] at h
    obtain ⟨z, hz, h⟩ := h
    split at h
    · simp at h
    rename_i hmh
    simp only [Option.bind_eq_some_iff, Option.map_eq_some_iff] at h
    obtain ⟨m, hm, hh, hhh, l, hl, rfl⟩ := h
    have hb := run_bounds (P := P) (w := w) rl rh rm (mh hmh) false hm hhh hl
    simp only [den, Option.map_eq_some_iff] at hx
    obtain ⟨r, hr, rfl⟩ := hx
    refine ⟨.slice (some ⟨r.1, if m = l then off else off + l * z, none⟩) (hh - l) (m - l), ?_, by simp [den, hr, Cap.cap]⟩
    simp only [Instr.sliceAt, Instr.sureAddr, Sem.run_bind, run_underlying hu, hb, run_szOf hz, Result.andThen_ok, Sem.run_pure]
    split
    · rfl
    · simp [add_at]
  · rename_i s hu
    split at h
    · simp at h
    simp only [Option.bind_eq_some_iff, Option.map_eq_some_iff] at h
    obtain ⟨hh, hhh, l, hl, rfl⟩ := h
    have hmx : m' = none := by rcases rm with ⟨-, h⟩ | ⟨u, z, h, -⟩ <;> simp_all
    subst hmx
    have hb := run_bounds (P := P) (w := w) (mx := none) (m' := none) (cap := s.size) (m := s.size) rl rh (.inl ⟨rfl, rfl⟩) (by simp) false rfl hhh hl
    simp [den, T.s] at hx
    subst hx
    refine ⟨.string (s.extract l hh), ?_, by simp [den, T.s]⟩
    simp [Instr.sliceAt, Instr.slice, run_underlying hu, hb]
  · simp at h
theorem run_boundT {v : Option V} {x : Option Value} {d t : T} {y : Nat} (code : BoundsCode) (h : boundT v d = some t) (hr : Rel σ ρ v x) (hd : v = none → (d.i σ).toNat = d.i σ) (h0 : 0 ≤ t.i σ) (h1 : t.i σ ≤ y) :
    (v = none ∧ x = none ∧ t = d) ∨ (∃ z, x = some z ∧ (Instr.sliceBound z y code).run P w = .ok (t.i σ).toNat w) := by
  unfold boundT at h
  rcases hr with ⟨rfl, rfl⟩ | ⟨u, z, rfl, rfl, hz⟩
  · simp at h; exact .inl ⟨rfl, rfl, h.symm⟩
  · cases u <;> simp at h
    subst h
    simp [den] at hz
    subst hz
    refine .inr ⟨_, rfl, ?_⟩
    simp only [Instr.sliceBound, asIntOf, Sem.run_bind, Sem.run_pure, Result.andThen_ok]
    rw [if_pos ⟨h0, h1⟩]
    rfl
theorem run_sliceS {t : TypeId} {x : V} {lo hi mx : Option V} {l' h' m' : Option Value} {r : V × List T} (h : sliceS P t x lo hi mx = some r) (hv : ∀ q ∈ r.2, q.b σ = true) {u : Value} (hx : den σ ρ x = some u) (rl : Rel σ ρ lo l') (rh : Rel σ ρ hi h') (rm : Rel σ ρ mx m') :
    ∃ z, (Instr.sliceAt t u l' h' m').run P w = .ok z w ∧ den σ ρ r.1 = some z := by
  unfold sliceS at h
  split at h <;> try (simp at h; done)
  rename_i s hu
  simp only [Option.bind_eq_some_iff, Option.map_eq_some_iff] at h
  obtain ⟨hh, hhh, l, hl, rfl⟩ := h
  simp only [List.mem_cons, List.not_mem_nil, or_false, forall_eq_or_imp, forall_eq, mkLe_b, leB_t, T.i, mkLen_i] at hv
  obtain ⟨h1, h2, h3⟩ := hv
  have hmx : m' = none := by rcases rm with ⟨-, h⟩ | ⟨u, z, h, -⟩ <;> simp_all
  subst hmx
  have hx := den_str hx
  subst hx
  refine ⟨.string ((s.s σ).extract (l.i σ).toNat (hh.i σ).toNat), ?_, by rw [den]; simp [T.s]⟩
  have hb := run_boundT (P := P) (w := w) (y := (s.s σ).size) .sliceAlen hhh rh (by simp [mkLen_i]) (by omega) h3
  have hb2 := run_boundT (P := P) (w := w) (y := (hh.i σ).toNat) .sliceB hl rl (by simp [T.i]) h1 (by omega)
  have e1 : ((mkLen s).i σ).toNat = (s.s σ).size := by rw [mkLen_i]; simp
  rcases hb with ⟨rfl, rfl, rfl⟩ | ⟨z, rfl, hz⟩ <;> rcases hb2 with ⟨rfl, rfl, rfl⟩ | ⟨z2, rfl, hz2⟩ <;>
    simp_all [Instr.sliceAt, Instr.slice, Instr.sliceBounds, run_underlying hu, T.i]
theorem read_den (hM : M σ ρ base H nx w) {id off n : Nat} {l : List V} (h : readRow H id off n = some l) : ∃ r c xs, ρ id = some (r, c) ∧ denL σ ρ l = some xs ∧ xs.length = n ∧ l.length = n ∧ ∀ j u, xs[j]? = some u → w.cell? ((⟨r, off, none⟩ : Addr).add j) = some u := by
  unfold readRow at h
  simp only [Option.bind_eq_some_iff] at h
  obtain ⟨b, hb, h⟩ := h
  split at h <;> simp at h
  rename_i hle
  subst h
  obtain ⟨r, c, cs, sp, hr, hbase, hdc, ⟨fz, hfz, hw⟩, hsp, hcap⟩ := hM.blkC id b hb
  have hlc := denL_len hdc
  refine ⟨r, c, _, hr, denL_take (denL_drop hdc off) n, by simp; omega, by simp; omega, fun j u hj => ?_⟩
  rw [add_at]
  have hjn : j < n := by have := (List.getElem?_eq_some_iff.1 hj).1; simp at this; omega
  rw [cell_in hw (by omega)]
  rw [List.getElem?_take_of_lt hjn, List.getElem?_drop, List.getElem?_eq_getElem (by omega)] at hj
  exact hj
theorem byteOf_some {v : V} {b : UInt8} (h : byteOf v = some b) : den σ ρ v = some (.int .u8 b.toNat) := by
  unfold byteOf at h
  split at h <;> try (simp at h; done)
  split at h <;> simp at h
  rename_i n hn
  subst h
  simp [den, T.i, Nat.mod_eq_of_lt hn]
theorem bytes_some : ∀ {l : List V} {bs : List UInt8}, mapO byteOf l = some bs → denL σ ρ l = some (bs.map fun b => .int .u8 (b.toNat : Int))
  | [], bs, h => by simp [mapO] at h; subst h; simp [denL]
  | v :: l, bs, h => by
    simp only [mapO, Option.bind_eq_some_iff, Option.map_eq_some_iff] at h
    obtain ⟨y, hy, ys, hys, rfl⟩ := h
    simp [denL, byteOf_some hy, bytes_some hys]
theorem run_bytesV (hM : M σ ρ base H nx w) {x : V} {t : T} (h : bytesV H x = some t) {u : Value} (hx : den σ ρ x = some u) :
    (Conv.bytesToString u).run P w = .ok (.string (t.s σ)) w ∧ (∃ a l c, u = .slice a l c) := by
  cases x <;> simp only [bytesV] at h <;> try (simp at h; done)
  case nils =>
    simp at h; subst h
    simp [den] at hx
    subst hx
    exact ⟨rfl, _, _, _, rfl⟩
  case sl id off len c =>
    simp only [Option.bind_eq_some_iff, Option.map_eq_some_iff] at h
    obtain ⟨l, hl, bs, hbs, rfl⟩ := h
    obtain ⟨xr, xcap, xs, hxr, hdn, hxl, hnl, hread⟩ := read_den hM hl
    rw [bytes_some hbs] at hdn
    simp only [Option.some.injEq] at hdn
    subst hdn
    simp [den, hxr] at hx
    subst hx
    refine ⟨?_, _, _, _, rfl⟩
    have hl := run_loadCells_list (P := P) w ⟨xr, off, none⟩ _ hread
    rw [hxl] at hl
    have e1 : bs.map (fun b : UInt8 => Value.int .u8 (b.toNat : Int)) = (bs.map (fun b : UInt8 => (b.toNat : Int))).map (Value.int .u8) := by simp
    rw [run_bytesToString (P := P) w ⟨xr, off, none⟩ len _ (bs.map fun b => (b.toNat : Int)) (by rw [hl, ← e1])]
    rw [foldl_push_byteCells]
    simp [T.s, ByteArray.empty, ByteArray.emptyWithCapacity]
    rfl
theorem shape_of {r : Nat} {cs : List Value} {t : TypeId} {f : Nat × Nat} (hw : w.heap[r]? = some (.cells cs.toArray t f)) : w.shape? r = some (t, cs.length) := by
  simp [World.shape?, hw]
theorem liesAt_own {u : TypeId} {z n : Nat} (hz : P.cellsOf u = z) (h0 : z ≠ 0) (hn : z ≤ n) : liesAt P P.depth u (n / P.cellsOf u) 0 u 1 = true := by
  have hd : P.depth = (2 * (P.types.size + Made.depth) + 1) + 1 := rfl
  have h1 : 1 ≤ n / z := Nat.div_pos hn (by omega)
  rw [hd]
  simp only [liesAt, Bool.or_eq_true]
  left
  rw [hd]
  simp [rowAt, hz, h0, sameLayout]
  left
  omega
theorem sdata_ok (hM : M σ ρ base H nx w) {v u : V} (h : sdataV H v = some u) {x : Value} (hx : den σ ρ v = some x) (ts : Array TypeId) (ty : TypeId) : ∃ y, (Builtin.unsafeSliceData_ ts ty #[x]).run P w = .ok y w ∧ den σ ρ u = some y := by
  unfold sdataV at h
  split at h
  · simp at h; subst h; simp [den] at hx; subst hx; exact ⟨_, Lib.run_unsafeSliceData_nil w ts ty 0 0, by simp [den]⟩
  · split at h <;> simp at h
    rename_i hc
    subst h
    simp only [den, Option.map_eq_some_iff] at hx
    obtain ⟨r, hr, rfl⟩ := hx
    exact ⟨_, Lib.run_unsafeSliceData_row w ts ty _ _ _ hc, by simp [den, hr]⟩
  · rename_i id off n q
    simp only [Option.bind_eq_some_iff] at h
    obtain ⟨b, hb, h⟩ := h
    split at h <;> simp at h
    rename_i hc
    subst h
    simp only [den, Option.map_eq_some_iff] at hx
    obtain ⟨r, hr, rfl⟩ := hx
    obtain ⟨r0, c, cs, sp, hr0, -, hdc, ⟨fz, hfz, hw⟩, -, hcap⟩ := hM.blkC id b hb
    rw [hr] at hr0
    simp at hr0
    subst hr0
    obtain ⟨k1, k2, k3⟩ := hcap hc.1
    have hl := denL_len hdc
    refine ⟨_, Lib.run_unsafeSliceData_row w ts ty _ _ _ ?_, by simp [den, hr]⟩
    have h2 : (q + n) * b.sz ≤ c * b.sz := by rw [← k1]; simp; omega
    have h3 := Nat.le_of_mul_le_mul_right h2 k3
    simp only [Cap.cap]
    omega
  · simp at h
theorem find_ext {fn : Func} {n : String} {e : Array Value → Sem Value} (hn : (fn.name == n) = true) (ho : (fn.origin == "") = true)
    (h1 : (Extern.allNextRows.lookup n).isNone = true) (h2 : (Extern.allNextRows.lookup "").isNone = true) (h3 : (Extern.allGenericRows.lookup n).isNone = true) (h4 : (Extern.allTypedRows.lookup n).isNone = true) (h5 : Extern.allRows.lookup n = some e) :
    Extern.findNext fn = none ∧ Extern.find fn = some e := by
  have hn : fn.name = n := by simpa using hn
  have ho : fn.origin = "" := by simpa using ho
  simp only [Option.isNone_iff_eq_none] at h1 h2 h3 h4
  constructor
  · unfold Extern.findNext
    simp [hn, ho, h1, h2]
  · unfold Extern.find
    simp [hn, h3, h4, h5]
theorem run_ext {g : FuncId} {as : List V} {v : V} (h : extV P g as = some v) {xs : List Value} (hx : denL σ ρ as = some xs) : ∃ x, (callFunc g xs.toArray).run P w = .ok (.value x) w ∧ den σ ρ v = some x := by
  unfold extV at h
  split at h <;> try (simp at h; done)
  rename_i fn hf
  split at h <;> try (simp at h; done)
  rename_i hc
  simp only [Bool.and_eq_true] at hc
  split at h <;> try (simp at h; done)
  · rename_i s c
    simp only [denL, den, Option.map_some, Option.bind_some, Option.some.injEq] at hx
    subst hx
    split at h
    · rename_i hn
      simp at h; subst h
      obtain ⟨e1, e2⟩ := find_ext (e := Extern.BytealgCount.count) hn hc.2 (by kernel_rfl) (by kernel_rfl) (by kernel_rfl) (by kernel_rfl) (by kernel_rfl)
      have hn' := eq_of_beq hn
      refine ⟨_, ?_, rfl⟩
      rw [run_callFunc_extern hf (by rw [hn']; kernel_rfl) hc.1 e1 e2, Lib.run_countString, mkCnt_i]
      rfl
    · split at h <;> simp at h
      rename_i hn
      subst h
      obtain ⟨e1, e2⟩ := find_ext (e := Extern.BytealgIndexByte.indexByte) hn hc.2 (by kernel_rfl) (by kernel_rfl) (by kernel_rfl) (by kernel_rfl) (by kernel_rfl)
      have hn' := eq_of_beq hn
      refine ⟨_, ?_, rfl⟩
      rw [run_callFunc_extern hf (by rw [hn']; kernel_rfl) hc.1 e1 e2, Lib.run_indexByteString, mkIdx_i]
      rfl
  · rename_i s t
    simp only [denL, den, Option.map_some, Option.bind_some, Option.some.injEq] at hx
    subst hx
    split at h <;> simp at h
    rename_i hn
    subst h
    obtain ⟨e1, e2⟩ := find_ext (e := Extern.BytealgCompare.compare) hn hc.2 (by kernel_rfl) (by kernel_rfl) (by kernel_rfl) (by kernel_rfl) (by kernel_rfl)
    have hn' := eq_of_beq hn
    refine ⟨_, ?_, rfl⟩
    rw [run_callFunc_extern hf (by rw [hn']; kernel_rfl) hc.1 e1 e2, Lib.run_compareString, mkCmp_i]
    rfl
  · rename_i i q
    split at h <;> simp at h
    rename_i hn
    subst h
    obtain ⟨e1, e2⟩ := find_ext (e := Extern.AbiNoEscape.same) hn hc.2 (by kernel_rfl) (by kernel_rfl) (by kernel_rfl) (by kernel_rfl) (by kernel_rfl)
    have hn' := eq_of_beq hn
    simp only [denL, den, Option.map_some, Option.bind_some, Option.some.injEq, Option.bind_eq_some_iff, Option.map_eq_some_iff] at hx
    obtain ⟨y, ⟨r, hr, rfl⟩, hx⟩ := hx
    subst hx
    refine ⟨_, ?_, by simp [den, hr]; rfl⟩
    rw [run_callFunc_extern hf (by rw [hn']; kernel_rfl) hc.1 e1 e2]
    rfl
set_option maxHeartbeats 2000000 in
theorem evp_ok {pc : List T} {o : Oper} {r : V × List T} (h : evp P pc F H o.op = some r) (hpc : ∀ t ∈ pc, t.b σ = true) (hv : ∀ t ∈ r.2, t.b σ = true) (hF : OpOk σ ρ F a) (hM : M σ ρ base H nx w) :
    ∃ x, (execOp a.eval o).run P w = .ok (.value x) w ∧ den σ ρ r.1 = some x := by
  unfold execOp
  generalize o.op = op at h
  cases op <;> simp only [evp] at h <;> try (simp at h; done)
  case move x => simp only [Option.map_eq_some_iff] at h; obtain ⟨v, hv', rfl⟩ := h; exact ⟨_, rfl, opv_den hF hv'⟩
  case assign x => simp only [Option.map_eq_some_iff] at h; obtain ⟨v, hv', rfl⟩ := h; exact ⟨_, rfl, opv_den hF hv'⟩
  case pick c x y =>
    split at h
    · rename_i t ht
      simp only [Option.map_eq_some_iff] at h; obtain ⟨v, hv', rfl⟩ := h
      have hc := den_bool (opv_den hF ht)
      refine ⟨if t.b σ = true then a.eval x else a.eval y, ?_, pick_den hv' hpc (fun q hq => opv_den hF hq) (fun q hq => opv_den hF hq)⟩
      simp [hc, asBool]
    · simp at h
  case build t parts =>
    simp only [Option.map_eq_some_iff] at h; obtain ⟨v, hv', rfl⟩ := h
    obtain ⟨x, hx, hd⟩ := run_buildV (a := a) (w := w) hv' hF
    refine ⟨x, ?_, hd⟩
    simp only [Sem.run_bind, hx, Result.andThen_ok, Sem.run_pure]
  case load t x =>
    split at h
    · rename_i id off ht
      simp only [Option.bind_eq_some_iff, Option.map_eq_some_iff] at h; obtain ⟨b, hb, v, hv', rfl⟩ := h
      obtain ⟨q, c, cs, sp, hr, -, hdc, ⟨fz, hfz, hw⟩, -, -⟩ := hM.blkC id b hb
      obtain ⟨y, hy, hdy⟩ := run_loadV (P := P) hv' hdc hw
      refine ⟨y, ?_, hdy⟩
      have hx := opv_den hF ht
      simp [den, hr] at hx
      simp [← hx, Instr.loadAt, Instr.sureAddr, hy]
    · simp at h
  case nilCheck x =>
    split at h
    · rename_i id off ht
      simp at h; subst h
      have hx := opv_den hF ht
      refine ⟨_, ?_, hx⟩
      simp only [den, Option.map_eq_some_iff] at hx
      obtain ⟨r, -, hx⟩ := hx
      simp [← hx]
    · rename_i f fi ca ht
      simp at h; subst h
      have hx := opv_den hF ht
      refine ⟨_, ?_, hx⟩
      simp only [den, Option.map_eq_some_iff, Option.bind_eq_some_iff] at hx
      obtain ⟨p, -, q, -, hx⟩ := hx
      simp [← hx]
    · simp at h
  case binOp op t x y ty =>
    simp only [Option.bind_eq_some_iff] at h
    obtain ⟨u, hu, v, hv', h⟩ := h
    obtain ⟨z, hz, hd⟩ := run_binV (P := P) (w := w) h hv (opv_den hF hu) (opv_den hF hv') x y
    exact ⟨z, by rw [Sem.run_bind, hz]; rfl, hd⟩
  case unOp op t x =>
    split at h
    · rename_i t ht
      simp at h; subst h
      have hx := den_bool (opv_den hF ht)
      exact ⟨.bool (!(t.b σ)), by simp [hx, Op.unary], by rw [den, mkNot_b]⟩
    · rename_i k t ht
      simp at h; subst h
      have hx := den_int (opv_den hF ht)
      refine ⟨.int k (k.wrap (0 - t.i σ)), by simp [hx, Op.unary, Op.intArith], by rw [den, mkSub_i hv]; rfl⟩
    · simp at h
  case convert s d x =>
    split at h
    · rename_i hs hd ht
      simp at h; subst h
      have hx := den_int (opv_den hF ht)
      refine ⟨_, ?_, by rw [den, convT_i hpc]⟩
      rw [Sem.run_bind]
      unfold convert
      simp only [Sem.run_bind, run_underlying hs, run_underlying hd, Result.andThen_ok, hx, Conv.intToInt, Sem.run_pure]
    · rename_i hs hd ht
      simp at h; subst h
      have hx := den_str (opv_den hF ht)
      refine ⟨_, ?_, by rw [den]⟩
      rw [Sem.run_bind]
      unfold convert
      simp only [Sem.run_bind, run_underlying hs, run_underlying hd, Result.andThen_ok, hx, Sem.run_pure]
    · rename_i t id off hs hd ht
      simp only [Option.bind_eq_some_iff] at h
      obtain ⟨b, hb, z, hz, h⟩ := h
      split at h <;> simp at h
      rename_i hc
      subst h
      obtain ⟨q, c, cs, sp, hr, -, hdc, ⟨fz, hfz, hw⟩, -, -⟩ := hM.blkC id b hb
      have hx := opv_den hF ht
      have hl := denL_len hdc
      unfold szOf at hz
      simp only [Option.map_eq_some_iff] at hz
      obtain ⟨j, hj, hz⟩ := hz
      refine ⟨_, ?_, hx⟩
      simp only [den, hr, Option.map_some, Option.some.injEq] at hx
      rw [Sem.run_bind, ← hx, Lib.run_to_unsafe (cells := (cs ++ sp).length) (e := b.ty) w ⟨q, off, none⟩ hs hd hj (by rw [hz]; exact hc.1) (shape_of hw) (by simp; omega)]
      rfl
    · rename_i u id off hs hd ht
      simp only [Option.bind_eq_some_iff] at h
      obtain ⟨b, hb, z, hz, h⟩ := h
      split at h <;> simp at h
      rename_i hc
      obtain ⟨hc1, hc2, hc3, hc4⟩ := hc
      subst h
      obtain ⟨q, c, cs, sp, hr, -, hdc, ⟨fz, hfz, hw⟩, -, -⟩ := hM.blkC id b hb
      have hx := opv_den hF ht
      have hl := denL_len hdc
      unfold szOf at hz
      simp only [Option.map_eq_some_iff] at hz
      obtain ⟨j, hj, hz⟩ := hz
      refine ⟨_, ?_, hx⟩
      simp only [den, hr, Option.map_some, Option.some.injEq] at hx
      rw [Sem.run_bind, ← hx, Lib.run_from_unsafe (cells := (cs ++ sp).length) (e := b.ty) w ⟨q, off, none⟩ hs hd hj (shape_of hw) (by rw [hc2, hc3]; exact liesAt_own (by simp [Program.cellsOf, hj, hz]) hc1 (by simp; omega))]
      rfl
    · rename_i e v hs hd ht
      split at h
      · rename_i he
        simp only [Option.map_eq_some_iff] at h
        obtain ⟨t, ht', rfl⟩ := h
        obtain ⟨h1, a1, l1, c1, h2⟩ := run_bytesV (P := P) hM ht' (opv_den hF ht)
        refine ⟨_, ?_, by rw [den]⟩
        rw [Sem.run_bind, h2, run_convert_bytes_string (P := P) w s d e a1 l1 c1 hs he hd, ← h2, h1]
        rfl
      · simp at h
    · simp at h
  case makeFunc f first cap =>
    simp only [Option.bind_eq_some_iff, Option.map_eq_some_iff] at h
    obtain ⟨p, hp, q, hq, rfl⟩ := h
    obtain ⟨first⟩ := first
    obtain ⟨cap⟩ := cap
    have h1 := denL_mapO (σ := σ) (ρ := ρ) (g := a.eval) (fun x v hx => opv_den hF hx) hp
    have h2 := denL_mapO (σ := σ) (ρ := ρ) (g := a.eval) (fun x v hx => opv_den hF hx) hq
    refine ⟨.func f (first.map a.eval).toArray (cap.map a.eval).toArray, ?_, ?_⟩
    · simp [Instr.makeFunc]
    rw [den, h1, h2]
    simp
  case slice t x lo hi mx =>
    simp only [Option.bind_eq_some_iff] at h
    obtain ⟨v, hv', l, hl, h', hh, m, hm, h⟩ := h
    split at h
    · rename_i z hz
      simp at h; subst h
      obtain ⟨y, hy, hd⟩ := run_sliceV (P := P) hM hz (opv_den hF hv') (optV_rel hF hl) (optV_rel hF hh) (optV_rel hF hm)
      exact ⟨y, by rw [Sem.run_bind, hy]; rfl, hd⟩
    · obtain ⟨y, hy, hd⟩ := run_sliceS (P := P) (w := w) h hv (opv_den hF hv') (optV_rel hF hl) (optV_rel hF hh) (optV_rel hF hm)
      exact ⟨y, by rw [Sem.run_bind, hy]; rfl, hd⟩
  case fieldAddr s x f =>
    split at h
    · rename_i fs id off hs ht
      simp only [Option.bind_eq_some_iff] at h
      obtain ⟨fd, hfd, z, hz, h⟩ := h
      split at h <;> simp at h
      rename_i hz0
      subst h
      have hx := opv_den hF ht
      simp only [den, Option.map_eq_some_iff] at hx
      obtain ⟨r, hr, hx⟩ := hx
      refine ⟨.pointer (some ⟨r.1, off + fd.offset, none⟩), ?_, by simp [den, hr]⟩
      simp only [← hx, Instr.fieldAt, Instr.sureAddr, fieldPlace, Sem.run_bind, run_underlying hs, Result.andThen_ok, hfd, Sem.run_pure, run_szOf hz, if_neg hz0, Sem.run_ite, add_at]
    · simp at h
  case field t x f =>
    split at h
    · rename_i fs l hs ht
      simp only [Option.bind_eq_some_iff, Option.map_eq_some_iff] at h
      obtain ⟨fd, hfd, v, hv', rfl⟩ := h
      have hx := opv_den hF ht
      simp only [den, Option.map_eq_some_iff] at hx
      obtain ⟨cs, hcs, hx⟩ := hx
      obtain ⟨y, hy, hd⟩ := run_partV (P := P) (w := w) hv' hcs
      refine ⟨y, ?_, hd⟩
      simp only [← hx, Instr.field, Sem.run_bind, run_underlying hs, Result.andThen_ok, hfd, asAgg, Sem.run_pure, hy]
    · simp at h
  case indexAddr t x ix =>
    split at h
    · rename_i e id off len cap i hs ht hi
      simp only [Option.bind_eq_some_iff] at h hi
      obtain ⟨z, hz, h⟩ := h
      split at h <;> simp at h
      rename_i hlt
      subst h
      obtain ⟨vi, hvi, hin⟩ := hi
      obtain ⟨k, hk⟩ := natLit_den hin (opv_den hF hvi)
      have hx := opv_den hF ht
      simp only [den, Option.map_eq_some_iff] at hx
      obtain ⟨r, hr, hx⟩ := hx
      refine ⟨.pointer (some ⟨r.1, off + i * z, none⟩), ?_, by simp [den, hr]⟩
      simp only [← hx, hk, Instr.indexAt, asIntOf, Sem.run_bind, run_underlying hs, Result.andThen_ok, Sem.run_pure]
      rw [if_pos ⟨by omega, by omega⟩]
      simp [run_szOf hz, add_at]
    · rename_i n e id off i hs ht hi
      simp only [Option.bind_eq_some_iff] at h hi
      obtain ⟨z, hz, h⟩ := h
      split at h <;> simp at h
      rename_i hlt
      subst h
      obtain ⟨vi, hvi, hin⟩ := hi
      obtain ⟨k, hk⟩ := natLit_den hin (opv_den hF hvi)
      have hx := opv_den hF ht
      simp only [den, Option.map_eq_some_iff] at hx
      obtain ⟨r, hr, hx⟩ := hx
      refine ⟨.pointer (some ⟨r.1, off + i * z, none⟩), ?_, by simp [den, hr]⟩
      simp only [← hx, hk, Instr.indexAt, Instr.sureAddr, asIntOf, Sem.run_bind, run_underlying hs, Result.andThen_ok, Sem.run_pure]
      rw [if_pos ⟨by omega, by omega⟩]
      simp [run_szOf hz, add_at]
    · simp at h
  case index t x ix =>
    split at h
    · rename_i n e l j hs ht hi
      simp only [Option.bind_eq_some_iff] at h
      obtain ⟨i, hin, z, hz, h⟩ := h
      split at h <;> simp at h
      rename_i hlt
      obtain ⟨v, hv', rfl⟩ := h
      obtain ⟨k, hk⟩ := natLit_den hin (opv_den hF hi)
      have hx := opv_den hF ht
      simp only [den, Option.map_eq_some_iff] at hx
      obtain ⟨cs, hcs, hx⟩ := hx
      obtain ⟨y, hy, hd⟩ := run_partV (P := P) (w := w) hv' hcs
      refine ⟨y, ?_, hd⟩
      simp only [← hx, hk, Instr.index, asIntOf, Sem.run_bind, run_underlying hs, Result.andThen_ok, Sem.run_pure]
      rw [if_pos ⟨by omega, by omega⟩]
      simp [run_szOf hz, hy]
    · rename_i s k0 i hs ht hi
      simp only [Option.map_eq_some_iff] at h
      obtain ⟨b, hb, rfl⟩ := h
      obtain ⟨k, hk⟩ : ∃ k, a.eval ix = .int k (i : Int) := ⟨k0, by simpa [T.i] using den_int (opv_den hF hi)⟩
      have hx := den_str (opv_den hF ht)
      refine ⟨.int .u8 b.toNat, ?_, by simp [den, T.i]⟩
      simp only [hx, hk, T.s, Instr.index, asIntOf, Sem.run_bind, run_underlying hs, Result.andThen_ok, Sem.run_pure]
      have hsb : s[i]? = some b := by
        have hlt := (List.getElem?_eq_some_iff.1 hb).1
        simp at hlt
        rw [getElem?_pos s i (by simpa using hlt)]
        have h8 := (List.getElem?_eq_some_iff.1 hb).2
        have h9 : s.data[i] = b := by simpa using h8
        exact congrArg some h9
      simp [hsb]
    · rename_i s k0 i _ hs ht hi
      simp only [Option.some.injEq] at h
      subst h
      have hk := den_int (opv_den hF hi)
      have hx := den_str (opv_den hF ht)
      simp only [List.mem_cons, List.not_mem_nil, or_false, forall_eq_or_imp, forall_eq, mkLe_b, mkNot_b, Bool.not_eq_true', leB_f, leB_t, T.i, mkLen_i] at hv
      obtain ⟨h1, h2⟩ := hv
      refine ⟨_, ?_, by rw [den]⟩
      have hlt : (i.i σ).toNat < (s.s σ).size := by omega
      simp only [hx, hk, Instr.index, asIntOf, Sem.run_bind, run_underlying hs, Result.andThen_ok, Sem.run_pure]
      have hsb : (s.s σ)[(i.i σ).toNat]? = some ((s.s σ).data.toList.getD (i.i σ).toNat 0) := by
        rw [getElem?_pos (s.s σ) _ hlt]
        have : (i.i σ).toNat < (s.s σ).data.toList.length := by simpa using hlt
        rw [List.getD_eq_getElem?_getD, List.getElem?_eq_getElem this]
        simp
        rfl
      simp [hsb, T.i, h1]
    · simp at h
  case lookup t x k co =>
    simp only [Option.bind_eq_some_iff, Option.map_eq_some_iff] at h
    obtain ⟨m, hm, i, hi, v, hv', rfl⟩ := h
    obtain ⟨y, hy, hd⟩ := lookup_ok (P := P) hM hv' (opv_den hF hm) (opv_den hF hi)
    exact ⟨y, by simp [hy], hd⟩
  case extract x i =>
    split at h
    · rename_i l ht
      simp only [Option.map_eq_some_iff] at h
      obtain ⟨v, hv', rfl⟩ := h
      have hx := opv_den hF ht
      simp only [den, Option.map_eq_some_iff] at hx
      obtain ⟨cs, hcs, hx⟩ := hx
      obtain ⟨y, hy, hd⟩ := denL_get hcs hv'
      refine ⟨y, ?_, hd⟩
      simp [← hx, Instr.extract, hy]
    · simp at h
  case call c =>
    obtain ⟨callee, args, argTypes⟩ := c
    cases callee <;> simp only at h <;> try (simp at h; done)
    case value f =>
      split at h <;> try (simp at h; done)
      rename_i g' hg
      simp only [Option.bind_eq_some_iff, Option.map_eq_some_iff] at h
      obtain ⟨as, has, v, hv', rfl⟩ := h
      have hd := opv_den hF hg
      simp only [den, denL, Option.map_some, Option.bind_some, Option.some.injEq] at hd
      have hm := denL_mapO (σ := σ) (ρ := ρ) (g := a.eval) (fun x v hx => opv_den hF hx) has
      obtain ⟨x, hx, hdx⟩ := run_ext (P := P) (w := w) hv' hm
      refine ⟨x, ?_, hdx⟩
      obtain ⟨args⟩ := args
      simp only [resolve, ← hd, Deferred.ofValue, Sem.run_bind, Sem.run_pure, Result.andThen_ok, invoke]
      simpa using hx
    rename_i b
    obtain ⟨args⟩ := args
    obtain ⟨argTypes⟩ := argTypes
    simp only at h
    split at h
    · rename_i x t
      simp only [Option.bind_eq_some_iff, Option.map_eq_some_iff] at h
      obtain ⟨v, hv', n, hn, rfl⟩ := h
      have := lenM_den (P := P) (w := w) hM hn (opv_den hF hv') o.type
      refine ⟨_, ?_, by rw [den]⟩
      simp [resolve, invoke, builtin, this]
    · rename_i x t
      simp only [Option.bind_eq_some_iff, Option.map_eq_some_iff] at h
      obtain ⟨v, hv', n, hn, rfl⟩ := h
      have := capV_den (P := P) (w := w) hn (opv_den hF hv') o.type
      refine ⟨_, ?_, by rw [den]⟩
      simp [resolve, invoke, builtin, this]
    · rename_i x y
      simp only [Option.bind_eq_some_iff, Option.map_eq_some_iff] at h
      obtain ⟨v, hv', u, hu, z, hz, rfl⟩ := h
      obtain ⟨q, hq, hd⟩ := min_den (P := P) (w := w) hz (opv_den hF hv') (opv_den hF hu) ⟨argTypes⟩ o.type
      refine ⟨q, ?_, hd⟩
      simp [resolve, invoke, builtin, hq]
    · rename_i x y
      simp only [Option.bind_eq_some_iff, Option.map_eq_some_iff] at h
      obtain ⟨v, hv', u, hu, z, hz, rfl⟩ := h
      obtain ⟨q, hq, hd⟩ := max_den (P := P) (w := w) hz (opv_den hF hv') (opv_den hF hu) ⟨argTypes⟩ o.type
      refine ⟨q, ?_, hd⟩
      simp [resolve, invoke, builtin, hq]
    · rename_i x
      simp only [Option.bind_eq_some_iff, Option.map_eq_some_iff] at h
      obtain ⟨v, hv', u, hu, rfl⟩ := h
      obtain ⟨q, hq, hd⟩ := sdata_ok (P := P) hM hu (opv_den hF hv') ⟨argTypes⟩ o.type
      refine ⟨q, ?_, hd⟩
      simp [resolve, invoke, builtin, hq]
    · simp at h
end
end Go.Proofs.Ytehbfajmileefaa.Vx
