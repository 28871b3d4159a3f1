import Derived.Test.YtehbfajmileefaaVf
import Derived.MapKept
namespace Go.Proofs.Ytehbfajmileefaa.Vx
open Go.RowKit
set_option linter.unusedVariables false
set_option linter.unusedSimpArgs false
section
variable {P : Program} {σ : Env} {ρ : Rho} {w : World} {base : Nat → Prop} {nx : Nat} {H : Hp} {F : Fr} {a : Act}
mutual
theorem eqb_eq : ∀ {v u : V}, V.eqb v u = true → v = u
  | v, u, h => by
    unfold V.eqb at h
    split at h
    case h_1 => simp at h; rw [h.1, h.2]
    case h_2 => simp at h; rw [h]
    case h_3 => simp at h; rw [h]
    case h_4 => rfl
    case h_5 => simp at h; rw [h.1, h.2]
    case h_6 => rfl
    case h_7 => simp at h; rw [h.1.1.1, h.1.1.2, h.1.2, h.2]
    case h_8 => rfl
    case h_9 => rw [eqbL_eq h]
    case h_10 => rw [eqbL_eq h]
    case h_11 => rfl
    case h_12 => rfl
    case h_13 => rfl
    case h_14 => simp at h; rw [h]
    case h_15 => simp at h; rw [h]
    case h_16 => simp at h
theorem eqbL_eq : ∀ {l m : List V}, V.eqbL l m = true → l = m
  | [], [], _ => rfl
  | v :: l, u :: m, h => by
    simp only [V.eqbL, Bool.and_eq_true] at h
    rw [eqb_eq h.1, eqbL_eq h.2]
  | [], _ :: _, h => by simp [V.eqbL] at h
  | _ :: _, [], h => by simp [V.eqbL] at h
end
theorem key1_ok {t : TypeId} {k : V} {x : Value} (h : (match P.underlying t, k with
    | some (.int _), .int _ (.int _) => true
    | some .bool, .bool (.bool _) => true
    | some .string, .str (.str _) => true
    | _, _ => false) = true) (hd : den σ ρ k = some x) (e : Bool) (n : Nat) : (Instr.checkKey e (n + 1) t x).run P w = .ok () w := by
  split at h <;> simp at h
  all_goals
    rename_i hu
    simp only [den, Option.some.injEq] at hd
    subst hd
    simp [Instr.checkKey, run_underlying hu]
theorem key_ok {t : TypeId} {k : V} {x : Value} (h : keyB P t k = true) (hd : den σ ρ k = some x) (e : Bool) (n : Nat) : (Instr.checkKey e (n + 2) t x).run P w = .ok () w := by
  unfold keyB at h
  split at h
  · rename_i hu; simp only [den, Option.some.injEq] at hd; subst hd; simp [Instr.checkKey, run_underlying hu]
  · rename_i hu; simp only [den, Option.some.injEq] at hd; subst hd; simp [Instr.checkKey, run_underlying hu]
  · rename_i hu; simp only [den, Option.some.injEq] at hd; subst hd; simp [Instr.checkKey, run_underlying hu]
  · rename_i fs l hu
    simp only [den, Option.map_eq_some_iff] at hd
    obtain ⟨xs, hxs, rfl⟩ := hd
    simp only [Bool.and_eq_true] at h
    obtain ⟨-, h⟩ := h
    rw [show n + 2 = (n + 1) + 1 from rfl, Instr.checkKey]
    simp only [Sem.run_bind, run_underlying hu, Result.andThen_ok]
    rw [← Array.forIn_toList]
    generalize fs.toList = L at h
    induction L with
    | nil => simp
    | cons f L ih =>
      simp only [List.all_cons, Bool.and_eq_true] at h
      obtain ⟨h1, h2⟩ := h
      have key : ∃ y, (part f.type xs.toArray f.offset).run P w = .ok y w ∧ (Instr.checkKey e (n + 1) f.type y).run P w = .ok () w := by
        cases hp : partV P f.type l f.offset with
        | none => rw [hp] at h1; split at h1 <;> simp_all
        | some v =>
          obtain ⟨y, hy, hdy⟩ := run_partV (w := w) hp hxs
          refine ⟨y, hy, key1_ok (k := v) ?_ hdy e n⟩
          rw [hp] at h1
          split at h1 <;> simp_all
      obtain ⟨y, p1, p2⟩ := key
      by_cases hn : f.name = "_"
      · simp only [List.forIn_cons, Sem.run_bind, hn, ne_eq, not_true_eq_false, if_false, Result.andThen_ok, Sem.run_pure]
        exact ih h2
      · simp only [List.forIn_cons, Sem.run_bind, hn, ne_eq, not_false_eq_true, if_true, Result.andThen_ok, p1, p2, Sem.run_pure]
        exact ih h2
  · simp at h
theorem sameNow_equal {t : TypeId} {d : TypeDesc} (hu : P.underlying t = some d) {x y : Value} {c : Bool} (h : Instr.sameNow d x y = some c) : (Op.equal t x y).run P w = .ok c w := by
  unfold Op.equal
  unfold Instr.sameNow at h
  split at h
  · split at h <;> simp at h
    rename_i hk
    subst hk
    subst h
    rw [show Op.maxDepth = 9999 + 1 from rfl, run_equalIn_int w 9999 t _ _ _ _ hu]
  · simp at h; subst h
    rw [show Op.maxDepth = 9999 + 1 from rfl, run_equalIn_string w 9999 t _ _ hu]
    rename_i u v
    have : sEqB u v = (u == v) := by
      rw [Bool.eq_iff_iff, MapKept.bytes_beq]
      unfold sEqB
      simp only [decide_eq_true_eq]
      exact ⟨fun h => ByteArray.ext (Array.ext' h), fun h => by rw [h]⟩
    rw [toList_beq, this]
  · simp at h; subst h
    rw [show Op.maxDepth = 9999 + 1 from rfl, run_equalIn_bool w 9999 t _ _ hu]
  · simp at h
theorem now_asking {t : TypeId} {d : TypeDesc} (hu : P.underlying t = some d) {x : Value} : ∀ {l : List MapEntry} {i : Nat} {r q : Option (Nat × Value)}, Instr.findNow d x l i = some r → (Instr.findAsking t x l i).run P w = .ok q w → r = q
  | [], i, r, q, h, k => by simp [Instr.findNow] at h; simp [Instr.findAsking] at k; rw [← h, ← k]
  | e :: es, i, r, q, h, k => by
    unfold Instr.findNow at h
    rw [Instr.findAsking] at k
    split at h
    · rename_i hs
      simp at h
      rw [Sem.run_bind, sameNow_equal hu hs] at k
      simp at k
      rw [← h, ← k]
    · rename_i hs
      rw [Sem.run_bind, sameNow_equal hu hs] at k
      simp at k
      exact now_asking hu h k
    · simp at h
theorem findKey_of {t : TypeId} {d : TypeDesc} (hu : P.underlying t = some d) {x : Value} {l : List MapEntry} {q : Option (Nat × Value)} (k : (Instr.findAsking t x l 0).run P w = .ok q w) : (Instr.findKey t x l).run P w = .ok q w := by
  unfold Instr.findKey
  rw [Sem.run_bind, run_underlying hu w]
  simp only [Result.andThen_ok]
  split
  · rename_i r hr
    have := now_asking hu hr k
    simp [this]
  · exact k
theorem findM_asking {t : TypeId} {k : V} {x : Value} (hd : den σ ρ k = some x) : ∀ {l : List V} {xs : List Value} {i b : Nat} {r : Option (Nat × V)}, findM P t k l i = some r → denL σ ρ l = some xs →
    match r with
    | none => (Instr.findAsking t x (entriesOf xs b) i).run P w = .ok none w
    | some (j, v) => ∃ y e, (Instr.findAsking t x (entriesOf xs b) i).run P w = .ok (some (j, y)) w ∧ den σ ρ v = some y ∧ i ≤ j ∧ l[2 * (j - i) + 1]? = some v ∧ (∀ k', l[2 * (j - i)]? = some k' → ∃ z, den σ ρ k' = some z ∧ (entriesOf xs b)[j - i]? = some e ∧ e.key = z)
  | [], xs, i, b, r, h, hl => by
    simp [findM] at h
    subst h
    rw [denL_nil] at hl
    simp at hl
    subst hl
    simp [entriesOf, Instr.findAsking]
  | [_], xs, i, b, r, h, hl => by simp [findM] at h
  | k' :: v' :: l, xs, i, b, r, h, hl => by
    obtain ⟨y1, ys1, g1, g2, rfl⟩ := denL_cons.1 hl
    obtain ⟨y2, ys, g3, g4, rfl⟩ := denL_cons.1 g2
    unfold findM at h
    split at h
    · rename_i he
      simp at h
      subst h
      have := run_eqV 10000 he hd g1 w
      simp only [T.b] at this
      refine ⟨y2, ⟨y1, y2, b⟩, ?_, g3, Nat.le_refl _, by simp, fun k2 hk2 => ?_⟩
      · simp only [entriesOf, Instr.findAsking, Sem.run_bind]
        rw [show Op.equal t x y1 = Op.equalIn 10000 t x y1 from rfl, this]
        simp
      · simp at hk2
        subst hk2
        exact ⟨y1, g1, by simp [entriesOf], rfl⟩
    · rename_i he
      have := run_eqV 10000 he hd g1 w
      simp only [T.b] at this
      have ih := findM_asking hd (b := b + 1) h g4
      have step : ∀ q, (Instr.findAsking t x (entriesOf ys (b + 1)) (i + 1)).run P w = .ok q w → (Instr.findAsking t x (entriesOf (y1 :: y2 :: ys) b) i).run P w = .ok q w := fun q hq => by
        simp only [entriesOf, Instr.findAsking, Sem.run_bind]
        rw [show Op.equal t x y1 = Op.equalIn 10000 t x y1 from rfl, this]
        simpa using hq
      cases r with
      | none => exact step _ ih
      | some q =>
        obtain ⟨j, v⟩ := q
        obtain ⟨y, e, h1, h2, h3, h4, h5⟩ := ih
        have e1 : 2 * (j - i) = 2 * (j - (i + 1)) + 1 + 1 := by omega
        have e2 : j - i = (j - (i + 1)) + 1 := by omega
        refine ⟨y, e, step _ h1, h2, by omega, ?_, fun k2 hk2 => ?_⟩
        · rw [e1]; simpa using h4
        · rw [e1] at hk2
          obtain ⟨z, z1, z2, z3⟩ := h5 k2 (by simpa using hk2)
          exact ⟨z, z1, by rw [e2]; simpa [entriesOf] using z2, z3⟩
    · simp at h
theorem entriesOf_length : ∀ (xs : List Value) (b : Nat), (entriesOf xs b).length = xs.length / 2
  | [], b => by simp [entriesOf]
  | [_], b => by simp [entriesOf]
  | _ :: _ :: l, b => by
    have := entriesOf_length l (b + 1)
    simp only [entriesOf, List.length_cons, this]
    omega
theorem M.blkM (h : M σ ρ base H nx w) {i : Nat} {b : Blk} (hb : lookM H i = some b) :
    ∃ r c cs, ρ i = some (r, c) ∧ (b.ro = false → ¬ base r) ∧ denL σ ρ b.cells = some cs ∧ w.heap[r]? = some (.map (entriesOf cs 0).toArray (cs.length / 2)) ∧ cs.length % 2 = 0 := by
  obtain ⟨h1, h2⟩ := lookM_look hb
  obtain ⟨r, c, cs, sp, g1, g2, g3, g4, g5, g6, g7⟩ := h.blk i b h1
  obtain ⟨rfl, he⟩ := g7 h2
  refine ⟨r, c, cs, g1, g2, g3, ?_, he⟩
  obtain ⟨fz, -, g4⟩ := g4
  rw [g4]
  unfold Blk.obj
  rw [h2]
  simp
theorem lenM_den (hM : M σ ρ base H nx w) {t : TypeId} {x : V} {n : T} (h : lenM P t x H = some n) {u : Value} (hx : den σ ρ x = some u) (ty : TypeId) : (Builtin.len_ #[t] ty #[u]).run P w = .ok (.int .i64 (n.i σ)) w := by
  unfold lenM at h
  split at h
  · split at h
    · rename_i id _ _ hu
      simp only [Option.map_eq_some_iff] at h
      obtain ⟨b, hb, rfl⟩ := h
      obtain ⟨r, c, cs, g1, -, g3, g4, -⟩ := hM.blkM hb
      simp only [den, g1, Option.map_some, Option.some.injEq] at hx
      subst hx
      have := denL_len g3
      simp [Builtin.len_, run_underlying hu, MapKept.run_getObj_map g4, goInt, T.i, entriesOf_length, this]
    · simp at h
  · exact lenV_den h hx ty
def RQ (σ : Env) (ρ : Rho) (r : Option (Nat × V)) (q : Option (Nat × Value)) : Prop := match r, q with
  | none, none => True
  | some (_, v), some (_, y) => den σ ρ v = some y
  | _, _ => False
theorem lookup_ok (hM : M σ ρ base H nx w) {t : TypeId} {x k v : V} {co : Bool} (h : lookupV P t x k co H = some v) {u z : Value} (hx : den σ ρ x = some u) (hk : den σ ρ k = some z) :
    ∃ y, (Instr.lookup t u z co).run P w = .ok y w ∧ den σ ρ v = some y := by
  unfold lookupV at h
  split at h
  · rename_i kt et hu
    split at h
    · rename_i hkb
      obtain ⟨d, hd⟩ : ∃ d, P.underlying kt = some d := by
        cases hq : P.underlying kt with
        | none => simp [keyB, hq] at hkb
        | some d => exact ⟨d, rfl⟩
      have hck : ∀ e, (Instr.checkKey e 10000 kt z).run P w = .ok () w := fun e => key_ok (w := w) hkb hk e 9998
      have fin : ∀ (r : Option (Nat × V)) (q : Option (Nat × Value)), inM P kt x k H = some r → RQ σ ρ r q →
          ∃ y, den σ ρ v = some y ∧ ((∃ j' y', q = some (j', y') ∧ y = if co then .tuple #[y', .bool true] else y') ∨ (∃ zv, q = none ∧ (zeroValue et).run P w = .ok zv w ∧ y = if co then .tuple #[zv, .bool false] else zv)) := by
        intro r q hr hrq
        rw [hr] at h
        cases r with
        | none =>
          cases q <;> simp [RQ] at hrq
          simp only [Option.map_eq_some_iff] at h
          obtain ⟨zv, hz, rfl⟩ := h
          obtain ⟨y, hy, hdy⟩ := run_zeroV (P := P) (w := w) (σ := σ) (ρ := ρ) hz
          refine ⟨if co then .tuple #[y, .bool false] else y, ?_, .inr ⟨y, rfl, hy, rfl⟩⟩
          cases co
          · simpa using hdy
          · simp [den, denL, hdy, T.b]
        | some r =>
          obtain ⟨j, v'⟩ := r
          cases q <;> simp [RQ] at hrq
          rename_i q
          obtain ⟨j', y⟩ := q
          simp only [Option.some.injEq] at h
          subst h
          refine ⟨if co then .tuple #[y, .bool true] else y, ?_, .inl ⟨j', y, rfl, rfl⟩⟩
          cases co
          · simpa using hrq
          · simp [den, denL, hrq, T.b]
      cases hin : inM P kt x k H with
      | none => rw [hin] at h; simp at h
      | some r =>
        have hin' := hin
        unfold inM at hin
        split at hin
        · simp at hin
          subst hin
          simp [den] at hx
          subst hx
          have hq := findKey_of (P := P) (w := w) hd (x := z) (l := []) (q := none) (by simp [Instr.findAsking])
          obtain ⟨y, hy, hc⟩ := fin none none hin' trivial
          refine ⟨y, ?_, hy⟩
          rcases hc with ⟨j', y', hc, rfl⟩ | ⟨zv, -, hz, rfl⟩
          · simp at hc
          · simp [Instr.lookup, run_underlying hu, hck, hq, hz]
        · rename_i id
          simp only [Option.bind_eq_some_iff] at hin
          obtain ⟨b, hb, hf⟩ := hin
          obtain ⟨r0, c, cs, g1, -, g3, g4, -⟩ := hM.blkM hb
          simp only [den, g1, Option.map_some, Option.some.injEq] at hx
          subst hx
          have key := findM_asking (P := P) (w := w) hk (b := 0) hf g3
          have : ∃ q, (Instr.findKey kt z (entriesOf cs 0)).run P w = .ok q w ∧ RQ σ ρ r q := by
            cases r with
            | none => exact ⟨none, findKey_of hd key, trivial⟩
            | some r =>
              obtain ⟨j, v'⟩ := r
              obtain ⟨y, e, h1, h2, -⟩ := key
              exact ⟨_, findKey_of hd h1, h2⟩
          obtain ⟨q, hq, hrq⟩ := this
          obtain ⟨y, hy, hc⟩ := fin _ _ hin' hrq
          refine ⟨y, ?_, hy⟩
          rcases hc with ⟨j', y', rfl, rfl⟩ | ⟨zv, rfl, hz, rfl⟩
          · simp [Instr.lookup, run_underlying hu, MapKept.run_getObj_map g4, hck, hq]
          · simp [Instr.lookup, run_underlying hu, MapKept.run_getObj_map g4, hck, hq, hz]
        · simp at hin
    · simp at h
  · simp at h
end
end Go.Proofs.Ytehbfajmileefaa.Vx
