import Derived.Test.YtehbfajmileefaaVq
import Derived.Laws.Concat
namespace Go.Proofs.Ytehbfajmileefaa.Vx
open Go.RowKit
set_option linter.unusedVariables false
set_option linter.unusedSimpArgs false
section
variable {P : Program} {σ : Env} {ρ : Rho} {w : World} {base : Nat → Prop} {nx : Nat} {H : Hp} {F : Fr} {a : Act}
theorem run_eqGuard_plain (op : BinOp) (t : TypeId) (x y : Operand) (u v : Value) (h1 : ∀ cs, u ≠ .agg cs) (h2 : u ≠ .nilIface) : (eqGuard op t x y u v).run P w = .ok () w := by
  cases u <;> first | exact absurd rfl h2 | exact absurd rfl (h1 _) | (cases op <;> rfl)
theorem run_eqv {op : BinOp} (hop : op = .eql ∨ op = .neq) {t : TypeId} {x y : V} {c : T} (h : eqV P 10000 t x y = some c) {u v : Value} (hu : den σ ρ x = some u) (hv : den σ ρ y = some v)
    (hb : (binOp op t u v).run P w = ((Op.equal t u v).run P w).andThen fun b w' => .ok (.bool (if op = .eql then b else !b)) w') :
    (binOp op t u v).run P w = .ok (.bool (if op = .eql then c.b σ else !(c.b σ))) w := by
  rw [hb]
  show ((Op.equalIn 10000 t u v).run P w).andThen _ = _
  rw [run_eqV 10000 h hu hv w]
  rfl
theorem den_int {k : IntKind} {t : T} {x : Value} (h : den σ ρ (.int k t) = some x) : x = .int k (t.i σ) := by simpa [den, eq_comm] using h
theorem den_bool {t : T} {x : Value} (h : den σ ρ (.bool t) = some x) : x = .bool (t.b σ) := by simpa [den, eq_comm] using h
theorem den_str {t : T} {x : Value} (h : den σ ρ (.str t) = some x) : x = .string (t.s σ) := by simpa [den, eq_comm] using h
theorem toList_less (a b : ByteArray) : Op.bytesLess a.toList b.toList = sLtB a b := by
  rw [ByteArray.toList_eq, ByteArray.toList_eq]; rfl
set_option maxHeartbeats 1000000 in
theorem run_binV {op : BinOp} {t : TypeId} {x y : V} {r : V × List T} (h : binV P op t x y = some r) (hv : ∀ q ∈ r.2, q.b σ = true) {u v : Value} (hx : den σ ρ x = some u) (hy : den σ ρ y = some v) (ox oy : Operand) :
    ∃ z, (do eqGuard op t ox oy u v; binOp op t u v : Sem Value).run P w = .ok z w ∧ den σ ρ r.1 = some z := by
  have ints : ∀ {k k' : IntKind} {a b : T}, x = .int k a → y = .int k' b → u = .int k (a.i σ) ∧ v = .int k' (b.i σ) := fun e1 e2 => by subst e1; subst e2; exact ⟨den_int hx, den_int hy⟩
  have strs : ∀ {a b : T}, x = .str a → y = .str b → u = .string (a.s σ) ∧ v = .string (b.s σ) := fun e1 e2 => by subst e1; subst e2; exact ⟨den_str hx, den_str hy⟩
  rw [Sem.run_bind]
  unfold binV at h
  split at h
  case h_12 | h_13 | h_14 | h_15 =>
    rename_i k a k' b
    split at h
    · rename_i hk
      subst hk
      simp only [bitI, Option.map_some, Option.some.injEq] at h
      subst h
      have e1 := den_int hx
      have e2 := den_int hy
      subst e1; subst e2
      rw [run_eqGuard_plain _ _ _ _ _ _ (by simp) (by simp), Result.andThen_ok]
      refine ⟨_, ?_, by rw [den]⟩
      simp [binOp, Op.intBits, T.i]
    · simp at h
  case h_16 | h_17 =>
    rename_i k a k' b
    unfold shiftI at h
    split at h
    · simp at h
    · rename_i hn
      simp only [Option.map_some, Option.some.injEq] at h
      subst h
      have e1 := den_int hx
      have e2 := den_int hy
      subst e1; subst e2
      rw [run_eqGuard_plain _ _ _ _ _ _ (by simp) (by simp), Result.andThen_ok]
      refine ⟨_, ?_, by rw [den]⟩
      simp [binOp, Op.shift, T.i, hn]
  all_goals first
    | (rename_i k a k' b
       obtain ⟨rfl, rfl⟩ := ints rfl rfl
       rw [run_eqGuard_plain _ _ _ _ _ _ (by simp) (by simp), Result.andThen_ok]
       split at h
       rotate_left
       · simp at h
       rename_i hk
       subst hk
       simp only [binOp, ne_eq, not_true, if_false]
       first
         | (simp only [Option.some.injEq] at h; subst h
            first
              | exact ⟨_, rfl, by rw [den, mkAdd_i hv]⟩
              | exact ⟨_, rfl, by rw [den, mkSub_i hv]⟩
              | exact ⟨_, rfl, by rw [den, mkMul_i hv]⟩
              | exact ⟨_, rfl, by rw [den, mkEq_b]; exact congrArg some (congrArg Value.bool (eqB_beq _ _).symm)⟩
              | exact ⟨_, rfl, by rw [den, mkNot_b, mkEq_b]; exact congrArg some (congrArg Value.bool (by rw [← eqB_beq]; rfl))⟩
              | exact ⟨_, rfl, by rw [den, mkLt_b]; rfl⟩
              | exact ⟨_, rfl, by rw [den, mkLe_b]; rfl⟩)
         | (simp only [Option.map_eq_some_iff] at h
            obtain ⟨q, hq, rfl⟩ := h
            first
              | (have h2 := mkQuo_i hq hv
                 simp only [Op.intDiv, if_neg h2.1]
                 exact ⟨_, rfl, by rw [den, h2.2]⟩)
              | (have h2 := mkRem_i hq hv
                 simp only [Op.intDiv, if_neg h2.1]
                 exact ⟨_, rfl, by rw [den, h2.2]⟩)))
    | (rename_i a b
       obtain ⟨rfl, rfl⟩ := strs rfl rfl
       rw [run_eqGuard_plain _ _ _ _ _ _ (by simp) (by simp), Result.andThen_ok]
       simp only [Option.some.injEq] at h; subst h
       first
         | exact ⟨_, rfl, by rw [den, mkSeq_b, ← toList_beq]⟩
         | exact ⟨_, rfl, by rw [den, mkNot_b, mkSeq_b, ← toList_beq]⟩
         | exact ⟨_, rfl, by rw [den, mkSlt_b, ← toList_less]⟩
         | exact ⟨_, rfl, by rw [den, mkOr_b, mkSlt_b, mkSeq_b, ← toList_beq, ← toList_less]⟩
         | exact ⟨_, rfl, by rw [den, mkNot_b, mkOr_b, mkSlt_b, mkSeq_b, ← toList_beq, ← toList_less]⟩
         | exact ⟨_, rfl, by rw [den, mkNot_b, mkSlt_b, ← toList_less]⟩
         | (have h2 := mkCat_s hv
            exact ⟨_, by rw [binOp_string_add, run_string_add_sum w _ _ h2.2], by rw [den, h2.1]⟩))
    | (simp at h; done)
    | skip
  all_goals try
    (split at h
     · simp at h
     rename_i hm
     simp only [Option.map_eq_some_iff] at h
     obtain ⟨c, hc, rfl⟩ := h
     have e := run_eqV 10000 hc hx hy w
     simp only [den, Option.map_eq_some_iff] at hx hy
     obtain ⟨as, has, rfl⟩ := hx
     obtain ⟨bs, hbs, rfl⟩ := hy
     rw [run_eqGuard_agg w _ t ox oy _ _ (by simpa using hm), Result.andThen_ok]
     first
       | (refine ⟨.bool (c.b σ), ?_, (den.eq_2 σ ρ c)⟩
          rw [run_eql_struct, e]; rfl)
       | (refine ⟨.bool (!(c.b σ)), ?_, (den.eq_2 σ ρ (mkNot c)).trans (congrArg (fun b => some (Value.bool b)) (mkNot_b c))⟩
          rw [run_neq_struct, e]; rfl))
  all_goals
    simp only [Option.map_eq_some_iff] at h
    obtain ⟨c, hc, rfl⟩ := h
    have e := run_eqV 10000 hc hx hy w
    simp only [den, Option.some.injEq, Option.map_eq_some_iff, Option.bind_eq_some_iff] at hx hy
    first
      | subst hx
      | (obtain ⟨_, _, rfl⟩ := hx)
      | (obtain ⟨_, _, _, _, rfl⟩ := hx)
    first
      | subst hy
      | (obtain ⟨_, _, rfl⟩ := hy)
    rw [run_eqGuard_plain _ _ _ _ _ _ (by simp) (by simp), Result.andThen_ok]
    first
      | (refine ⟨.bool (c.b σ), ?_, (den.eq_2 σ ρ c)⟩
         simp only [binOp, Op.equal, Op.maxDepth, Sem.run_bind, e, Result.andThen_ok, Sem.run_pure]; done)
      | (refine ⟨.bool (!(c.b σ)), ?_, (den.eq_2 σ ρ (mkNot c)).trans (congrArg (fun b => some (Value.bool b)) (mkNot_b c))⟩
         simp only [binOp, Op.equal, Op.maxDepth, Sem.run_bind, e, Result.andThen_ok, Sem.run_pure]; done)
end
end Go.Proofs.Ytehbfajmileefaa.Vx
