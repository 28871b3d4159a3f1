import Derived.Test.YtehbfajmileefaaZd
namespace Go.Proofs.Ytehbfajmileefaa.Px
open Go.RowKit Go.Proofs.Ytehbfajmileefaa.Vx Go.Proofs.Ytehbfajmileefaa.Fx
set_option linter.unusedVariables false
set_option linter.unusedSimpArgs false
set_option maxRecDepth 10000
theorem mapO_congr {α β : Type} {f g : α → Option β} : ∀ {l : List α}, (∀ x ∈ l, f x = g x) → mapO f l = mapO g l
  | [], _ => rfl
  | x :: l, h => by simp only [mapO, h x (by simp), mapO_congr fun y hy => h y (List.mem_cons_of_mem _ hy)]
section
variable {P : Program} {pc : List T} {F F1 F2 : Fr} {H H1 H2 : Hp} {nx : Nat}
theorem optV_congr {o : Option Operand} (h : ∀ x, o = some x → opv F1 x = opv F2 x) : optV F1 o = optV F2 o := by
  cases o with
  | none => rfl
  | some x => simp only [optV, h x rfl]
theorem partsV_congr {ps : Array (Nat × Operand)} (h : ∀ q ∈ ps.toList, opv F1 q.2 = opv F2 q.2) : partsV F1 ps = partsV F2 ps := by
  unfold partsV
  exact mapO_congr fun q hq => by rw [h q hq]
theorem evp_congr {op : Op} (h : ∀ x ∈ op.operands.toList, opv F1 x = opv F2 x) : evp P pc F1 H op = evp P pc F2 H op := by
  cases op
  case call c =>
    obtain ⟨callee, args, ts⟩ := c
    have ha : ∀ x ∈ args.toList, opv F1 x = opv F2 x := fun x hx => h x (by
      simp only [Op.operands, Call.operands]
      cases callee <;> simp [hx])
    cases callee with
    | builtin b =>
      cases b <;> simp only [evp]
      all_goals (split <;> (try rfl) <;> (rename_i he _ ; simp_all))
    | value f =>
      have hf : opv F1 f = opv F2 f := h f (by simp [Op.operands, Call.operands])
      simp only [evp, hf, mapO_congr ha]
    | invoke r m => rfl
  case slice t x lo hi mx =>
    have hx : opv F1 x = opv F2 x := h x (by simp [Op.operands])
    have h1 : optV F1 lo = optV F2 lo := optV_congr fun y hy => h y (by subst hy; simp [Op.operands])
    have h2 : optV F1 hi = optV F2 hi := optV_congr fun y hy => h y (by subst hy; simp [Op.operands])
    have h3 : optV F1 mx = optV F2 mx := optV_congr fun y hy => h y (by subst hy; simp [Op.operands])
    simp only [evp, hx, h1, h2, h3]
  case build t ps =>
    have : partsV F1 ps = partsV F2 ps := partsV_congr fun q hq => h q.2 (by simp only [Op.operands]; exact List.mem_map.2 ⟨q, hq, rfl⟩)
    simp only [evp, buildV, this]
  case makeFunc f as bs =>
    have h1 : mapO (opv F1) as.toList = mapO (opv F2) as.toList := mapO_congr fun x hx => h x (by simp [Op.operands]; exact .inl (by simpa using hx))
    have h2 : mapO (opv F1) bs.toList = mapO (opv F2) bs.toList := mapO_congr fun x hx => h x (by simp [Op.operands]; exact .inr (by simpa using hx))
    simp only [evp, h1, h2]
  case pick c x y => simp only [evp, h c (by simp [Op.operands]), h x (by simp [Op.operands]), h y (by simp [Op.operands])]
  all_goals first
    | rfl
    | (rename_i x y; simp only [evp, h x (by simp [Op.operands])]; done)
    | (rename_i x; simp only [evp, h x (by simp [Op.operands])]; done)
    | (rename_i _ x y; simp only [evp, h x (by simp [Op.operands]), h y (by simp [Op.operands])]; done)
    | (rename_i x _; simp only [evp, h x (by simp [Op.operands])]; done)
    | (rename_i x y _; simp only [evp, h x (by simp [Op.operands]), h y (by simp [Op.operands])]; done)
    | (rename_i x _ _; simp only [evp, h x (by simp [Op.operands])]; done)
theorem evm_congr {op : Op} (h : ∀ x ∈ op.operands.toList, opv F1 x = opv F2 x) : evm P F1 H nx op = evm P F2 H nx op := by
  cases op
  case call c =>
    obtain ⟨callee, args, ts⟩ := c
    have ha : ∀ x ∈ args.toList, opv F1 x = opv F2 x := fun x hx => h x (by
      simp only [Op.operands, Call.operands]
      cases callee <;> simp [hx])
    cases callee with
    | builtin b =>
      cases b <;> simp only [evm]
      all_goals (split <;> (try rfl) <;> (rename_i he _ ; simp_all))
    | value f => rfl
    | invoke r m => rfl
  case buildSlice t n ps =>
    have : partsV F1 ps = partsV F2 ps := partsV_congr fun q hq => h q.2 (by simp only [Op.operands]; exact List.mem_map.2 ⟨q, hq, rfl⟩)
    simp only [evm, this]
  case makeMap t r =>
    cases r with
    | none => rfl
    | some r => simp only [evm, h r (by simp [Op.operands])]
  case mapUpdate t m k x => simp only [evm, h m (by simp [Op.operands]), h k (by simp [Op.operands]), h x (by simp [Op.operands])]
  all_goals first
    | rfl
    | (rename_i x y; simp only [evm, h x (by simp [Op.operands])]; done)
    | (rename_i x; simp only [evm, h x (by simp [Op.operands])]; done)
    | (rename_i x y; simp only [evm, h x (by simp [Op.operands]), h y (by simp [Op.operands])]; done)
    | (rename_i x y _; simp only [evm, h x (by simp [Op.operands]), h y (by simp [Op.operands])]; done)
theorem evo_congr {op : Op} (h : ∀ x ∈ op.operands.toList, opv F1 x = opv F2 x) : evo P pc F1 H nx op = evo P pc F2 H nx op := by
  rw [evo_eq, evo_eq, evp_congr h, evm_congr h]
def idV : V → Option Nat
  | .ptr i _ => some i
  | .sl i _ _ _ => some i
  | .mp i => some i
  | _ => none
def rpOp : Op → Bool
  | .move _ | .assign _ | .pick .. | .build .. | .load .. | .binOp .. | .unOp .. | .makeFunc .. | .slice .. | .fieldAddr .. | .field .. | .indexAddr .. | .index .. | .extract .. => true
  | .call { callee := .builtin b, .. } => (match b with | .len | .cap | .min | .max => true | _ => false)
  | _ => false
def adOf : Op → Option Operand
  | .load _ a => some a
  | .slice _ x _ _ _ => some x
  | .call { callee := .builtin .len, args, .. } => args.toList.head?
  | _ => none
theorem lookC_congr {i : Nat} (h : Vx.look H1 i = Vx.look H2 i) : lookC H1 i = lookC H2 i := by unfold lookC; rw [h]
theorem lookM_congr {i : Nat} (h : Vx.look H1 i = Vx.look H2 i) : lookM H1 i = lookM H2 i := by unfold lookM; rw [h]
theorem evp_read {op : Op} (hr : rpOp op = true) (h : ∀ x v id, adOf op = some x → opv F x = some v → idV v = some id → Vx.look H1 id = Vx.look H2 id) : evp P pc F H1 op = evp P pc F H2 op := by
  cases op
  case load t a =>
    simp only [evp]
    cases ha : opv F a with
    | none => rfl
    | some v =>
      cases v with
      | ptr id off => simp only [lookC_congr (h a _ id rfl ha rfl)]
      | _ => rfl
  case slice t x lo hi mx =>
    simp only [evp]
    cases ha : opv F x with
    | none => rfl
    | some v =>
      simp only [Option.bind_some]
      have : ∀ l hh m, sliceV P H1 t v l hh m = sliceV P H2 t v l hh m := by
        intro l hh m
        cases v with
        | sl id off len c =>
          have := lookC_congr (h x _ id rfl ha rfl)
          cases hd : P.underlying t with
          | none => simp only [sliceV, hd]
          | some d => cases d <;> cases c <;> simp only [sliceV, hd, this]
        | str s =>
          cases hd : P.underlying t with
          | none => simp only [sliceV, hd]
          | some d => cases d <;> cases s <;> simp only [sliceV, hd]
        | _ =>
          cases hd : P.underlying t with
          | none => simp only [sliceV, hd]
          | some d => cases d <;> simp only [sliceV, hd]
      simp only [this]
  case call c =>
    obtain ⟨callee, args, ts⟩ := c
    cases callee with
    | builtin b =>
      cases b with
      | cap | min | max =>
        simp only [evp]
        generalize args.toList = l
        generalize ts.toList = l'
        rcases l with _ | ⟨x, _ | ⟨y, _ | ⟨z, l⟩⟩⟩ <;> rcases l' with _ | ⟨t, _ | ⟨u, l'⟩⟩ <;> rfl
      | len =>
        simp only [evp]
        have h := h
        rw [show adOf (.call ⟨.builtin .len, args, ts⟩) = args.toList.head? from rfl] at h
        generalize args.toList = l at h
        generalize ts.toList = l'
        match l, l', h with
        | [x], [t], h =>
          cases hx : opv F x with
          | none => simp only [hx]; rfl
          | some v =>
            have : lenM P t v H1 = lenM P t v H2 := by
              cases v with
              | mp id => simp only [lenM, lookM_congr (h x _ id rfl hx rfl)]
              | _ => rfl
            simp only [hx, Option.bind_some, this]
        | [], _, _ => rfl
        | [_], [], _ => rfl
        | [_], _ :: _ :: _, _ => rfl
        | _ :: _ :: _, _, _ => rfl
      | _ => exfalso; simp [rpOp] at hr
    | value f => simp [rpOp] at hr
    | invoke r m => simp [rpOp] at hr
  all_goals first
    | rfl
    | (exfalso; simp [rpOp] at hr; done)
theorem evm_rp {op : Op} (hr : rpOp op = true) : evm P F H nx op = none := by
  cases op <;> first
    | rfl
    | (exfalso; simp [rpOp] at hr; done)
    | skip
  rename_i c
  obtain ⟨callee, args, ts⟩ := c
  cases callee with
  | builtin b => cases b <;> first | rfl | (exfalso; simp [rpOp] at hr; done)
  | value f => simp [rpOp] at hr
  | invoke r m => simp [rpOp] at hr
end
def cut (ρ : Rho) (n : Nat) : Rho := fun i => if i < n then ρ i else none
section
variable {σ : Env} {ρ : Rho}
theorem cut_ext (n : Nat) : Ext (cut ρ n) ρ := fun i r h => by
  unfold cut at h
  split at h
  · exact h
  · simp at h
mutual
theorem under_of {n : Nat} (hf : ∀ i, n ≤ i → ρ i = none) : ∀ {v : V} {x : Value}, den σ ρ v = some x → V.under n v = true
  | .ptr i _, _, h => by
    simp only [den, Option.map_eq_some_iff] at h
    obtain ⟨r, hr, -⟩ := h
    simp only [V.under, Nat.blt_eq]
    exact Classical.byContradiction fun hc => by rw [hf i (by omega)] at hr; simp at hr
  | .sl i _ _ _, _, h => by
    simp only [den, Option.map_eq_some_iff] at h
    obtain ⟨r, hr, -⟩ := h
    simp only [V.under, Nat.blt_eq]
    exact Classical.byContradiction fun hc => by rw [hf i (by omega)] at hr; simp at hr
  | .mp i, _, h => by
    simp only [den, Option.map_eq_some_iff] at h
    obtain ⟨r, hr, -⟩ := h
    simp only [V.under, Nat.blt_eq]
    exact Classical.byContradiction fun hc => by rw [hf i (by omega)] at hr; simp at hr
  | .fn f a b, _, h => by
    simp only [den, Option.bind_eq_some_iff, Option.map_eq_some_iff] at h
    obtain ⟨p, hp, q, hq, -⟩ := h
    simp only [V.under, underL_of hf hp, underL_of hf hq, Bool.and_self]
  | .agg l, _, h => by
    simp only [den, Option.map_eq_some_iff] at h
    obtain ⟨p, hp, -⟩ := h
    simp only [V.under, underL_of hf hp]
  | .tup l, _, h => by
    simp only [den, Option.map_eq_some_iff] at h
    obtain ⟨p, hp, -⟩ := h
    simp only [V.under, underL_of hf hp]
  | .int _ _, _, _ | .bool _, _, _ | .str _, _, _ | .nilp, _, _ | .nils, _, _ | .nilf, _, _ | .nili, _, _ | .nilm, _, _ | .nilc, _, _ | .val _, _, _ => rfl
  | .bad, _, h => by simp [den] at h
theorem underL_of {n : Nat} (hf : ∀ i, n ≤ i → ρ i = none) : ∀ {l : List V} {xs : List Value}, denL σ ρ l = some xs → V.underL n l = true
  | [], _, _ => rfl
  | v :: l, _, h => by
    simp only [denL, Option.bind_eq_some_iff, Option.map_eq_some_iff] at h
    obtain ⟨x, hx, xs, hxs, -⟩ := h
    simp only [V.underL, under_of hf hx, underL_of hf hxs, Bool.and_self]
end
mutual
theorem den_cut {n : Nat} : ∀ {v : V}, V.under n v = true → den σ (cut ρ n) v = den σ ρ v
  | .ptr i _, h => by simp only [V.under, Nat.blt_eq] at h; simp only [den, cut, if_pos h]
  | .sl i _ _ _, h => by simp only [V.under, Nat.blt_eq] at h; simp only [den, cut, if_pos h]
  | .mp i, h => by simp only [V.under, Nat.blt_eq] at h; simp only [den, cut, if_pos h]
  | .fn f a b, h => by simp only [V.under, Bool.and_eq_true] at h; simp only [den, denL_cut h.1, denL_cut h.2]
  | .agg l, h => by simp only [V.under] at h; simp only [den, denL_cut h]
  | .tup l, h => by simp only [V.under] at h; simp only [den, denL_cut h]
  | .int _ _, _ | .bool _, _ | .str _, _ | .nilp, _ | .nils, _ | .nilf, _ | .nili, _ | .nilm, _ | .nilc, _ | .val _, _ | .bad, _ => by simp only [den]
theorem denL_cut {n : Nat} : ∀ {l : List V}, V.underL n l = true → denL σ (cut ρ n) l = denL σ ρ l
  | [], _ => by simp only [denL]
  | v :: l, h => by simp only [V.underL, Bool.and_eq_true] at h; simp only [denL, den_cut h.1, denL_cut h.2]
end
mutual
theorem under_mono {n m : Nat} (hm : n ≤ m) : ∀ {v : V}, V.under n v = true → V.under m v = true
  | .ptr i _, h => by simp only [V.under, Nat.blt_eq] at h ⊢; omega
  | .sl i _ _ _, h => by simp only [V.under, Nat.blt_eq] at h ⊢; omega
  | .mp i, h => by simp only [V.under, Nat.blt_eq] at h ⊢; omega
  | .fn f a b, h => by simp only [V.under, Bool.and_eq_true] at h ⊢; exact ⟨underL_mono hm h.1, underL_mono hm h.2⟩
  | .agg l, h => by simp only [V.under] at h ⊢; exact underL_mono hm h
  | .tup l, h => by simp only [V.under] at h ⊢; exact underL_mono hm h
  | .int _ _, _ | .bool _, _ | .str _, _ | .nilp, _ | .nils, _ | .nilf, _ | .nili, _ | .nilm, _ | .nilc, _ | .val _, _ | .bad, _ => rfl
theorem underL_mono {n m : Nat} (hm : n ≤ m) : ∀ {l : List V}, V.underL n l = true → V.underL m l = true
  | [], _ => rfl
  | v :: l, h => by simp only [V.underL, Bool.and_eq_true] at h ⊢; exact ⟨under_mono hm h.1, underL_mono hm h.2⟩
end
end
end Go.Proofs.Ytehbfajmileefaa.Px
