import Derived.Test.YtehbfajmileefaaVm
namespace Go.Proofs.Ytehbfajmileefaa.Vx
open Go.RowKit
set_option linter.unusedVariables false
set_option linter.unusedSimpArgs false
section
variable {P : Program} {σ : Env} {ρ : Rho} {w : World} {base : Nat → Prop} {nx : Nat} {H : Hp} {F : Fr} {a : Act} {funs : List (FuncId × Func)}
def FT : List Oper → List Rec → Fr → Nat → Fr
  | o :: l, r :: rs, F, k + 1 => FT l rs (setF F o.dst r.v) k
  | _, _, F, _ => F
def HT : List Rec → Hp → Nat → Hp
  | r :: rs, H, k + 1 => HT rs (r.put H) k
  | _, H, _ => H
theorem setF_len (F : Fr) (d : Option Tmp) (v : V) : (setF F d v).n = F.n := by cases d <;> simp [setF, Fr.set_n]
theorem FT_len : ∀ (l : List Oper) (rs : List Rec) (F : Fr) (k : Nat), (FT l rs F k).n = F.n
  | [], rs, F, k => by simp [FT]
  | o :: l, [], F, k => by simp [FT]
  | o :: l, r :: rs, F, 0 => by simp [FT]
  | o :: l, r :: rs, F, k + 1 => by simp only [FT]; rw [FT_len, setF_len]
theorem FT_keep : ∀ (l : List Oper) (rs : List Rec) (F : Fr) (k t : Nat), (∀ i o, i < k → l[i]? = some o → o.dst ≠ some t) → (FT l rs F k).get t = F.get t
  | [], rs, F, k, t, _ => by simp [FT]
  | o :: l, [], F, k, t, _ => by simp [FT]
  | o :: l, r :: rs, F, 0, t, _ => by simp [FT]
  | o :: l, r :: rs, F, k + 1, t, h => by
    simp only [FT]
    rw [FT_keep l rs _ k t (fun i o' hi ho => h (i + 1) o' (by omega) (by simpa using ho))]
    have := h 0 o (by omega) rfl
    cases hd : o.dst with
    | none => simp [setF]
    | some d =>
      have hne : d ≠ t := fun e => this (by rw [hd, e])
      simp [setF, Fr.get_set, Ne.symm hne]
theorem FT_new : ∀ (l : List Oper) (rs : List Rec) (F : Fr) (k t i : Nat) (o : Oper) (r : Rec), l.length = rs.length → i < k → l[i]? = some o → rs[i]? = some r → o.dst = some t → t < F.n →
    (∀ j o', l[j]? = some o' → o'.dst = some t → j = i) → (FT l rs F k).get t = some r.v
  | [], rs, F, k, t, i, o, r, hl, hi, ho, _, _, _, _ => by simp at ho
  | o0 :: l, [], F, k, t, i, o, r, hl, hi, ho, _, _, _, _ => by simp at hl
  | o0 :: l, r0 :: rs, F, 0, t, i, o, r, hl, hi, ho, _, _, _, _ => by omega
  | o0 :: l, r0 :: rs, F, k + 1, t, i, o, r, hl, hi, ho, hr, hd, ht, hu => by
    simp only [FT]
    cases i with
    | zero =>
      simp at ho hr
      subst ho; subst hr
      rw [FT_keep l rs _ k t (fun j o' hj ho' hd' => by have := hu (j + 1) o' (by simpa using ho') hd'; omega), hd]
      simp [setF, Fr.get_set, ht]
    | succ i =>
      simp at ho hr
      exact FT_new l rs _ k t i o r (by simpa using hl) (by omega) ho hr hd (by rw [setF_len]; exact ht) (fun j o' hj hd' => by have := hu (j + 1) o' (by simpa using hj) hd'; omega)
theorem put_none' {r : Rec} {id : Nat} (h : id ∉ r.wids) : look (r.put H) id = look H id := by
  unfold Rec.put
  rw [look_putW]
  cases hw : lookW r.wr id with
  | none => rfl
  | some ob => exact absurd (lookW_in hw) h
theorem put_some {r : Rec} {id : Nat} {b : Option Blk} (h : lookW r.wr id = some b) : look (r.put H) id = b := by
  unfold Rec.put
  rw [look_putW, h]
theorem HT_keep : ∀ (rs : List Rec) (H : Hp) (k id : Nat), (∀ i r, i < k → rs[i]? = some r → id ∉ r.wids) → look (HT rs H k) id = look H id
  | [], H, k, id, _ => by simp [HT]
  | r :: rs, H, 0, id, _ => by simp [HT]
  | r :: rs, H, k + 1, id, h => by
    simp only [HT]
    rw [HT_keep rs _ k id (fun i r' hi hr => h (i + 1) r' (by omega) (by simpa using hr))]
    exact put_none' (h 0 r (by omega) rfl)
theorem HT_new : ∀ (rs : List Rec) (H : Hp) (k id i : Nat) (r : Rec) (b : Option Blk), i < k → rs[i]? = some r → lookW r.wr id = some b → (∀ j r', j < k → rs[j]? = some r' → id ∈ r'.wids → j ≤ i) → look (HT rs H k) id = b
  | [], H, k, id, i, r, b, _, h, _, _ => by simp at h
  | r0 :: rs, H, 0, id, i, r, b, h, _, _, _ => by omega
  | r0 :: rs, H, k + 1, id, i, r, b, hi, hr, hw, hu => by
    simp only [HT]
    cases i with
    | zero =>
      simp at hr
      subst hr
      rw [HT_keep rs _ k id (fun j r' hj hr' hd => by have := hu (j + 1) r' (by omega) (by simpa using hr') hd; omega)]
      exact put_some hw
    | succ i =>
      simp at hr
      exact HT_new rs _ k id i r b (by omega) hr hw (fun j r' hj hr' hd => by have := hu (j + 1) r' (by omega) (by simpa using hr') hd; omega)
theorem badF_get : ∀ (ds : List (Option Tmp)) (F : Fr) (t : Nat) (v : V), (badF F ds).get t = some v → v = .bad ∨ (F.get t = some v ∧ some t ∉ ds)
  | [], F, t, v, h => .inr ⟨h, by simp⟩
  | none :: l, F, t, v, h => by
    rcases badF_get l F t v h with h | ⟨h1, h2⟩
    · exact .inl h
    · exact .inr ⟨h1, by simpa using h2⟩
  | some d :: l, F, t, v, h => by
    simp only [badF, setF_eq'] at h
    rcases badF_get l _ t v h with h | ⟨h1, h2⟩
    · exact .inl h
    · by_cases e : d = t
      · subst e
        rw [Fr.get_set] at h1
        split at h1
        · simp at h1; exact .inl h1.symm
        · rename_i hn
          exact absurd ⟨rfl, Fr.lt_of_get h1⟩ hn
      · rw [Fr.get_set, if_neg (fun h => e h.1.symm)] at h1
        exact .inr ⟨h1, by simp [Ne.symm e, h2]⟩
theorem delA_look : ∀ (is : List Nat) (H : Hp) (id : Nat) (b : Blk), look (delA H is) id = some b → look H id = some b ∧ id ∉ is
  | [], H, id, b, h => ⟨h, by simp⟩
  | d :: l, H, id, b, h => by
    obtain ⟨h1, h2⟩ := delA_look l _ id b h
    rw [look_del] at h1
    split at h1
    · simp at h1
    · rename_i e
      exact ⟨h1, by simp [Ne.symm e, h2]⟩
theorem delL_look : ∀ (is : List (List Nat)) (H : Hp) (id : Nat) (b : Blk), look (delL H is) id = some b → look H id = some b ∧ ∀ l ∈ is, id ∉ l
  | [], H, id, b, h => ⟨h, by simp⟩
  | d :: l, H, id, b, h => by
    obtain ⟨h1, h2⟩ := delL_look l _ id b h
    obtain ⟨h3, h4⟩ := delA_look d H id b h1
    refine ⟨h3, fun m hm => ?_⟩
    simp only [List.mem_cons] at hm
    rcases hm with rfl | hm
    · exact h4
    · exact h2 m hm
def kcAt : Nat → List Rec → Nat → Nat
  | _, r :: rs, i + 1 => kcAt r.e rs i
  | k, _, _ => k
theorem goD_spec {rc : RecF} {un : Nat → List Nat} {dsts : List (Option Tmp)} {wids : List (List Nat)} : ∀ {l : List Oper} {i kc : Nat} {F : Fr} {H : Hp} {q : List Rec × Vcs × Fr × Hp × Nat}, goD rc un dsts wids l i kc F H = some q →
    q.1.length = l.length ∧ q.2.2.1 = FT l q.1 F l.length ∧ q.2.2.2.1 = HT q.1 H l.length ∧ q.2.2.2.2 = kcAt kc q.1 l.length ∧
    ∀ k o, l[k]? = some o → ∃ r vk, q.1[k]? = some r ∧ rc (i + k) (kcAt kc q.1 k) o (badF (FT l q.1 F k) ((un (i + k)).map fun j => dsts.getD j none)) (delL (HT q.1 H k) ((un (i + k)).map fun j => wids.getD j [])) = some (r, vk) ∧ (VOk σ q.2.1 → VOk σ vk) ∧
      r.wids = wids.getD (i + k) [] ∧ (kcAt kc q.1 k ≤ r.e ∧ kcAt kc q.1 (k + 1) = r.e) ∧ ∀ j ∈ un (i + k), ∀ id, id ∈ wids.getD j [] → id ∉ r.wids
  | [], i, kc, F, H, q, h => by simp [goD] at h; subst h; simp [FT, HT, kcAt]
  | o :: l, i, kc, F, H, q, h => by
    simp only [goD, setFF_eq, Option.bind_eq_some_iff] at h
    obtain ⟨r, hr, h⟩ := h
    split at h
    · rename_i hcc
      simp only [Option.map_eq_some_iff] at h
      obtain ⟨q', hq', rfl⟩ := h
      obtain ⟨g1, g2, g3, g0, g4⟩ := goD_spec hq'
      refine ⟨by simp [g1], by simpa [FT] using g2, by simpa [HT] using g3, by simpa [kcAt] using g0, fun k o' hk => ?_⟩
      cases k with
      | zero =>
        simp at hk
        subst hk
        refine ⟨r.1, r.2, rfl, by simpa [FT, HT, kcAt] using hr, fun hv => hv.app.1, hcc.1, ⟨by simpa [kcAt] using hcc.2.1, by simp [kcAt]⟩, fun j hj id hid => ?_⟩
        have := List.all_eq_true.1 (List.all_eq_true.1 hcc.2.2 j hj) id hid
        simpa using this
      | succ k =>
        simp at hk
        obtain ⟨r', vk, e1, e2, e3, e4, e6, e5⟩ := g4 k o' hk
        refine ⟨r', vk, by simpa using e1, ?_, fun hv => e3 hv.app.2, by rw [e4]; congr 1; omega, by simpa [kcAt] using e6, fun j hj id hid => e5 j (by rw [show i + 1 + k = i + (k + 1) by omega]; exact hj) id hid⟩
        rw [show i + 1 + k = i + (k + 1) by omega] at e2
        simpa [FT, HT, kcAt] using e2
    · simp at h
theorem maxOf (p : Nat → Prop) : ∀ n, (∀ i, i < n → ¬ p i) ∨ ∃ i, i < n ∧ p i ∧ ∀ j, j < n → p j → j ≤ i
  | 0 => .inl (by omega)
  | n + 1 => by
    by_cases h : p n
    · exact .inr ⟨n, by omega, h, fun j hj _ => by omega⟩
    · rcases maxOf p n with g | ⟨i, g1, g2, g3⟩
      · exact .inl fun i hi hp => by
          by_cases e : i = n
          · subst e; exact h hp
          · exact g i (by omega) hp
      · exact .inr ⟨i, by omega, g2, fun j hj hp => by
          by_cases e : j = n
          · subst e; exact absurd hp h
          · exact g3 j (by omega) hp⟩
theorem nodupB_ok : ∀ {l : List (Option Tmp)}, nodupB l = true → ∀ (i j t : Nat), l[i]? = some (some t) → l[j]? = some (some t) → i = j
  | [], _, i, j, t, h, _ => by simp at h
  | none :: l, hn, i, j, t, hi, hj => by
    simp only [nodupB] at hn
    cases i with
    | zero => simp at hi
    | succ i =>
      cases j with
      | zero => simp at hj
      | succ j => simp at hi hj; rw [nodupB_ok hn i j t hi hj]
  | some d :: l, hn, i, j, t, hi, hj => by
    simp only [nodupB, Bool.and_eq_true, Bool.not_eq_true'] at hn
    cases i with
    | zero =>
      cases j with
      | zero => rfl
      | succ j =>
        simp at hi hj
        subst hi
        have := List.mem_of_getElem? hj
        have hc : l.contains (some d) = true := by simpa using this
        rw [hc] at hn
        simp at hn
    | succ i =>
      cases j with
      | zero =>
        simp at hi hj
        subst hj
        have := List.mem_of_getElem? hi
        have hc : l.contains (some d) = true := by simpa using this
        rw [hc] at hn
        simp at hn
      | succ j => simp at hi hj; rw [nodupB_ok hn.2 i j t hi hj]
end
end Go.Proofs.Ytehbfajmileefaa.Vx
