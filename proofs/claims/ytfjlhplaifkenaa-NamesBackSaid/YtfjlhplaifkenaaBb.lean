/-
  Texts that are put together of names and marks, and taken apart again: contracts.
-/
import Derived.Test.YtfjlhplaifkenaaBa
namespace Go.Proofs.Ytfjlhplaifkenaa
open Go.Proofs.Ytfjlhplaifkenaa.Vx Go.RowKit
set_option maxRecDepth 100000
set_option linter.unusedVariables false
set_option linter.unusedSimpArgs false
theorem ba_ext {a b : ByteArray} (h : a.data.toList = b.data.toList) : a = b := by
  cases a; cases b
  congr
  exact Array.toList_inj.1 h
def emptyT : T → Bool
  | .str s => Nat.beq s.data.toList.length 0
  | _ => false
def catE (a b : T) : T := match emptyT a with
  | true => b
  | false => catT a b
def bs (l : List ByteArray) (t : T) : List UInt8 := (T.s (envN l) t).data.toList
theorem bs_cat (l : List ByteArray) (a b : T) : bs l (.cat a b) = bs l a ++ bs l b := by simp [bs, T.s]
theorem bs_catE (l : List ByteArray) (a b : T) : bs l (catE a b) = bs l a ++ bs l b := by
  unfold catE
  cases h : emptyT a
  · simp [bs, catT_s]
  · cases a <;> simp [emptyT] at h
    rename_i s
    simp [bs, T.s, h]
def cutT (c : Nat) : T → Option (T × Option T)
  | .svar i => some (.svar i, none)
  | .str s => match decide (s.data.toList = [c.toUInt8]) with
    | true => some (.str ByteArray.empty, some (.str ByteArray.empty))
    | false => match s.data.toList.contains c.toUInt8 with
      | true => none
      | false => some (.str s, none)
  | .cat a b => (cutT c a).bind fun p => match p.2 with
    | some tl => some (p.1, some (catE tl b))
    | none => (cutT c b).map fun q => (catE p.1 q.1, q.2)
  | _ => none
def cntT (c : Nat) : T → Option Nat
  | .svar i => some 0
  | .str s => some (s.data.toList.count c.toUInt8)
  | .cat a b => (cntT c a).bind fun m => (cntT c b).map fun n => m + n
  | _ => none
def varsT : T → List T
  | .svar i => [.sfb 1 (.svar i)]
  | .cat a b => varsT a ++ varsT b
  | _ => []
def isM (c : Nat) : Bool := Nat.beq c 58 || Nat.beq c 35
theorem noM_mem {l : List UInt8} (h : noM l = true) {c : Nat} (hc : isM c = true) : c.toUInt8 ∉ l := by
  simp only [noM, Bool.and_eq_true, Bool.not_eq_true', List.contains_eq_mem, decide_eq_false_iff_not] at h
  simp only [isM, Bool.or_eq_true, Nat.beq_eq] at hc
  rcases hc with rfl | rfl
  · exact h.1
  · exact h.2
theorem cutT_ok {l : List ByteArray} {c : Nat} (hc : isM c = true) : ∀ {t : T} {p : T × Option T}, cutT c t = some p → (∀ u ∈ varsT t, T.b (envN l) u = true) →
    match p.2 with
    | none => bs l t = bs l p.1 ∧ c.toUInt8 ∉ bs l t
    | some tl => bs l t = bs l p.1 ++ c.toUInt8 :: bs l tl ∧ c.toUInt8 ∉ bs l p.1
  | .svar i, p, h, hv => by
    simp only [cutT, Option.some.injEq] at h
    subst h
    have := hv (.sfb 1 (.svar i)) (List.mem_singleton.2 rfl)
    exact ⟨rfl, noM_mem this hc⟩
  | .str s, p, h, hv => by
    simp only [cutT] at h
    split at h
    · rename_i hd
      simp only [Option.some.injEq] at h
      subst h
      have hd := of_decide_eq_true hd
      exact ⟨by simp [bs, T.s, hd], by simp [bs, T.s]⟩
    · split at h
      · simp at h
      · rename_i hn
        simp only [Option.some.injEq] at h
        subst h
        exact ⟨rfl, by simpa [bs, T.s] using hn⟩
  | .cat a b, p, h, hv => by
    simp only [cutT, Option.bind_eq_some_iff] at h
    obtain ⟨q, hq, h⟩ := h
    have h1 := cutT_ok hc hq (fun u hu => hv u (by simp only [varsT, List.mem_append]; exact .inl hu))
    split at h
    · rename_i tl htl
      simp only [Option.some.injEq] at h
      subst h
      rw [htl] at h1
      obtain ⟨h1, h2⟩ := h1
      refine ⟨?_, h2⟩
      simp only [bs_cat, bs_catE, h1]
      simp
    · rename_i hn
      simp only [Option.map_eq_some_iff] at h
      obtain ⟨r, hr, rfl⟩ := h
      have h3 := cutT_ok hc hr (fun u hu => hv u (by simp only [varsT, List.mem_append]; exact .inr hu))
      rw [hn] at h1
      obtain ⟨h1, h2⟩ := h1
      cases h4 : r.2 with
      | none =>
        rw [h4] at h3
        simp only
        simp only [h4, bs_cat, bs_catE]
        exact ⟨by rw [h1, h3.1], by rw [List.mem_append]; exact fun h => h.elim h2 h3.2⟩
      | some tl =>
        rw [h4] at h3
        simp only
        simp only [h4, bs_cat, bs_catE]
        refine ⟨by rw [h1, h3.1]; simp, ?_⟩
        rw [List.mem_append]
        exact fun h => h.elim (by rw [← h1]; exact h2) h3.2
theorem cntT_ok {l : List ByteArray} {c : Nat} (hc : isM c = true) : ∀ {t : T} {n : Nat}, cntT c t = some n → (∀ u ∈ varsT t, T.b (envN l) u = true) → (bs l t).count c.toUInt8 = n
  | .svar i, n, h, hv => by
    simp only [cntT, Option.some.injEq] at h
    subst h
    have := hv (.sfb 1 (.svar i)) (List.mem_singleton.2 rfl)
    exact List.count_eq_zero.2 (noM_mem this hc)
  | .str s, n, h, hv => by
    simp only [cntT, Option.some.injEq] at h
    subst h
    rfl
  | .cat a b, n, h, hv => by
    simp only [cntT, Option.bind_eq_some_iff, Option.map_eq_some_iff] at h
    obtain ⟨m, hm, k, hk, rfl⟩ := h
    rw [bs_cat, List.count_append, cntT_ok hc hm (fun u hu => hv u (by simp only [varsT, List.mem_append]; exact .inl hu)), cntT_ok hc hk (fun u hu => hv u (by simp only [varsT, List.mem_append]; exact .inr hu))]
theorem idx_at : ∀ (h m : List UInt8) (c : UInt8), c ∉ h → Lib.indexByte (h ++ c :: m) c = h.length
  | [], m, c, _ => by simp [Lib.indexByte]
  | x :: h, m, c, hn => by
    simp only [List.mem_cons, not_or] at hn
    rw [List.cons_append, Lib.indexByte, idx_at h m c hn.2]
    have : (x == c) = false := by simpa using fun e => hn.1 e.symm
    rw [this]
    simp
theorem idx_no : ∀ (h : List UInt8) (c : UInt8), c ∉ h → Lib.indexByte h c = -1
  | [], c, _ => by simp [Lib.indexByte]
  | x :: h, c, hn => by
    simp only [List.mem_cons, not_or] at hn
    rw [Lib.indexByte, idx_no h c hn.2]
    have : (x == c) = false := by simpa using fun e => hn.1 e.symm
    rw [this]
    simp
theorem ext_list (s : ByteArray) (i j : Nat) : (s.extract i j).data.toList = (s.data.toList.drop i).take (j - i) := by
  rw [ByteArray.data_extract, Array.toList_extract, List.extract_eq_take_drop]
theorem cutR_at {s h m : ByteArray} {c : Nat} (e : s.data.toList = h.data.toList ++ c.toUInt8 :: m.data.toList) (hn : c.toUInt8 ∉ h.data.toList) : cutR s c = .tuple #[.string h, .string m, .bool true] := by
  have hi : T.i (envS s) (ixC c) = h.data.toList.length := by
    have : T.i (envS s) (ixC c) = Lib.indexByte s.data.toList c.toUInt8 := by simp [ixC, T.i, T.s, envS, envN]
    rw [this, e, idx_at _ _ _ hn]
  have hb : T.b (envS s) (.le (.int 0) (ixC c)) = true := by rw [le_t, hi]; simp only [T.i]; omega
  have hsz : s.size = h.data.toList.length + 1 + m.data.toList.length := by
    have : s.data.toList.length = s.size := by simp
    rw [← this, e]; simp only [List.length_append, List.length_cons]; omega
  have e0 : ∀ a b, T.s (envS s) (.ext (.svar 0) a b) = s.extract (T.i (envS s) a).toNat (T.i (envS s) b).toNat := fun a b => by simp only [T.s]; rfl
  have h1 : T.s (envS s) (hdC c) = h := by
    rw [hdC, ite_t hb, e0, hi]
    apply ba_ext
    rw [ext_list, e]
    have : (T.i (envS s) (.int 0)).toNat = 0 := by simp only [T.i]; rfl
    rw [this]
    simp
  have h2 : T.s (envS s) (tlC c) = m := by
    have k1 : (T.i (envS s) (.add (ixC c) (.int 1))).toNat = h.data.toList.length + 1 := by
      have : T.i (envS s) (.add (ixC c) (.int 1)) = T.i (envS s) (ixC c) + 1 := by simp only [T.i]
      rw [this, hi]; omega
    have k2 : (T.i (envS s) (.len (.svar 0))).toNat = s.size := by
      have : T.i (envS s) (.len (.svar 0)) = s.size := by simp only [T.i, T.s]; rfl
      rw [this]; omega
    rw [tlC, ite_t hb, e0, k1, k2]
    apply ba_ext
    rw [ext_list, hsz]
    have : s.data.toList.drop (h.data.toList.length + 1) = m.data.toList := by
      rw [e, List.drop_append]
      simp
    rw [this]
    exact List.take_of_length_le (by omega)
  rw [cutR, h1, h2, hb]
theorem cutR_no {s : ByteArray} {c : Nat} (hn : c.toUInt8 ∉ s.data.toList) : cutR s c = .tuple #[.string s, .string ByteArray.empty, .bool false] := by
  have hi : T.i (envS s) (ixC c) = -1 := by
    have : T.i (envS s) (ixC c) = Lib.indexByte s.data.toList c.toUInt8 := by simp [ixC, T.i, T.s, envS, envN]
    rw [this, idx_no _ _ hn]
  have hb : T.b (envS s) (.le (.int 0) (ixC c)) = false := by
    rw [Bool.eq_false_iff]
    intro h
    rw [le_t, hi] at h
    simp only [T.i] at h
    omega
  have h1 : T.s (envS s) (hdC c) = s := by rw [hdC, ite_f hb]; simp only [T.s]; rfl
  have h2 : T.s (envS s) (tlC c) = ByteArray.empty := by rw [tlC, ite_f hb]; simp only [T.s]; rfl
  rw [cutR, h1, h2, hb]
end Go.Proofs.Ytfjlhplaifkenaa
