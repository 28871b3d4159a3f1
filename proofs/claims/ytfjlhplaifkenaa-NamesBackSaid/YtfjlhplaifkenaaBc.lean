/-
  The contracts of strings.Cut, strings.Count and strings.Contains at texts that are put together.
-/
import Derived.Test.YtfjlhplaifkenaaBb
namespace Go.Proofs.Ytfjlhplaifkenaa
open Go.Proofs.Ytfjlhplaifkenaa.Vx Go.RowKit
set_option maxRecDepth 100000
set_option linter.unusedVariables false
set_option linter.unusedSimpArgs false
def markOf (m : ByteArray) : Option Nat := match m.data.toList with
  | [b] => if isM b.toNat then some b.toNat else none
  | _ => none
theorem markOf_some {m : ByteArray} {c : Nat} (h : markOf m = some c) : m = mk1 c ∧ isM c = true := by
  unfold markOf at h
  split at h
  · rename_i b hb
    split at h
    · rename_i hm
      simp only [Option.some.injEq] at h
      subst h
      refine ⟨ba_ext ?_, hm⟩
      rw [hb]
      simp [mk1]
    · simp at h
  · simp at h
theorem isM_or {c : Nat} (h : isM c = true) : c = 58 ∨ c = 35 := by simpa [isM] using h
def big : T := .int 1000000000
def cutV (c : Nat) (t : T) : Option (V × List T × List T) := (cutT c t).map fun p => (match p.2 with
  | some tl => .tup [.str p.1, .str tl, .bool (.bool true)]
  | none => .tup [.str t, .str (.str ByteArray.empty), .bool (.bool false)], .le (mkLen t) big :: varsT t, [])
def ctrCut (f : FuncId) : Ctr := ⟨f, fun l => match l with
  | [.str t, .str (.str m)] => (markOf m).bind fun c => cutV c t
  | _ => none⟩
def ctrCnt (f : FuncId) : Ctr := ⟨f, fun l => match l with
  | [.str t, .str (.str m)] => (markOf m).bind fun c => (cntT c t).map fun (n : Nat) => (.int .i64 (.int (n : Int)), varsT t, [])
  | _ => none⟩
def ctrCon (f : FuncId) : Ctr := ⟨f, fun l => match l with
  | [.str t, .str (.str m)] => (markOf m).bind fun c => if Nat.beq c 35 then (cutT c t).map fun p => (.bool (.bool p.2.isSome), varsT t, []) else none
  | _ => none⟩
theorem cutOk {l : List ByteArray} {cs : List Ctr} (h : CtrsOk Try.prog (envN l) cs) : CtrsOk Try.prog (envN l) (ctrCut 38 :: cs) := .cons (fun args v conds fs xs x ρ h hv hx hd => by
  simp only [ctrCut] at h
  split at h
  · rename_i t m
    simp only [Option.bind_eq_some_iff, cutV, Option.map_eq_some_iff] at h
    obtain ⟨c, hc, p, hp, h⟩ := h
    obtain ⟨rfl, hm⟩ := markOf_some hc
    simp only [Prod.mk.injEq] at h
    obtain ⟨rfl, rfl, rfl⟩ := h
    have hlen := hv _ List.mem_cons_self
    rw [le_t, mkLen_i] at hlen
    have hlen : (T.s (envN l) t).size ≤ 1000000000 := by simp only [big, T.i] at hlen; omega
    have hok := cutT_ok hm hp (fun u hu => hv u (List.mem_cons_of_mem _ hu))
    have key : ∀ w, Calls Try.prog 38 #[.string (T.s (envN l) t), .string (mk1 c)] w fun e w' => e = .returned (cutR (T.s (envN l) t) c) ∧ Below w.heap.size w w' := fun w => by
      rcases isM_or hm with rfl | rfl
      · exact cut58_any _ hlen w
      · exact cut35_any _ hlen w
    simp only [denL, den, Option.map_some, Option.bind_some, Option.some.injEq, T.s] at hx
    subst hx
    refine ⟨fun t ht => by simp at ht, fun w => ?_⟩
    have hx2 : x = cutR (T.s (envN l) t) c := by
      cases h2 : p.2 with
      | none =>
        rw [h2] at hok
        simp only [h2, denL, den, Option.map_some, Option.bind_some, Option.some.injEq, T.s, T.b] at hd
        rw [cutR_no hok.2, ← hd]
      | some tl =>
        rw [h2] at hok
        simp only [h2, denL, den, Option.map_some, Option.bind_some, Option.some.injEq, T.s, T.b] at hd
        rw [cutR_at hok.1 hok.2, ← hd]
    rw [hx2]
    exact key w
  · simp at h) h
theorem cntOk {l : List ByteArray} {cs : List Ctr} (h : CtrsOk Try.prog (envN l) cs) : CtrsOk Try.prog (envN l) (ctrCnt 39 :: cs) := .cons (fun args v conds fs xs x ρ h hv hx hd => by
  simp only [ctrCnt] at h
  split at h
  · rename_i t m
    simp only [Option.bind_eq_some_iff, Option.map_eq_some_iff] at h
    obtain ⟨c, hc, n, hn, h⟩ := h
    obtain ⟨rfl, hm⟩ := markOf_some hc
    simp only [Prod.mk.injEq] at h
    obtain ⟨rfl, rfl, rfl⟩ := h
    have hok := cntT_ok hm hn hv
    have key : ∀ w, Calls Try.prog 39 #[.string (T.s (envN l) t), .string (mk1 c)] w fun e w' => e = .returned (cntR (T.s (envN l) t) c) ∧ Below w.heap.size w w' := fun w => by
      rcases isM_or hm with rfl | rfl
      · exact count58_any _ w
      · exact count35_any _ w
    simp only [denL, den, Option.map_some, Option.bind_some, Option.some.injEq, T.s] at hx hd
    subst hx
    refine ⟨fun t ht => by simp at ht, fun w => ?_⟩
    have hx2 : x = cntR (T.s (envN l) t) c := by
      rw [← hd, cntR]
      have e : T.i (envS (T.s (envN l) t)) (.cnt (.svar 0) (.int c)) = ((bs l t).count c.toUInt8 : Nat) := by simp only [T.i, T.s, Int.toNat_natCast, Lib.countByte]; rfl
      rw [e, hok]
      simp only [T.i]
    rw [hx2]
    exact key w
  · simp at h) h
theorem conOk {l : List ByteArray} {cs : List Ctr} (h : CtrsOk Try.prog (envN l) cs) : CtrsOk Try.prog (envN l) (ctrCon 40 :: cs) := .cons (fun args v conds fs xs x ρ h hv hx hd => by
  simp only [ctrCon] at h
  split at h
  · rename_i t m
    simp only [Option.bind_eq_some_iff] at h
    obtain ⟨c, hc, h⟩ := h
    obtain ⟨rfl, hm⟩ := markOf_some hc
    split at h
    rotate_left
    · simp at h
    rename_i h35
    have h35 : c = 35 := by simpa using h35
    subst h35
    simp only [Option.map_eq_some_iff] at h
    obtain ⟨p, hp, h⟩ := h
    simp only [Prod.mk.injEq] at h
    obtain ⟨rfl, rfl, rfl⟩ := h
    have hok := cutT_ok hm hp hv
    simp only [denL, den, Option.map_some, Option.bind_some, Option.some.injEq, T.s, T.b] at hx hd
    subst hx
    refine ⟨fun t ht => by simp at ht, fun w => ?_⟩
    have hi : T.i (envS (T.s (envN l) t)) (ixC 35) = Lib.indexByte (bs l t) (Nat.toUInt8 35) := by simp only [ixC, T.i, T.s]; rfl
    have hx2 : x = conR (T.s (envN l) t) 35 := by
      rw [← hd, conR]
      congr 1
      symm
      cases h2 : p.2 with
      | none =>
        rw [h2] at hok
        rw [Option.isSome_none, Bool.eq_false_iff]
        intro hh
        rw [le_t, hi, idx_no _ _ hok.2] at hh
        simp only [T.i] at hh
        omega
      | some tl =>
        rw [h2] at hok
        rw [Option.isSome_some, le_t, hi, hok.1, idx_at _ _ _ hok.2]
        simp only [T.i]
        omega
    rw [hx2]
    exact contains35_any _ w
  · simp at h) h
def ctrsB : List Ctr := ctrCut 38 :: ctrCnt 39 :: ctrCon 40 :: ctrsM
theorem ctrsBOk (l : List ByteArray) : CtrsOk Try.prog (envN l) ctrsB := cutOk (cntOk (conOk (ctrsMOk l)))
end Go.Proofs.Ytfjlhplaifkenaa
