import Derived.Test.YtehbfajmileefaaZi
namespace Go.Proofs.Ytehbfajmileefaa.Px
open Go.RowKit Go.Proofs.Ytehbfajmileefaa.Vx Go.Proofs.Ytehbfajmileefaa.Fx
set_option linter.unusedVariables false
set_option linter.unusedSimpArgs false
set_option maxRecDepth 10000
structure DV where
  o : VO
  s : S
  k : Nat
  d : Option Tmp
  ad : Option G
  mc : Bool
  ck : Option (Option G × List Nat)
noncomputable def DV.den (o : DV) : DOp := ⟨o.o.den o.s, o.k, o.d, o.ad, o.mc, o.ck⟩
open Classical in
noncomputable def chk (c : Prop) (k : CX) : CX := if c then k else .no
noncomputable def drawK (cl : Cl) (n0 : Nat) : List DV → List (Nat × X) → (F8 → Mm → CX) → F8 → Mm → CX
  | [], _, kn => kn
  | o :: l, rd, kn => fun F M => chk (oldX n0 F o.ad) (o.o.val cl F M fun y M1 => chk (Pst o.d.isSome o.mc (valX o.d (o.s y F)) M M1 (ckX rd F o.ck)) (drawK cl n0 l (rdX rd o.k F o.ad) kn (o.s y F) M1))
theorem draw_sem (cl : Cl) (n0 : Nat) {kn : F8 → Mm → CX} {ke : Nat → F8 → Mm → CX} {kr : F8 → Mm → CX} : ∀ (l : List DV), (l.all fun o => o.o.ok) = true → ∀ (rd : List (Nat × X)) (F : F8) (M : Mm), bd (seqD cl n0 (l.map DV.den) rd F M) kn ke kr = drawK cl n0 l rd kn F M
  | [], _, rd, F, M => rfl
  | o :: l, h, rd, F, M => by
    simp only [List.all_cons, Bool.and_eq_true] at h
    simp only [List.map_cons, seqD, drawK, chk, DV.den]
    by_cases h1 : oldX n0 F o.ad
    · rw [if_pos h1, if_pos h1]
      let kn' : F8 → Mm → CX := fun F1 M1 => bd (open Classical in if Pst o.d.isSome o.mc (valX o.d F1) M M1 (ckX rd F o.ck) then seqD cl n0 (l.map DV.den) (rdX rd o.k F o.ad) F1 M1 else .no) kn ke kr
      have h2 := vo_ok cl (kn := kn') (ke := fun _ _ _ => .no) (kr := fun _ _ => .no) o.o o.s h.1 .nrm F M
      have h3 : bd (match o.o.den o.s cl .nrm F M with
          | .nrm F1 M1 => open Classical in if Pst o.d.isSome o.mc (valX o.d F1) M M1 (ckX rd F o.ck) then seqD cl n0 (l.map DV.den) (rdX rd o.k F o.ad) F1 M1 else .no
          | _ => .no) kn ke kr = bd (o.o.den o.s cl .nrm F M) kn' (fun _ _ _ => .no) (fun _ _ => .no) := by
        cases o.o.den o.s cl .nrm F M <;> rfl
      refine h3.trans (h2.trans ?_)
      congr 1
      funext y M1
      show kn' (o.s y F) M1 = _
      simp only [kn']
      by_cases h4 : Pst o.d.isSome o.mc (valX o.d (o.s y F)) M M1 (ckX rd F o.ck)
      · rw [if_pos h4, if_pos h4]
        exact draw_sem cl n0 l h.2 _ _ _
      · rw [if_neg h4, if_neg h4]; rfl
    · rw [if_neg h1, if_neg h1]; rfl
inductive CT where
  | ops (l : List (VO × S))
  | seq (a b : CT)
  | cond (g : G) (a b : CT)
  | block (id : Nat) (a : CT)
  | loop (a : CT)
  | exit (id : Nat)
  | ret
  | skip
  | draw (l : List DV)
noncomputable def CT.den : CT → CF
  | .ops l => cOps (l.map fun o => o.1.den o.2)
  | .seq a b => cSeq a.den b.den
  | .cond g a b => cCond g a.den b.den
  | .block id a => cBlock id a.den
  | .loop a => cLoop a.den
  | .exit id => cExit id
  | .ret => cRet
  | .skip => cSkip
  | .draw l => cSeqD (l.map DV.den)
def CT.ok : CT → Bool
  | .ops l => l.all fun o => o.1.ok
  | .seq a b => a.ok && b.ok
  | .cond _ a b => a.ok && b.ok
  | .block _ a => a.ok
  | .loop a => a.ok
  | .draw l => l.all fun o => o.o.ok
  | _ => true
noncomputable def exB (id : Nat) (kn : F8 → Mm → CX) (ke : Nat → F8 → Mm → CX) : Nat → F8 → Mm → CX := fun j => Bool.rec (motive := fun _ => F8 → Mm → CX) (ke j) kn (Nat.beq j id)
noncomputable def loopK (b : (F8 → Mm → CX) → F8 → Mm → CX) : Nat → F8 → Mm → CX
  | 0 => fun _ _ => .no
  | j + 1 => b (loopK b j)
noncomputable def semK (cl : Cl) (m : Nat) : CT → (F8 → Mm → CX) → (Nat → F8 → Mm → CX) → (F8 → Mm → CX) → F8 → Mm → CX
  | .ops l, kn, ke, kr => opsK cl l kn
  | .seq a b, kn, ke, kr => semK cl m a (semK cl m b kn ke kr) ke kr
  | .cond g a b, kn, ke, kr => fun F M => vIf (g F) (semK cl m a kn ke kr F M) (semK cl m b kn ke kr F M)
  | .block id a, kn, ke, kr => semK cl m a kn (exB id kn ke) kr
  | .loop a, kn, ke, kr => loopK (fun q => semK cl m a q ke kr) m
  | .exit id, kn, ke, kr => ke id
  | .ret, kn, ke, kr => kr
  | .skip, kn, ke, kr => kn
  | .draw l, kn, ke, kr => fun F M => drawK cl M.nx l [] kn F M
theorem den_sem (cl : Cl) (m : Nat) : ∀ (t : CT), t.ok = true → ∀ (kn : F8 → Mm → CX) (ke : Nat → F8 → Mm → CX) (kr : F8 → Mm → CX) (F : F8) (M : Mm), bd (t.den cl m F M) kn ke kr = semK cl m t kn ke kr F M
  | .ops l, h, kn, ke, kr, F, M => ops_sem cl m l h F M
  | .seq a b, h, kn, ke, kr, F, M => by
    simp only [CT.ok, Bool.and_eq_true] at h
    simp only [CT.den, semK]
    rw [bd_seq, den_sem cl m a h.1]
    congr 1
    funext F M
    exact den_sem cl m b h.2 _ _ _ F M
  | .cond g a b, h, kn, ke, kr, F, M => by
    simp only [CT.ok, Bool.and_eq_true] at h
    simp only [CT.den, semK, cCond, bd_caseB, bd_ifB, den_sem cl m a h.1, den_sem cl m b h.2]
    cases g F <;> rfl
  | .block id a, h, kn, ke, kr, F, M => by
    simp only [CT.den, semK]
    rw [← den_sem cl m a h, cBlock_eq]
    cases a.den cl m F M with
    | ext j F' M' =>
      simp only [bd, exB]
      cases Nat.beq j id <;> rfl
    | _ => rfl
  | .loop a, h, kn, ke, kr, F, M => by
    simp only [CT.den, semK]
    rw [cLoop_eq]
    suffices ∀ j F M, bd (loopR a.den cl m j F M) kn ke kr = loopK (fun q => semK cl m a q ke kr) j F M from this m F M
    intro j
    induction j with
    | zero => intro F M; rfl
    | succ j ih =>
      intro F M
      simp only [loopK]
      rw [← den_sem cl m a h]
      simp only [loopR]
      cases a.den cl m F M with
      | nrm F' M' => exact ih F' M'
      | _ => rfl
  | .exit id, h, kn, ke, kr, F, M => rfl
  | .ret, h, kn, ke, kr, F, M => rfl
  | .skip, h, kn, ke, kr, F, M => rfl
  | .draw l, h, kn, ke, kr, F, M => draw_sem cl M.nx l h [] F M
theorem call_sem (P : Program) (t : TT) (kn : Nat → Bool) (n m f : Nat) (args : List X) (M : Mm) {ff : FF} {ct : CT} {F0 : F8} (hk : kn f = false) (h1 : t.get f = some ff) (h2 : ff.body = ct.den) (h3 : ct.ok = true) (h4 : fillX ff.ent args = some F0) :
    callX P t kn (n + 1) m f args M = semK (callX P t kn n m) m ct (fun F M' => finD P t m (callX P t kn n m) M.nx (gT 511 F) (rsX ff.res F) M') (fun _ _ _ => .no) (fun F M' => finD P t m (callX P t kn n m) M.nx (gT 511 F) (rsX ff.res F) M') F0 ⟨M.H, M.nx, M.nx⟩ := by
  have e : callX P t kn (n + 1) m f args M = Bool.rec (motive := fun _ => CX) (bodyX t m (callX P t kn n m) f args M (finX P t m (callX P t kn n m))) (List.rec (motive := fun _ => CX) (.val (.b true) M) (fun _ _ _ => .no) args) (kn f) := rfl
  rw [e, hk]
  simp only [bodyX, h1]
  obtain ⟨body, ent, res⟩ := ff
  simp only at h2 h4
  simp only [h4]
  obtain ⟨H, nx, lw⟩ := M
  simp only [rxC, h2, finD_eq]
  exact den_sem _ m ct h3 _ _ _ F0 ⟨H, nx, nx⟩
end Go.Proofs.Ytehbfajmileefaa.Px
