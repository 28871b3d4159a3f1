/-
  The table of the functions; a call is its function on values.
-/
import Derived.Test.YtehbfajmileefaaPx1
import Derived.Test.YtehbfajmileefaaPx2
set_option maxRecDepth 100000
set_option linter.unusedVariables false
namespace Go.Proofs.Ytehbfajmileefaa.Px
open Go.RowKit Go.Proofs.Ytehbfajmileefaa.Vx Go.Proofs.Ytehbfajmileefaa.Fx
noncomputable def fp3 : FF := ⟨t3.den, ents, [.tmp 4]⟩
noncomputable def fp4 : FF := ⟨t4.den, ents, [.tmp 6]⟩
noncomputable def fp6 : FF := ⟨t6.den, ents, [.tmp 4]⟩
noncomputable def fp10 : FF := ⟨t10.den, [s0, s1, s2, s3, s4, s5, s6, s7, s8, s9, s10, s11, s12, s13, s14, s15, s16, s17], [.cell 2 24, .tmp 3]⟩
noncomputable def fp11 : FF := ⟨t11.den, ents, [.tmp 2]⟩
noncomputable def fp12 : FF := ⟨t12.den, ents, [.tmp 2]⟩
noncomputable def fp13 : FF := ⟨t13.den, ents, [.tmp 2]⟩
noncomputable def fp14 : FF := ⟨t14.den, ents, [.tmp 4]⟩
noncomputable def fp15 : FF := ⟨t15.den, ents, [.tmp 4]⟩
noncomputable def fp16 : FF := ⟨t16.den, ents, [.cell 4 24, .tmp 5, .tmp 6]⟩
noncomputable def fp17 : FF := ⟨t17.den, ents, [.cell 4 24, .tmp 5, .tmp 6, .tmp 7]⟩
noncomputable def fp18 : FF := ⟨t18.den, ents, [.cell 2 24]⟩
noncomputable def fp19 : FF := ⟨t19.den, ents, [.cell 4 24, .tmp 5, .tmp 6]⟩
noncomputable def fp20 : FF := ⟨t20.den, ents, [.cell 4 24, .tmp 5, .tmp 6]⟩
noncomputable def fp21 : FF := ⟨t21.den, ents, [.tmp 4, .tmp 5]⟩
noncomputable def fp22 : FF := ⟨t22.den, [s0, s1, s2, s3, s4, s5, s6, s7, s8, s9, s10, s11, s12, s13, s14, s15, s16, s17, s18, s19, s20, s21], [.tmp 4]⟩
noncomputable def fp23 : FF := ⟨t23.den, ents, [.tmp 4]⟩
noncomputable def fp26 : FF := ⟨t26.den, [s0, s1, s2, s3, s4, s5, s6, s7, s8, s9, s10, s11, s12, s13, s14, s15, s16, s17, s18, s19], [.tmp 4]⟩
noncomputable def fp30 : FF := ⟨t30.den, [s0, s1, s2, s3, s4, s5, s6, s7, s8, s9, s10, s11, s12], [.tmp 2]⟩
noncomputable def fp31 : FF := ⟨t31.den, [s0, s1, s2, s3, s4, s5, s6, s7, s8], [.tmp 2]⟩
noncomputable def fp32 : FF := ⟨t32.den, [s0, s1, s2, s3, s4, s5, s6, s7], [.tmp 2]⟩
noncomputable def fp33 : FF := ⟨t33.den, [s0, s1, s2, s3, s4, s5, s6, s7, s8, s9, s10, s11, s12, s13, s14], [.tmp 6]⟩
noncomputable def fp34 : FF := ⟨t34.den, [s0, s1, s2, s3, s4, s5, s6, s7, s8], [.tmp 4]⟩
noncomputable def fp36 : FF := ⟨t36.den, [s0, s1, s2, s3, s4, s5, s6, s7, s8], [.tmp 4]⟩
noncomputable def fp37 : FF := ⟨t37.den, [s0, s1, s2, s3, s4, s5], [.tmp 2]⟩
noncomputable def fp38 : FF := ⟨t38.den, [s0, s1, s2, s3, s4, s5, s6, s7, s8, s9, s10, s11, s12, s13, s14, s15, s16, s17, s18], [.tmp 4]⟩
noncomputable def fp39 : FF := ⟨t39.den, [s0, s1, s2, s3, s4, s5, s6, s7, s8, s9, s10, s11, s12, s13, s14, s15, s16, s17, s18], [.tmp 4]⟩
noncomputable def tabP : TT := (.nd (.nd (.nd (.nd (.nd .lf 3 fp3 .lf) 4 fp4 (.nd .lf 6 fp6 .lf)) 10 fp10 (.nd (.nd .lf 11 fp11 .lf) 12 fp12 .lf)) 13 fp13 (.nd (.nd (.nd .lf 14 fp14 .lf) 15 fp15 (.nd .lf 16 fp16 .lf)) 17 fp17 (.nd (.nd .lf 18 fp18 .lf) 19 fp19 .lf))) 20 fp20 (.nd (.nd (.nd (.nd .lf 21 fp21 .lf) 22 fp22 (.nd .lf 23 fp23 .lf)) 26 fp26 (.nd (.nd .lf 30 fp30 .lf) 31 fp31 .lf)) 32 fp32 (.nd (.nd (.nd .lf 33 fp33 .lf) 34 fp34 (.nd .lf 36 fp36 .lf)) 37 fp37 (.nd (.nd .lf 38 fp38 .lf) 39 fp39 .lf))))
theorem ep3 : EOkP prg funs 3 fp3 := ⟨Try.f3, (Try.f3.body).getD .skip, Try.func3, by kernel_rfl, by kernel_rfl, by kernel_rfl, by kernel_rfl⟩
theorem ep4 : EOkP prg funs 4 fp4 := ⟨Try.f4, (Try.f4.body).getD .skip, Try.func4, by kernel_rfl, by kernel_rfl, by kernel_rfl, by kernel_rfl⟩
theorem ep6 : EOkP prg funs 6 fp6 := ⟨Try.f6, (Try.f6.body).getD .skip, Try.func6, by kernel_rfl, by kernel_rfl, by kernel_rfl, by kernel_rfl⟩
theorem ep10 : EOkP prg funs 10 fp10 := ⟨Try.f10, (Try.f10.body).getD .skip, Try.func10, by kernel_rfl, by kernel_rfl, by kernel_rfl, by kernel_rfl⟩
theorem ep11 : EOkP prg funs 11 fp11 := ⟨Try.f11, (Try.f11.body).getD .skip, Try.func11, by kernel_rfl, by kernel_rfl, by kernel_rfl, by kernel_rfl⟩
theorem ep12 : EOkP prg funs 12 fp12 := ⟨Try.f12, (Try.f12.body).getD .skip, Try.func12, by kernel_rfl, by kernel_rfl, by kernel_rfl, by kernel_rfl⟩
theorem ep13 : EOkP prg funs 13 fp13 := ⟨Try.f13, (Try.f13.body).getD .skip, Try.func13, by kernel_rfl, by kernel_rfl, by kernel_rfl, by kernel_rfl⟩
theorem ep14 : EOkP prg funs 14 fp14 := ⟨Try.f14, (Try.f14.body).getD .skip, Try.func14, by kernel_rfl, by kernel_rfl, by kernel_rfl, by kernel_rfl⟩
theorem ep15 : EOkP prg funs 15 fp15 := ⟨Try.f15, (Try.f15.body).getD .skip, Try.func15, by kernel_rfl, by kernel_rfl, by kernel_rfl, by kernel_rfl⟩
theorem ep16 : EOkP prg funs 16 fp16 := ⟨Try.f16, (Try.f16.body).getD .skip, Try.func16, by kernel_rfl, by kernel_rfl, by kernel_rfl, by kernel_rfl⟩
theorem ep17 : EOkP prg funs 17 fp17 := ⟨Try.f17, (Try.f17.body).getD .skip, Try.func17, by kernel_rfl, by kernel_rfl, by kernel_rfl, by kernel_rfl⟩
theorem ep18 : EOkP prg funs 18 fp18 := ⟨Try.f18, (Try.f18.body).getD .skip, Try.func18, by kernel_rfl, by kernel_rfl, by kernel_rfl, by kernel_rfl⟩
theorem ep19 : EOkP prg funs 19 fp19 := ⟨Try.f19, (Try.f19.body).getD .skip, Try.func19, by kernel_rfl, by kernel_rfl, by kernel_rfl, by kernel_rfl⟩
theorem ep20 : EOkP prg funs 20 fp20 := ⟨Try.f20, (Try.f20.body).getD .skip, Try.func20, by kernel_rfl, by kernel_rfl, by kernel_rfl, by kernel_rfl⟩
theorem ep21 : EOkP prg funs 21 fp21 := ⟨Try.f21, (Try.f21.body).getD .skip, Try.func21, by kernel_rfl, by kernel_rfl, by kernel_rfl, by kernel_rfl⟩
theorem ep22 : EOkP prg funs 22 fp22 := ⟨Try.f22, (Try.f22.body).getD .skip, Try.func22, by kernel_rfl, by kernel_rfl, by kernel_rfl, by kernel_rfl⟩
theorem ep23 : EOkP prg funs 23 fp23 := ⟨Try.f23, (Try.f23.body).getD .skip, Try.func23, by kernel_rfl, by kernel_rfl, by kernel_rfl, by kernel_rfl⟩
theorem ep26 : EOkP prg funs 26 fp26 := ⟨Try.f26, (Try.f26.body).getD .skip, Try.func26, by kernel_rfl, by kernel_rfl, by kernel_rfl, by kernel_rfl⟩
theorem ep30 : EOkP prg funs 30 fp30 := ⟨Try.f30, (Try.f30.body).getD .skip, Try.func30, by kernel_rfl, by kernel_rfl, by kernel_rfl, by kernel_rfl⟩
theorem ep31 : EOkP prg funs 31 fp31 := ⟨Try.f31, (Try.f31.body).getD .skip, Try.func31, by kernel_rfl, by kernel_rfl, by kernel_rfl, by kernel_rfl⟩
theorem ep32 : EOkP prg funs 32 fp32 := ⟨Try.f32, (Try.f32.body).getD .skip, Try.func32, by kernel_rfl, by kernel_rfl, by kernel_rfl, by kernel_rfl⟩
theorem ep33 : EOkP prg funs 33 fp33 := ⟨Try.f33, (Try.f33.body).getD .skip, Try.func33, by kernel_rfl, by kernel_rfl, by kernel_rfl, by kernel_rfl⟩
theorem ep34 : EOkP prg funs 34 fp34 := ⟨Try.f34, (Try.f34.body).getD .skip, Try.func34, by kernel_rfl, by kernel_rfl, by kernel_rfl, by kernel_rfl⟩
theorem ep36 : EOkP prg funs 36 fp36 := ⟨Try.f36, (Try.f36.body).getD .skip, Try.func36, by kernel_rfl, by kernel_rfl, by kernel_rfl, by kernel_rfl⟩
theorem ep37 : EOkP prg funs 37 fp37 := ⟨Try.f37, (Try.f37.body).getD .skip, Try.func37, by kernel_rfl, by kernel_rfl, by kernel_rfl, by kernel_rfl⟩
theorem ep38 : EOkP prg funs 38 fp38 := ⟨Try.f38, (Try.f38.body).getD .skip, Try.func38, by kernel_rfl, by kernel_rfl, by kernel_rfl, by kernel_rfl⟩
theorem ep39 : EOkP prg funs 39 fp39 := ⟨Try.f39, (Try.f39.body).getD .skip, Try.func39, by kernel_rfl, by kernel_rfl, by kernel_rfl, by kernel_rfl⟩
theorem tabPOk : OkP prg funs tabP := ⟨⟨⟨⟨⟨trivial, ep3, trivial⟩, ep4, ⟨trivial, ep6, trivial⟩⟩, ep10, ⟨⟨trivial, ep11, trivial⟩, ep12, trivial⟩⟩, ep13, ⟨⟨⟨trivial, ep14, trivial⟩, ep15, ⟨trivial, ep16, trivial⟩⟩, ep17, ⟨⟨trivial, ep18, trivial⟩, ep19, trivial⟩⟩⟩, ep20, ⟨⟨⟨⟨trivial, ep21, trivial⟩, ep22, ⟨trivial, ep23, trivial⟩⟩, ep26, ⟨⟨trivial, ep30, trivial⟩, ep31, trivial⟩⟩, ep32, ⟨⟨⟨trivial, ep33, trivial⟩, ep34, ⟨trivial, ep36, trivial⟩⟩, ep37, ⟨⟨trivial, ep38, trivial⟩, ep39, trivial⟩⟩⟩⟩
theorem q3 {kn : Nat → Bool} (hk : kn 3 = false) (n m : Nat) (t0 t1 : X) (M : Mm) : callX prg tabP kn (n + 1) m 3 [t0, t1] M = d3 (callX prg tabP kn n m) m (fun z r0 M' => finD prg tabP m (callX prg tabP kn n m) M.nx z [(.tmp 4, r0)] M') t0 t1 ⟨M.H, M.nx, M.nx⟩ := by
  refine (call_sem prg tabP kn n m 3 [t0, t1] M (ff := fp3) (ct := t3) (F0 := (s1 t1 (s0 t0 F8.none))) hk (by kernel_rfl) rfl (by kernel_rfl) (by kernel_rfl)).trans ?_
  refine Eq.trans ?_ ((congrFun (congrFun (z3 (callX prg tabP kn n m) m (fun z r0 M' => finD prg tabP m (callX prg tabP kn n m) M.nx z [(.tmp 4, r0)] M')) (s1 t1 (s0 t0 F8.none))) ⟨M.H, M.nx, M.nx⟩).trans ?_)
  · kernel_rfl
  · kernel_rfl
theorem q4 {kn : Nat → Bool} (hk : kn 4 = false) (n m : Nat) (t0 t1 t2 : X) (M : Mm) : callX prg tabP kn (n + 1) m 4 [t0, t1, t2] M = d4 (callX prg tabP kn n m) m (fun z r0 M' => finD prg tabP m (callX prg tabP kn n m) M.nx z [(.tmp 6, r0)] M') t0 t1 t2 ⟨M.H, M.nx, M.nx⟩ := by
  refine (call_sem prg tabP kn n m 4 [t0, t1, t2] M (ff := fp4) (ct := t4) (F0 := (s2 t2 (s1 t1 (s0 t0 F8.none)))) hk (by kernel_rfl) rfl (by kernel_rfl) (by kernel_rfl)).trans ?_
  refine Eq.trans ?_ ((congrFun (congrFun (z4 (callX prg tabP kn n m) m (fun z r0 M' => finD prg tabP m (callX prg tabP kn n m) M.nx z [(.tmp 6, r0)] M')) (s2 t2 (s1 t1 (s0 t0 F8.none)))) ⟨M.H, M.nx, M.nx⟩).trans ?_)
  · kernel_rfl
  · kernel_rfl
theorem q6 {kn : Nat → Bool} (hk : kn 6 = false) (n m : Nat) (t0 t1 : X) (M : Mm) : callX prg tabP kn (n + 1) m 6 [t0, t1] M = d6 (callX prg tabP kn n m) m (fun z r0 M' => finD prg tabP m (callX prg tabP kn n m) M.nx z [(.tmp 4, r0)] M') t0 t1 ⟨M.H, M.nx, M.nx⟩ := by
  refine (call_sem prg tabP kn n m 6 [t0, t1] M (ff := fp6) (ct := t6) (F0 := (s1 t1 (s0 t0 F8.none))) hk (by kernel_rfl) rfl (by kernel_rfl) (by kernel_rfl)).trans ?_
  refine Eq.trans ?_ ((congrFun (congrFun (z6 (callX prg tabP kn n m) m (fun z r0 M' => finD prg tabP m (callX prg tabP kn n m) M.nx z [(.tmp 4, r0)] M')) (s1 t1 (s0 t0 F8.none))) ⟨M.H, M.nx, M.nx⟩).trans ?_)
  · kernel_rfl
  · kernel_rfl
theorem q10 {kn : Nat → Bool} (hk : kn 10 = false) (n m : Nat) (t0 : X) (M : Mm) : callX prg tabP kn (n + 1) m 10 [t0] M = d10 (callX prg tabP kn n m) m (fun z r0 r1 M' => finD prg tabP m (callX prg tabP kn n m) M.nx z [(.cell 2 24, r0), (.tmp 3, r1)] M') t0 ⟨M.H, M.nx, M.nx⟩ := by
  refine (call_sem prg tabP kn n m 10 [t0] M (ff := fp10) (ct := t10) (F0 := (s0 t0 F8.none)) hk (by kernel_rfl) rfl (by kernel_rfl) (by kernel_rfl)).trans ?_
  refine Eq.trans ?_ ((congrFun (congrFun (z10 (callX prg tabP kn n m) m (fun z r0 r1 M' => finD prg tabP m (callX prg tabP kn n m) M.nx z [(.cell 2 24, r0), (.tmp 3, r1)] M')) (s0 t0 F8.none)) ⟨M.H, M.nx, M.nx⟩).trans ?_)
  · kernel_rfl
  · kernel_rfl
theorem q11 {kn : Nat → Bool} (hk : kn 11 = false) (n m : Nat) (t0 : X) (M : Mm) : callX prg tabP kn (n + 1) m 11 [t0] M = d11 (callX prg tabP kn n m) m (fun z r0 M' => finD prg tabP m (callX prg tabP kn n m) M.nx z [(.tmp 2, r0)] M') t0 ⟨M.H, M.nx, M.nx⟩ := by
  refine (call_sem prg tabP kn n m 11 [t0] M (ff := fp11) (ct := t11) (F0 := (s0 t0 F8.none)) hk (by kernel_rfl) rfl (by kernel_rfl) (by kernel_rfl)).trans ?_
  refine Eq.trans ?_ ((congrFun (congrFun (z11 (callX prg tabP kn n m) m (fun z r0 M' => finD prg tabP m (callX prg tabP kn n m) M.nx z [(.tmp 2, r0)] M')) (s0 t0 F8.none)) ⟨M.H, M.nx, M.nx⟩).trans ?_)
  · kernel_rfl
  · kernel_rfl
theorem q12 {kn : Nat → Bool} (hk : kn 12 = false) (n m : Nat) (t0 : X) (M : Mm) : callX prg tabP kn (n + 1) m 12 [t0] M = d12 (callX prg tabP kn n m) m (fun z r0 M' => finD prg tabP m (callX prg tabP kn n m) M.nx z [(.tmp 2, r0)] M') t0 ⟨M.H, M.nx, M.nx⟩ := by
  refine (call_sem prg tabP kn n m 12 [t0] M (ff := fp12) (ct := t12) (F0 := (s0 t0 F8.none)) hk (by kernel_rfl) rfl (by kernel_rfl) (by kernel_rfl)).trans ?_
  refine Eq.trans ?_ ((congrFun (congrFun (z12 (callX prg tabP kn n m) m (fun z r0 M' => finD prg tabP m (callX prg tabP kn n m) M.nx z [(.tmp 2, r0)] M')) (s0 t0 F8.none)) ⟨M.H, M.nx, M.nx⟩).trans ?_)
  · kernel_rfl
  · kernel_rfl
theorem q13 {kn : Nat → Bool} (hk : kn 13 = false) (n m : Nat) (t0 : X) (M : Mm) : callX prg tabP kn (n + 1) m 13 [t0] M = d13 (callX prg tabP kn n m) m (fun z r0 M' => finD prg tabP m (callX prg tabP kn n m) M.nx z [(.tmp 2, r0)] M') t0 ⟨M.H, M.nx, M.nx⟩ := by
  refine (call_sem prg tabP kn n m 13 [t0] M (ff := fp13) (ct := t13) (F0 := (s0 t0 F8.none)) hk (by kernel_rfl) rfl (by kernel_rfl) (by kernel_rfl)).trans ?_
  refine Eq.trans ?_ ((congrFun (congrFun (z13 (callX prg tabP kn n m) m (fun z r0 M' => finD prg tabP m (callX prg tabP kn n m) M.nx z [(.tmp 2, r0)] M')) (s0 t0 F8.none)) ⟨M.H, M.nx, M.nx⟩).trans ?_)
  · kernel_rfl
  · kernel_rfl
theorem q14 {kn : Nat → Bool} (hk : kn 14 = false) (n m : Nat) (t0 t1 : X) (M : Mm) : callX prg tabP kn (n + 1) m 14 [t0, t1] M = d14 (callX prg tabP kn n m) m (fun z r0 M' => finD prg tabP m (callX prg tabP kn n m) M.nx z [(.tmp 4, r0)] M') t0 t1 ⟨M.H, M.nx, M.nx⟩ := by
  refine (call_sem prg tabP kn n m 14 [t0, t1] M (ff := fp14) (ct := t14) (F0 := (s1 t1 (s0 t0 F8.none))) hk (by kernel_rfl) rfl (by kernel_rfl) (by kernel_rfl)).trans ?_
  refine Eq.trans ?_ ((congrFun (congrFun (z14 (callX prg tabP kn n m) m (fun z r0 M' => finD prg tabP m (callX prg tabP kn n m) M.nx z [(.tmp 4, r0)] M')) (s1 t1 (s0 t0 F8.none))) ⟨M.H, M.nx, M.nx⟩).trans ?_)
  · kernel_rfl
  · kernel_rfl
theorem q15 {kn : Nat → Bool} (hk : kn 15 = false) (n m : Nat) (t0 t1 : X) (M : Mm) : callX prg tabP kn (n + 1) m 15 [t0, t1] M = d15 (callX prg tabP kn n m) m (fun z r0 M' => finD prg tabP m (callX prg tabP kn n m) M.nx z [(.tmp 4, r0)] M') t0 t1 ⟨M.H, M.nx, M.nx⟩ := by
  refine (call_sem prg tabP kn n m 15 [t0, t1] M (ff := fp15) (ct := t15) (F0 := (s1 t1 (s0 t0 F8.none))) hk (by kernel_rfl) rfl (by kernel_rfl) (by kernel_rfl)).trans ?_
  refine Eq.trans ?_ ((congrFun (congrFun (z15 (callX prg tabP kn n m) m (fun z r0 M' => finD prg tabP m (callX prg tabP kn n m) M.nx z [(.tmp 4, r0)] M')) (s1 t1 (s0 t0 F8.none))) ⟨M.H, M.nx, M.nx⟩).trans ?_)
  · kernel_rfl
  · kernel_rfl
theorem q16 {kn : Nat → Bool} (hk : kn 16 = false) (n m : Nat) (t0 t1 : X) (M : Mm) : callX prg tabP kn (n + 1) m 16 [t0, t1] M = d16 (callX prg tabP kn n m) m (fun z r0 r1 r2 M' => finD prg tabP m (callX prg tabP kn n m) M.nx z [(.cell 4 24, r0), (.tmp 5, r1), (.tmp 6, r2)] M') t0 t1 ⟨M.H, M.nx, M.nx⟩ := by
  refine (call_sem prg tabP kn n m 16 [t0, t1] M (ff := fp16) (ct := t16) (F0 := (s1 t1 (s0 t0 F8.none))) hk (by kernel_rfl) rfl (by kernel_rfl) (by kernel_rfl)).trans ?_
  refine Eq.trans ?_ ((congrFun (congrFun (z16 (callX prg tabP kn n m) m (fun z r0 r1 r2 M' => finD prg tabP m (callX prg tabP kn n m) M.nx z [(.cell 4 24, r0), (.tmp 5, r1), (.tmp 6, r2)] M')) (s1 t1 (s0 t0 F8.none))) ⟨M.H, M.nx, M.nx⟩).trans ?_)
  · kernel_rfl
  · kernel_rfl
theorem q17 {kn : Nat → Bool} (hk : kn 17 = false) (n m : Nat) (t0 t1 : X) (M : Mm) : callX prg tabP kn (n + 1) m 17 [t0, t1] M = d17 (callX prg tabP kn n m) m (fun z r0 r1 r2 r3 M' => finD prg tabP m (callX prg tabP kn n m) M.nx z [(.cell 4 24, r0), (.tmp 5, r1), (.tmp 6, r2), (.tmp 7, r3)] M') t0 t1 ⟨M.H, M.nx, M.nx⟩ := by
  refine (call_sem prg tabP kn n m 17 [t0, t1] M (ff := fp17) (ct := t17) (F0 := (s1 t1 (s0 t0 F8.none))) hk (by kernel_rfl) rfl (by kernel_rfl) (by kernel_rfl)).trans ?_
  refine Eq.trans ?_ ((congrFun (congrFun (z17 (callX prg tabP kn n m) m (fun z r0 r1 r2 r3 M' => finD prg tabP m (callX prg tabP kn n m) M.nx z [(.cell 4 24, r0), (.tmp 5, r1), (.tmp 6, r2), (.tmp 7, r3)] M')) (s1 t1 (s0 t0 F8.none))) ⟨M.H, M.nx, M.nx⟩).trans ?_)
  · kernel_rfl
  · kernel_rfl
theorem q18 {kn : Nat → Bool} (hk : kn 18 = false) (n m : Nat) (t0 : X) (M : Mm) : callX prg tabP kn (n + 1) m 18 [t0] M = d18 (callX prg tabP kn n m) m (fun z r0 M' => finD prg tabP m (callX prg tabP kn n m) M.nx z [(.cell 2 24, r0)] M') t0 ⟨M.H, M.nx, M.nx⟩ := by
  refine (call_sem prg tabP kn n m 18 [t0] M (ff := fp18) (ct := t18) (F0 := (s0 t0 F8.none)) hk (by kernel_rfl) rfl (by kernel_rfl) (by kernel_rfl)).trans ?_
  refine Eq.trans ?_ ((congrFun (congrFun (z18 (callX prg tabP kn n m) m (fun z r0 M' => finD prg tabP m (callX prg tabP kn n m) M.nx z [(.cell 2 24, r0)] M')) (s0 t0 F8.none)) ⟨M.H, M.nx, M.nx⟩).trans ?_)
  · kernel_rfl
  · kernel_rfl
theorem q19 {kn : Nat → Bool} (hk : kn 19 = false) (n m : Nat) (t0 t1 : X) (M : Mm) : callX prg tabP kn (n + 1) m 19 [t0, t1] M = d19 (callX prg tabP kn n m) m (fun z r0 r1 r2 M' => finD prg tabP m (callX prg tabP kn n m) M.nx z [(.cell 4 24, r0), (.tmp 5, r1), (.tmp 6, r2)] M') t0 t1 ⟨M.H, M.nx, M.nx⟩ := by
  refine (call_sem prg tabP kn n m 19 [t0, t1] M (ff := fp19) (ct := t19) (F0 := (s1 t1 (s0 t0 F8.none))) hk (by kernel_rfl) rfl (by kernel_rfl) (by kernel_rfl)).trans ?_
  refine Eq.trans ?_ ((congrFun (congrFun (z19 (callX prg tabP kn n m) m (fun z r0 r1 r2 M' => finD prg tabP m (callX prg tabP kn n m) M.nx z [(.cell 4 24, r0), (.tmp 5, r1), (.tmp 6, r2)] M')) (s1 t1 (s0 t0 F8.none))) ⟨M.H, M.nx, M.nx⟩).trans ?_)
  · kernel_rfl
  · kernel_rfl
theorem q20 {kn : Nat → Bool} (hk : kn 20 = false) (n m : Nat) (t0 t1 : X) (M : Mm) : callX prg tabP kn (n + 1) m 20 [t0, t1] M = d20 (callX prg tabP kn n m) m (fun z r0 r1 r2 M' => finD prg tabP m (callX prg tabP kn n m) M.nx z [(.cell 4 24, r0), (.tmp 5, r1), (.tmp 6, r2)] M') t0 t1 ⟨M.H, M.nx, M.nx⟩ := by
  refine (call_sem prg tabP kn n m 20 [t0, t1] M (ff := fp20) (ct := t20) (F0 := (s1 t1 (s0 t0 F8.none))) hk (by kernel_rfl) rfl (by kernel_rfl) (by kernel_rfl)).trans ?_
  refine Eq.trans ?_ ((congrFun (congrFun (z20 (callX prg tabP kn n m) m (fun z r0 r1 r2 M' => finD prg tabP m (callX prg tabP kn n m) M.nx z [(.cell 4 24, r0), (.tmp 5, r1), (.tmp 6, r2)] M')) (s1 t1 (s0 t0 F8.none))) ⟨M.H, M.nx, M.nx⟩).trans ?_)
  · kernel_rfl
  · kernel_rfl
theorem q21 {kn : Nat → Bool} (hk : kn 21 = false) (n m : Nat) (t0 t1 : X) (M : Mm) : callX prg tabP kn (n + 1) m 21 [t0, t1] M = d21 (callX prg tabP kn n m) m (fun z r0 r1 M' => finD prg tabP m (callX prg tabP kn n m) M.nx z [(.tmp 4, r0), (.tmp 5, r1)] M') t0 t1 ⟨M.H, M.nx, M.nx⟩ := by
  refine (call_sem prg tabP kn n m 21 [t0, t1] M (ff := fp21) (ct := t21) (F0 := (s1 t1 (s0 t0 F8.none))) hk (by kernel_rfl) rfl (by kernel_rfl) (by kernel_rfl)).trans ?_
  refine Eq.trans ?_ ((congrFun (congrFun (z21 (callX prg tabP kn n m) m (fun z r0 r1 M' => finD prg tabP m (callX prg tabP kn n m) M.nx z [(.tmp 4, r0), (.tmp 5, r1)] M')) (s1 t1 (s0 t0 F8.none))) ⟨M.H, M.nx, M.nx⟩).trans ?_)
  · kernel_rfl
  · kernel_rfl
theorem q22 {kn : Nat → Bool} (hk : kn 22 = false) (n m : Nat) (t0 t1 : X) (M : Mm) : callX prg tabP kn (n + 1) m 22 [t0, t1] M = d22 (callX prg tabP kn n m) m (fun z r0 M' => finD prg tabP m (callX prg tabP kn n m) M.nx z [(.tmp 4, r0)] M') t0 t1 ⟨M.H, M.nx, M.nx⟩ := by
  refine (call_sem prg tabP kn n m 22 [t0, t1] M (ff := fp22) (ct := t22) (F0 := (s1 t1 (s0 t0 F8.none))) hk (by kernel_rfl) rfl (by kernel_rfl) (by kernel_rfl)).trans ?_
  refine Eq.trans ?_ ((congrFun (congrFun (z22 (callX prg tabP kn n m) m (fun z r0 M' => finD prg tabP m (callX prg tabP kn n m) M.nx z [(.tmp 4, r0)] M')) (s1 t1 (s0 t0 F8.none))) ⟨M.H, M.nx, M.nx⟩).trans ?_)
  · kernel_rfl
  · kernel_rfl
theorem q23 {kn : Nat → Bool} (hk : kn 23 = false) (n m : Nat) (t0 t1 : X) (M : Mm) : callX prg tabP kn (n + 1) m 23 [t0, t1] M = d23 (callX prg tabP kn n m) m (fun z r0 M' => finD prg tabP m (callX prg tabP kn n m) M.nx z [(.tmp 4, r0)] M') t0 t1 ⟨M.H, M.nx, M.nx⟩ := by
  refine (call_sem prg tabP kn n m 23 [t0, t1] M (ff := fp23) (ct := t23) (F0 := (s1 t1 (s0 t0 F8.none))) hk (by kernel_rfl) rfl (by kernel_rfl) (by kernel_rfl)).trans ?_
  refine Eq.trans ?_ ((congrFun (congrFun (z23 (callX prg tabP kn n m) m (fun z r0 M' => finD prg tabP m (callX prg tabP kn n m) M.nx z [(.tmp 4, r0)] M')) (s1 t1 (s0 t0 F8.none))) ⟨M.H, M.nx, M.nx⟩).trans ?_)
  · kernel_rfl
  · kernel_rfl
theorem q26 {kn : Nat → Bool} (hk : kn 26 = false) (n m : Nat) (t0 t1 : X) (M : Mm) : callX prg tabP kn (n + 1) m 26 [t0, t1] M = d26 (callX prg tabP kn n m) m (fun z r0 M' => finD prg tabP m (callX prg tabP kn n m) M.nx z [(.tmp 4, r0)] M') t0 t1 ⟨M.H, M.nx, M.nx⟩ := by
  refine (call_sem prg tabP kn n m 26 [t0, t1] M (ff := fp26) (ct := t26) (F0 := (s1 t1 (s0 t0 F8.none))) hk (by kernel_rfl) rfl (by kernel_rfl) (by kernel_rfl)).trans ?_
  refine Eq.trans ?_ ((congrFun (congrFun (z26 (callX prg tabP kn n m) m (fun z r0 M' => finD prg tabP m (callX prg tabP kn n m) M.nx z [(.tmp 4, r0)] M')) (s1 t1 (s0 t0 F8.none))) ⟨M.H, M.nx, M.nx⟩).trans ?_)
  · kernel_rfl
  · kernel_rfl
theorem q30 {kn : Nat → Bool} (hk : kn 30 = false) (n m : Nat) (t0 : X) (M : Mm) : callX prg tabP kn (n + 1) m 30 [t0] M = d30 (callX prg tabP kn n m) m (fun z r0 M' => finD prg tabP m (callX prg tabP kn n m) M.nx z [(.tmp 2, r0)] M') t0 ⟨M.H, M.nx, M.nx⟩ := by
  refine (call_sem prg tabP kn n m 30 [t0] M (ff := fp30) (ct := t30) (F0 := (s0 t0 F8.none)) hk (by kernel_rfl) rfl (by kernel_rfl) (by kernel_rfl)).trans ?_
  refine Eq.trans ?_ ((congrFun (congrFun (z30 (callX prg tabP kn n m) m (fun z r0 M' => finD prg tabP m (callX prg tabP kn n m) M.nx z [(.tmp 2, r0)] M')) (s0 t0 F8.none)) ⟨M.H, M.nx, M.nx⟩).trans ?_)
  · kernel_rfl
  · kernel_rfl
theorem q31 {kn : Nat → Bool} (hk : kn 31 = false) (n m : Nat) (t0 : X) (M : Mm) : callX prg tabP kn (n + 1) m 31 [t0] M = d31 (callX prg tabP kn n m) m (fun z r0 M' => finD prg tabP m (callX prg tabP kn n m) M.nx z [(.tmp 2, r0)] M') t0 ⟨M.H, M.nx, M.nx⟩ := by
  refine (call_sem prg tabP kn n m 31 [t0] M (ff := fp31) (ct := t31) (F0 := (s0 t0 F8.none)) hk (by kernel_rfl) rfl (by kernel_rfl) (by kernel_rfl)).trans ?_
  refine Eq.trans ?_ ((congrFun (congrFun (z31 (callX prg tabP kn n m) m (fun z r0 M' => finD prg tabP m (callX prg tabP kn n m) M.nx z [(.tmp 2, r0)] M')) (s0 t0 F8.none)) ⟨M.H, M.nx, M.nx⟩).trans ?_)
  · kernel_rfl
  · kernel_rfl
theorem q32 {kn : Nat → Bool} (hk : kn 32 = false) (n m : Nat) (t0 : X) (M : Mm) : callX prg tabP kn (n + 1) m 32 [t0] M = d32 (callX prg tabP kn n m) m (fun z r0 M' => finD prg tabP m (callX prg tabP kn n m) M.nx z [(.tmp 2, r0)] M') t0 ⟨M.H, M.nx, M.nx⟩ := by
  refine (call_sem prg tabP kn n m 32 [t0] M (ff := fp32) (ct := t32) (F0 := (s0 t0 F8.none)) hk (by kernel_rfl) rfl (by kernel_rfl) (by kernel_rfl)).trans ?_
  refine Eq.trans ?_ ((congrFun (congrFun (z32 (callX prg tabP kn n m) m (fun z r0 M' => finD prg tabP m (callX prg tabP kn n m) M.nx z [(.tmp 2, r0)] M')) (s0 t0 F8.none)) ⟨M.H, M.nx, M.nx⟩).trans ?_)
  · kernel_rfl
  · kernel_rfl
theorem q33 {kn : Nat → Bool} (hk : kn 33 = false) (n m : Nat) (t0 t1 t2 : X) (M : Mm) : callX prg tabP kn (n + 1) m 33 [t0, t1, t2] M = d33 (callX prg tabP kn n m) m (fun z r0 M' => finD prg tabP m (callX prg tabP kn n m) M.nx z [(.tmp 6, r0)] M') t0 t1 t2 ⟨M.H, M.nx, M.nx⟩ := by
  refine (call_sem prg tabP kn n m 33 [t0, t1, t2] M (ff := fp33) (ct := t33) (F0 := (s2 t2 (s1 t1 (s0 t0 F8.none)))) hk (by kernel_rfl) rfl (by kernel_rfl) (by kernel_rfl)).trans ?_
  refine Eq.trans ?_ ((congrFun (congrFun (z33 (callX prg tabP kn n m) m (fun z r0 M' => finD prg tabP m (callX prg tabP kn n m) M.nx z [(.tmp 6, r0)] M')) (s2 t2 (s1 t1 (s0 t0 F8.none)))) ⟨M.H, M.nx, M.nx⟩).trans ?_)
  · kernel_rfl
  · kernel_rfl
theorem q34 {kn : Nat → Bool} (hk : kn 34 = false) (n m : Nat) (t0 t1 : X) (M : Mm) : callX prg tabP kn (n + 1) m 34 [t0, t1] M = d34 (callX prg tabP kn n m) m (fun z r0 M' => finD prg tabP m (callX prg tabP kn n m) M.nx z [(.tmp 4, r0)] M') t0 t1 ⟨M.H, M.nx, M.nx⟩ := by
  refine (call_sem prg tabP kn n m 34 [t0, t1] M (ff := fp34) (ct := t34) (F0 := (s1 t1 (s0 t0 F8.none))) hk (by kernel_rfl) rfl (by kernel_rfl) (by kernel_rfl)).trans ?_
  refine Eq.trans ?_ ((congrFun (congrFun (z34 (callX prg tabP kn n m) m (fun z r0 M' => finD prg tabP m (callX prg tabP kn n m) M.nx z [(.tmp 4, r0)] M')) (s1 t1 (s0 t0 F8.none))) ⟨M.H, M.nx, M.nx⟩).trans ?_)
  · kernel_rfl
  · kernel_rfl
theorem q36 {kn : Nat → Bool} (hk : kn 36 = false) (n m : Nat) (t0 t1 : X) (M : Mm) : callX prg tabP kn (n + 1) m 36 [t0, t1] M = d36 (callX prg tabP kn n m) m (fun z r0 M' => finD prg tabP m (callX prg tabP kn n m) M.nx z [(.tmp 4, r0)] M') t0 t1 ⟨M.H, M.nx, M.nx⟩ := by
  refine (call_sem prg tabP kn n m 36 [t0, t1] M (ff := fp36) (ct := t36) (F0 := (s1 t1 (s0 t0 F8.none))) hk (by kernel_rfl) rfl (by kernel_rfl) (by kernel_rfl)).trans ?_
  refine Eq.trans ?_ ((congrFun (congrFun (z36 (callX prg tabP kn n m) m (fun z r0 M' => finD prg tabP m (callX prg tabP kn n m) M.nx z [(.tmp 4, r0)] M')) (s1 t1 (s0 t0 F8.none))) ⟨M.H, M.nx, M.nx⟩).trans ?_)
  · kernel_rfl
  · kernel_rfl
theorem q37 {kn : Nat → Bool} (hk : kn 37 = false) (n m : Nat) (t0 : X) (M : Mm) : callX prg tabP kn (n + 1) m 37 [t0] M = d37 (callX prg tabP kn n m) m (fun z r0 M' => finD prg tabP m (callX prg tabP kn n m) M.nx z [(.tmp 2, r0)] M') t0 ⟨M.H, M.nx, M.nx⟩ := by
  refine (call_sem prg tabP kn n m 37 [t0] M (ff := fp37) (ct := t37) (F0 := (s0 t0 F8.none)) hk (by kernel_rfl) rfl (by kernel_rfl) (by kernel_rfl)).trans ?_
  refine Eq.trans ?_ ((congrFun (congrFun (z37 (callX prg tabP kn n m) m (fun z r0 M' => finD prg tabP m (callX prg tabP kn n m) M.nx z [(.tmp 2, r0)] M')) (s0 t0 F8.none)) ⟨M.H, M.nx, M.nx⟩).trans ?_)
  · kernel_rfl
  · kernel_rfl
theorem q38 {kn : Nat → Bool} (hk : kn 38 = false) (n m : Nat) (t0 t1 : X) (M : Mm) : callX prg tabP kn (n + 1) m 38 [t0, t1] M = d38 (callX prg tabP kn n m) m (fun z r0 M' => finD prg tabP m (callX prg tabP kn n m) M.nx z [(.tmp 4, r0)] M') t0 t1 ⟨M.H, M.nx, M.nx⟩ := by
  refine (call_sem prg tabP kn n m 38 [t0, t1] M (ff := fp38) (ct := t38) (F0 := (s1 t1 (s0 t0 F8.none))) hk (by kernel_rfl) rfl (by kernel_rfl) (by kernel_rfl)).trans ?_
  refine Eq.trans ?_ ((congrFun (congrFun (z38 (callX prg tabP kn n m) m (fun z r0 M' => finD prg tabP m (callX prg tabP kn n m) M.nx z [(.tmp 4, r0)] M')) (s1 t1 (s0 t0 F8.none))) ⟨M.H, M.nx, M.nx⟩).trans ?_)
  · kernel_rfl
  · kernel_rfl
theorem q39 {kn : Nat → Bool} (hk : kn 39 = false) (n m : Nat) (t0 t1 : X) (M : Mm) : callX prg tabP kn (n + 1) m 39 [t0, t1] M = d39 (callX prg tabP kn n m) m (fun z r0 M' => finD prg tabP m (callX prg tabP kn n m) M.nx z [(.tmp 4, r0)] M') t0 t1 ⟨M.H, M.nx, M.nx⟩ := by
  refine (call_sem prg tabP kn n m 39 [t0, t1] M (ff := fp39) (ct := t39) (F0 := (s1 t1 (s0 t0 F8.none))) hk (by kernel_rfl) rfl (by kernel_rfl) (by kernel_rfl)).trans ?_
  refine Eq.trans ?_ ((congrFun (congrFun (z39 (callX prg tabP kn n m) m (fun z r0 M' => finD prg tabP m (callX prg tabP kn n m) M.nx z [(.tmp 4, r0)] M')) (s1 t1 (s0 t0 F8.none))) ⟨M.H, M.nx, M.nx⟩).trans ?_)
  · kernel_rfl
  · kernel_rfl
end Go.Proofs.Ytehbfajmileefaa.Px
