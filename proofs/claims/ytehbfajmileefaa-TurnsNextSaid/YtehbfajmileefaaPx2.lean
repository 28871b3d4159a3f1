/-
  The functions on values.
-/
import Derived.Test.YtehbfajmileefaaZk
set_option maxRecDepth 100000
set_option linter.unusedVariables false
namespace Go.Proofs.Ytehbfajmileefaa.Px
open Go.RowKit Go.Proofs.Ytehbfajmileefaa.Vx Go.Proofs.Ytehbfajmileefaa.Fx
/-! 16: countersign/countersignref36.Next -/
noncomputable def U16_1 : CT := (.ops [(.box 24 4 g0, s2),
    (.alloc 24 4 [.nils, .int .i64 (.int (0)), .int .i64 (.int (0)), .int .i64 (.int (0))], s4),
    (.move (kX (.i .i64 (0))), s5),
    (.move (kX (.i .i64 (0))), s6)])
noncomputable def U16_2 : CT := (.seq (.ops [(.loadN 4 g2, s10),
    (.call 13 [g10], s11),
    (.bin .gtr g11 (kX (.i .i64 (0))), s12)]) (.cond g12 (.seq (.ops [(.build [.nils, .int .i64 (.int (0)), .int .i64 (.int (0)), .int .i64 (.int (0))] [], s13),
    (.loadN 4 g2, s14),
    (.call 13 [g14], s15),
    (.storeN 4 g4 g13, sN),
    (.move (kX (.i .i64 (-1))), s5),
    (.move g15, s6)]) .ret) .skip))
noncomputable def U16_3 : CT := (.seq (.ops [(.move g1, s16),
    (.lenS g16, s17),
    (.fieldAddr 0 g2, s18),
    (.load1 g18, s19),
    (.lenS g19, s20),
    (.bin .neq g17 g20, s21)]) (.cond g21 (.seq (.ops [(.build [.nils, .int .i64 (.int (0)), .int .i64 (.int (0)), .int .i64 (.int (0))] [], s22),
    (.storeN 4 g4 g22, sN),
    (.move (kX (.i .i64 (-1))), s5),
    (.move (kX (.i .i64 (1))), s6)]) .ret) .skip))
noncomputable def U16_4 : CT := (.ops [(.move g1, s23),
    (.lenS g23, s24),
    (.move g24, s7)])
noncomputable def U16_5 : CT := (.ops [(.loadN 4 g2, s25),
    (.alloc 24 4 [.nils, .int .i64 (.int (0)), .int .i64 (.int (0)), .int .i64 (.int (0))], s8),
    (.storeN 4 g8 g25, sN)])
noncomputable def U16_6 : CT := (.seq (.ops [(.loadN 4 g2, s75),
    (.storeN 4 g4 g75, sN),
    (.move (kX (.i .i64 (-1))), s5),
    (.move (kX (.i .i64 (0))), s6)]) .ret)
noncomputable def U16_7 : CT := (.ops [(.move (kX (.i .i64 (0))), s9)])
noncomputable def U16_8 : CT := (.seq (.seq (.ops [(.move g9, s26),
    (.move g7, s27),
    (.bin .leq g26 g27, s28)]) (.cond g28 .skip (.exit 0))) (.seq (.block 1 (.seq (.seq (.ops [(.move g9, s31),
    (.bin .gtr g31 (kX (.i .i64 (0))), s32)]) (.cond g32 (.seq (.ops [(.fieldAddr 1 g2, s33),
    (.load1 g33, s34),
    (.move g9, s35),
    (.bin .add g34 g35, s36),
    (.move g7, s37),
    (.binG prg .rem 3 3 (.tmp 36) (.tmp 37) 76, s38),
    (.fieldAddr 1 g8, s39),
    (.store1 g39 g38, sN)]) (.seq (.ops [(.fieldAddr 0 g2, s40),
    (.load1 g40, s41),
    (.fieldAddr 1 g8, s42),
    (.load1 g42, s43),
    (.indexAddr 1 g41 g43, s44),
    (.load1 g44, s45),
    (.fieldAddr 2 g8, s46),
    (.store1 g46 g45, sN)]) (.seq (.ops [(.fieldAddr 1 g8, s47),
    (.load1 g47, s48),
    (.bin .eql g48 (kX (.i .i64 (0))), s49)]) (.cond g49 (.ops [(.fieldAddr 3 g8, s50),
    (.load1 g50, s51),
    (.bin .add g51 (kX (.i .i64 (1))), s52),
    (.fieldAddr 3 g8, s53),
    (.store1 g53 g52, sN)]) .skip)))) .skip)) (.seq (.ops [(.move g1, s54),
    (.fieldAddr 1 g8, s55),
    (.load1 g55, s56),
    (.indexAddr 1 g54 g56, s57),
    (.load1 g57, s58),
    (.move g58, s59),
    (.guard g59 true (.fieldAddr 2 g8), s60),
    (.guard g59 true (.load1 g60), s61),
    (.guard g59 true (.bin .gtr g61 (kX (.i .i64 (0)))), s62),
    (.pick g59 g62 (kX (.b false)), s63)]) (.cond g63 (.seq (.seq (.ops [(.fieldAddr 3 g8, s64),
    (.load1 g64, s65),
    (.bin .gtr g65 (kX (.i .i64 (4611686018427387904))), s66)]) (.cond g66 (.seq (.ops [(.build [.nils, .int .i64 (.int (0)), .int .i64 (.int (0)), .int .i64 (.int (0))] [], s67),
    (.storeN 4 g4 g67, sN),
    (.move (kX (.i .i64 (-1))), s5),
    (.move (kX (.i .i64 (4))), s6)]) .ret) .skip)) (.seq (.ops [(.fieldAddr 2 g8, s68),
    (.load1 g68, s69),
    (.bin .sub g69 (kX (.i .i64 (1))), s70),
    (.fieldAddr 2 g8, s71),
    (.store1 g71 g70, sN)]) (.seq (.draw [⟨.loadN 4 g8, s72, 0, (some 72), none, false, none⟩,
    ⟨.fieldAddr 1 g8, s73, 1, (some 73), none, false, none⟩,
    ⟨.load1 g73, s74, 2, (some 74), (some g73), false, none⟩,
    ⟨.storeN 4 g4 g72, sN, 3, none, none, true, (some (some g4, [1, 2]))⟩,
    ⟨.move g74, s5, 4, (some 5), none, false, none⟩,
    ⟨.move (kX (.i .i64 (0))), s6, 5, (some 6), none, false, none⟩]) .ret))) .skip)))) (.ops [(.move g9, s29),
    (.bin .add g29 (kX (.i .i64 (1))), s30),
    (.move g30, s9)])))
noncomputable def T16_9 : CT := (.loop U16_8)
noncomputable def d16_9 (cl : Cl) (m : Nat) (kr : X → X → X → X → Mm → CX) (k0 : X → X → X → Mm → CX) : Nat → X → X → X → X → X → X → X → Mm → CX
  | 0 => fun _ _ _ _ _ _ _ _ => .no
  | n + 1 => fun t1 t2 t4 t7 t8 t9 t511 M =>
  vBin .leq t9 t7 fun t28 =>
  vIf t28 (
  jn (fun (j1 : X → X → X → X → X → X → X → Mm → CX) =>
    jn (fun (j2 : X → X → X → X → X → X → X → Mm → CX) =>
      vBin .gtr t9 (.i .i64 (0)) fun t32 =>
      vIf t32 (
        vFieldAddr 1 t2 fun t33 =>
        vLoad1 t33 M fun t34 =>
        vBin .add t34 t9 fun t36 =>
        vBinG prg .rem 3 t36 t7 M fun t38 M3 =>
        vFieldAddr 1 t8 fun t39 =>
        vStore1 t39 t38 M3 fun _ M4 =>
        vFieldAddr 0 t2 fun t40 =>
        vLoad1 t40 M4 fun t41 =>
        vFieldAddr 1 t8 fun t42 =>
        vLoad1 t42 M4 fun t43 =>
        vIndexAddr 1 t41 t43 fun t44 =>
        vLoad1 t44 M4 fun t45 =>
        vFieldAddr 2 t8 fun t46 =>
        vStore1 t46 t45 M4 fun _ M5 =>
        vFieldAddr 1 t8 fun t47 =>
        vLoad1 t47 M5 fun t48 =>
        vBin .eql t48 (.i .i64 (0)) fun t49 =>
        vIf t49 (
          vFieldAddr 3 t8 fun t50 =>
          vLoad1 t50 M5 fun t51 =>
          vBin .add t51 (.i .i64 (1)) fun t52 =>
          vFieldAddr 3 t8 fun t53 =>
          vStore1 t53 t52 M5 fun _ M6 =>
      j2 t1 t2 t4 t7 t8 t9 t511 M6) (
      j2 t1 t2 t4 t7 t8 t9 t511 M5)) (
      j2 t1 t2 t4 t7 t8 t9 t511 M)) (fun t1 t2 t4 t7 t8 t9 t511 M2 =>
      vFieldAddr 1 t8 fun t55 =>
      vLoad1 t55 M2 fun t56 =>
      vIndexAddr 1 t1 t56 fun t57 =>
      vLoad1 t57 M2 fun t58 =>
      vGuard t58 true (fun k => vFieldAddr 2 t8 fun y => k y M2) M2 fun t60 M7 =>
      vGuard t58 true (fun k => vLoad1 t60 M7 fun y => k y M7) M7 fun t61 M9 =>
      vGuard t58 true (fun k => vBin .gtr t61 (.i .i64 (0)) fun y => k y M9) M9 fun t62 M11 =>
      vPick t58 t62 (.b false) fun t63 =>
      vIf t63 (
        vFieldAddr 3 t8 fun t64 =>
        vLoad1 t64 M11 fun t65 =>
        vBin .gtr t65 (.i .i64 (4611686018427387904)) fun t66 =>
        vIf t66 (
          vBuild [.nils, .int .i64 (.int (0)), .int .i64 (.int (0)), .int .i64 (.int (0))] [] fun t67 =>
          vStoreN 4 t4 t67 M11 fun _ M13 =>
          kr t511 t4 (.i .i64 (-1)) (.i .i64 (4)) M13) (
        vFieldAddr 2 t8 fun t68 =>
        vLoad1 t68 M11 fun t69 =>
        vBin .sub t69 (.i .i64 (1)) fun t70 =>
        vFieldAddr 2 t8 fun t71 =>
        vStore1 t71 t70 M11 fun _ M14 =>
        jn (fun (n3 : Nat) =>
        chk True <|
        vLoadN 4 t8 M14 fun t72 =>
        chk (Pst true false t72 M14 M14 none) <|
        chk True <|
        vFieldAddr 1 t8 fun t73 =>
        chk (Pst true false t73 M14 M14 none) <|
        chk (Old n3 t73) <|
        vLoad1 t73 M14 fun t74 =>
        chk (Pst true false t74 M14 M14 none) <|
        chk True <|
        vStoreN 4 t4 t72 M14 fun _ M15 =>
        chk (Pst false true (.v .undef) M14 M15 (some (some t4, [t73]))) <|
        chk True <|
        chk (Pst true false t74 M15 M15 none) <|
        chk True <|
        chk (Pst true false (.i .i64 (0)) M15 M15 none) <|
        kr t511 t4 t74 (.i .i64 (0)) M15) M14.nx)) (
    j1 t1 t2 t4 t7 t8 t9 t511 M11))) (fun t1 t2 t4 t7 t8 t9 t511 M1 =>
    vBin .add t9 (.i .i64 (1)) fun t30 =>
  d16_9 cl m kr k0 n t1 t2 t4 t7 t8 t30 t511 M1)) (
  k0 t2 t4 t511 M)
theorem z16_9 (cl : Cl) (m : Nat) (kr : X → X → X → X → Mm → CX) (kn : X → X → X → Mm → CX) (k0 : X → X → X → Mm → CX) : semK cl m T16_9 (fun F M => kn (g2 F) (g4 F) (gT 511 F) M) (exB 0 (fun F M => k0 (g2 F) (g4 F) (gT 511 F) M) (fun _ _ _ => .no)) (fun F M => kr (gT 511 F) (g4 F) (g5 F) (g6 F) M) = fun F M => d16_9 cl m kr k0 m (g1 F) (g2 F) (g4 F) (g7 F) (g8 F) (g9 F) (gT 511 F) M := by
  have key : ∀ j, loopK (fun q => semK cl m U16_8 q (exB 0 (fun F M => k0 (g2 F) (g4 F) (gT 511 F) M) (fun _ _ _ => .no)) (fun F M => kr (gT 511 F) (g4 F) (g5 F) (g6 F) M)) j = fun F M => d16_9 cl m kr k0 j (g1 F) (g2 F) (g4 F) (g7 F) (g8 F) (g9 F) (gT 511 F) M := by
    intro j
    induction j with
    | zero => rfl
    | succ j ih =>
      show semK cl m U16_8 (loopK (fun q => semK cl m U16_8 q (exB 0 (fun F M => k0 (g2 F) (g4 F) (gT 511 F) M) (fun _ _ _ => .no)) (fun F M => kr (gT 511 F) (g4 F) (g5 F) (g6 F) M)) j) (exB 0 (fun F M => k0 (g2 F) (g4 F) (gT 511 F) M) (fun _ _ _ => .no)) (fun F M => kr (gT 511 F) (g4 F) (g5 F) (g6 F) M) = _
      rw [ih]
      funext F M; kernel_rfl
  exact key m
noncomputable def T16_8 : CT := (.block 0 T16_9)
noncomputable def d16_8 (cl : Cl) (m : Nat) (kr : X → X → X → X → Mm → CX) (kn : X → X → X → Mm → CX) (t1 t2 t4 t7 t8 t9 t511 : X) (M : Mm) : CX :=
  d16_9 cl m kr kn m t1 t2 t4 t7 t8 t9 t511 M
theorem z16_8 (cl : Cl) (m : Nat) (kr : X → X → X → X → Mm → CX) (kn : X → X → X → Mm → CX) : semK cl m T16_8 (fun F M => kn (g2 F) (g4 F) (gT 511 F) M) (fun _ _ _ => .no) (fun F M => kr (gT 511 F) (g4 F) (g5 F) (g6 F) M) = fun F M => d16_8 cl m kr kn (g1 F) (g2 F) (g4 F) (g7 F) (g8 F) (g9 F) (gT 511 F) M := by
  show semK cl m T16_9 (fun F M => kn (g2 F) (g4 F) (gT 511 F) M) (exB 0 (fun F M => kn (g2 F) (g4 F) (gT 511 F) M) (fun _ _ _ => .no)) (fun F M => kr (gT 511 F) (g4 F) (g5 F) (g6 F) M) = _
  exact (z16_9 cl m kr kn kn).trans (by funext F M; kernel_rfl)
noncomputable def T16_7 : CT := (.seq U16_7 T16_8)
noncomputable def d16_7 (cl : Cl) (m : Nat) (kr : X → X → X → X → Mm → CX) (kn : X → X → X → Mm → CX) (t1 t2 t4 t7 t8 t511 : X) (M : Mm) : CX :=
  d16_8 cl m kr kn t1 t2 t4 t7 t8 (.i .i64 (0)) t511 M
theorem z16_7 (cl : Cl) (m : Nat) (kr : X → X → X → X → Mm → CX) (kn : X → X → X → Mm → CX) : semK cl m T16_7 (fun F M => kn (g2 F) (g4 F) (gT 511 F) M) (fun _ _ _ => .no) (fun F M => kr (gT 511 F) (g4 F) (g5 F) (g6 F) M) = fun F M => d16_7 cl m kr kn (g1 F) (g2 F) (g4 F) (g7 F) (g8 F) (gT 511 F) M := by
  show semK cl m U16_7 (semK cl m T16_8 (fun F M => kn (g2 F) (g4 F) (gT 511 F) M) (fun _ _ _ => .no) (fun F M => kr (gT 511 F) (g4 F) (g5 F) (g6 F) M)) (fun _ _ _ => .no) (fun F M => kr (gT 511 F) (g4 F) (g5 F) (g6 F) M) = _
  rw [z16_8 cl m kr kn]
  funext F M; kernel_rfl
noncomputable def T16_6 : CT := (.seq T16_7 U16_6)
noncomputable def d16_6 (cl : Cl) (m : Nat) (kr : X → X → X → X → Mm → CX) (kn : X → X → X → X → Mm → CX) (t1 t2 t4 t7 t8 t511 : X) (M : Mm) : CX :=
  d16_7 cl m kr (fun t2 t4 t511 M =>
    vLoadN 4 t2 M fun t75 =>
    vStoreN 4 t4 t75 M fun _ M16 =>
    kr t511 t4 (.i .i64 (-1)) (.i .i64 (0)) M16) t1 t2 t4 t7 t8 t511 M
theorem z16_6 (cl : Cl) (m : Nat) (kr : X → X → X → X → Mm → CX) (kn : X → X → X → X → Mm → CX) : semK cl m T16_6 (fun F M => kn (gT 511 F) (g4 F) (g5 F) (g6 F) M) (fun _ _ _ => .no) (fun F M => kr (gT 511 F) (g4 F) (g5 F) (g6 F) M) = fun F M => d16_6 cl m kr kn (g1 F) (g2 F) (g4 F) (g7 F) (g8 F) (gT 511 F) M := by
  have hb : semK cl m U16_6 (fun F M => kn (gT 511 F) (g4 F) (g5 F) (g6 F) M) (fun _ _ _ => .no) (fun F M => kr (gT 511 F) (g4 F) (g5 F) (g6 F) M) = fun F M => (fun t2 t4 t511 M =>
    vLoadN 4 t2 M fun t75 =>
    vStoreN 4 t4 t75 M fun _ M16 =>
    kr t511 t4 (.i .i64 (-1)) (.i .i64 (0)) M16) (g2 F) (g4 F) (gT 511 F) M := by funext F M; kernel_rfl
  show semK cl m T16_7 (semK cl m U16_6 (fun F M => kn (gT 511 F) (g4 F) (g5 F) (g6 F) M) (fun _ _ _ => .no) (fun F M => kr (gT 511 F) (g4 F) (g5 F) (g6 F) M)) (fun _ _ _ => .no) (fun F M => kr (gT 511 F) (g4 F) (g5 F) (g6 F) M) = _
  rw [hb]
  exact (z16_7 cl m kr (fun t2 t4 t511 M =>
    vLoadN 4 t2 M fun t75 =>
    vStoreN 4 t4 t75 M fun _ M16 =>
    kr t511 t4 (.i .i64 (-1)) (.i .i64 (0)) M16) ).trans (by funext F M; kernel_rfl)
noncomputable def T16_5 : CT := (.seq U16_5 T16_6)
noncomputable def d16_5 (cl : Cl) (m : Nat) (kr : X → X → X → X → Mm → CX) (kn : X → X → X → X → Mm → CX) (t1 t2 t4 t7 t511 : X) (M : Mm) : CX :=
  vLoadN 4 t2 M fun t25 =>
  vAlloc 24 4 [.nils, .int .i64 (.int (0)), .int .i64 (.int (0)), .int .i64 (.int (0))] M fun t8 M17 =>
  vStoreN 4 t8 t25 M17 fun _ M18 =>
  d16_6 cl m kr kn t1 t2 t4 t7 t8 t511 M18
theorem z16_5 (cl : Cl) (m : Nat) (kr : X → X → X → X → Mm → CX) (kn : X → X → X → X → Mm → CX) : semK cl m T16_5 (fun F M => kn (gT 511 F) (g4 F) (g5 F) (g6 F) M) (fun _ _ _ => .no) (fun F M => kr (gT 511 F) (g4 F) (g5 F) (g6 F) M) = fun F M => d16_5 cl m kr kn (g1 F) (g2 F) (g4 F) (g7 F) (gT 511 F) M := by
  show semK cl m U16_5 (semK cl m T16_6 (fun F M => kn (gT 511 F) (g4 F) (g5 F) (g6 F) M) (fun _ _ _ => .no) (fun F M => kr (gT 511 F) (g4 F) (g5 F) (g6 F) M)) (fun _ _ _ => .no) (fun F M => kr (gT 511 F) (g4 F) (g5 F) (g6 F) M) = _
  rw [z16_6 cl m kr kn]
  funext F M; kernel_rfl
noncomputable def T16_4 : CT := (.seq U16_4 T16_5)
noncomputable def d16_4 (cl : Cl) (m : Nat) (kr : X → X → X → X → Mm → CX) (kn : X → X → X → X → Mm → CX) (t1 t2 t4 t511 : X) (M : Mm) : CX :=
  vLenS t1 fun t24 =>
  d16_5 cl m kr kn t1 t2 t4 t24 t511 M
theorem z16_4 (cl : Cl) (m : Nat) (kr : X → X → X → X → Mm → CX) (kn : X → X → X → X → Mm → CX) : semK cl m T16_4 (fun F M => kn (gT 511 F) (g4 F) (g5 F) (g6 F) M) (fun _ _ _ => .no) (fun F M => kr (gT 511 F) (g4 F) (g5 F) (g6 F) M) = fun F M => d16_4 cl m kr kn (g1 F) (g2 F) (g4 F) (gT 511 F) M := by
  show semK cl m U16_4 (semK cl m T16_5 (fun F M => kn (gT 511 F) (g4 F) (g5 F) (g6 F) M) (fun _ _ _ => .no) (fun F M => kr (gT 511 F) (g4 F) (g5 F) (g6 F) M)) (fun _ _ _ => .no) (fun F M => kr (gT 511 F) (g4 F) (g5 F) (g6 F) M) = _
  rw [z16_5 cl m kr kn]
  funext F M; kernel_rfl
noncomputable def T16_3 : CT := (.seq U16_3 T16_4)
noncomputable def d16_3 (cl : Cl) (m : Nat) (kr : X → X → X → X → Mm → CX) (kn : X → X → X → X → Mm → CX) (t1 t2 t4 t511 : X) (M : Mm) : CX :=
  vLenS t1 fun t17 =>
  vFieldAddr 0 t2 fun t18 =>
  vLoad1 t18 M fun t19 =>
  vLenS t19 fun t20 =>
  vBin .neq t17 t20 fun t21 =>
  vIf t21 (
    vBuild [.nils, .int .i64 (.int (0)), .int .i64 (.int (0)), .int .i64 (.int (0))] [] fun t22 =>
    vStoreN 4 t4 t22 M fun _ M19 =>
    kr t511 t4 (.i .i64 (-1)) (.i .i64 (1)) M19) (
  d16_4 cl m kr kn t1 t2 t4 t511 M)
theorem z16_3 (cl : Cl) (m : Nat) (kr : X → X → X → X → Mm → CX) (kn : X → X → X → X → Mm → CX) : semK cl m T16_3 (fun F M => kn (gT 511 F) (g4 F) (g5 F) (g6 F) M) (fun _ _ _ => .no) (fun F M => kr (gT 511 F) (g4 F) (g5 F) (g6 F) M) = fun F M => d16_3 cl m kr kn (g1 F) (g2 F) (g4 F) (gT 511 F) M := by
  show semK cl m U16_3 (semK cl m T16_4 (fun F M => kn (gT 511 F) (g4 F) (g5 F) (g6 F) M) (fun _ _ _ => .no) (fun F M => kr (gT 511 F) (g4 F) (g5 F) (g6 F) M)) (fun _ _ _ => .no) (fun F M => kr (gT 511 F) (g4 F) (g5 F) (g6 F) M) = _
  rw [z16_4 cl m kr kn]
  funext F M; kernel_rfl
noncomputable def T16_2 : CT := (.seq U16_2 T16_3)
noncomputable def d16_2 (cl : Cl) (m : Nat) (kr : X → X → X → X → Mm → CX) (kn : X → X → X → X → Mm → CX) (t1 t2 t4 t511 : X) (M : Mm) : CX :=
  vLoadN 4 t2 M fun t10 =>
  vCall cl 13 [t10] M fun t11 M20 =>
  vBin .gtr t11 (.i .i64 (0)) fun t12 =>
  vIf t12 (
    vBuild [.nils, .int .i64 (.int (0)), .int .i64 (.int (0)), .int .i64 (.int (0))] [] fun t13 =>
    vLoadN 4 t2 M20 fun t14 =>
    vCall cl 13 [t14] M20 fun t15 M21 =>
    vStoreN 4 t4 t13 M21 fun _ M22 =>
    kr t511 t4 (.i .i64 (-1)) t15 M22) (
  d16_3 cl m kr kn t1 t2 t4 t511 M20)
theorem z16_2 (cl : Cl) (m : Nat) (kr : X → X → X → X → Mm → CX) (kn : X → X → X → X → Mm → CX) : semK cl m T16_2 (fun F M => kn (gT 511 F) (g4 F) (g5 F) (g6 F) M) (fun _ _ _ => .no) (fun F M => kr (gT 511 F) (g4 F) (g5 F) (g6 F) M) = fun F M => d16_2 cl m kr kn (g1 F) (g2 F) (g4 F) (gT 511 F) M := by
  show semK cl m U16_2 (semK cl m T16_3 (fun F M => kn (gT 511 F) (g4 F) (g5 F) (g6 F) M) (fun _ _ _ => .no) (fun F M => kr (gT 511 F) (g4 F) (g5 F) (g6 F) M)) (fun _ _ _ => .no) (fun F M => kr (gT 511 F) (g4 F) (g5 F) (g6 F) M) = _
  rw [z16_3 cl m kr kn]
  funext F M; kernel_rfl
noncomputable def T16_1 : CT := (.seq U16_1 T16_2)
noncomputable def d16_1 (cl : Cl) (m : Nat) (kr : X → X → X → X → Mm → CX) (kn : X → X → X → X → Mm → CX) (t0 t1 t511 : X) (M : Mm) : CX :=
  vBox 24 4 t0 M fun t2 M23 =>
  vAlloc 24 4 [.nils, .int .i64 (.int (0)), .int .i64 (.int (0)), .int .i64 (.int (0))] M23 fun t4 M24 =>
  d16_2 cl m kr kn t1 t2 t4 t511 M24
theorem z16_1 (cl : Cl) (m : Nat) (kr : X → X → X → X → Mm → CX) (kn : X → X → X → X → Mm → CX) : semK cl m T16_1 (fun F M => kn (gT 511 F) (g4 F) (g5 F) (g6 F) M) (fun _ _ _ => .no) (fun F M => kr (gT 511 F) (g4 F) (g5 F) (g6 F) M) = fun F M => d16_1 cl m kr kn (g0 F) (g1 F) (gT 511 F) M := by
  show semK cl m U16_1 (semK cl m T16_2 (fun F M => kn (gT 511 F) (g4 F) (g5 F) (g6 F) M) (fun _ _ _ => .no) (fun F M => kr (gT 511 F) (g4 F) (g5 F) (g6 F) M)) (fun _ _ _ => .no) (fun F M => kr (gT 511 F) (g4 F) (g5 F) (g6 F) M) = _
  rw [z16_2 cl m kr kn]
  funext F M; kernel_rfl
noncomputable def t16 : CT := T16_1
theorem z16 (cl : Cl) (m : Nat) (kr : X → X → X → X → Mm → CX) : semK cl m t16 (fun F M => kr (gT 511 F) (g4 F) (g5 F) (g6 F) M) (fun _ _ _ => .no) (fun F M => kr (gT 511 F) (g4 F) (g5 F) (g6 F) M) = fun F M => d16_1 cl m kr kr (g0 F) (g1 F) (gT 511 F) M := z16_1 cl m kr kr
noncomputable def d16 (cl : Cl) (m : Nat) (kr : X → X → X → X → Mm → CX) (t0 t1 : X) (M : Mm) : CX :=
  d16_1 cl m kr kr t0 t1 (.v .undef) M
/-! 17: countersign/turns.Next -/
noncomputable def U17_1 : CT := (.ops [(.box 24 4 g0, s2),
    (.alloc 24 4 [.nils, .int .i64 (.int (0)), .int .i64 (.int (0)), .int .i64 (.int (0))], s4),
    (.move (kX (.i .i64 (0))), s5),
    (.move (kX (.b false)), s6),
    (.move (kX (.i .i64 (0))), s7)])
noncomputable def U17_2 : CT := (.seq (.ops [(.loadN 4 g2, s9),
    (.call 12 [g9], s10),
    (.move g10, s8)]) (.seq (.ops [(.move g8, s11),
    (.bin .neq g11 (kX (.i .i64 (0))), s12)]) (.cond g12 (.seq (.ops [(.build [.nils, .int .i64 (.int (0)), .int .i64 (.int (0)), .int .i64 (.int (0))] [], s13),
    (.move g8, s14),
    (.storeN 4 g4 g13, sN),
    (.move (kX (.i .i64 (0))), s5),
    (.move (kX (.b false)), s6),
    (.move g14, s7)]) .ret) .skip)))
noncomputable def U17_3 : CT := (.seq (.ops [(.move g1, s15),
    (.lenS g15, s16),
    (.fieldAddr 0 g2, s17),
    (.load1 g17, s18),
    (.lenS g18, s19),
    (.bin .neq g16 g19, s20)]) (.cond g20 (.seq (.ops [(.build [.nils, .int .i64 (.int (0)), .int .i64 (.int (0)), .int .i64 (.int (0))] [], s21),
    (.storeN 4 g4 g21, sN),
    (.move (kX (.i .i64 (0))), s5),
    (.move (kX (.b false)), s6),
    (.move (kX (.i .i64 (1))), s7)]) .ret) .skip))
noncomputable def U17_4 : CT := (.ops [(.loadN 4 g2, s22),
    (.storeN 4 g4 g22, sN)])
noncomputable def U17_5 : CT := (.ops [(.fieldAddr 0 g2, s23),
    (.load1 g23, s24),
    (.call 32 [g24], s25),
    (.call 31 [g25], s26),
    (.fieldAddr 0 g4, s27),
    (.store1 g27 g26, sN)])
noncomputable def U17_6 : CT := (.seq (.ops [(.move g1, s28),
    (.call 34 [g28, (kX (.b true))], s29),
    (.not g29, s30)]) (.cond g30 (.seq (.ops [(.loadN 4 g4, s31),
    (.storeN 4 g4 g31, sN),
    (.move (kX (.i .i64 (0))), s5),
    (.move (kX (.b false)), s6),
    (.move (kX (.i .i64 (0))), s7)]) .ret) .skip))
noncomputable def U17_7 : CT := (.seq (.seq (.ops [(.fieldAddr 3 g4, s64),
    (.load1 g64, s65),
    (.bin .gtr g65 (kX (.i .i64 (4611686018427387904))), s66)]) (.cond g66 (.seq (.ops [(.build [.nils, .int .i64 (.int (0)), .int .i64 (.int (0)), .int .i64 (.int (0))] [], s67),
    (.storeN 4 g4 g67, sN),
    (.move (kX (.i .i64 (0))), s5),
    (.move (kX (.b false)), s6),
    (.move (kX (.i .i64 (4))), s7)]) .ret) .skip)) (.seq (.ops [(.fieldAddr 2 g4, s68),
    (.load1 g68, s69),
    (.bin .sub g69 (kX (.i .i64 (1))), s70),
    (.fieldAddr 2 g4, s71),
    (.store1 g71 g70, sN)]) (.seq (.ops [(.loadN 4 g4, s72),
    (.fieldAddr 1 g4, s73),
    (.load1 g73, s74),
    (.storeN 4 g4 g72, sN),
    (.move g74, s5),
    (.move (kX (.b true)), s6),
    (.move (kX (.i .i64 (0))), s7)]) .ret)))
noncomputable def U17_8 : CT := (.block 1 (.seq (.seq (.ops [(.fieldAddr 2 g4, s32),
    (.load1 g32, s33),
    (.bin .gtr g33 (kX (.i .i64 (0))), s34),
    (.move g34, s35),
    (.guard g35 true (.move g1), s36),
    (.guard g35 true (.fieldAddr 1 g4), s37),
    (.guard g35 true (.load1 g37), s38),
    (.guard g35 true (.indexAddr 1 g36 g38), s39),
    (.guard g35 true (.load1 g39), s40),
    (.pick g35 g40 (kX (.b false)), s41)]) (.cond g41 (.exit 0) .skip)) (.seq (.seq (.ops [(.fieldAddr 1 g4, s42),
    (.load1 g42, s43),
    (.bin .add g43 (kX (.i .i64 (1))), s44),
    (.fieldAddr 1 g4, s45),
    (.store1 g45 g44, sN)]) (.seq (.ops [(.fieldAddr 1 g4, s46),
    (.load1 g46, s47),
    (.fieldAddr 0 g4, s48),
    (.load1 g48, s49),
    (.lenS g49, s50),
    (.bin .eql g47 g50, s51)]) (.cond g51 (.seq (.ops [(.fieldAddr 1 g4, s52),
    (.store1 g52 (kX (.i .i64 (0))), sN)]) (.ops [(.fieldAddr 3 g4, s53),
    (.load1 g53, s54),
    (.bin .add g54 (kX (.i .i64 (1))), s55),
    (.fieldAddr 3 g4, s56),
    (.store1 g56 g55, sN)])) .skip))) (.ops [(.fieldAddr 0 g4, s57),
    (.load1 g57, s58),
    (.fieldAddr 1 g4, s59),
    (.load1 g59, s60),
    (.indexAddr 1 g58 g60, s61),
    (.load1 g61, s62),
    (.fieldAddr 2 g4, s63),
    (.store1 g63 g62, sN)]))))
noncomputable def T17_10 : CT := (.loop U17_8)
noncomputable def d17_10 (cl : Cl) (m : Nat) (kr : X → X → X → X → X → Mm → CX) (k0 : X → X → Mm → CX) : Nat → X → X → X → Mm → CX
  | 0 => fun _ _ _ _ => .no
  | n + 1 => fun t1 t4 t511 M =>
  vFieldAddr 2 t4 fun t32 =>
  vLoad1 t32 M fun t33 =>
  vBin .gtr t33 (.i .i64 (0)) fun t34 =>
  vGuard t34 true (fun k => k t1 M) M fun t36 M1 =>
  vGuard t34 true (fun k => vFieldAddr 1 t4 fun y => k y M1) M1 fun t37 M3 =>
  vGuard t34 true (fun k => vLoad1 t37 M3 fun y => k y M3) M3 fun t38 M5 =>
  vGuard t34 true (fun k => vIndexAddr 1 t36 t38 fun y => k y M5) M5 fun t39 M7 =>
  vGuard t34 true (fun k => vLoad1 t39 M7 fun y => k y M7) M7 fun t40 M9 =>
  vPick t34 t40 (.b false) fun t41 =>
  vIf t41 (
  k0 t4 t511 M9) (
  jn (fun (j1 : X → X → X → Mm → CX) =>
    vFieldAddr 1 t4 fun t42 =>
    vLoad1 t42 M9 fun t43 =>
    vBin .add t43 (.i .i64 (1)) fun t44 =>
    vFieldAddr 1 t4 fun t45 =>
    vStore1 t45 t44 M9 fun _ M12 =>
    vFieldAddr 1 t4 fun t46 =>
    vLoad1 t46 M12 fun t47 =>
    vFieldAddr 0 t4 fun t48 =>
    vLoad1 t48 M12 fun t49 =>
    vLenS t49 fun t50 =>
    vBin .eql t47 t50 fun t51 =>
    vIf t51 (
      vFieldAddr 1 t4 fun t52 =>
      vStore1 t52 (.i .i64 (0)) M12 fun _ M13 =>
      vFieldAddr 3 t4 fun t53 =>
      vLoad1 t53 M13 fun t54 =>
      vBin .add t54 (.i .i64 (1)) fun t55 =>
      vFieldAddr 3 t4 fun t56 =>
      vStore1 t56 t55 M13 fun _ M14 =>
    j1 t1 t4 t511 M14) (
    j1 t1 t4 t511 M12)) (fun t1 t4 t511 M11 =>
    vFieldAddr 0 t4 fun t57 =>
    vLoad1 t57 M11 fun t58 =>
    vFieldAddr 1 t4 fun t59 =>
    vLoad1 t59 M11 fun t60 =>
    vIndexAddr 1 t58 t60 fun t61 =>
    vLoad1 t61 M11 fun t62 =>
    vFieldAddr 2 t4 fun t63 =>
    vStore1 t63 t62 M11 fun _ M15 =>
  d17_10 cl m kr k0 n t1 t4 t511 M15))
theorem z17_10 (cl : Cl) (m : Nat) (kr : X → X → X → X → X → Mm → CX) (kn : X → X → Mm → CX) (k0 : X → X → Mm → CX) : semK cl m T17_10 (fun F M => kn (g4 F) (gT 511 F) M) (exB 0 (fun F M => k0 (g4 F) (gT 511 F) M) (fun _ _ _ => .no)) (fun F M => kr (gT 511 F) (g4 F) (g5 F) (g6 F) (g7 F) M) = fun F M => d17_10 cl m kr k0 m (g1 F) (g4 F) (gT 511 F) M := by
  have key : ∀ j, loopK (fun q => semK cl m U17_8 q (exB 0 (fun F M => k0 (g4 F) (gT 511 F) M) (fun _ _ _ => .no)) (fun F M => kr (gT 511 F) (g4 F) (g5 F) (g6 F) (g7 F) M)) j = fun F M => d17_10 cl m kr k0 j (g1 F) (g4 F) (gT 511 F) M := by
    intro j
    induction j with
    | zero => rfl
    | succ j ih =>
      show semK cl m U17_8 (loopK (fun q => semK cl m U17_8 q (exB 0 (fun F M => k0 (g4 F) (gT 511 F) M) (fun _ _ _ => .no)) (fun F M => kr (gT 511 F) (g4 F) (g5 F) (g6 F) (g7 F) M)) j) (exB 0 (fun F M => k0 (g4 F) (gT 511 F) M) (fun _ _ _ => .no)) (fun F M => kr (gT 511 F) (g4 F) (g5 F) (g6 F) (g7 F) M) = _
      rw [ih]
      funext F M; kernel_rfl
  exact key m
noncomputable def T17_9 : CT := (.block 0 T17_10)
noncomputable def d17_9 (cl : Cl) (m : Nat) (kr : X → X → X → X → X → Mm → CX) (kn : X → X → Mm → CX) (t1 t4 t511 : X) (M : Mm) : CX :=
  d17_10 cl m kr kn m t1 t4 t511 M
theorem z17_9 (cl : Cl) (m : Nat) (kr : X → X → X → X → X → Mm → CX) (kn : X → X → Mm → CX) : semK cl m T17_9 (fun F M => kn (g4 F) (gT 511 F) M) (fun _ _ _ => .no) (fun F M => kr (gT 511 F) (g4 F) (g5 F) (g6 F) (g7 F) M) = fun F M => d17_9 cl m kr kn (g1 F) (g4 F) (gT 511 F) M := by
  show semK cl m T17_10 (fun F M => kn (g4 F) (gT 511 F) M) (exB 0 (fun F M => kn (g4 F) (gT 511 F) M) (fun _ _ _ => .no)) (fun F M => kr (gT 511 F) (g4 F) (g5 F) (g6 F) (g7 F) M) = _
  exact (z17_10 cl m kr kn kn).trans (by funext F M; kernel_rfl)
noncomputable def T17_8 : CT := (.seq T17_9 U17_7)
noncomputable def d17_8 (cl : Cl) (m : Nat) (kr : X → X → X → X → X → Mm → CX) (kn : X → X → X → X → X → Mm → CX) (t1 t4 t511 : X) (M : Mm) : CX :=
  d17_9 cl m kr (fun t4 t511 M =>
    vFieldAddr 3 t4 fun t64 =>
    vLoad1 t64 M fun t65 =>
    vBin .gtr t65 (.i .i64 (4611686018427387904)) fun t66 =>
    vIf t66 (
      vBuild [.nils, .int .i64 (.int (0)), .int .i64 (.int (0)), .int .i64 (.int (0))] [] fun t67 =>
      vStoreN 4 t4 t67 M fun _ M16 =>
      kr t511 t4 (.i .i64 (0)) (.b false) (.i .i64 (4)) M16) (
    vFieldAddr 2 t4 fun t68 =>
    vLoad1 t68 M fun t69 =>
    vBin .sub t69 (.i .i64 (1)) fun t70 =>
    vFieldAddr 2 t4 fun t71 =>
    vStore1 t71 t70 M fun _ M17 =>
    vLoadN 4 t4 M17 fun t72 =>
    vFieldAddr 1 t4 fun t73 =>
    vLoad1 t73 M17 fun t74 =>
    vStoreN 4 t4 t72 M17 fun _ M18 =>
    kr t511 t4 t74 (.b true) (.i .i64 (0)) M18)) t1 t4 t511 M
theorem z17_8 (cl : Cl) (m : Nat) (kr : X → X → X → X → X → Mm → CX) (kn : X → X → X → X → X → Mm → CX) : semK cl m T17_8 (fun F M => kn (gT 511 F) (g4 F) (g5 F) (g6 F) (g7 F) M) (fun _ _ _ => .no) (fun F M => kr (gT 511 F) (g4 F) (g5 F) (g6 F) (g7 F) M) = fun F M => d17_8 cl m kr kn (g1 F) (g4 F) (gT 511 F) M := by
  have hb : semK cl m U17_7 (fun F M => kn (gT 511 F) (g4 F) (g5 F) (g6 F) (g7 F) M) (fun _ _ _ => .no) (fun F M => kr (gT 511 F) (g4 F) (g5 F) (g6 F) (g7 F) M) = fun F M => (fun t4 t511 M =>
    vFieldAddr 3 t4 fun t64 =>
    vLoad1 t64 M fun t65 =>
    vBin .gtr t65 (.i .i64 (4611686018427387904)) fun t66 =>
    vIf t66 (
      vBuild [.nils, .int .i64 (.int (0)), .int .i64 (.int (0)), .int .i64 (.int (0))] [] fun t67 =>
      vStoreN 4 t4 t67 M fun _ M16 =>
      kr t511 t4 (.i .i64 (0)) (.b false) (.i .i64 (4)) M16) (
    vFieldAddr 2 t4 fun t68 =>
    vLoad1 t68 M fun t69 =>
    vBin .sub t69 (.i .i64 (1)) fun t70 =>
    vFieldAddr 2 t4 fun t71 =>
    vStore1 t71 t70 M fun _ M17 =>
    vLoadN 4 t4 M17 fun t72 =>
    vFieldAddr 1 t4 fun t73 =>
    vLoad1 t73 M17 fun t74 =>
    vStoreN 4 t4 t72 M17 fun _ M18 =>
    kr t511 t4 t74 (.b true) (.i .i64 (0)) M18)) (g4 F) (gT 511 F) M := by funext F M; kernel_rfl
  show semK cl m T17_9 (semK cl m U17_7 (fun F M => kn (gT 511 F) (g4 F) (g5 F) (g6 F) (g7 F) M) (fun _ _ _ => .no) (fun F M => kr (gT 511 F) (g4 F) (g5 F) (g6 F) (g7 F) M)) (fun _ _ _ => .no) (fun F M => kr (gT 511 F) (g4 F) (g5 F) (g6 F) (g7 F) M) = _
  rw [hb]
  exact (z17_9 cl m kr (fun t4 t511 M =>
    vFieldAddr 3 t4 fun t64 =>
    vLoad1 t64 M fun t65 =>
    vBin .gtr t65 (.i .i64 (4611686018427387904)) fun t66 =>
    vIf t66 (
      vBuild [.nils, .int .i64 (.int (0)), .int .i64 (.int (0)), .int .i64 (.int (0))] [] fun t67 =>
      vStoreN 4 t4 t67 M fun _ M16 =>
      kr t511 t4 (.i .i64 (0)) (.b false) (.i .i64 (4)) M16) (
    vFieldAddr 2 t4 fun t68 =>
    vLoad1 t68 M fun t69 =>
    vBin .sub t69 (.i .i64 (1)) fun t70 =>
    vFieldAddr 2 t4 fun t71 =>
    vStore1 t71 t70 M fun _ M17 =>
    vLoadN 4 t4 M17 fun t72 =>
    vFieldAddr 1 t4 fun t73 =>
    vLoad1 t73 M17 fun t74 =>
    vStoreN 4 t4 t72 M17 fun _ M18 =>
    kr t511 t4 t74 (.b true) (.i .i64 (0)) M18)) ).trans (by funext F M; kernel_rfl)
noncomputable def T17_7 : CT := (.seq .skip T17_8)
noncomputable def d17_7 (cl : Cl) (m : Nat) (kr : X → X → X → X → X → Mm → CX) (kn : X → X → X → X → X → Mm → CX) (t1 t4 t511 : X) (M : Mm) : CX :=
  d17_8 cl m kr kn t1 t4 t511 M
theorem z17_7 (cl : Cl) (m : Nat) (kr : X → X → X → X → X → Mm → CX) (kn : X → X → X → X → X → Mm → CX) : semK cl m T17_7 (fun F M => kn (gT 511 F) (g4 F) (g5 F) (g6 F) (g7 F) M) (fun _ _ _ => .no) (fun F M => kr (gT 511 F) (g4 F) (g5 F) (g6 F) (g7 F) M) = fun F M => d17_7 cl m kr kn (g1 F) (g4 F) (gT 511 F) M := by
  show semK cl m .skip (semK cl m T17_8 (fun F M => kn (gT 511 F) (g4 F) (g5 F) (g6 F) (g7 F) M) (fun _ _ _ => .no) (fun F M => kr (gT 511 F) (g4 F) (g5 F) (g6 F) (g7 F) M)) (fun _ _ _ => .no) (fun F M => kr (gT 511 F) (g4 F) (g5 F) (g6 F) (g7 F) M) = _
  rw [z17_8 cl m kr kn]
  funext F M; kernel_rfl
noncomputable def T17_6 : CT := (.seq U17_6 T17_7)
noncomputable def d17_6 (cl : Cl) (m : Nat) (kr : X → X → X → X → X → Mm → CX) (kn : X → X → X → X → X → Mm → CX) (t1 t4 t511 : X) (M : Mm) : CX :=
  vCall cl 34 [t1, (.b true)] M fun t29 M19 =>
  vNot t29 fun t30 =>
  vIf t30 (
    vLoadN 4 t4 M19 fun t31 =>
    vStoreN 4 t4 t31 M19 fun _ M20 =>
    kr t511 t4 (.i .i64 (0)) (.b false) (.i .i64 (0)) M20) (
  d17_7 cl m kr kn t1 t4 t511 M19)
theorem z17_6 (cl : Cl) (m : Nat) (kr : X → X → X → X → X → Mm → CX) (kn : X → X → X → X → X → Mm → CX) : semK cl m T17_6 (fun F M => kn (gT 511 F) (g4 F) (g5 F) (g6 F) (g7 F) M) (fun _ _ _ => .no) (fun F M => kr (gT 511 F) (g4 F) (g5 F) (g6 F) (g7 F) M) = fun F M => d17_6 cl m kr kn (g1 F) (g4 F) (gT 511 F) M := by
  show semK cl m U17_6 (semK cl m T17_7 (fun F M => kn (gT 511 F) (g4 F) (g5 F) (g6 F) (g7 F) M) (fun _ _ _ => .no) (fun F M => kr (gT 511 F) (g4 F) (g5 F) (g6 F) (g7 F) M)) (fun _ _ _ => .no) (fun F M => kr (gT 511 F) (g4 F) (g5 F) (g6 F) (g7 F) M) = _
  rw [z17_7 cl m kr kn]
  funext F M; kernel_rfl
noncomputable def T17_5 : CT := (.seq U17_5 T17_6)
noncomputable def d17_5 (cl : Cl) (m : Nat) (kr : X → X → X → X → X → Mm → CX) (kn : X → X → X → X → X → Mm → CX) (t1 t2 t4 t511 : X) (M : Mm) : CX :=
  vFieldAddr 0 t2 fun t23 =>
  vLoad1 t23 M fun t24 =>
  vCall cl 32 [t24] M fun t25 M21 =>
  vCall cl 31 [t25] M21 fun t26 M22 =>
  vFieldAddr 0 t4 fun t27 =>
  vStore1 t27 t26 M22 fun _ M23 =>
  d17_6 cl m kr kn t1 t4 t511 M23
theorem z17_5 (cl : Cl) (m : Nat) (kr : X → X → X → X → X → Mm → CX) (kn : X → X → X → X → X → Mm → CX) : semK cl m T17_5 (fun F M => kn (gT 511 F) (g4 F) (g5 F) (g6 F) (g7 F) M) (fun _ _ _ => .no) (fun F M => kr (gT 511 F) (g4 F) (g5 F) (g6 F) (g7 F) M) = fun F M => d17_5 cl m kr kn (g1 F) (g2 F) (g4 F) (gT 511 F) M := by
  show semK cl m U17_5 (semK cl m T17_6 (fun F M => kn (gT 511 F) (g4 F) (g5 F) (g6 F) (g7 F) M) (fun _ _ _ => .no) (fun F M => kr (gT 511 F) (g4 F) (g5 F) (g6 F) (g7 F) M)) (fun _ _ _ => .no) (fun F M => kr (gT 511 F) (g4 F) (g5 F) (g6 F) (g7 F) M) = _
  rw [z17_6 cl m kr kn]
  funext F M; kernel_rfl
noncomputable def T17_4 : CT := (.seq U17_4 T17_5)
noncomputable def d17_4 (cl : Cl) (m : Nat) (kr : X → X → X → X → X → Mm → CX) (kn : X → X → X → X → X → Mm → CX) (t1 t2 t4 t511 : X) (M : Mm) : CX :=
  vLoadN 4 t2 M fun t22 =>
  vStoreN 4 t4 t22 M fun _ M24 =>
  d17_5 cl m kr kn t1 t2 t4 t511 M24
theorem z17_4 (cl : Cl) (m : Nat) (kr : X → X → X → X → X → Mm → CX) (kn : X → X → X → X → X → Mm → CX) : semK cl m T17_4 (fun F M => kn (gT 511 F) (g4 F) (g5 F) (g6 F) (g7 F) M) (fun _ _ _ => .no) (fun F M => kr (gT 511 F) (g4 F) (g5 F) (g6 F) (g7 F) M) = fun F M => d17_4 cl m kr kn (g1 F) (g2 F) (g4 F) (gT 511 F) M := by
  show semK cl m U17_4 (semK cl m T17_5 (fun F M => kn (gT 511 F) (g4 F) (g5 F) (g6 F) (g7 F) M) (fun _ _ _ => .no) (fun F M => kr (gT 511 F) (g4 F) (g5 F) (g6 F) (g7 F) M)) (fun _ _ _ => .no) (fun F M => kr (gT 511 F) (g4 F) (g5 F) (g6 F) (g7 F) M) = _
  rw [z17_5 cl m kr kn]
  funext F M; kernel_rfl
noncomputable def T17_3 : CT := (.seq U17_3 T17_4)
noncomputable def d17_3 (cl : Cl) (m : Nat) (kr : X → X → X → X → X → Mm → CX) (kn : X → X → X → X → X → Mm → CX) (t1 t2 t4 t511 : X) (M : Mm) : CX :=
  vLenS t1 fun t16 =>
  vFieldAddr 0 t2 fun t17 =>
  vLoad1 t17 M fun t18 =>
  vLenS t18 fun t19 =>
  vBin .neq t16 t19 fun t20 =>
  vIf t20 (
    vBuild [.nils, .int .i64 (.int (0)), .int .i64 (.int (0)), .int .i64 (.int (0))] [] fun t21 =>
    vStoreN 4 t4 t21 M fun _ M25 =>
    kr t511 t4 (.i .i64 (0)) (.b false) (.i .i64 (1)) M25) (
  d17_4 cl m kr kn t1 t2 t4 t511 M)
theorem z17_3 (cl : Cl) (m : Nat) (kr : X → X → X → X → X → Mm → CX) (kn : X → X → X → X → X → Mm → CX) : semK cl m T17_3 (fun F M => kn (gT 511 F) (g4 F) (g5 F) (g6 F) (g7 F) M) (fun _ _ _ => .no) (fun F M => kr (gT 511 F) (g4 F) (g5 F) (g6 F) (g7 F) M) = fun F M => d17_3 cl m kr kn (g1 F) (g2 F) (g4 F) (gT 511 F) M := by
  show semK cl m U17_3 (semK cl m T17_4 (fun F M => kn (gT 511 F) (g4 F) (g5 F) (g6 F) (g7 F) M) (fun _ _ _ => .no) (fun F M => kr (gT 511 F) (g4 F) (g5 F) (g6 F) (g7 F) M)) (fun _ _ _ => .no) (fun F M => kr (gT 511 F) (g4 F) (g5 F) (g6 F) (g7 F) M) = _
  rw [z17_4 cl m kr kn]
  funext F M; kernel_rfl
noncomputable def T17_2 : CT := (.seq U17_2 T17_3)
noncomputable def d17_2 (cl : Cl) (m : Nat) (kr : X → X → X → X → X → Mm → CX) (kn : X → X → X → X → X → Mm → CX) (t1 t2 t4 t511 : X) (M : Mm) : CX :=
  vLoadN 4 t2 M fun t9 =>
  vCall cl 12 [t9] M fun t10 M26 =>
  vBin .neq t10 (.i .i64 (0)) fun t12 =>
  vIf t12 (
    vBuild [.nils, .int .i64 (.int (0)), .int .i64 (.int (0)), .int .i64 (.int (0))] [] fun t13 =>
    vStoreN 4 t4 t13 M26 fun _ M27 =>
    kr t511 t4 (.i .i64 (0)) (.b false) t10 M27) (
  d17_3 cl m kr kn t1 t2 t4 t511 M26)
theorem z17_2 (cl : Cl) (m : Nat) (kr : X → X → X → X → X → Mm → CX) (kn : X → X → X → X → X → Mm → CX) : semK cl m T17_2 (fun F M => kn (gT 511 F) (g4 F) (g5 F) (g6 F) (g7 F) M) (fun _ _ _ => .no) (fun F M => kr (gT 511 F) (g4 F) (g5 F) (g6 F) (g7 F) M) = fun F M => d17_2 cl m kr kn (g1 F) (g2 F) (g4 F) (gT 511 F) M := by
  show semK cl m U17_2 (semK cl m T17_3 (fun F M => kn (gT 511 F) (g4 F) (g5 F) (g6 F) (g7 F) M) (fun _ _ _ => .no) (fun F M => kr (gT 511 F) (g4 F) (g5 F) (g6 F) (g7 F) M)) (fun _ _ _ => .no) (fun F M => kr (gT 511 F) (g4 F) (g5 F) (g6 F) (g7 F) M) = _
  rw [z17_3 cl m kr kn]
  funext F M; kernel_rfl
noncomputable def T17_1 : CT := (.seq U17_1 T17_2)
noncomputable def d17_1 (cl : Cl) (m : Nat) (kr : X → X → X → X → X → Mm → CX) (kn : X → X → X → X → X → Mm → CX) (t0 t1 t511 : X) (M : Mm) : CX :=
  vBox 24 4 t0 M fun t2 M28 =>
  vAlloc 24 4 [.nils, .int .i64 (.int (0)), .int .i64 (.int (0)), .int .i64 (.int (0))] M28 fun t4 M29 =>
  d17_2 cl m kr kn t1 t2 t4 t511 M29
theorem z17_1 (cl : Cl) (m : Nat) (kr : X → X → X → X → X → Mm → CX) (kn : X → X → X → X → X → Mm → CX) : semK cl m T17_1 (fun F M => kn (gT 511 F) (g4 F) (g5 F) (g6 F) (g7 F) M) (fun _ _ _ => .no) (fun F M => kr (gT 511 F) (g4 F) (g5 F) (g6 F) (g7 F) M) = fun F M => d17_1 cl m kr kn (g0 F) (g1 F) (gT 511 F) M := by
  show semK cl m U17_1 (semK cl m T17_2 (fun F M => kn (gT 511 F) (g4 F) (g5 F) (g6 F) (g7 F) M) (fun _ _ _ => .no) (fun F M => kr (gT 511 F) (g4 F) (g5 F) (g6 F) (g7 F) M)) (fun _ _ _ => .no) (fun F M => kr (gT 511 F) (g4 F) (g5 F) (g6 F) (g7 F) M) = _
  rw [z17_2 cl m kr kn]
  funext F M; kernel_rfl
noncomputable def t17 : CT := T17_1
theorem z17 (cl : Cl) (m : Nat) (kr : X → X → X → X → X → Mm → CX) : semK cl m t17 (fun F M => kr (gT 511 F) (g4 F) (g5 F) (g6 F) (g7 F) M) (fun _ _ _ => .no) (fun F M => kr (gT 511 F) (g4 F) (g5 F) (g6 F) (g7 F) M) = fun F M => d17_1 cl m kr kr (g0 F) (g1 F) (gT 511 F) M := z17_1 cl m kr kr
noncomputable def d17 (cl : Cl) (m : Nat) (kr : X → X → X → X → X → Mm → CX) (t0 t1 : X) (M : Mm) : CX :=
  d17_1 cl m kr kr t0 t1 (.v .undef) M
/-! 18: (countersign/countersignlaw36.T).Of -/
noncomputable def U18_1 : CT := (.ops [(.box 42 4 g0, s1),
    (.alloc 24 4 [.nils, .int .i64 (.int (0)), .int .i64 (.int (0)), .int .i64 (.int (0))], s2)])
noncomputable def U18_2 : CT := (.ops [(.alloc 24 4 [.nils, .int .i64 (.int (0)), .int .i64 (.int (0)), .int .i64 (.int (0))], s3)])
noncomputable def U18_3 : CT := (.seq (.seq (.ops [(.fieldAddr 0 g3, s29),
    (.load1 g29, s30),
    (.lenS g30, s31),
    (.bin .eql g31 (kX (.i .i64 (0))), s32)]) (.cond g32 (.ops [(.slit prg 22 1 [(0, (.const (.int .i64 (1))))] 60, s33),
    (.fieldAddr 0 g3, s34),
    (.store1 g34 g33, sN)]) .skip)) (.seq (.ops [(.fieldAddr 1 g1, s35),
    (.load1 g35, s36),
    (.conv .i64 g36, s37),
    (.fieldAddr 0 g3, s38),
    (.load1 g38, s39),
    (.lenS g39, s40),
    (.binG prg .rem 3 3 (.tmp 37) (.tmp 40) 60, s41),
    (.fieldAddr 1 g3, s42),
    (.store1 g42 g41, sN)]) (.seq (.ops [(.fieldAddr 2 g1, s43),
    (.load1 g43, s44),
    (.conv .i64 g44, s45),
    (.fieldAddr 0 g3, s46),
    (.load1 g46, s47),
    (.fieldAddr 1 g3, s48),
    (.load1 g48, s49),
    (.indexAddr 1 g47 g49, s50),
    (.load1 g50, s51),
    (.bin .add g51 (kX (.i .i64 (1))), s52),
    (.binG prg .rem 3 3 (.tmp 45) (.tmp 52) 60, s53),
    (.fieldAddr 2 g3, s54),
    (.store1 g54 g53, sN)]) (.seq (.ops [(.fieldAddr 3 g1, s55),
    (.load1 g55, s56),
    (.conv .i64 g56, s57),
    (.fieldAddr 3 g3, s58),
    (.store1 g58 g57, sN)]) (.seq (.ops [(.loadN 4 g3, s59),
    (.storeN 4 g2 g59, sN)]) .ret)))))
noncomputable def U18_4 : CT := (.ops [(.move (kX (.i .i64 (0))), s4)])
noncomputable def U18_5 : CT := (.seq (.seq (.ops [(.move g4, s5),
    (.fieldAddr 0 g1, s6),
    (.load1 g6, s7),
    (.lenS g7, s8),
    (.bin .lss g5 g8, s9),
    (.move g9, s10),
    (.guard g10 true (.move g4), s11),
    (.guard g10 true (.bin .lss g11 (kX (.i .i64 (5)))), s12),
    (.pick g10 g12 (kX (.b false)), s13)]) (.cond g13 .skip (.exit 0))) (.seq (.block 1 (.draw [⟨.fieldAddr 0 g3, s16, 0, (some 16), none, false, none⟩,
    ⟨.load1 g16, s17, 1, (some 17), (some g16), false, none⟩,
    ⟨.fieldAddr 0 g1, s18, 2, (some 18), none, false, none⟩,
    ⟨.load1 g18, s19, 3, (some 19), none, false, none⟩,
    ⟨.move g4, s20, 4, (some 20), none, false, none⟩,
    ⟨.indexAddr 1 g19 g20, s21, 5, (some 21), none, false, none⟩,
    ⟨.load1 g21, s22, 6, (some 22), none, false, none⟩,
    ⟨.binG prg .rem 5 5 (.tmp 22) (.const (.int .u8 (8))) 60, s23, 7, (some 23), none, false, none⟩,
    ⟨.conv .i64 g23, s24, 8, (some 24), none, true, (some (none, [0, 1]))⟩,
    ⟨.bin .add (kX (.i .i64 (1))) g24, s25, 9, (some 25), none, false, none⟩,
    ⟨.slit prg 22 1 [(0, (.tmp 25))] 60, s26, 10, (some 26), none, true, (some (none, [0, 1]))⟩,
    ⟨.app prg 22 22 (.tmp 17) (.tmp 26) 60, s27, 11, (some 27), none, true, none⟩,
    ⟨.fieldAddr 0 g3, s28, 12, (some 28), none, false, none⟩,
    ⟨.store1 g28 g27, sN, 13, none, none, true, none⟩])) (.ops [(.move g4, s14),
    (.bin .add g14 (kX (.i .i64 (1))), s15),
    (.move g15, s4)])))
noncomputable def T18_6 : CT := (.loop U18_5)
noncomputable def d18_6 (cl : Cl) (m : Nat) (kr : X → X → Mm → CX) (k0 : X → X → X → X → Mm → CX) : Nat → X → X → X → X → X → Mm → CX
  | 0 => fun _ _ _ _ _ _ => .no
  | n + 1 => fun t1 t2 t3 t4 t511 M =>
  vFieldAddr 0 t1 fun t6 =>
  vLoad1 t6 M fun t7 =>
  vLenS t7 fun t8 =>
  vBin .lss t4 t8 fun t9 =>
  vGuard t9 true (fun k => k t4 M) M fun t11 M1 =>
  vGuard t9 true (fun k => vBin .lss t11 (.i .i64 (5)) fun y => k y M1) M1 fun t12 M3 =>
  vPick t9 t12 (.b false) fun t13 =>
  vIf t13 (
  jn (fun (n1 : Nat) =>
  chk True <|
  vFieldAddr 0 t3 fun t16 =>
  chk (Pst true false t16 M3 M3 none) <|
  chk (Old n1 t16) <|
  vLoad1 t16 M3 fun t17 =>
  chk (Pst true false t17 M3 M3 none) <|
  chk True <|
  vFieldAddr 0 t1 fun t18 =>
  chk (Pst true false t18 M3 M3 none) <|
  chk True <|
  vLoad1 t18 M3 fun t19 =>
  chk (Pst true false t19 M3 M3 none) <|
  chk True <|
  chk (Pst true false t4 M3 M3 none) <|
  chk True <|
  vIndexAddr 1 t19 t4 fun t21 =>
  chk (Pst true false t21 M3 M3 none) <|
  chk True <|
  vLoad1 t21 M3 fun t22 =>
  chk (Pst true false t22 M3 M3 none) <|
  chk True <|
  vBinG prg .rem 5 t22 (.i .u8 (8)) M3 fun t23 M5 =>
  chk (Pst true false t23 M3 M5 none) <|
  chk True <|
  vConv .i64 t23 fun t24 =>
  chk (Pst true true t24 M5 M5 (some (none, [t16]))) <|
  chk True <|
  vBin .add (.i .i64 (1)) t24 fun t25 =>
  chk (Pst true false t25 M5 M5 none) <|
  chk True <|
  vSlit prg 22 1 [(0, t25)] M5 fun t26 M6 =>
  chk (Pst true true t26 M5 M6 (some (none, [t16]))) <|
  chk True <|
  vApp prg 22 22 t17 t26 M6 fun t27 M7 =>
  chk (Pst true true t27 M6 M7 none) <|
  chk True <|
  vFieldAddr 0 t3 fun t28 =>
  chk (Pst true false t28 M7 M7 none) <|
  chk True <|
  vStore1 t28 t27 M7 fun _ M8 =>
  chk (Pst false true (.v .undef) M7 M8 none) <|
  vBin .add t4 (.i .i64 (1)) fun t15 =>
  d18_6 cl m kr k0 n t1 t2 t3 t15 t511 M8) M3.nx) (
  k0 t1 t2 t3 t511 M3)
theorem z18_6 (cl : Cl) (m : Nat) (kr : X → X → Mm → CX) (kn : X → X → X → X → Mm → CX) (k0 : X → X → X → X → Mm → CX) : semK cl m T18_6 (fun F M => kn (g1 F) (g2 F) (g3 F) (gT 511 F) M) (exB 0 (fun F M => k0 (g1 F) (g2 F) (g3 F) (gT 511 F) M) (fun _ _ _ => .no)) (fun F M => kr (gT 511 F) (g2 F) M) = fun F M => d18_6 cl m kr k0 m (g1 F) (g2 F) (g3 F) (g4 F) (gT 511 F) M := by
  have key : ∀ j, loopK (fun q => semK cl m U18_5 q (exB 0 (fun F M => k0 (g1 F) (g2 F) (g3 F) (gT 511 F) M) (fun _ _ _ => .no)) (fun F M => kr (gT 511 F) (g2 F) M)) j = fun F M => d18_6 cl m kr k0 j (g1 F) (g2 F) (g3 F) (g4 F) (gT 511 F) M := by
    intro j
    induction j with
    | zero => rfl
    | succ j ih =>
      show semK cl m U18_5 (loopK (fun q => semK cl m U18_5 q (exB 0 (fun F M => k0 (g1 F) (g2 F) (g3 F) (gT 511 F) M) (fun _ _ _ => .no)) (fun F M => kr (gT 511 F) (g2 F) M)) j) (exB 0 (fun F M => k0 (g1 F) (g2 F) (g3 F) (gT 511 F) M) (fun _ _ _ => .no)) (fun F M => kr (gT 511 F) (g2 F) M) = _
      rw [ih]
      funext F M; kernel_rfl
  exact key m
noncomputable def T18_5 : CT := (.block 0 T18_6)
noncomputable def d18_5 (cl : Cl) (m : Nat) (kr : X → X → Mm → CX) (kn : X → X → X → X → Mm → CX) (t1 t2 t3 t4 t511 : X) (M : Mm) : CX :=
  d18_6 cl m kr kn m t1 t2 t3 t4 t511 M
theorem z18_5 (cl : Cl) (m : Nat) (kr : X → X → Mm → CX) (kn : X → X → X → X → Mm → CX) : semK cl m T18_5 (fun F M => kn (g1 F) (g2 F) (g3 F) (gT 511 F) M) (fun _ _ _ => .no) (fun F M => kr (gT 511 F) (g2 F) M) = fun F M => d18_5 cl m kr kn (g1 F) (g2 F) (g3 F) (g4 F) (gT 511 F) M := by
  show semK cl m T18_6 (fun F M => kn (g1 F) (g2 F) (g3 F) (gT 511 F) M) (exB 0 (fun F M => kn (g1 F) (g2 F) (g3 F) (gT 511 F) M) (fun _ _ _ => .no)) (fun F M => kr (gT 511 F) (g2 F) M) = _
  exact (z18_6 cl m kr kn kn).trans (by funext F M; kernel_rfl)
noncomputable def T18_4 : CT := (.seq U18_4 T18_5)
noncomputable def d18_4 (cl : Cl) (m : Nat) (kr : X → X → Mm → CX) (kn : X → X → X → X → Mm → CX) (t1 t2 t3 t511 : X) (M : Mm) : CX :=
  d18_5 cl m kr kn t1 t2 t3 (.i .i64 (0)) t511 M
theorem z18_4 (cl : Cl) (m : Nat) (kr : X → X → Mm → CX) (kn : X → X → X → X → Mm → CX) : semK cl m T18_4 (fun F M => kn (g1 F) (g2 F) (g3 F) (gT 511 F) M) (fun _ _ _ => .no) (fun F M => kr (gT 511 F) (g2 F) M) = fun F M => d18_4 cl m kr kn (g1 F) (g2 F) (g3 F) (gT 511 F) M := by
  show semK cl m U18_4 (semK cl m T18_5 (fun F M => kn (g1 F) (g2 F) (g3 F) (gT 511 F) M) (fun _ _ _ => .no) (fun F M => kr (gT 511 F) (g2 F) M)) (fun _ _ _ => .no) (fun F M => kr (gT 511 F) (g2 F) M) = _
  rw [z18_5 cl m kr kn]
  funext F M; kernel_rfl
noncomputable def T18_3 : CT := (.seq T18_4 U18_3)
noncomputable def d18_3 (cl : Cl) (m : Nat) (kr : X → X → Mm → CX) (kn : X → X → Mm → CX) (t1 t2 t3 t511 : X) (M : Mm) : CX :=
  d18_4 cl m kr (fun t1 t2 t3 t511 M =>
    jn (fun (j2 : X → X → X → X → Mm → CX) =>
      vFieldAddr 0 t3 fun t29 =>
      vLoad1 t29 M fun t30 =>
      vLenS t30 fun t31 =>
      vBin .eql t31 (.i .i64 (0)) fun t32 =>
      vIf t32 (
        vSlit prg 22 1 [(0, (.i .i64 (1)))] M fun t33 M10 =>
        vFieldAddr 0 t3 fun t34 =>
        vStore1 t34 t33 M10 fun _ M11 =>
      j2 t1 t2 t3 t511 M11) (
      j2 t1 t2 t3 t511 M)) (fun t1 t2 t3 t511 M9 =>
      vFieldAddr 1 t1 fun t35 =>
      vLoad1 t35 M9 fun t36 =>
      vConv .i64 t36 fun t37 =>
      vFieldAddr 0 t3 fun t38 =>
      vLoad1 t38 M9 fun t39 =>
      vLenS t39 fun t40 =>
      vBinG prg .rem 3 t37 t40 M9 fun t41 M12 =>
      vFieldAddr 1 t3 fun t42 =>
      vStore1 t42 t41 M12 fun _ M13 =>
      vFieldAddr 2 t1 fun t43 =>
      vLoad1 t43 M13 fun t44 =>
      vConv .i64 t44 fun t45 =>
      vFieldAddr 0 t3 fun t46 =>
      vLoad1 t46 M13 fun t47 =>
      vFieldAddr 1 t3 fun t48 =>
      vLoad1 t48 M13 fun t49 =>
      vIndexAddr 1 t47 t49 fun t50 =>
      vLoad1 t50 M13 fun t51 =>
      vBin .add t51 (.i .i64 (1)) fun t52 =>
      vBinG prg .rem 3 t45 t52 M13 fun t53 M14 =>
      vFieldAddr 2 t3 fun t54 =>
      vStore1 t54 t53 M14 fun _ M15 =>
      vFieldAddr 3 t1 fun t55 =>
      vLoad1 t55 M15 fun t56 =>
      vConv .i64 t56 fun t57 =>
      vFieldAddr 3 t3 fun t58 =>
      vStore1 t58 t57 M15 fun _ M16 =>
      vLoadN 4 t3 M16 fun t59 =>
      vStoreN 4 t2 t59 M16 fun _ M17 =>
      kr t511 t2 M17)) t1 t2 t3 t511 M
theorem z18_3 (cl : Cl) (m : Nat) (kr : X → X → Mm → CX) (kn : X → X → Mm → CX) : semK cl m T18_3 (fun F M => kn (gT 511 F) (g2 F) M) (fun _ _ _ => .no) (fun F M => kr (gT 511 F) (g2 F) M) = fun F M => d18_3 cl m kr kn (g1 F) (g2 F) (g3 F) (gT 511 F) M := by
  have hb : semK cl m U18_3 (fun F M => kn (gT 511 F) (g2 F) M) (fun _ _ _ => .no) (fun F M => kr (gT 511 F) (g2 F) M) = fun F M => (fun t1 t2 t3 t511 M =>
    jn (fun (j2 : X → X → X → X → Mm → CX) =>
      vFieldAddr 0 t3 fun t29 =>
      vLoad1 t29 M fun t30 =>
      vLenS t30 fun t31 =>
      vBin .eql t31 (.i .i64 (0)) fun t32 =>
      vIf t32 (
        vSlit prg 22 1 [(0, (.i .i64 (1)))] M fun t33 M10 =>
        vFieldAddr 0 t3 fun t34 =>
        vStore1 t34 t33 M10 fun _ M11 =>
      j2 t1 t2 t3 t511 M11) (
      j2 t1 t2 t3 t511 M)) (fun t1 t2 t3 t511 M9 =>
      vFieldAddr 1 t1 fun t35 =>
      vLoad1 t35 M9 fun t36 =>
      vConv .i64 t36 fun t37 =>
      vFieldAddr 0 t3 fun t38 =>
      vLoad1 t38 M9 fun t39 =>
      vLenS t39 fun t40 =>
      vBinG prg .rem 3 t37 t40 M9 fun t41 M12 =>
      vFieldAddr 1 t3 fun t42 =>
      vStore1 t42 t41 M12 fun _ M13 =>
      vFieldAddr 2 t1 fun t43 =>
      vLoad1 t43 M13 fun t44 =>
      vConv .i64 t44 fun t45 =>
      vFieldAddr 0 t3 fun t46 =>
      vLoad1 t46 M13 fun t47 =>
      vFieldAddr 1 t3 fun t48 =>
      vLoad1 t48 M13 fun t49 =>
      vIndexAddr 1 t47 t49 fun t50 =>
      vLoad1 t50 M13 fun t51 =>
      vBin .add t51 (.i .i64 (1)) fun t52 =>
      vBinG prg .rem 3 t45 t52 M13 fun t53 M14 =>
      vFieldAddr 2 t3 fun t54 =>
      vStore1 t54 t53 M14 fun _ M15 =>
      vFieldAddr 3 t1 fun t55 =>
      vLoad1 t55 M15 fun t56 =>
      vConv .i64 t56 fun t57 =>
      vFieldAddr 3 t3 fun t58 =>
      vStore1 t58 t57 M15 fun _ M16 =>
      vLoadN 4 t3 M16 fun t59 =>
      vStoreN 4 t2 t59 M16 fun _ M17 =>
      kr t511 t2 M17)) (g1 F) (g2 F) (g3 F) (gT 511 F) M := by funext F M; kernel_rfl
  show semK cl m T18_4 (semK cl m U18_3 (fun F M => kn (gT 511 F) (g2 F) M) (fun _ _ _ => .no) (fun F M => kr (gT 511 F) (g2 F) M)) (fun _ _ _ => .no) (fun F M => kr (gT 511 F) (g2 F) M) = _
  rw [hb]
  exact (z18_4 cl m kr (fun t1 t2 t3 t511 M =>
    jn (fun (j2 : X → X → X → X → Mm → CX) =>
      vFieldAddr 0 t3 fun t29 =>
      vLoad1 t29 M fun t30 =>
      vLenS t30 fun t31 =>
      vBin .eql t31 (.i .i64 (0)) fun t32 =>
      vIf t32 (
        vSlit prg 22 1 [(0, (.i .i64 (1)))] M fun t33 M10 =>
        vFieldAddr 0 t3 fun t34 =>
        vStore1 t34 t33 M10 fun _ M11 =>
      j2 t1 t2 t3 t511 M11) (
      j2 t1 t2 t3 t511 M)) (fun t1 t2 t3 t511 M9 =>
      vFieldAddr 1 t1 fun t35 =>
      vLoad1 t35 M9 fun t36 =>
      vConv .i64 t36 fun t37 =>
      vFieldAddr 0 t3 fun t38 =>
      vLoad1 t38 M9 fun t39 =>
      vLenS t39 fun t40 =>
      vBinG prg .rem 3 t37 t40 M9 fun t41 M12 =>
      vFieldAddr 1 t3 fun t42 =>
      vStore1 t42 t41 M12 fun _ M13 =>
      vFieldAddr 2 t1 fun t43 =>
      vLoad1 t43 M13 fun t44 =>
      vConv .i64 t44 fun t45 =>
      vFieldAddr 0 t3 fun t46 =>
      vLoad1 t46 M13 fun t47 =>
      vFieldAddr 1 t3 fun t48 =>
      vLoad1 t48 M13 fun t49 =>
      vIndexAddr 1 t47 t49 fun t50 =>
      vLoad1 t50 M13 fun t51 =>
      vBin .add t51 (.i .i64 (1)) fun t52 =>
      vBinG prg .rem 3 t45 t52 M13 fun t53 M14 =>
      vFieldAddr 2 t3 fun t54 =>
      vStore1 t54 t53 M14 fun _ M15 =>
      vFieldAddr 3 t1 fun t55 =>
      vLoad1 t55 M15 fun t56 =>
      vConv .i64 t56 fun t57 =>
      vFieldAddr 3 t3 fun t58 =>
      vStore1 t58 t57 M15 fun _ M16 =>
      vLoadN 4 t3 M16 fun t59 =>
      vStoreN 4 t2 t59 M16 fun _ M17 =>
      kr t511 t2 M17)) ).trans (by funext F M; kernel_rfl)
noncomputable def T18_2 : CT := (.seq U18_2 T18_3)
noncomputable def d18_2 (cl : Cl) (m : Nat) (kr : X → X → Mm → CX) (kn : X → X → Mm → CX) (t1 t2 t511 : X) (M : Mm) : CX :=
  vAlloc 24 4 [.nils, .int .i64 (.int (0)), .int .i64 (.int (0)), .int .i64 (.int (0))] M fun t3 M18 =>
  d18_3 cl m kr kn t1 t2 t3 t511 M18
theorem z18_2 (cl : Cl) (m : Nat) (kr : X → X → Mm → CX) (kn : X → X → Mm → CX) : semK cl m T18_2 (fun F M => kn (gT 511 F) (g2 F) M) (fun _ _ _ => .no) (fun F M => kr (gT 511 F) (g2 F) M) = fun F M => d18_2 cl m kr kn (g1 F) (g2 F) (gT 511 F) M := by
  show semK cl m U18_2 (semK cl m T18_3 (fun F M => kn (gT 511 F) (g2 F) M) (fun _ _ _ => .no) (fun F M => kr (gT 511 F) (g2 F) M)) (fun _ _ _ => .no) (fun F M => kr (gT 511 F) (g2 F) M) = _
  rw [z18_3 cl m kr kn]
  funext F M; kernel_rfl
noncomputable def T18_1 : CT := (.seq U18_1 T18_2)
noncomputable def d18_1 (cl : Cl) (m : Nat) (kr : X → X → Mm → CX) (kn : X → X → Mm → CX) (t0 t511 : X) (M : Mm) : CX :=
  vBox 42 4 t0 M fun t1 M19 =>
  vAlloc 24 4 [.nils, .int .i64 (.int (0)), .int .i64 (.int (0)), .int .i64 (.int (0))] M19 fun t2 M20 =>
  d18_2 cl m kr kn t1 t2 t511 M20
theorem z18_1 (cl : Cl) (m : Nat) (kr : X → X → Mm → CX) (kn : X → X → Mm → CX) : semK cl m T18_1 (fun F M => kn (gT 511 F) (g2 F) M) (fun _ _ _ => .no) (fun F M => kr (gT 511 F) (g2 F) M) = fun F M => d18_1 cl m kr kn (g0 F) (gT 511 F) M := by
  show semK cl m U18_1 (semK cl m T18_2 (fun F M => kn (gT 511 F) (g2 F) M) (fun _ _ _ => .no) (fun F M => kr (gT 511 F) (g2 F) M)) (fun _ _ _ => .no) (fun F M => kr (gT 511 F) (g2 F) M) = _
  rw [z18_2 cl m kr kn]
  funext F M; kernel_rfl
noncomputable def t18 : CT := T18_1
theorem z18 (cl : Cl) (m : Nat) (kr : X → X → Mm → CX) : semK cl m t18 (fun F M => kr (gT 511 F) (g2 F) M) (fun _ _ _ => .no) (fun F M => kr (gT 511 F) (g2 F) M) = fun F M => d18_1 cl m kr kr (g0 F) (gT 511 F) M := z18_1 cl m kr kr
noncomputable def d18 (cl : Cl) (m : Nat) (kr : X → X → Mm → CX) (t0 : X) (M : Mm) : CX :=
  d18_1 cl m kr kr t0 (.v .undef) M
/-! 19: countersign/countersignref36.Takes -/
noncomputable def U19_1 : CT := (.ops [(.box 24 4 g0, s2),
    (.alloc 24 4 [.nils, .int .i64 (.int (0)), .int .i64 (.int (0)), .int .i64 (.int (0))], s4),
    (.move (kX (.v .nils)), s5),
    (.move (kX (.i .i64 (0))), s6)])
noncomputable def U19_2 : CT := (.seq (.ops [(.loadN 4 g2, s12),
    (.call 13 [g12], s13),
    (.bin .gtr g13 (kX (.i .i64 (0))), s14)]) (.cond g14 (.seq (.ops [(.build [.nils, .int .i64 (.int (0)), .int .i64 (.int (0)), .int .i64 (.int (0))] [], s15),
    (.loadN 4 g2, s16),
    (.call 13 [g16], s17),
    (.storeN 4 g4 g15, sN),
    (.move (kX (.v .nils)), s5),
    (.move g17, s6)]) .ret) .skip))
noncomputable def U19_3 : CT := (.seq (.ops [(.move g1, s18),
    (.lenS g18, s19),
    (.bin .gtr g19 (kX (.i .i64 (4096))), s20)]) (.cond g20 (.seq (.ops [(.build [.nils, .int .i64 (.int (0)), .int .i64 (.int (0)), .int .i64 (.int (0))] [], s21),
    (.storeN 4 g4 g21, sN),
    (.move (kX (.v .nils)), s5),
    (.move (kX (.i .i64 (3))), s6)]) .ret) .skip))
noncomputable def U19_4 : CT := (.ops [(.move (kX (.v .nils)), s7)])
noncomputable def U19_5 : CT := (.seq (.ops [(.loadN 4 g2, s47),
    (.move g7, s48),
    (.storeN 4 g4 g47, sN),
    (.move g48, s5),
    (.move (kX (.i .i64 (0))), s6)]) .ret)
noncomputable def U19_6 : CT := (.ops [(.move (kX (.i .i64 (0))), s8)])
noncomputable def U19_7 : CT := (.seq (.seq (.ops [(.move g8, s22),
    (.move g1, s23),
    (.lenS g23, s24),
    (.bin .lss g22 g24, s25)]) (.cond g25 .skip (.exit 0))) (.seq (.block 1 (.seq (.draw [⟨.loadN 4 g2, s29, 0, (some 29), (some g2), false, none⟩,
    ⟨.move g1, s30, 1, (some 30), none, false, none⟩,
    ⟨.move g8, s31, 2, (some 31), none, false, none⟩,
    ⟨.indexAddr 1 g30 g31, s32, 3, (some 32), none, false, none⟩,
    ⟨.load1 g32, s33, 4, (some 33), (some g32), false, none⟩,
    ⟨.call 16 [g29, g33], s34, 5, (some 34), none, true, (some (none, [10]))⟩,
    ⟨.move g34, s28, 6, (some 28), none, false, none⟩,
    ⟨.ext 0 g28, s35, 7, (some 35), none, false, none⟩,
    ⟨.ext 1 g28, s36, 8, (some 36), none, false, none⟩,
    ⟨.ext 2 g28, s37, 9, (some 37), none, false, none⟩,
    ⟨.alloc 24 4 [.nils, .int .i64 (.int (0)), .int .i64 (.int (0)), .int .i64 (.int (0))], s9, 10, (some 9), none, true, none⟩,
    ⟨.storeN 4 g9 g35, sN, 11, none, none, true, (some (some g9, [8, 9]))⟩,
    ⟨.move g36, s10, 12, (some 10), none, false, none⟩,
    ⟨.move g37, s11, 13, (some 11), none, false, none⟩]) (.seq (.seq (.ops [(.move g11, s38),
    (.bin .gtr g38 (kX (.i .i64 (0))), s39)]) (.cond g39 (.seq (.ops [(.build [.nils, .int .i64 (.int (0)), .int .i64 (.int (0)), .int .i64 (.int (0))] [], s40),
    (.move g11, s41),
    (.storeN 4 g4 g40, sN),
    (.move (kX (.v .nils)), s5),
    (.move g41, s6)]) .ret) .skip)) (.seq (.ops [(.move g7, s42),
    (.move g10, s43),
    (.slit prg 22 1 [(0, (.tmp 43))] 49, s44),
    (.app prg 22 22 (.tmp 42) (.tmp 44) 49, s45),
    (.move g45, s7)]) (.ops [(.loadN 4 g9, s46),
    (.storeN 4 g2 g46, sN)]))))) (.ops [(.move g8, s26),
    (.bin .add g26 (kX (.i .i64 (1))), s27),
    (.move g27, s8)])))
noncomputable def T19_8 : CT := (.loop U19_7)
noncomputable def d19_8 (cl : Cl) (m : Nat) (kr : X → X → X → X → Mm → CX) (k0 : X → X → X → X → Mm → CX) : Nat → X → X → X → X → X → X → Mm → CX
  | 0 => fun _ _ _ _ _ _ _ => .no
  | n + 1 => fun t1 t2 t4 t7 t8 t511 M =>
  vLenS t1 fun t24 =>
  vBin .lss t8 t24 fun t25 =>
  vIf t25 (
  jn (fun (n1 : Nat) =>
  chk (Old n1 t2) <|
  vLoadN 4 t2 M fun t29 =>
  chk (Pst true false t29 M M none) <|
  chk True <|
  chk (Pst true false t1 M M none) <|
  chk True <|
  chk (Pst true false t8 M M none) <|
  chk True <|
  vIndexAddr 1 t1 t8 fun t32 =>
  chk (Pst true false t32 M M none) <|
  chk (Old n1 t32) <|
  vLoad1 t32 M fun t33 =>
  chk (Pst true false t33 M M none) <|
  chk True <|
  vCall cl 16 [t29, t33] M fun t34 M1 =>
  chk (Pst true true t34 M M1 (some (none, []))) <|
  chk True <|
  chk (Pst true false t34 M1 M1 none) <|
  chk True <|
  vExt 0 t34 fun t35 =>
  chk (Pst true false t35 M1 M1 none) <|
  chk True <|
  vExt 1 t34 fun t36 =>
  chk (Pst true false t36 M1 M1 none) <|
  chk True <|
  vExt 2 t34 fun t37 =>
  chk (Pst true false t37 M1 M1 none) <|
  chk True <|
  vAlloc 24 4 [.nils, .int .i64 (.int (0)), .int .i64 (.int (0)), .int .i64 (.int (0))] M1 fun t9 M2 =>
  chk (Pst true true t9 M1 M2 none) <|
  chk True <|
  vStoreN 4 t9 t35 M2 fun _ M3 =>
  chk (Pst false true (.v .undef) M2 M3 (some (some t9, []))) <|
  chk True <|
  chk (Pst true false t36 M3 M3 none) <|
  chk True <|
  chk (Pst true false t37 M3 M3 none) <|
  vBin .gtr t37 (.i .i64 (0)) fun t39 =>
  vIf t39 (
    vBuild [.nils, .int .i64 (.int (0)), .int .i64 (.int (0)), .int .i64 (.int (0))] [] fun t40 =>
    vStoreN 4 t4 t40 M3 fun _ M4 =>
    kr t511 t4 (.v .nils) t37 M4) (
  vSlit prg 22 1 [(0, t36)] M3 fun t44 M5 =>
  vApp prg 22 22 t7 t44 M5 fun t45 M6 =>
  vLoadN 4 t9 M6 fun t46 =>
  vStoreN 4 t2 t46 M6 fun _ M7 =>
  vBin .add t8 (.i .i64 (1)) fun t27 =>
  d19_8 cl m kr k0 n t1 t2 t4 t45 t27 t511 M7)) M.nx) (
  k0 t2 t4 t7 t511 M)
theorem z19_8 (cl : Cl) (m : Nat) (kr : X → X → X → X → Mm → CX) (kn : X → X → X → X → Mm → CX) (k0 : X → X → X → X → Mm → CX) : semK cl m T19_8 (fun F M => kn (g2 F) (g4 F) (g7 F) (gT 511 F) M) (exB 0 (fun F M => k0 (g2 F) (g4 F) (g7 F) (gT 511 F) M) (fun _ _ _ => .no)) (fun F M => kr (gT 511 F) (g4 F) (g5 F) (g6 F) M) = fun F M => d19_8 cl m kr k0 m (g1 F) (g2 F) (g4 F) (g7 F) (g8 F) (gT 511 F) M := by
  have key : ∀ j, loopK (fun q => semK cl m U19_7 q (exB 0 (fun F M => k0 (g2 F) (g4 F) (g7 F) (gT 511 F) M) (fun _ _ _ => .no)) (fun F M => kr (gT 511 F) (g4 F) (g5 F) (g6 F) M)) j = fun F M => d19_8 cl m kr k0 j (g1 F) (g2 F) (g4 F) (g7 F) (g8 F) (gT 511 F) M := by
    intro j
    induction j with
    | zero => rfl
    | succ j ih =>
      show semK cl m U19_7 (loopK (fun q => semK cl m U19_7 q (exB 0 (fun F M => k0 (g2 F) (g4 F) (g7 F) (gT 511 F) M) (fun _ _ _ => .no)) (fun F M => kr (gT 511 F) (g4 F) (g5 F) (g6 F) M)) j) (exB 0 (fun F M => k0 (g2 F) (g4 F) (g7 F) (gT 511 F) M) (fun _ _ _ => .no)) (fun F M => kr (gT 511 F) (g4 F) (g5 F) (g6 F) M) = _
      rw [ih]
      funext F M; kernel_rfl
  exact key m
noncomputable def T19_7 : CT := (.block 0 T19_8)
noncomputable def d19_7 (cl : Cl) (m : Nat) (kr : X → X → X → X → Mm → CX) (kn : X → X → X → X → Mm → CX) (t1 t2 t4 t7 t8 t511 : X) (M : Mm) : CX :=
  d19_8 cl m kr kn m t1 t2 t4 t7 t8 t511 M
theorem z19_7 (cl : Cl) (m : Nat) (kr : X → X → X → X → Mm → CX) (kn : X → X → X → X → Mm → CX) : semK cl m T19_7 (fun F M => kn (g2 F) (g4 F) (g7 F) (gT 511 F) M) (fun _ _ _ => .no) (fun F M => kr (gT 511 F) (g4 F) (g5 F) (g6 F) M) = fun F M => d19_7 cl m kr kn (g1 F) (g2 F) (g4 F) (g7 F) (g8 F) (gT 511 F) M := by
  show semK cl m T19_8 (fun F M => kn (g2 F) (g4 F) (g7 F) (gT 511 F) M) (exB 0 (fun F M => kn (g2 F) (g4 F) (g7 F) (gT 511 F) M) (fun _ _ _ => .no)) (fun F M => kr (gT 511 F) (g4 F) (g5 F) (g6 F) M) = _
  exact (z19_8 cl m kr kn kn).trans (by funext F M; kernel_rfl)
noncomputable def T19_6 : CT := (.seq U19_6 T19_7)
noncomputable def d19_6 (cl : Cl) (m : Nat) (kr : X → X → X → X → Mm → CX) (kn : X → X → X → X → Mm → CX) (t1 t2 t4 t7 t511 : X) (M : Mm) : CX :=
  d19_7 cl m kr kn t1 t2 t4 t7 (.i .i64 (0)) t511 M
theorem z19_6 (cl : Cl) (m : Nat) (kr : X → X → X → X → Mm → CX) (kn : X → X → X → X → Mm → CX) : semK cl m T19_6 (fun F M => kn (g2 F) (g4 F) (g7 F) (gT 511 F) M) (fun _ _ _ => .no) (fun F M => kr (gT 511 F) (g4 F) (g5 F) (g6 F) M) = fun F M => d19_6 cl m kr kn (g1 F) (g2 F) (g4 F) (g7 F) (gT 511 F) M := by
  show semK cl m U19_6 (semK cl m T19_7 (fun F M => kn (g2 F) (g4 F) (g7 F) (gT 511 F) M) (fun _ _ _ => .no) (fun F M => kr (gT 511 F) (g4 F) (g5 F) (g6 F) M)) (fun _ _ _ => .no) (fun F M => kr (gT 511 F) (g4 F) (g5 F) (g6 F) M) = _
  rw [z19_7 cl m kr kn]
  funext F M; kernel_rfl
noncomputable def T19_5 : CT := (.seq T19_6 U19_5)
noncomputable def d19_5 (cl : Cl) (m : Nat) (kr : X → X → X → X → Mm → CX) (kn : X → X → X → X → Mm → CX) (t1 t2 t4 t7 t511 : X) (M : Mm) : CX :=
  d19_6 cl m kr (fun t2 t4 t7 t511 M =>
    vLoadN 4 t2 M fun t47 =>
    vStoreN 4 t4 t47 M fun _ M8 =>
    kr t511 t4 t7 (.i .i64 (0)) M8) t1 t2 t4 t7 t511 M
theorem z19_5 (cl : Cl) (m : Nat) (kr : X → X → X → X → Mm → CX) (kn : X → X → X → X → Mm → CX) : semK cl m T19_5 (fun F M => kn (gT 511 F) (g4 F) (g5 F) (g6 F) M) (fun _ _ _ => .no) (fun F M => kr (gT 511 F) (g4 F) (g5 F) (g6 F) M) = fun F M => d19_5 cl m kr kn (g1 F) (g2 F) (g4 F) (g7 F) (gT 511 F) M := by
  have hb : semK cl m U19_5 (fun F M => kn (gT 511 F) (g4 F) (g5 F) (g6 F) M) (fun _ _ _ => .no) (fun F M => kr (gT 511 F) (g4 F) (g5 F) (g6 F) M) = fun F M => (fun t2 t4 t7 t511 M =>
    vLoadN 4 t2 M fun t47 =>
    vStoreN 4 t4 t47 M fun _ M8 =>
    kr t511 t4 t7 (.i .i64 (0)) M8) (g2 F) (g4 F) (g7 F) (gT 511 F) M := by funext F M; kernel_rfl
  show semK cl m T19_6 (semK cl m U19_5 (fun F M => kn (gT 511 F) (g4 F) (g5 F) (g6 F) M) (fun _ _ _ => .no) (fun F M => kr (gT 511 F) (g4 F) (g5 F) (g6 F) M)) (fun _ _ _ => .no) (fun F M => kr (gT 511 F) (g4 F) (g5 F) (g6 F) M) = _
  rw [hb]
  exact (z19_6 cl m kr (fun t2 t4 t7 t511 M =>
    vLoadN 4 t2 M fun t47 =>
    vStoreN 4 t4 t47 M fun _ M8 =>
    kr t511 t4 t7 (.i .i64 (0)) M8) ).trans (by funext F M; kernel_rfl)
noncomputable def T19_4 : CT := (.seq U19_4 T19_5)
noncomputable def d19_4 (cl : Cl) (m : Nat) (kr : X → X → X → X → Mm → CX) (kn : X → X → X → X → Mm → CX) (t1 t2 t4 t511 : X) (M : Mm) : CX :=
  d19_5 cl m kr kn t1 t2 t4 (.v .nils) t511 M
theorem z19_4 (cl : Cl) (m : Nat) (kr : X → X → X → X → Mm → CX) (kn : X → X → X → X → Mm → CX) : semK cl m T19_4 (fun F M => kn (gT 511 F) (g4 F) (g5 F) (g6 F) M) (fun _ _ _ => .no) (fun F M => kr (gT 511 F) (g4 F) (g5 F) (g6 F) M) = fun F M => d19_4 cl m kr kn (g1 F) (g2 F) (g4 F) (gT 511 F) M := by
  show semK cl m U19_4 (semK cl m T19_5 (fun F M => kn (gT 511 F) (g4 F) (g5 F) (g6 F) M) (fun _ _ _ => .no) (fun F M => kr (gT 511 F) (g4 F) (g5 F) (g6 F) M)) (fun _ _ _ => .no) (fun F M => kr (gT 511 F) (g4 F) (g5 F) (g6 F) M) = _
  rw [z19_5 cl m kr kn]
  funext F M; kernel_rfl
noncomputable def T19_3 : CT := (.seq U19_3 T19_4)
noncomputable def d19_3 (cl : Cl) (m : Nat) (kr : X → X → X → X → Mm → CX) (kn : X → X → X → X → Mm → CX) (t1 t2 t4 t511 : X) (M : Mm) : CX :=
  vLenS t1 fun t19 =>
  vBin .gtr t19 (.i .i64 (4096)) fun t20 =>
  vIf t20 (
    vBuild [.nils, .int .i64 (.int (0)), .int .i64 (.int (0)), .int .i64 (.int (0))] [] fun t21 =>
    vStoreN 4 t4 t21 M fun _ M9 =>
    kr t511 t4 (.v .nils) (.i .i64 (3)) M9) (
  d19_4 cl m kr kn t1 t2 t4 t511 M)
theorem z19_3 (cl : Cl) (m : Nat) (kr : X → X → X → X → Mm → CX) (kn : X → X → X → X → Mm → CX) : semK cl m T19_3 (fun F M => kn (gT 511 F) (g4 F) (g5 F) (g6 F) M) (fun _ _ _ => .no) (fun F M => kr (gT 511 F) (g4 F) (g5 F) (g6 F) M) = fun F M => d19_3 cl m kr kn (g1 F) (g2 F) (g4 F) (gT 511 F) M := by
  show semK cl m U19_3 (semK cl m T19_4 (fun F M => kn (gT 511 F) (g4 F) (g5 F) (g6 F) M) (fun _ _ _ => .no) (fun F M => kr (gT 511 F) (g4 F) (g5 F) (g6 F) M)) (fun _ _ _ => .no) (fun F M => kr (gT 511 F) (g4 F) (g5 F) (g6 F) M) = _
  rw [z19_4 cl m kr kn]
  funext F M; kernel_rfl
noncomputable def T19_2 : CT := (.seq U19_2 T19_3)
noncomputable def d19_2 (cl : Cl) (m : Nat) (kr : X → X → X → X → Mm → CX) (kn : X → X → X → X → Mm → CX) (t1 t2 t4 t511 : X) (M : Mm) : CX :=
  vLoadN 4 t2 M fun t12 =>
  vCall cl 13 [t12] M fun t13 M10 =>
  vBin .gtr t13 (.i .i64 (0)) fun t14 =>
  vIf t14 (
    vBuild [.nils, .int .i64 (.int (0)), .int .i64 (.int (0)), .int .i64 (.int (0))] [] fun t15 =>
    vLoadN 4 t2 M10 fun t16 =>
    vCall cl 13 [t16] M10 fun t17 M11 =>
    vStoreN 4 t4 t15 M11 fun _ M12 =>
    kr t511 t4 (.v .nils) t17 M12) (
  d19_3 cl m kr kn t1 t2 t4 t511 M10)
theorem z19_2 (cl : Cl) (m : Nat) (kr : X → X → X → X → Mm → CX) (kn : X → X → X → X → Mm → CX) : semK cl m T19_2 (fun F M => kn (gT 511 F) (g4 F) (g5 F) (g6 F) M) (fun _ _ _ => .no) (fun F M => kr (gT 511 F) (g4 F) (g5 F) (g6 F) M) = fun F M => d19_2 cl m kr kn (g1 F) (g2 F) (g4 F) (gT 511 F) M := by
  show semK cl m U19_2 (semK cl m T19_3 (fun F M => kn (gT 511 F) (g4 F) (g5 F) (g6 F) M) (fun _ _ _ => .no) (fun F M => kr (gT 511 F) (g4 F) (g5 F) (g6 F) M)) (fun _ _ _ => .no) (fun F M => kr (gT 511 F) (g4 F) (g5 F) (g6 F) M) = _
  rw [z19_3 cl m kr kn]
  funext F M; kernel_rfl
noncomputable def T19_1 : CT := (.seq U19_1 T19_2)
noncomputable def d19_1 (cl : Cl) (m : Nat) (kr : X → X → X → X → Mm → CX) (kn : X → X → X → X → Mm → CX) (t0 t1 t511 : X) (M : Mm) : CX :=
  vBox 24 4 t0 M fun t2 M13 =>
  vAlloc 24 4 [.nils, .int .i64 (.int (0)), .int .i64 (.int (0)), .int .i64 (.int (0))] M13 fun t4 M14 =>
  d19_2 cl m kr kn t1 t2 t4 t511 M14
theorem z19_1 (cl : Cl) (m : Nat) (kr : X → X → X → X → Mm → CX) (kn : X → X → X → X → Mm → CX) : semK cl m T19_1 (fun F M => kn (gT 511 F) (g4 F) (g5 F) (g6 F) M) (fun _ _ _ => .no) (fun F M => kr (gT 511 F) (g4 F) (g5 F) (g6 F) M) = fun F M => d19_1 cl m kr kn (g0 F) (g1 F) (gT 511 F) M := by
  show semK cl m U19_1 (semK cl m T19_2 (fun F M => kn (gT 511 F) (g4 F) (g5 F) (g6 F) M) (fun _ _ _ => .no) (fun F M => kr (gT 511 F) (g4 F) (g5 F) (g6 F) M)) (fun _ _ _ => .no) (fun F M => kr (gT 511 F) (g4 F) (g5 F) (g6 F) M) = _
  rw [z19_2 cl m kr kn]
  funext F M; kernel_rfl
noncomputable def t19 : CT := T19_1
theorem z19 (cl : Cl) (m : Nat) (kr : X → X → X → X → Mm → CX) : semK cl m t19 (fun F M => kr (gT 511 F) (g4 F) (g5 F) (g6 F) M) (fun _ _ _ => .no) (fun F M => kr (gT 511 F) (g4 F) (g5 F) (g6 F) M) = fun F M => d19_1 cl m kr kr (g0 F) (g1 F) (gT 511 F) M := z19_1 cl m kr kr
noncomputable def d19 (cl : Cl) (m : Nat) (kr : X → X → X → X → Mm → CX) (t0 t1 : X) (M : Mm) : CX :=
  d19_1 cl m kr kr t0 t1 (.v .undef) M
/-! 20: countersign/turns.Takes -/
noncomputable def U20_1 : CT := (.ops [(.box 24 4 g0, s2),
    (.alloc 24 4 [.nils, .int .i64 (.int (0)), .int .i64 (.int (0)), .int .i64 (.int (0))], s4),
    (.move (kX (.v .nils)), s5),
    (.move (kX (.i .i64 (0))), s6)])
noncomputable def U20_2 : CT := (.seq (.ops [(.loadN 4 g2, s14),
    (.call 12 [g14], s15),
    (.move g15, s7)]) (.seq (.ops [(.move g7, s16),
    (.bin .neq g16 (kX (.i .i64 (0))), s17)]) (.cond g17 (.seq (.ops [(.build [.nils, .int .i64 (.int (0)), .int .i64 (.int (0)), .int .i64 (.int (0))] [], s18),
    (.move g7, s19),
    (.storeN 4 g4 g18, sN),
    (.move (kX (.v .nils)), s5),
    (.move g19, s6)]) .ret) .skip)))
noncomputable def U20_3 : CT := (.seq (.ops [(.move g1, s20),
    (.lenS g20, s21),
    (.bin .gtr g21 (kX (.i .i64 (4096))), s22)]) (.cond g22 (.seq (.ops [(.build [.nils, .int .i64 (.int (0)), .int .i64 (.int (0)), .int .i64 (.int (0))] [], s23),
    (.storeN 4 g4 g23, sN),
    (.move (kX (.v .nils)), s5),
    (.move (kX (.i .i64 (3))), s6)]) .ret) .skip))
noncomputable def U20_4 : CT := (.ops [(.loadN 4 g2, s24),
    (.storeN 4 g4 g24, sN)])
noncomputable def U20_5 : CT := (.ops [(.fieldAddr 0 g2, s25),
    (.load1 g25, s26),
    (.call 32 [g26], s27),
    (.call 31 [g27], s28),
    (.fieldAddr 0 g4, s29),
    (.store1 g29 g28, sN)])
noncomputable def U20_6 : CT := (.seq (.draw [⟨.loadN 4 g4, s56, 0, (some 56), (some g4), false, none⟩,
    ⟨.move g5, s57, 1, (some 57), none, false, none⟩,
    ⟨.call 31 [g57], s58, 2, (some 58), none, true, (some (none, [0]))⟩,
    ⟨.storeN 4 g4 g56, sN, 3, none, none, true, none⟩,
    ⟨.move g58, s5, 4, (some 5), none, false, none⟩,
    ⟨.move (kX (.i .i64 (0))), s6, 5, (some 6), none, false, none⟩]) .ret)
noncomputable def U20_7 : CT := (.ops [(.move g1, s30),
    (.lenS g30, s31),
    (.move (kX (.i .i64 (0))), s32)])
noncomputable def U20_8 : CT := (.seq (.ops [(.bin .lss g32 g31, s33)]) (.seq (.cond g33 .skip (.exit 0)) (.seq (.block 1 (.seq (.ops [(.indexAddr 1 g30 g32, s34),
    (.load1 g34, s35),
    (.move g35, s9)]) (.seq (.ops [(.loadN 4 g4, s37),
    (.move g9, s38),
    (.call 17 [g37, g38], s39),
    (.move g39, s36),
    (.ext 0 g36, s40),
    (.ext 1 g36, s41),
    (.ext 2 g36, s42),
    (.ext 3 g36, s43),
    (.alloc 24 4 [.nils, .int .i64 (.int (0)), .int .i64 (.int (0)), .int .i64 (.int (0))], s10),
    (.storeN 4 g10 g40, sN),
    (.move g41, s11),
    (.move g42, s12),
    (.move g43, s13)]) (.seq (.seq (.ops [(.move g13, s44),
    (.bin .neq g44 (kX (.i .i64 (0))), s45)]) (.cond g45 (.seq (.ops [(.build [.nils, .int .i64 (.int (0)), .int .i64 (.int (0)), .int .i64 (.int (0))] [], s46),
    (.move g13, s47),
    (.storeN 4 g4 g46, sN),
    (.move (kX (.v .nils)), s5),
    (.move g47, s6)]) .ret) .skip)) (.seq (.seq (.ops [(.move g12, s48),
    (.not g48, s49)]) (.cond g49 (.ops [(.move (kX (.i .i64 (-1))), s11)]) .skip)) (.draw [⟨.loadN 4 g10, s50, 0, (some 50), (some g10), false, none⟩,
    ⟨.move g5, s51, 1, (some 51), none, false, none⟩,
    ⟨.move g11, s52, 2, (some 52), none, false, none⟩,
    ⟨.slit prg 22 1 [(0, (.tmp 52))] 59, s53, 3, (some 53), none, true, (some (none, [0, 1]))⟩,
    ⟨.app prg 22 22 (.tmp 51) (.tmp 53) 59, s54, 4, (some 54), none, true, (some (some g51, [0]))⟩,
    ⟨.storeN 4 g4 g50, sN, 5, none, none, true, none⟩,
    ⟨.move g54, s5, 6, (some 5), none, false, none⟩])))))) (.ops [(.bin .add g32 (kX (.i .i64 (1))), s55),
    (.move g55, s32)]))))
noncomputable def T20_9 : CT := (.loop U20_8)
noncomputable def d20_9 (cl : Cl) (m : Nat) (kr : X → X → X → X → Mm → CX) (k0 : X → X → X → Mm → CX) : Nat → X → X → X → X → X → X → Mm → CX
  | 0 => fun _ _ _ _ _ _ _ => .no
  | n + 1 => fun t4 t5 t30 t31 t32 t511 M =>
  vBin .lss t32 t31 fun t33 =>
  vIf t33 (
  jn (fun (j1 : X → X → X → X → X → X → Mm → CX) =>
    vIndexAddr 1 t30 t32 fun t34 =>
    vLoad1 t34 M fun t35 =>
    vLoadN 4 t4 M fun t37 =>
    vCall cl 17 [t37, t35] M fun t39 M2 =>
    vExt 0 t39 fun t40 =>
    vExt 1 t39 fun t41 =>
    vExt 2 t39 fun t42 =>
    vExt 3 t39 fun t43 =>
    vAlloc 24 4 [.nils, .int .i64 (.int (0)), .int .i64 (.int (0)), .int .i64 (.int (0))] M2 fun t10 M3 =>
    vStoreN 4 t10 t40 M3 fun _ M4 =>
    vBin .neq t43 (.i .i64 (0)) fun t45 =>
    vIf t45 (
      vBuild [.nils, .int .i64 (.int (0)), .int .i64 (.int (0)), .int .i64 (.int (0))] [] fun t46 =>
      vStoreN 4 t4 t46 M4 fun _ M5 =>
      kr t511 t4 (.v .nils) t43 M5) (
    jn (fun (j2 : X → X → X → X → X → X → X → X → Mm → CX) =>
      vNot t42 fun t49 =>
      vIf t49 (
      j2 t4 t5 t10 (.i .i64 (-1)) t30 t31 t32 t511 M4) (
      j2 t4 t5 t10 t41 t30 t31 t32 t511 M4)) (fun t4 t5 t10 t11 t30 t31 t32 t511 M6 =>
      jn (fun (n3 : Nat) =>
      chk (Old n3 t10) <|
      vLoadN 4 t10 M6 fun t50 =>
      chk (Pst true false t50 M6 M6 none) <|
      chk True <|
      chk (Pst true false t5 M6 M6 none) <|
      chk True <|
      chk (Pst true false t11 M6 M6 none) <|
      chk True <|
      vSlit prg 22 1 [(0, t11)] M6 fun t53 M7 =>
      chk (Pst true true t53 M6 M7 (some (none, [t10]))) <|
      chk True <|
      vApp prg 22 22 t5 t53 M7 fun t54 M8 =>
      chk (Pst true true t54 M7 M8 (some (some t5, [t10]))) <|
      chk True <|
      vStoreN 4 t4 t50 M8 fun _ M9 =>
      chk (Pst false true (.v .undef) M8 M9 none) <|
      chk True <|
      chk (Pst true false t54 M9 M9 none) <|
    j1 t4 t54 t30 t31 t32 t511 M9) M6.nx))) (fun t4 t5 t30 t31 t32 t511 M1 =>
    vBin .add t32 (.i .i64 (1)) fun t55 =>
  d20_9 cl m kr k0 n t4 t5 t30 t31 t55 t511 M1)) (
  k0 t4 t5 t511 M)
theorem z20_9 (cl : Cl) (m : Nat) (kr : X → X → X → X → Mm → CX) (kn : X → X → X → Mm → CX) (k0 : X → X → X → Mm → CX) : semK cl m T20_9 (fun F M => kn (g4 F) (g5 F) (gT 511 F) M) (exB 0 (fun F M => k0 (g4 F) (g5 F) (gT 511 F) M) (fun _ _ _ => .no)) (fun F M => kr (gT 511 F) (g4 F) (g5 F) (g6 F) M) = fun F M => d20_9 cl m kr k0 m (g4 F) (g5 F) (g30 F) (g31 F) (g32 F) (gT 511 F) M := by
  have key : ∀ j, loopK (fun q => semK cl m U20_8 q (exB 0 (fun F M => k0 (g4 F) (g5 F) (gT 511 F) M) (fun _ _ _ => .no)) (fun F M => kr (gT 511 F) (g4 F) (g5 F) (g6 F) M)) j = fun F M => d20_9 cl m kr k0 j (g4 F) (g5 F) (g30 F) (g31 F) (g32 F) (gT 511 F) M := by
    intro j
    induction j with
    | zero => rfl
    | succ j ih =>
      show semK cl m U20_8 (loopK (fun q => semK cl m U20_8 q (exB 0 (fun F M => k0 (g4 F) (g5 F) (gT 511 F) M) (fun _ _ _ => .no)) (fun F M => kr (gT 511 F) (g4 F) (g5 F) (g6 F) M)) j) (exB 0 (fun F M => k0 (g4 F) (g5 F) (gT 511 F) M) (fun _ _ _ => .no)) (fun F M => kr (gT 511 F) (g4 F) (g5 F) (g6 F) M) = _
      rw [ih]
      funext F M; kernel_rfl
  exact key m
noncomputable def T20_8 : CT := (.block 0 T20_9)
noncomputable def d20_8 (cl : Cl) (m : Nat) (kr : X → X → X → X → Mm → CX) (kn : X → X → X → Mm → CX) (t4 t5 t30 t31 t32 t511 : X) (M : Mm) : CX :=
  d20_9 cl m kr kn m t4 t5 t30 t31 t32 t511 M
theorem z20_8 (cl : Cl) (m : Nat) (kr : X → X → X → X → Mm → CX) (kn : X → X → X → Mm → CX) : semK cl m T20_8 (fun F M => kn (g4 F) (g5 F) (gT 511 F) M) (fun _ _ _ => .no) (fun F M => kr (gT 511 F) (g4 F) (g5 F) (g6 F) M) = fun F M => d20_8 cl m kr kn (g4 F) (g5 F) (g30 F) (g31 F) (g32 F) (gT 511 F) M := by
  show semK cl m T20_9 (fun F M => kn (g4 F) (g5 F) (gT 511 F) M) (exB 0 (fun F M => kn (g4 F) (g5 F) (gT 511 F) M) (fun _ _ _ => .no)) (fun F M => kr (gT 511 F) (g4 F) (g5 F) (g6 F) M) = _
  exact (z20_9 cl m kr kn kn).trans (by funext F M; kernel_rfl)
noncomputable def T20_7 : CT := (.seq U20_7 T20_8)
noncomputable def d20_7 (cl : Cl) (m : Nat) (kr : X → X → X → X → Mm → CX) (kn : X → X → X → Mm → CX) (t1 t4 t5 t511 : X) (M : Mm) : CX :=
  vLenS t1 fun t31 =>
  d20_8 cl m kr kn t4 t5 t1 t31 (.i .i64 (0)) t511 M
theorem z20_7 (cl : Cl) (m : Nat) (kr : X → X → X → X → Mm → CX) (kn : X → X → X → Mm → CX) : semK cl m T20_7 (fun F M => kn (g4 F) (g5 F) (gT 511 F) M) (fun _ _ _ => .no) (fun F M => kr (gT 511 F) (g4 F) (g5 F) (g6 F) M) = fun F M => d20_7 cl m kr kn (g1 F) (g4 F) (g5 F) (gT 511 F) M := by
  show semK cl m U20_7 (semK cl m T20_8 (fun F M => kn (g4 F) (g5 F) (gT 511 F) M) (fun _ _ _ => .no) (fun F M => kr (gT 511 F) (g4 F) (g5 F) (g6 F) M)) (fun _ _ _ => .no) (fun F M => kr (gT 511 F) (g4 F) (g5 F) (g6 F) M) = _
  rw [z20_8 cl m kr kn]
  funext F M; kernel_rfl
noncomputable def T20_6 : CT := (.seq T20_7 U20_6)
noncomputable def d20_6 (cl : Cl) (m : Nat) (kr : X → X → X → X → Mm → CX) (kn : X → X → X → X → Mm → CX) (t1 t4 t5 t511 : X) (M : Mm) : CX :=
  d20_7 cl m kr (fun t4 t5 t511 M =>
    jn (fun (n4 : Nat) =>
    chk (Old n4 t4) <|
    vLoadN 4 t4 M fun t56 =>
    chk (Pst true false t56 M M none) <|
    chk True <|
    chk (Pst true false t5 M M none) <|
    chk True <|
    vCall cl 31 [t5] M fun t58 M10 =>
    chk (Pst true true t58 M M10 (some (none, [t4]))) <|
    chk True <|
    vStoreN 4 t4 t56 M10 fun _ M11 =>
    chk (Pst false true (.v .undef) M10 M11 none) <|
    chk True <|
    chk (Pst true false t58 M11 M11 none) <|
    chk True <|
    chk (Pst true false (.i .i64 (0)) M11 M11 none) <|
    kr t511 t4 t58 (.i .i64 (0)) M11) M.nx) t1 t4 t5 t511 M
theorem z20_6 (cl : Cl) (m : Nat) (kr : X → X → X → X → Mm → CX) (kn : X → X → X → X → Mm → CX) : semK cl m T20_6 (fun F M => kn (gT 511 F) (g4 F) (g5 F) (g6 F) M) (fun _ _ _ => .no) (fun F M => kr (gT 511 F) (g4 F) (g5 F) (g6 F) M) = fun F M => d20_6 cl m kr kn (g1 F) (g4 F) (g5 F) (gT 511 F) M := by
  have hb : semK cl m U20_6 (fun F M => kn (gT 511 F) (g4 F) (g5 F) (g6 F) M) (fun _ _ _ => .no) (fun F M => kr (gT 511 F) (g4 F) (g5 F) (g6 F) M) = fun F M => (fun t4 t5 t511 M =>
    jn (fun (n4 : Nat) =>
    chk (Old n4 t4) <|
    vLoadN 4 t4 M fun t56 =>
    chk (Pst true false t56 M M none) <|
    chk True <|
    chk (Pst true false t5 M M none) <|
    chk True <|
    vCall cl 31 [t5] M fun t58 M10 =>
    chk (Pst true true t58 M M10 (some (none, [t4]))) <|
    chk True <|
    vStoreN 4 t4 t56 M10 fun _ M11 =>
    chk (Pst false true (.v .undef) M10 M11 none) <|
    chk True <|
    chk (Pst true false t58 M11 M11 none) <|
    chk True <|
    chk (Pst true false (.i .i64 (0)) M11 M11 none) <|
    kr t511 t4 t58 (.i .i64 (0)) M11) M.nx) (g4 F) (g5 F) (gT 511 F) M := by funext F M; kernel_rfl
  show semK cl m T20_7 (semK cl m U20_6 (fun F M => kn (gT 511 F) (g4 F) (g5 F) (g6 F) M) (fun _ _ _ => .no) (fun F M => kr (gT 511 F) (g4 F) (g5 F) (g6 F) M)) (fun _ _ _ => .no) (fun F M => kr (gT 511 F) (g4 F) (g5 F) (g6 F) M) = _
  rw [hb]
  exact (z20_7 cl m kr (fun t4 t5 t511 M =>
    jn (fun (n4 : Nat) =>
    chk (Old n4 t4) <|
    vLoadN 4 t4 M fun t56 =>
    chk (Pst true false t56 M M none) <|
    chk True <|
    chk (Pst true false t5 M M none) <|
    chk True <|
    vCall cl 31 [t5] M fun t58 M10 =>
    chk (Pst true true t58 M M10 (some (none, [t4]))) <|
    chk True <|
    vStoreN 4 t4 t56 M10 fun _ M11 =>
    chk (Pst false true (.v .undef) M10 M11 none) <|
    chk True <|
    chk (Pst true false t58 M11 M11 none) <|
    chk True <|
    chk (Pst true false (.i .i64 (0)) M11 M11 none) <|
    kr t511 t4 t58 (.i .i64 (0)) M11) M.nx) ).trans (by funext F M; kernel_rfl)
noncomputable def T20_5 : CT := (.seq U20_5 T20_6)
noncomputable def d20_5 (cl : Cl) (m : Nat) (kr : X → X → X → X → Mm → CX) (kn : X → X → X → X → Mm → CX) (t1 t2 t4 t5 t511 : X) (M : Mm) : CX :=
  vFieldAddr 0 t2 fun t25 =>
  vLoad1 t25 M fun t26 =>
  vCall cl 32 [t26] M fun t27 M12 =>
  vCall cl 31 [t27] M12 fun t28 M13 =>
  vFieldAddr 0 t4 fun t29 =>
  vStore1 t29 t28 M13 fun _ M14 =>
  d20_6 cl m kr kn t1 t4 t5 t511 M14
theorem z20_5 (cl : Cl) (m : Nat) (kr : X → X → X → X → Mm → CX) (kn : X → X → X → X → Mm → CX) : semK cl m T20_5 (fun F M => kn (gT 511 F) (g4 F) (g5 F) (g6 F) M) (fun _ _ _ => .no) (fun F M => kr (gT 511 F) (g4 F) (g5 F) (g6 F) M) = fun F M => d20_5 cl m kr kn (g1 F) (g2 F) (g4 F) (g5 F) (gT 511 F) M := by
  show semK cl m U20_5 (semK cl m T20_6 (fun F M => kn (gT 511 F) (g4 F) (g5 F) (g6 F) M) (fun _ _ _ => .no) (fun F M => kr (gT 511 F) (g4 F) (g5 F) (g6 F) M)) (fun _ _ _ => .no) (fun F M => kr (gT 511 F) (g4 F) (g5 F) (g6 F) M) = _
  rw [z20_6 cl m kr kn]
  funext F M; kernel_rfl
noncomputable def T20_4 : CT := (.seq U20_4 T20_5)
noncomputable def d20_4 (cl : Cl) (m : Nat) (kr : X → X → X → X → Mm → CX) (kn : X → X → X → X → Mm → CX) (t1 t2 t4 t5 t511 : X) (M : Mm) : CX :=
  vLoadN 4 t2 M fun t24 =>
  vStoreN 4 t4 t24 M fun _ M15 =>
  d20_5 cl m kr kn t1 t2 t4 t5 t511 M15
theorem z20_4 (cl : Cl) (m : Nat) (kr : X → X → X → X → Mm → CX) (kn : X → X → X → X → Mm → CX) : semK cl m T20_4 (fun F M => kn (gT 511 F) (g4 F) (g5 F) (g6 F) M) (fun _ _ _ => .no) (fun F M => kr (gT 511 F) (g4 F) (g5 F) (g6 F) M) = fun F M => d20_4 cl m kr kn (g1 F) (g2 F) (g4 F) (g5 F) (gT 511 F) M := by
  show semK cl m U20_4 (semK cl m T20_5 (fun F M => kn (gT 511 F) (g4 F) (g5 F) (g6 F) M) (fun _ _ _ => .no) (fun F M => kr (gT 511 F) (g4 F) (g5 F) (g6 F) M)) (fun _ _ _ => .no) (fun F M => kr (gT 511 F) (g4 F) (g5 F) (g6 F) M) = _
  rw [z20_5 cl m kr kn]
  funext F M; kernel_rfl
noncomputable def T20_3 : CT := (.seq U20_3 T20_4)
noncomputable def d20_3 (cl : Cl) (m : Nat) (kr : X → X → X → X → Mm → CX) (kn : X → X → X → X → Mm → CX) (t1 t2 t4 t5 t511 : X) (M : Mm) : CX :=
  vLenS t1 fun t21 =>
  vBin .gtr t21 (.i .i64 (4096)) fun t22 =>
  vIf t22 (
    vBuild [.nils, .int .i64 (.int (0)), .int .i64 (.int (0)), .int .i64 (.int (0))] [] fun t23 =>
    vStoreN 4 t4 t23 M fun _ M16 =>
    kr t511 t4 (.v .nils) (.i .i64 (3)) M16) (
  d20_4 cl m kr kn t1 t2 t4 t5 t511 M)
theorem z20_3 (cl : Cl) (m : Nat) (kr : X → X → X → X → Mm → CX) (kn : X → X → X → X → Mm → CX) : semK cl m T20_3 (fun F M => kn (gT 511 F) (g4 F) (g5 F) (g6 F) M) (fun _ _ _ => .no) (fun F M => kr (gT 511 F) (g4 F) (g5 F) (g6 F) M) = fun F M => d20_3 cl m kr kn (g1 F) (g2 F) (g4 F) (g5 F) (gT 511 F) M := by
  show semK cl m U20_3 (semK cl m T20_4 (fun F M => kn (gT 511 F) (g4 F) (g5 F) (g6 F) M) (fun _ _ _ => .no) (fun F M => kr (gT 511 F) (g4 F) (g5 F) (g6 F) M)) (fun _ _ _ => .no) (fun F M => kr (gT 511 F) (g4 F) (g5 F) (g6 F) M) = _
  rw [z20_4 cl m kr kn]
  funext F M; kernel_rfl
noncomputable def T20_2 : CT := (.seq U20_2 T20_3)
noncomputable def d20_2 (cl : Cl) (m : Nat) (kr : X → X → X → X → Mm → CX) (kn : X → X → X → X → Mm → CX) (t1 t2 t4 t5 t511 : X) (M : Mm) : CX :=
  vLoadN 4 t2 M fun t14 =>
  vCall cl 12 [t14] M fun t15 M17 =>
  vBin .neq t15 (.i .i64 (0)) fun t17 =>
  vIf t17 (
    vBuild [.nils, .int .i64 (.int (0)), .int .i64 (.int (0)), .int .i64 (.int (0))] [] fun t18 =>
    vStoreN 4 t4 t18 M17 fun _ M18 =>
    kr t511 t4 (.v .nils) t15 M18) (
  d20_3 cl m kr kn t1 t2 t4 t5 t511 M17)
theorem z20_2 (cl : Cl) (m : Nat) (kr : X → X → X → X → Mm → CX) (kn : X → X → X → X → Mm → CX) : semK cl m T20_2 (fun F M => kn (gT 511 F) (g4 F) (g5 F) (g6 F) M) (fun _ _ _ => .no) (fun F M => kr (gT 511 F) (g4 F) (g5 F) (g6 F) M) = fun F M => d20_2 cl m kr kn (g1 F) (g2 F) (g4 F) (g5 F) (gT 511 F) M := by
  show semK cl m U20_2 (semK cl m T20_3 (fun F M => kn (gT 511 F) (g4 F) (g5 F) (g6 F) M) (fun _ _ _ => .no) (fun F M => kr (gT 511 F) (g4 F) (g5 F) (g6 F) M)) (fun _ _ _ => .no) (fun F M => kr (gT 511 F) (g4 F) (g5 F) (g6 F) M) = _
  rw [z20_3 cl m kr kn]
  funext F M; kernel_rfl
noncomputable def T20_1 : CT := (.seq U20_1 T20_2)
noncomputable def d20_1 (cl : Cl) (m : Nat) (kr : X → X → X → X → Mm → CX) (kn : X → X → X → X → Mm → CX) (t0 t1 t511 : X) (M : Mm) : CX :=
  vBox 24 4 t0 M fun t2 M19 =>
  vAlloc 24 4 [.nils, .int .i64 (.int (0)), .int .i64 (.int (0)), .int .i64 (.int (0))] M19 fun t4 M20 =>
  d20_2 cl m kr kn t1 t2 t4 (.v .nils) t511 M20
theorem z20_1 (cl : Cl) (m : Nat) (kr : X → X → X → X → Mm → CX) (kn : X → X → X → X → Mm → CX) : semK cl m T20_1 (fun F M => kn (gT 511 F) (g4 F) (g5 F) (g6 F) M) (fun _ _ _ => .no) (fun F M => kr (gT 511 F) (g4 F) (g5 F) (g6 F) M) = fun F M => d20_1 cl m kr kn (g0 F) (g1 F) (gT 511 F) M := by
  show semK cl m U20_1 (semK cl m T20_2 (fun F M => kn (gT 511 F) (g4 F) (g5 F) (g6 F) M) (fun _ _ _ => .no) (fun F M => kr (gT 511 F) (g4 F) (g5 F) (g6 F) M)) (fun _ _ _ => .no) (fun F M => kr (gT 511 F) (g4 F) (g5 F) (g6 F) M) = _
  rw [z20_2 cl m kr kn]
  funext F M; kernel_rfl
noncomputable def t20 : CT := T20_1
theorem z20 (cl : Cl) (m : Nat) (kr : X → X → X → X → Mm → CX) : semK cl m t20 (fun F M => kr (gT 511 F) (g4 F) (g5 F) (g6 F) M) (fun _ _ _ => .no) (fun F M => kr (gT 511 F) (g4 F) (g5 F) (g6 F) M) = fun F M => d20_1 cl m kr kr (g0 F) (g1 F) (gT 511 F) M := z20_1 cl m kr kr
noncomputable def d20 (cl : Cl) (m : Nat) (kr : X → X → X → X → Mm → CX) (t0 t1 : X) (M : Mm) : CX :=
  d20_1 cl m kr kr t0 t1 (.v .undef) M
/-! 21: countersign/turns.Served -/
noncomputable def U21_1 : CT := (.ops [(.move (kX (.v .nils)), s4),
    (.move (kX (.i .i64 (0))), s5)])
noncomputable def U21_2 : CT := (.seq (.ops [(.move g0, s9),
    (.lenS g9, s10),
    (.bin .gtr g10 (kX (.i .i64 (4096))), s11)]) (.cond g11 (.seq (.ops [(.move (kX (.v .nils)), s4),
    (.move (kX (.i .i64 (3))), s5)]) .ret) .skip))
noncomputable def U21_3 : CT := (.seq (.ops [(.move g1, s12),
    (.call 33 [g12, (kX (.i .i64 (1))), (kX (.i .i64 (16)))], s13),
    (.not g13, s14)]) (.cond g14 (.seq (.ops [(.move (kX (.v .nils)), s4),
    (.move (kX (.i .i64 (4))), s5)]) .ret) .skip))
noncomputable def U21_4 : CT := (.ops [(.alloc 70 16 [.int .i64 (.int (0)), .int .i64 (.int (0)), .int .i64 (.int (0)), .int .i64 (.int (0)), .int .i64 (.int (0)), .int .i64 (.int (0)), .int .i64 (.int (0)), .int .i64 (.int (0)), .int .i64 (.int (0)), .int .i64 (.int (0)), .int .i64 (.int (0)), .int .i64 (.int (0)), .int .i64 (.int (0)), .int .i64 (.int (0)), .int .i64 (.int (0)), .int .i64 (.int (0))], s6)])
noncomputable def U21_5 : CT := (.seq (.ops [(.move g1, s34),
    (.slice prg 70 (.tmp 6) none (some (.tmp 34)) none 38, s35),
    (.call 32 [g35], s36),
    (.call 31 [g36], s37),
    (.move g37, s4),
    (.move (kX (.i .i64 (0))), s5)]) .ret)
noncomputable def U21_6 : CT := (.ops [(.move g0, s15),
    (.lenS g15, s16),
    (.move (kX (.i .i64 (0))), s17)])
noncomputable def U21_7 : CT := (.seq (.ops [(.bin .lss g17 g16, s18)]) (.seq (.cond g18 .skip (.exit 0)) (.seq (.block 1 (.seq (.ops [(.indexAddr 1 g15 g17, s19),
    (.load1 g19, s20),
    (.move g20, s8)]) (.seq (.seq (.ops [(.move g8, s21),
    (.move g1, s22),
    (.bin .sub g22 (kX (.i .i64 (1))), s23),
    (.call 33 [g21, (kX (.i .i64 (-1))), g23], s24),
    (.not g24, s25)]) (.cond g25 (.seq (.ops [(.move (kX (.v .nils)), s4),
    (.move (kX (.i .i64 (4))), s5)]) .ret) .skip)) (.seq (.ops [(.move g8, s26),
    (.bin .geq g26 (kX (.i .i64 (0))), s27)]) (.cond g27 (.ops [(.move g8, s28),
    (.indexArr 16 1 g6 g28, s29),
    (.load1 g29, s30),
    (.bin .add g30 (kX (.i .i64 (1))), s31),
    (.indexArr 16 1 g6 g28, s32),
    (.store1 g32 g31, sN)]) .skip))))) (.ops [(.bin .add g17 (kX (.i .i64 (1))), s33),
    (.move g33, s17)]))))
noncomputable def T21_8 : CT := (.loop U21_7)
noncomputable def d21_8 (cl : Cl) (m : Nat) (kr : X → X → X → Mm → CX) (k0 : X → X → X → Mm → CX) : Nat → X → X → X → X → X → X → Mm → CX
  | 0 => fun _ _ _ _ _ _ _ => .no
  | n + 1 => fun t1 t6 t15 t16 t17 t511 M =>
  vBin .lss t17 t16 fun t18 =>
  vIf t18 (
  jn (fun (j1 : X → X → X → X → X → X → Mm → CX) =>
    vIndexAddr 1 t15 t17 fun t19 =>
    vLoad1 t19 M fun t20 =>
    vBin .sub t1 (.i .i64 (1)) fun t23 =>
    vCall cl 33 [t20, (.i .i64 (-1)), t23] M fun t24 M2 =>
    vNot t24 fun t25 =>
    vIf t25 (
      kr t511 (.v .nils) (.i .i64 (4)) M2) (
    vBin .geq t20 (.i .i64 (0)) fun t27 =>
    vIf t27 (
      vIndexArr 16 1 t6 t20 fun t29 =>
      vLoad1 t29 M2 fun t30 =>
      vBin .add t30 (.i .i64 (1)) fun t31 =>
      vIndexArr 16 1 t6 t20 fun t32 =>
      vStore1 t32 t31 M2 fun _ M3 =>
    j1 t1 t6 t15 t16 t17 t511 M3) (
    j1 t1 t6 t15 t16 t17 t511 M2))) (fun t1 t6 t15 t16 t17 t511 M1 =>
    vBin .add t17 (.i .i64 (1)) fun t33 =>
  d21_8 cl m kr k0 n t1 t6 t15 t16 t33 t511 M1)) (
  k0 t1 t6 t511 M)
theorem z21_8 (cl : Cl) (m : Nat) (kr : X → X → X → Mm → CX) (kn : X → X → X → Mm → CX) (k0 : X → X → X → Mm → CX) : semK cl m T21_8 (fun F M => kn (g1 F) (g6 F) (gT 511 F) M) (exB 0 (fun F M => k0 (g1 F) (g6 F) (gT 511 F) M) (fun _ _ _ => .no)) (fun F M => kr (gT 511 F) (g4 F) (g5 F) M) = fun F M => d21_8 cl m kr k0 m (g1 F) (g6 F) (g15 F) (g16 F) (g17 F) (gT 511 F) M := by
  have key : ∀ j, loopK (fun q => semK cl m U21_7 q (exB 0 (fun F M => k0 (g1 F) (g6 F) (gT 511 F) M) (fun _ _ _ => .no)) (fun F M => kr (gT 511 F) (g4 F) (g5 F) M)) j = fun F M => d21_8 cl m kr k0 j (g1 F) (g6 F) (g15 F) (g16 F) (g17 F) (gT 511 F) M := by
    intro j
    induction j with
    | zero => rfl
    | succ j ih =>
      show semK cl m U21_7 (loopK (fun q => semK cl m U21_7 q (exB 0 (fun F M => k0 (g1 F) (g6 F) (gT 511 F) M) (fun _ _ _ => .no)) (fun F M => kr (gT 511 F) (g4 F) (g5 F) M)) j) (exB 0 (fun F M => k0 (g1 F) (g6 F) (gT 511 F) M) (fun _ _ _ => .no)) (fun F M => kr (gT 511 F) (g4 F) (g5 F) M) = _
      rw [ih]
      funext F M; kernel_rfl
  exact key m
noncomputable def T21_7 : CT := (.block 0 T21_8)
noncomputable def d21_7 (cl : Cl) (m : Nat) (kr : X → X → X → Mm → CX) (kn : X → X → X → Mm → CX) (t1 t6 t15 t16 t17 t511 : X) (M : Mm) : CX :=
  d21_8 cl m kr kn m t1 t6 t15 t16 t17 t511 M
theorem z21_7 (cl : Cl) (m : Nat) (kr : X → X → X → Mm → CX) (kn : X → X → X → Mm → CX) : semK cl m T21_7 (fun F M => kn (g1 F) (g6 F) (gT 511 F) M) (fun _ _ _ => .no) (fun F M => kr (gT 511 F) (g4 F) (g5 F) M) = fun F M => d21_7 cl m kr kn (g1 F) (g6 F) (g15 F) (g16 F) (g17 F) (gT 511 F) M := by
  show semK cl m T21_8 (fun F M => kn (g1 F) (g6 F) (gT 511 F) M) (exB 0 (fun F M => kn (g1 F) (g6 F) (gT 511 F) M) (fun _ _ _ => .no)) (fun F M => kr (gT 511 F) (g4 F) (g5 F) M) = _
  exact (z21_8 cl m kr kn kn).trans (by funext F M; kernel_rfl)
noncomputable def T21_6 : CT := (.seq U21_6 T21_7)
noncomputable def d21_6 (cl : Cl) (m : Nat) (kr : X → X → X → Mm → CX) (kn : X → X → X → Mm → CX) (t0 t1 t6 t511 : X) (M : Mm) : CX :=
  vLenS t0 fun t16 =>
  d21_7 cl m kr kn t1 t6 t0 t16 (.i .i64 (0)) t511 M
theorem z21_6 (cl : Cl) (m : Nat) (kr : X → X → X → Mm → CX) (kn : X → X → X → Mm → CX) : semK cl m T21_6 (fun F M => kn (g1 F) (g6 F) (gT 511 F) M) (fun _ _ _ => .no) (fun F M => kr (gT 511 F) (g4 F) (g5 F) M) = fun F M => d21_6 cl m kr kn (g0 F) (g1 F) (g6 F) (gT 511 F) M := by
  show semK cl m U21_6 (semK cl m T21_7 (fun F M => kn (g1 F) (g6 F) (gT 511 F) M) (fun _ _ _ => .no) (fun F M => kr (gT 511 F) (g4 F) (g5 F) M)) (fun _ _ _ => .no) (fun F M => kr (gT 511 F) (g4 F) (g5 F) M) = _
  rw [z21_7 cl m kr kn]
  funext F M; kernel_rfl
noncomputable def T21_5 : CT := (.seq T21_6 U21_5)
noncomputable def d21_5 (cl : Cl) (m : Nat) (kr : X → X → X → Mm → CX) (kn : X → X → X → Mm → CX) (t0 t1 t6 t511 : X) (M : Mm) : CX :=
  d21_6 cl m kr (fun t1 t6 t511 M =>
    vSlice prg 70 t6 none (some t1) none M fun t35 M4 =>
    vCall cl 32 [t35] M4 fun t36 M5 =>
    vCall cl 31 [t36] M5 fun t37 M6 =>
    kr t511 t37 (.i .i64 (0)) M6) t0 t1 t6 t511 M
theorem z21_5 (cl : Cl) (m : Nat) (kr : X → X → X → Mm → CX) (kn : X → X → X → Mm → CX) : semK cl m T21_5 (fun F M => kn (gT 511 F) (g4 F) (g5 F) M) (fun _ _ _ => .no) (fun F M => kr (gT 511 F) (g4 F) (g5 F) M) = fun F M => d21_5 cl m kr kn (g0 F) (g1 F) (g6 F) (gT 511 F) M := by
  have hb : semK cl m U21_5 (fun F M => kn (gT 511 F) (g4 F) (g5 F) M) (fun _ _ _ => .no) (fun F M => kr (gT 511 F) (g4 F) (g5 F) M) = fun F M => (fun t1 t6 t511 M =>
    vSlice prg 70 t6 none (some t1) none M fun t35 M4 =>
    vCall cl 32 [t35] M4 fun t36 M5 =>
    vCall cl 31 [t36] M5 fun t37 M6 =>
    kr t511 t37 (.i .i64 (0)) M6) (g1 F) (g6 F) (gT 511 F) M := by funext F M; kernel_rfl
  show semK cl m T21_6 (semK cl m U21_5 (fun F M => kn (gT 511 F) (g4 F) (g5 F) M) (fun _ _ _ => .no) (fun F M => kr (gT 511 F) (g4 F) (g5 F) M)) (fun _ _ _ => .no) (fun F M => kr (gT 511 F) (g4 F) (g5 F) M) = _
  rw [hb]
  exact (z21_6 cl m kr (fun t1 t6 t511 M =>
    vSlice prg 70 t6 none (some t1) none M fun t35 M4 =>
    vCall cl 32 [t35] M4 fun t36 M5 =>
    vCall cl 31 [t36] M5 fun t37 M6 =>
    kr t511 t37 (.i .i64 (0)) M6) ).trans (by funext F M; kernel_rfl)
noncomputable def T21_4 : CT := (.seq U21_4 T21_5)
noncomputable def d21_4 (cl : Cl) (m : Nat) (kr : X → X → X → Mm → CX) (kn : X → X → X → Mm → CX) (t0 t1 t511 : X) (M : Mm) : CX :=
  vAlloc 70 16 [.int .i64 (.int (0)), .int .i64 (.int (0)), .int .i64 (.int (0)), .int .i64 (.int (0)), .int .i64 (.int (0)), .int .i64 (.int (0)), .int .i64 (.int (0)), .int .i64 (.int (0)), .int .i64 (.int (0)), .int .i64 (.int (0)), .int .i64 (.int (0)), .int .i64 (.int (0)), .int .i64 (.int (0)), .int .i64 (.int (0)), .int .i64 (.int (0)), .int .i64 (.int (0))] M fun t6 M7 =>
  d21_5 cl m kr kn t0 t1 t6 t511 M7
theorem z21_4 (cl : Cl) (m : Nat) (kr : X → X → X → Mm → CX) (kn : X → X → X → Mm → CX) : semK cl m T21_4 (fun F M => kn (gT 511 F) (g4 F) (g5 F) M) (fun _ _ _ => .no) (fun F M => kr (gT 511 F) (g4 F) (g5 F) M) = fun F M => d21_4 cl m kr kn (g0 F) (g1 F) (gT 511 F) M := by
  show semK cl m U21_4 (semK cl m T21_5 (fun F M => kn (gT 511 F) (g4 F) (g5 F) M) (fun _ _ _ => .no) (fun F M => kr (gT 511 F) (g4 F) (g5 F) M)) (fun _ _ _ => .no) (fun F M => kr (gT 511 F) (g4 F) (g5 F) M) = _
  rw [z21_5 cl m kr kn]
  funext F M; kernel_rfl
noncomputable def T21_3 : CT := (.seq U21_3 T21_4)
noncomputable def d21_3 (cl : Cl) (m : Nat) (kr : X → X → X → Mm → CX) (kn : X → X → X → Mm → CX) (t0 t1 t511 : X) (M : Mm) : CX :=
  vCall cl 33 [t1, (.i .i64 (1)), (.i .i64 (16))] M fun t13 M8 =>
  vNot t13 fun t14 =>
  vIf t14 (
    kr t511 (.v .nils) (.i .i64 (4)) M8) (
  d21_4 cl m kr kn t0 t1 t511 M8)
theorem z21_3 (cl : Cl) (m : Nat) (kr : X → X → X → Mm → CX) (kn : X → X → X → Mm → CX) : semK cl m T21_3 (fun F M => kn (gT 511 F) (g4 F) (g5 F) M) (fun _ _ _ => .no) (fun F M => kr (gT 511 F) (g4 F) (g5 F) M) = fun F M => d21_3 cl m kr kn (g0 F) (g1 F) (gT 511 F) M := by
  show semK cl m U21_3 (semK cl m T21_4 (fun F M => kn (gT 511 F) (g4 F) (g5 F) M) (fun _ _ _ => .no) (fun F M => kr (gT 511 F) (g4 F) (g5 F) M)) (fun _ _ _ => .no) (fun F M => kr (gT 511 F) (g4 F) (g5 F) M) = _
  rw [z21_4 cl m kr kn]
  funext F M; kernel_rfl
noncomputable def T21_2 : CT := (.seq U21_2 T21_3)
noncomputable def d21_2 (cl : Cl) (m : Nat) (kr : X → X → X → Mm → CX) (kn : X → X → X → Mm → CX) (t0 t1 t511 : X) (M : Mm) : CX :=
  vLenS t0 fun t10 =>
  vBin .gtr t10 (.i .i64 (4096)) fun t11 =>
  vIf t11 (
    kr t511 (.v .nils) (.i .i64 (3)) M) (
  d21_3 cl m kr kn t0 t1 t511 M)
theorem z21_2 (cl : Cl) (m : Nat) (kr : X → X → X → Mm → CX) (kn : X → X → X → Mm → CX) : semK cl m T21_2 (fun F M => kn (gT 511 F) (g4 F) (g5 F) M) (fun _ _ _ => .no) (fun F M => kr (gT 511 F) (g4 F) (g5 F) M) = fun F M => d21_2 cl m kr kn (g0 F) (g1 F) (gT 511 F) M := by
  show semK cl m U21_2 (semK cl m T21_3 (fun F M => kn (gT 511 F) (g4 F) (g5 F) M) (fun _ _ _ => .no) (fun F M => kr (gT 511 F) (g4 F) (g5 F) M)) (fun _ _ _ => .no) (fun F M => kr (gT 511 F) (g4 F) (g5 F) M) = _
  rw [z21_3 cl m kr kn]
  funext F M; kernel_rfl
noncomputable def T21_1 : CT := (.seq U21_1 T21_2)
noncomputable def d21_1 (cl : Cl) (m : Nat) (kr : X → X → X → Mm → CX) (kn : X → X → X → Mm → CX) (t0 t1 t511 : X) (M : Mm) : CX :=
  d21_2 cl m kr kn t0 t1 t511 M
theorem z21_1 (cl : Cl) (m : Nat) (kr : X → X → X → Mm → CX) (kn : X → X → X → Mm → CX) : semK cl m T21_1 (fun F M => kn (gT 511 F) (g4 F) (g5 F) M) (fun _ _ _ => .no) (fun F M => kr (gT 511 F) (g4 F) (g5 F) M) = fun F M => d21_1 cl m kr kn (g0 F) (g1 F) (gT 511 F) M := by
  show semK cl m U21_1 (semK cl m T21_2 (fun F M => kn (gT 511 F) (g4 F) (g5 F) M) (fun _ _ _ => .no) (fun F M => kr (gT 511 F) (g4 F) (g5 F) M)) (fun _ _ _ => .no) (fun F M => kr (gT 511 F) (g4 F) (g5 F) M) = _
  rw [z21_2 cl m kr kn]
  funext F M; kernel_rfl
noncomputable def t21 : CT := T21_1
theorem z21 (cl : Cl) (m : Nat) (kr : X → X → X → Mm → CX) : semK cl m t21 (fun F M => kr (gT 511 F) (g4 F) (g5 F) M) (fun _ _ _ => .no) (fun F M => kr (gT 511 F) (g4 F) (g5 F) M) = fun F M => d21_1 cl m kr kr (g0 F) (g1 F) (gT 511 F) M := z21_1 cl m kr kr
noncomputable def d21 (cl : Cl) (m : Nat) (kr : X → X → X → Mm → CX) (t0 t1 : X) (M : Mm) : CX :=
  d21_1 cl m kr kr t0 t1 (.v .undef) M
/-! 22: countersign/countersignref36.Count -/
noncomputable def U22_1 : CT := (.ops [(.move (kX (.i .i64 (0))), s4)])
noncomputable def U22_2 : CT := (.ops [(.move (kX (.i .i64 (0))), s5)])
noncomputable def U22_3 : CT := (.seq (.ops [(.move g5, s21),
    (.move g21, s4)]) .ret)
noncomputable def U22_4 : CT := (.ops [(.move (kX (.i .i64 (0))), s6)])
noncomputable def U22_5 : CT := (.seq (.seq (.ops [(.move g6, s7),
    (.move g0, s8),
    (.lenS g8, s9),
    (.bin .lss g7 g9, s10)]) (.cond g10 .skip (.exit 0))) (.seq (.block 1 (.seq (.ops [(.move g0, s13),
    (.move g6, s14),
    (.indexAddr 1 g13 g14, s15),
    (.load1 g15, s16),
    (.move g1, s17),
    (.bin .eql g16 g17, s18)]) (.cond g18 (.ops [(.move g5, s19),
    (.bin .add g19 (kX (.i .i64 (1))), s20),
    (.move g20, s5)]) .skip))) (.ops [(.move g6, s11),
    (.bin .add g11 (kX (.i .i64 (1))), s12),
    (.move g12, s6)])))
noncomputable def T22_6 : CT := (.loop U22_5)
noncomputable def d22_6 (cl : Cl) (m : Nat) (kr : X → X → Mm → CX) (k0 : X → X → Mm → CX) : Nat → X → X → X → X → X → Mm → CX
  | 0 => fun _ _ _ _ _ _ => .no
  | n + 1 => fun t0 t1 t5 t6 t511 M =>
  vLenS t0 fun t9 =>
  vBin .lss t6 t9 fun t10 =>
  vIf t10 (
  jn (fun (j1 : X → X → X → X → X → Mm → CX) =>
    vIndexAddr 1 t0 t6 fun t15 =>
    vLoad1 t15 M fun t16 =>
    vBin .eql t16 t1 fun t18 =>
    vIf t18 (
      vBin .add t5 (.i .i64 (1)) fun t20 =>
    j1 t0 t1 t20 t6 t511 M) (
    j1 t0 t1 t5 t6 t511 M)) (fun t0 t1 t5 t6 t511 M1 =>
    vBin .add t6 (.i .i64 (1)) fun t12 =>
  d22_6 cl m kr k0 n t0 t1 t5 t12 t511 M1)) (
  k0 t5 t511 M)
theorem z22_6 (cl : Cl) (m : Nat) (kr : X → X → Mm → CX) (kn : X → X → Mm → CX) (k0 : X → X → Mm → CX) : semK cl m T22_6 (fun F M => kn (g5 F) (gT 511 F) M) (exB 0 (fun F M => k0 (g5 F) (gT 511 F) M) (fun _ _ _ => .no)) (fun F M => kr (gT 511 F) (g4 F) M) = fun F M => d22_6 cl m kr k0 m (g0 F) (g1 F) (g5 F) (g6 F) (gT 511 F) M := by
  have key : ∀ j, loopK (fun q => semK cl m U22_5 q (exB 0 (fun F M => k0 (g5 F) (gT 511 F) M) (fun _ _ _ => .no)) (fun F M => kr (gT 511 F) (g4 F) M)) j = fun F M => d22_6 cl m kr k0 j (g0 F) (g1 F) (g5 F) (g6 F) (gT 511 F) M := by
    intro j
    induction j with
    | zero => rfl
    | succ j ih =>
      show semK cl m U22_5 (loopK (fun q => semK cl m U22_5 q (exB 0 (fun F M => k0 (g5 F) (gT 511 F) M) (fun _ _ _ => .no)) (fun F M => kr (gT 511 F) (g4 F) M)) j) (exB 0 (fun F M => k0 (g5 F) (gT 511 F) M) (fun _ _ _ => .no)) (fun F M => kr (gT 511 F) (g4 F) M) = _
      rw [ih]
      funext F M; kernel_rfl
  exact key m
noncomputable def T22_5 : CT := (.block 0 T22_6)
noncomputable def d22_5 (cl : Cl) (m : Nat) (kr : X → X → Mm → CX) (kn : X → X → Mm → CX) (t0 t1 t5 t6 t511 : X) (M : Mm) : CX :=
  d22_6 cl m kr kn m t0 t1 t5 t6 t511 M
theorem z22_5 (cl : Cl) (m : Nat) (kr : X → X → Mm → CX) (kn : X → X → Mm → CX) : semK cl m T22_5 (fun F M => kn (g5 F) (gT 511 F) M) (fun _ _ _ => .no) (fun F M => kr (gT 511 F) (g4 F) M) = fun F M => d22_5 cl m kr kn (g0 F) (g1 F) (g5 F) (g6 F) (gT 511 F) M := by
  show semK cl m T22_6 (fun F M => kn (g5 F) (gT 511 F) M) (exB 0 (fun F M => kn (g5 F) (gT 511 F) M) (fun _ _ _ => .no)) (fun F M => kr (gT 511 F) (g4 F) M) = _
  exact (z22_6 cl m kr kn kn).trans (by funext F M; kernel_rfl)
noncomputable def T22_4 : CT := (.seq U22_4 T22_5)
noncomputable def d22_4 (cl : Cl) (m : Nat) (kr : X → X → Mm → CX) (kn : X → X → Mm → CX) (t0 t1 t5 t511 : X) (M : Mm) : CX :=
  d22_5 cl m kr kn t0 t1 t5 (.i .i64 (0)) t511 M
theorem z22_4 (cl : Cl) (m : Nat) (kr : X → X → Mm → CX) (kn : X → X → Mm → CX) : semK cl m T22_4 (fun F M => kn (g5 F) (gT 511 F) M) (fun _ _ _ => .no) (fun F M => kr (gT 511 F) (g4 F) M) = fun F M => d22_4 cl m kr kn (g0 F) (g1 F) (g5 F) (gT 511 F) M := by
  show semK cl m U22_4 (semK cl m T22_5 (fun F M => kn (g5 F) (gT 511 F) M) (fun _ _ _ => .no) (fun F M => kr (gT 511 F) (g4 F) M)) (fun _ _ _ => .no) (fun F M => kr (gT 511 F) (g4 F) M) = _
  rw [z22_5 cl m kr kn]
  funext F M; kernel_rfl
noncomputable def T22_3 : CT := (.seq T22_4 U22_3)
noncomputable def d22_3 (cl : Cl) (m : Nat) (kr : X → X → Mm → CX) (kn : X → X → Mm → CX) (t0 t1 t5 t511 : X) (M : Mm) : CX :=
  d22_4 cl m kr (fun t5 t511 M =>
    kr t511 t5 M) t0 t1 t5 t511 M
theorem z22_3 (cl : Cl) (m : Nat) (kr : X → X → Mm → CX) (kn : X → X → Mm → CX) : semK cl m T22_3 (fun F M => kn (gT 511 F) (g4 F) M) (fun _ _ _ => .no) (fun F M => kr (gT 511 F) (g4 F) M) = fun F M => d22_3 cl m kr kn (g0 F) (g1 F) (g5 F) (gT 511 F) M := by
  have hb : semK cl m U22_3 (fun F M => kn (gT 511 F) (g4 F) M) (fun _ _ _ => .no) (fun F M => kr (gT 511 F) (g4 F) M) = fun F M => (fun t5 t511 M =>
    kr t511 t5 M) (g5 F) (gT 511 F) M := by funext F M; kernel_rfl
  show semK cl m T22_4 (semK cl m U22_3 (fun F M => kn (gT 511 F) (g4 F) M) (fun _ _ _ => .no) (fun F M => kr (gT 511 F) (g4 F) M)) (fun _ _ _ => .no) (fun F M => kr (gT 511 F) (g4 F) M) = _
  rw [hb]
  exact (z22_4 cl m kr (fun t5 t511 M =>
    kr t511 t5 M) ).trans (by funext F M; kernel_rfl)
noncomputable def T22_2 : CT := (.seq U22_2 T22_3)
noncomputable def d22_2 (cl : Cl) (m : Nat) (kr : X → X → Mm → CX) (kn : X → X → Mm → CX) (t0 t1 t511 : X) (M : Mm) : CX :=
  d22_3 cl m kr kn t0 t1 (.i .i64 (0)) t511 M
theorem z22_2 (cl : Cl) (m : Nat) (kr : X → X → Mm → CX) (kn : X → X → Mm → CX) : semK cl m T22_2 (fun F M => kn (gT 511 F) (g4 F) M) (fun _ _ _ => .no) (fun F M => kr (gT 511 F) (g4 F) M) = fun F M => d22_2 cl m kr kn (g0 F) (g1 F) (gT 511 F) M := by
  show semK cl m U22_2 (semK cl m T22_3 (fun F M => kn (gT 511 F) (g4 F) M) (fun _ _ _ => .no) (fun F M => kr (gT 511 F) (g4 F) M)) (fun _ _ _ => .no) (fun F M => kr (gT 511 F) (g4 F) M) = _
  rw [z22_3 cl m kr kn]
  funext F M; kernel_rfl
noncomputable def T22_1 : CT := (.seq U22_1 T22_2)
noncomputable def d22_1 (cl : Cl) (m : Nat) (kr : X → X → Mm → CX) (kn : X → X → Mm → CX) (t0 t1 t511 : X) (M : Mm) : CX :=
  d22_2 cl m kr kn t0 t1 t511 M
theorem z22_1 (cl : Cl) (m : Nat) (kr : X → X → Mm → CX) (kn : X → X → Mm → CX) : semK cl m T22_1 (fun F M => kn (gT 511 F) (g4 F) M) (fun _ _ _ => .no) (fun F M => kr (gT 511 F) (g4 F) M) = fun F M => d22_1 cl m kr kn (g0 F) (g1 F) (gT 511 F) M := by
  show semK cl m U22_1 (semK cl m T22_2 (fun F M => kn (gT 511 F) (g4 F) M) (fun _ _ _ => .no) (fun F M => kr (gT 511 F) (g4 F) M)) (fun _ _ _ => .no) (fun F M => kr (gT 511 F) (g4 F) M) = _
  rw [z22_2 cl m kr kn]
  funext F M; kernel_rfl
noncomputable def t22 : CT := T22_1
theorem z22 (cl : Cl) (m : Nat) (kr : X → X → Mm → CX) : semK cl m t22 (fun F M => kr (gT 511 F) (g4 F) M) (fun _ _ _ => .no) (fun F M => kr (gT 511 F) (g4 F) M) = fun F M => d22_1 cl m kr kr (g0 F) (g1 F) (gT 511 F) M := z22_1 cl m kr kr
noncomputable def d22 (cl : Cl) (m : Nat) (kr : X → X → Mm → CX) (t0 t1 : X) (M : Mm) : CX :=
  d22_1 cl m kr kr t0 t1 (.v .undef) M
/-! 23: countersign/countersignlaw36.Lists -/
noncomputable def U23_1 : CT := (.ops [(.move (kX (.v .nils)), s4)])
noncomputable def U23_2 : CT := (.ops [(.move (kX (.v .nils)), s5)])
noncomputable def U23_3 : CT := (.seq (.ops [(.move g5, s40),
    (.move g40, s4)]) .ret)
noncomputable def U23_4 : CT := (.ops [(.move (kX (.i .i64 (0))), s6)])
noncomputable def U23_5 : CT := (.seq (.ops [(.move g6, s9),
    (.move g0, s10),
    (.lenS g10, s11),
    (.bin .lss g9 g11, s12),
    (.move g12, s13),
    (.guard g13 true (.move g6), s14),
    (.guard g13 true (.bin .lss g14 (kX (.i .i64 (24)))), s15),
    (.pick g13 g15 (kX (.b false)), s16)]) (.cond g16 .skip (.exit 0)))
noncomputable def U23_6 : CT := (.ops [(.move g6, s17),
    (.bin .add g17 (kX (.i .i64 (1))), s18),
    (.move g18, s6)])
noncomputable def U23_7 : CT := (.ops [(.move (kX (.v .nils)), s7)])
noncomputable def U23_8 : CT := (.ops [(.move g5, s36),
    (.move g7, s37),
    (.slit prg 43 1 [(0, (.tmp 37))] 41, s38),
    (.app prg 43 43 (.tmp 36) (.tmp 38) 41, s39),
    (.move g39, s5)])
noncomputable def U23_9 : CT := (.ops [(.move (kX (.i .i64 (0))), s8)])
noncomputable def U23_10 : CT := (.seq (.seq (.ops [(.move g8, s19),
    (.move g1, s20),
    (.bin .lss g19 g20, s21)]) (.cond g21 .skip (.exit 2))) (.seq (.block 3 (.ops [(.move g7, s24),
    (.move g0, s25),
    (.move g6, s26),
    (.indexAddr 1 g25 g26, s27),
    (.load1 g27, s28),
    (.move g8, s29),
    (.binG prg .rem 3 3 (.tmp 29) (.const (.int .i64 (8))) 41, s30),
    (.binG prg .shr 5 3 (.tmp 28) (.tmp 30) 41, s31),
    (.binG prg .rem 5 5 (.tmp 31) (.const (.int .u8 (2))) 41, s32),
    (.bin .gtr g32 (kX (.i .u8 (0))), s33),
    (.slit prg 25 1 [(0, (.tmp 33))] 41, s34),
    (.app prg 25 25 (.tmp 24) (.tmp 34) 41, s35),
    (.move g35, s7)])) (.ops [(.move g8, s22),
    (.bin .add g22 (kX (.i .i64 (1))), s23),
    (.move g23, s8)])))
noncomputable def T23_14 : CT := (.loop U23_10)
noncomputable def d23_14 (cl : Cl) (m : Nat) (kr : X → X → Mm → CX) (k2 : X → X → X → X → X → X → Mm → CX) (k1 : X → X → X → X → X → Mm → CX) (k0 : X → X → Mm → CX) : Nat → X → X → X → X → X → X → X → Mm → CX
  | 0 => fun _ _ _ _ _ _ _ _ => .no
  | n + 1 => fun t0 t1 t5 t6 t7 t8 t511 M =>
  vBin .lss t8 t1 fun t21 =>
  vIf t21 (
  vIndexAddr 1 t0 t6 fun t27 =>
  vLoad1 t27 M fun t28 =>
  vBinG prg .rem 3 t8 (.i .i64 (8)) M fun t30 M1 =>
  vBinG prg .shr 5 t28 t30 M1 fun t31 M2 =>
  vBinG prg .rem 5 t31 (.i .u8 (2)) M2 fun t32 M3 =>
  vBin .gtr t32 (.i .u8 (0)) fun t33 =>
  vSlit prg 25 1 [(0, t33)] M3 fun t34 M4 =>
  vApp prg 25 25 t7 t34 M4 fun t35 M5 =>
  vBin .add t8 (.i .i64 (1)) fun t23 =>
  d23_14 cl m kr k2 k1 k0 n t0 t1 t5 t6 t35 t23 t511 M5) (
  k2 t0 t1 t5 t6 t7 t511 M)
theorem z23_14 (cl : Cl) (m : Nat) (kr : X → X → Mm → CX) (kn : X → X → X → X → X → X → Mm → CX) (k2 : X → X → X → X → X → X → Mm → CX) (k1 : X → X → X → X → X → Mm → CX) (k0 : X → X → Mm → CX) : semK cl m T23_14 (fun F M => kn (g0 F) (g1 F) (g5 F) (g6 F) (g7 F) (gT 511 F) M) (exB 2 (fun F M => k2 (g0 F) (g1 F) (g5 F) (g6 F) (g7 F) (gT 511 F) M) (exB 1 (fun F M => k1 (g0 F) (g1 F) (g5 F) (g6 F) (gT 511 F) M) (exB 0 (fun F M => k0 (g5 F) (gT 511 F) M) (fun _ _ _ => .no)))) (fun F M => kr (gT 511 F) (g4 F) M) = fun F M => d23_14 cl m kr k2 k1 k0 m (g0 F) (g1 F) (g5 F) (g6 F) (g7 F) (g8 F) (gT 511 F) M := by
  have key : ∀ j, loopK (fun q => semK cl m U23_10 q (exB 2 (fun F M => k2 (g0 F) (g1 F) (g5 F) (g6 F) (g7 F) (gT 511 F) M) (exB 1 (fun F M => k1 (g0 F) (g1 F) (g5 F) (g6 F) (gT 511 F) M) (exB 0 (fun F M => k0 (g5 F) (gT 511 F) M) (fun _ _ _ => .no)))) (fun F M => kr (gT 511 F) (g4 F) M)) j = fun F M => d23_14 cl m kr k2 k1 k0 j (g0 F) (g1 F) (g5 F) (g6 F) (g7 F) (g8 F) (gT 511 F) M := by
    intro j
    induction j with
    | zero => rfl
    | succ j ih =>
      show semK cl m U23_10 (loopK (fun q => semK cl m U23_10 q (exB 2 (fun F M => k2 (g0 F) (g1 F) (g5 F) (g6 F) (g7 F) (gT 511 F) M) (exB 1 (fun F M => k1 (g0 F) (g1 F) (g5 F) (g6 F) (gT 511 F) M) (exB 0 (fun F M => k0 (g5 F) (gT 511 F) M) (fun _ _ _ => .no)))) (fun F M => kr (gT 511 F) (g4 F) M)) j) (exB 2 (fun F M => k2 (g0 F) (g1 F) (g5 F) (g6 F) (g7 F) (gT 511 F) M) (exB 1 (fun F M => k1 (g0 F) (g1 F) (g5 F) (g6 F) (gT 511 F) M) (exB 0 (fun F M => k0 (g5 F) (gT 511 F) M) (fun _ _ _ => .no)))) (fun F M => kr (gT 511 F) (g4 F) M) = _
      rw [ih]
      funext F M; kernel_rfl
  exact key m
noncomputable def T23_13 : CT := (.block 2 T23_14)
noncomputable def d23_13 (cl : Cl) (m : Nat) (kr : X → X → Mm → CX) (kn : X → X → X → X → X → X → Mm → CX) (k1 : X → X → X → X → X → Mm → CX) (k0 : X → X → Mm → CX) (t0 t1 t5 t6 t7 t8 t511 : X) (M : Mm) : CX :=
  d23_14 cl m kr kn k1 k0 m t0 t1 t5 t6 t7 t8 t511 M
theorem z23_13 (cl : Cl) (m : Nat) (kr : X → X → Mm → CX) (kn : X → X → X → X → X → X → Mm → CX) (k1 : X → X → X → X → X → Mm → CX) (k0 : X → X → Mm → CX) : semK cl m T23_13 (fun F M => kn (g0 F) (g1 F) (g5 F) (g6 F) (g7 F) (gT 511 F) M) (exB 1 (fun F M => k1 (g0 F) (g1 F) (g5 F) (g6 F) (gT 511 F) M) (exB 0 (fun F M => k0 (g5 F) (gT 511 F) M) (fun _ _ _ => .no))) (fun F M => kr (gT 511 F) (g4 F) M) = fun F M => d23_13 cl m kr kn k1 k0 (g0 F) (g1 F) (g5 F) (g6 F) (g7 F) (g8 F) (gT 511 F) M := by
  show semK cl m T23_14 (fun F M => kn (g0 F) (g1 F) (g5 F) (g6 F) (g7 F) (gT 511 F) M) (exB 2 (fun F M => kn (g0 F) (g1 F) (g5 F) (g6 F) (g7 F) (gT 511 F) M) (exB 1 (fun F M => k1 (g0 F) (g1 F) (g5 F) (g6 F) (gT 511 F) M) (exB 0 (fun F M => k0 (g5 F) (gT 511 F) M) (fun _ _ _ => .no)))) (fun F M => kr (gT 511 F) (g4 F) M) = _
  exact (z23_14 cl m kr kn kn k1 k0).trans (by funext F M; kernel_rfl)
noncomputable def T23_12 : CT := (.seq U23_9 T23_13)
noncomputable def d23_12 (cl : Cl) (m : Nat) (kr : X → X → Mm → CX) (kn : X → X → X → X → X → X → Mm → CX) (k1 : X → X → X → X → X → Mm → CX) (k0 : X → X → Mm → CX) (t0 t1 t5 t6 t7 t511 : X) (M : Mm) : CX :=
  d23_13 cl m kr kn k1 k0 t0 t1 t5 t6 t7 (.i .i64 (0)) t511 M
theorem z23_12 (cl : Cl) (m : Nat) (kr : X → X → Mm → CX) (kn : X → X → X → X → X → X → Mm → CX) (k1 : X → X → X → X → X → Mm → CX) (k0 : X → X → Mm → CX) : semK cl m T23_12 (fun F M => kn (g0 F) (g1 F) (g5 F) (g6 F) (g7 F) (gT 511 F) M) (exB 1 (fun F M => k1 (g0 F) (g1 F) (g5 F) (g6 F) (gT 511 F) M) (exB 0 (fun F M => k0 (g5 F) (gT 511 F) M) (fun _ _ _ => .no))) (fun F M => kr (gT 511 F) (g4 F) M) = fun F M => d23_12 cl m kr kn k1 k0 (g0 F) (g1 F) (g5 F) (g6 F) (g7 F) (gT 511 F) M := by
  show semK cl m U23_9 (semK cl m T23_13 (fun F M => kn (g0 F) (g1 F) (g5 F) (g6 F) (g7 F) (gT 511 F) M) (exB 1 (fun F M => k1 (g0 F) (g1 F) (g5 F) (g6 F) (gT 511 F) M) (exB 0 (fun F M => k0 (g5 F) (gT 511 F) M) (fun _ _ _ => .no))) (fun F M => kr (gT 511 F) (g4 F) M)) (exB 1 (fun F M => k1 (g0 F) (g1 F) (g5 F) (g6 F) (gT 511 F) M) (exB 0 (fun F M => k0 (g5 F) (gT 511 F) M) (fun _ _ _ => .no))) (fun F M => kr (gT 511 F) (g4 F) M) = _
  rw [z23_13 cl m kr kn k1 k0]
  funext F M; kernel_rfl
noncomputable def T23_11 : CT := (.seq T23_12 U23_8)
noncomputable def d23_11 (cl : Cl) (m : Nat) (kr : X → X → Mm → CX) (kn : X → X → X → X → X → Mm → CX) (k1 : X → X → X → X → X → Mm → CX) (k0 : X → X → Mm → CX) (t0 t1 t5 t6 t7 t511 : X) (M : Mm) : CX :=
  d23_12 cl m kr (fun t0 t1 t5 t6 t7 t511 M =>
    vSlit prg 43 1 [(0, t7)] M fun t38 M6 =>
    vApp prg 43 43 t5 t38 M6 fun t39 M7 =>
    kn t0 t1 t39 t6 t511 M7) k1 k0 t0 t1 t5 t6 t7 t511 M
theorem z23_11 (cl : Cl) (m : Nat) (kr : X → X → Mm → CX) (kn : X → X → X → X → X → Mm → CX) (k1 : X → X → X → X → X → Mm → CX) (k0 : X → X → Mm → CX) : semK cl m T23_11 (fun F M => kn (g0 F) (g1 F) (g5 F) (g6 F) (gT 511 F) M) (exB 1 (fun F M => k1 (g0 F) (g1 F) (g5 F) (g6 F) (gT 511 F) M) (exB 0 (fun F M => k0 (g5 F) (gT 511 F) M) (fun _ _ _ => .no))) (fun F M => kr (gT 511 F) (g4 F) M) = fun F M => d23_11 cl m kr kn k1 k0 (g0 F) (g1 F) (g5 F) (g6 F) (g7 F) (gT 511 F) M := by
  have hb : semK cl m U23_8 (fun F M => kn (g0 F) (g1 F) (g5 F) (g6 F) (gT 511 F) M) (exB 1 (fun F M => k1 (g0 F) (g1 F) (g5 F) (g6 F) (gT 511 F) M) (exB 0 (fun F M => k0 (g5 F) (gT 511 F) M) (fun _ _ _ => .no))) (fun F M => kr (gT 511 F) (g4 F) M) = fun F M => (fun t0 t1 t5 t6 t7 t511 M =>
    vSlit prg 43 1 [(0, t7)] M fun t38 M6 =>
    vApp prg 43 43 t5 t38 M6 fun t39 M7 =>
    kn t0 t1 t39 t6 t511 M7) (g0 F) (g1 F) (g5 F) (g6 F) (g7 F) (gT 511 F) M := by funext F M; kernel_rfl
  show semK cl m T23_12 (semK cl m U23_8 (fun F M => kn (g0 F) (g1 F) (g5 F) (g6 F) (gT 511 F) M) (exB 1 (fun F M => k1 (g0 F) (g1 F) (g5 F) (g6 F) (gT 511 F) M) (exB 0 (fun F M => k0 (g5 F) (gT 511 F) M) (fun _ _ _ => .no))) (fun F M => kr (gT 511 F) (g4 F) M)) (exB 1 (fun F M => k1 (g0 F) (g1 F) (g5 F) (g6 F) (gT 511 F) M) (exB 0 (fun F M => k0 (g5 F) (gT 511 F) M) (fun _ _ _ => .no))) (fun F M => kr (gT 511 F) (g4 F) M) = _
  rw [hb]
  exact (z23_12 cl m kr (fun t0 t1 t5 t6 t7 t511 M =>
    vSlit prg 43 1 [(0, t7)] M fun t38 M6 =>
    vApp prg 43 43 t5 t38 M6 fun t39 M7 =>
    kn t0 t1 t39 t6 t511 M7) k1 k0).trans (by funext F M; kernel_rfl)
noncomputable def T23_10 : CT := (.seq U23_7 T23_11)
noncomputable def d23_10 (cl : Cl) (m : Nat) (kr : X → X → Mm → CX) (kn : X → X → X → X → X → Mm → CX) (k1 : X → X → X → X → X → Mm → CX) (k0 : X → X → Mm → CX) (t0 t1 t5 t6 t511 : X) (M : Mm) : CX :=
  d23_11 cl m kr kn k1 k0 t0 t1 t5 t6 (.v .nils) t511 M
theorem z23_10 (cl : Cl) (m : Nat) (kr : X → X → Mm → CX) (kn : X → X → X → X → X → Mm → CX) (k1 : X → X → X → X → X → Mm → CX) (k0 : X → X → Mm → CX) : semK cl m T23_10 (fun F M => kn (g0 F) (g1 F) (g5 F) (g6 F) (gT 511 F) M) (exB 1 (fun F M => k1 (g0 F) (g1 F) (g5 F) (g6 F) (gT 511 F) M) (exB 0 (fun F M => k0 (g5 F) (gT 511 F) M) (fun _ _ _ => .no))) (fun F M => kr (gT 511 F) (g4 F) M) = fun F M => d23_10 cl m kr kn k1 k0 (g0 F) (g1 F) (g5 F) (g6 F) (gT 511 F) M := by
  show semK cl m U23_7 (semK cl m T23_11 (fun F M => kn (g0 F) (g1 F) (g5 F) (g6 F) (gT 511 F) M) (exB 1 (fun F M => k1 (g0 F) (g1 F) (g5 F) (g6 F) (gT 511 F) M) (exB 0 (fun F M => k0 (g5 F) (gT 511 F) M) (fun _ _ _ => .no))) (fun F M => kr (gT 511 F) (g4 F) M)) (exB 1 (fun F M => k1 (g0 F) (g1 F) (g5 F) (g6 F) (gT 511 F) M) (exB 0 (fun F M => k0 (g5 F) (gT 511 F) M) (fun _ _ _ => .no))) (fun F M => kr (gT 511 F) (g4 F) M) = _
  rw [z23_11 cl m kr kn k1 k0]
  funext F M; kernel_rfl
noncomputable def T23_9 : CT := (.block 1 T23_10)
noncomputable def d23_9 (cl : Cl) (m : Nat) (kr : X → X → Mm → CX) (kn : X → X → X → X → X → Mm → CX) (k0 : X → X → Mm → CX) (t0 t1 t5 t6 t511 : X) (M : Mm) : CX :=
  d23_10 cl m kr kn kn k0 t0 t1 t5 t6 t511 M
theorem z23_9 (cl : Cl) (m : Nat) (kr : X → X → Mm → CX) (kn : X → X → X → X → X → Mm → CX) (k0 : X → X → Mm → CX) : semK cl m T23_9 (fun F M => kn (g0 F) (g1 F) (g5 F) (g6 F) (gT 511 F) M) (exB 0 (fun F M => k0 (g5 F) (gT 511 F) M) (fun _ _ _ => .no)) (fun F M => kr (gT 511 F) (g4 F) M) = fun F M => d23_9 cl m kr kn k0 (g0 F) (g1 F) (g5 F) (g6 F) (gT 511 F) M := by
  show semK cl m T23_10 (fun F M => kn (g0 F) (g1 F) (g5 F) (g6 F) (gT 511 F) M) (exB 1 (fun F M => kn (g0 F) (g1 F) (g5 F) (g6 F) (gT 511 F) M) (exB 0 (fun F M => k0 (g5 F) (gT 511 F) M) (fun _ _ _ => .no))) (fun F M => kr (gT 511 F) (g4 F) M) = _
  exact (z23_10 cl m kr kn kn k0).trans (by funext F M; kernel_rfl)
noncomputable def T23_8 : CT := (.seq T23_9 U23_6)
noncomputable def d23_8 (cl : Cl) (m : Nat) (kr : X → X → Mm → CX) (kn : X → X → X → X → X → Mm → CX) (k0 : X → X → Mm → CX) (t0 t1 t5 t6 t511 : X) (M : Mm) : CX :=
  d23_9 cl m kr (fun t0 t1 t5 t6 t511 M =>
    vBin .add t6 (.i .i64 (1)) fun t18 =>
    kn t0 t1 t5 t18 t511 M) k0 t0 t1 t5 t6 t511 M
theorem z23_8 (cl : Cl) (m : Nat) (kr : X → X → Mm → CX) (kn : X → X → X → X → X → Mm → CX) (k0 : X → X → Mm → CX) : semK cl m T23_8 (fun F M => kn (g0 F) (g1 F) (g5 F) (g6 F) (gT 511 F) M) (exB 0 (fun F M => k0 (g5 F) (gT 511 F) M) (fun _ _ _ => .no)) (fun F M => kr (gT 511 F) (g4 F) M) = fun F M => d23_8 cl m kr kn k0 (g0 F) (g1 F) (g5 F) (g6 F) (gT 511 F) M := by
  have hb : semK cl m U23_6 (fun F M => kn (g0 F) (g1 F) (g5 F) (g6 F) (gT 511 F) M) (exB 0 (fun F M => k0 (g5 F) (gT 511 F) M) (fun _ _ _ => .no)) (fun F M => kr (gT 511 F) (g4 F) M) = fun F M => (fun t0 t1 t5 t6 t511 M =>
    vBin .add t6 (.i .i64 (1)) fun t18 =>
    kn t0 t1 t5 t18 t511 M) (g0 F) (g1 F) (g5 F) (g6 F) (gT 511 F) M := by funext F M; kernel_rfl
  show semK cl m T23_9 (semK cl m U23_6 (fun F M => kn (g0 F) (g1 F) (g5 F) (g6 F) (gT 511 F) M) (exB 0 (fun F M => k0 (g5 F) (gT 511 F) M) (fun _ _ _ => .no)) (fun F M => kr (gT 511 F) (g4 F) M)) (exB 0 (fun F M => k0 (g5 F) (gT 511 F) M) (fun _ _ _ => .no)) (fun F M => kr (gT 511 F) (g4 F) M) = _
  rw [hb]
  exact (z23_9 cl m kr (fun t0 t1 t5 t6 t511 M =>
    vBin .add t6 (.i .i64 (1)) fun t18 =>
    kn t0 t1 t5 t18 t511 M) k0).trans (by funext F M; kernel_rfl)
noncomputable def T23_7 : CT := (.seq U23_5 T23_8)
noncomputable def d23_7 (cl : Cl) (m : Nat) (kr : X → X → Mm → CX) (kn : X → X → X → X → X → Mm → CX) (k0 : X → X → Mm → CX) (t0 t1 t5 t6 t511 : X) (M : Mm) : CX :=
  vLenS t0 fun t11 =>
  vBin .lss t6 t11 fun t12 =>
  vGuard t12 true (fun k => k t6 M) M fun t14 M8 =>
  vGuard t12 true (fun k => vBin .lss t14 (.i .i64 (24)) fun y => k y M8) M8 fun t15 M10 =>
  vPick t12 t15 (.b false) fun t16 =>
  vIf t16 (
  d23_8 cl m kr kn k0 t0 t1 t5 t6 t511 M10) (
  k0 t5 t511 M10)
theorem z23_7 (cl : Cl) (m : Nat) (kr : X → X → Mm → CX) (kn : X → X → X → X → X → Mm → CX) (k0 : X → X → Mm → CX) : semK cl m T23_7 (fun F M => kn (g0 F) (g1 F) (g5 F) (g6 F) (gT 511 F) M) (exB 0 (fun F M => k0 (g5 F) (gT 511 F) M) (fun _ _ _ => .no)) (fun F M => kr (gT 511 F) (g4 F) M) = fun F M => d23_7 cl m kr kn k0 (g0 F) (g1 F) (g5 F) (g6 F) (gT 511 F) M := by
  show semK cl m U23_5 (semK cl m T23_8 (fun F M => kn (g0 F) (g1 F) (g5 F) (g6 F) (gT 511 F) M) (exB 0 (fun F M => k0 (g5 F) (gT 511 F) M) (fun _ _ _ => .no)) (fun F M => kr (gT 511 F) (g4 F) M)) (exB 0 (fun F M => k0 (g5 F) (gT 511 F) M) (fun _ _ _ => .no)) (fun F M => kr (gT 511 F) (g4 F) M) = _
  rw [z23_8 cl m kr kn k0]
  funext F M; kernel_rfl
noncomputable def T23_6 : CT := (.loop T23_7)
noncomputable def d23_6 (cl : Cl) (m : Nat) (kr : X → X → Mm → CX) (k0 : X → X → Mm → CX) : Nat → X → X → X → X → X → Mm → CX
  | 0 => fun _ _ _ _ _ _ => .no
  | n + 1 => fun t0 t1 t5 t6 t511 M =>
  d23_7 cl m kr (d23_6 cl m kr k0 n) k0 t0 t1 t5 t6 t511 M
theorem z23_6 (cl : Cl) (m : Nat) (kr : X → X → Mm → CX) (kn : X → X → Mm → CX) (k0 : X → X → Mm → CX) : semK cl m T23_6 (fun F M => kn (g5 F) (gT 511 F) M) (exB 0 (fun F M => k0 (g5 F) (gT 511 F) M) (fun _ _ _ => .no)) (fun F M => kr (gT 511 F) (g4 F) M) = fun F M => d23_6 cl m kr k0 m (g0 F) (g1 F) (g5 F) (g6 F) (gT 511 F) M := by
  have key : ∀ j, loopK (fun q => semK cl m T23_7 q (exB 0 (fun F M => k0 (g5 F) (gT 511 F) M) (fun _ _ _ => .no)) (fun F M => kr (gT 511 F) (g4 F) M)) j = fun F M => d23_6 cl m kr k0 j (g0 F) (g1 F) (g5 F) (g6 F) (gT 511 F) M := by
    intro j
    induction j with
    | zero => rfl
    | succ j ih =>
      show semK cl m T23_7 (loopK (fun q => semK cl m T23_7 q (exB 0 (fun F M => k0 (g5 F) (gT 511 F) M) (fun _ _ _ => .no)) (fun F M => kr (gT 511 F) (g4 F) M)) j) (exB 0 (fun F M => k0 (g5 F) (gT 511 F) M) (fun _ _ _ => .no)) (fun F M => kr (gT 511 F) (g4 F) M) = _
      rw [ih]
      exact (z23_7 cl m kr (d23_6 cl m kr k0 j) k0).trans (by funext F M; kernel_rfl)
  exact key m
noncomputable def T23_5 : CT := (.block 0 T23_6)
noncomputable def d23_5 (cl : Cl) (m : Nat) (kr : X → X → Mm → CX) (kn : X → X → Mm → CX) (t0 t1 t5 t6 t511 : X) (M : Mm) : CX :=
  d23_6 cl m kr kn m t0 t1 t5 t6 t511 M
theorem z23_5 (cl : Cl) (m : Nat) (kr : X → X → Mm → CX) (kn : X → X → Mm → CX) : semK cl m T23_5 (fun F M => kn (g5 F) (gT 511 F) M) (fun _ _ _ => .no) (fun F M => kr (gT 511 F) (g4 F) M) = fun F M => d23_5 cl m kr kn (g0 F) (g1 F) (g5 F) (g6 F) (gT 511 F) M := by
  show semK cl m T23_6 (fun F M => kn (g5 F) (gT 511 F) M) (exB 0 (fun F M => kn (g5 F) (gT 511 F) M) (fun _ _ _ => .no)) (fun F M => kr (gT 511 F) (g4 F) M) = _
  exact (z23_6 cl m kr kn kn).trans (by funext F M; kernel_rfl)
noncomputable def T23_4 : CT := (.seq U23_4 T23_5)
noncomputable def d23_4 (cl : Cl) (m : Nat) (kr : X → X → Mm → CX) (kn : X → X → Mm → CX) (t0 t1 t5 t511 : X) (M : Mm) : CX :=
  d23_5 cl m kr kn t0 t1 t5 (.i .i64 (0)) t511 M
theorem z23_4 (cl : Cl) (m : Nat) (kr : X → X → Mm → CX) (kn : X → X → Mm → CX) : semK cl m T23_4 (fun F M => kn (g5 F) (gT 511 F) M) (fun _ _ _ => .no) (fun F M => kr (gT 511 F) (g4 F) M) = fun F M => d23_4 cl m kr kn (g0 F) (g1 F) (g5 F) (gT 511 F) M := by
  show semK cl m U23_4 (semK cl m T23_5 (fun F M => kn (g5 F) (gT 511 F) M) (fun _ _ _ => .no) (fun F M => kr (gT 511 F) (g4 F) M)) (fun _ _ _ => .no) (fun F M => kr (gT 511 F) (g4 F) M) = _
  rw [z23_5 cl m kr kn]
  funext F M; kernel_rfl
noncomputable def T23_3 : CT := (.seq T23_4 U23_3)
noncomputable def d23_3 (cl : Cl) (m : Nat) (kr : X → X → Mm → CX) (kn : X → X → Mm → CX) (t0 t1 t5 t511 : X) (M : Mm) : CX :=
  d23_4 cl m kr (fun t5 t511 M =>
    kr t511 t5 M) t0 t1 t5 t511 M
theorem z23_3 (cl : Cl) (m : Nat) (kr : X → X → Mm → CX) (kn : X → X → Mm → CX) : semK cl m T23_3 (fun F M => kn (gT 511 F) (g4 F) M) (fun _ _ _ => .no) (fun F M => kr (gT 511 F) (g4 F) M) = fun F M => d23_3 cl m kr kn (g0 F) (g1 F) (g5 F) (gT 511 F) M := by
  have hb : semK cl m U23_3 (fun F M => kn (gT 511 F) (g4 F) M) (fun _ _ _ => .no) (fun F M => kr (gT 511 F) (g4 F) M) = fun F M => (fun t5 t511 M =>
    kr t511 t5 M) (g5 F) (gT 511 F) M := by funext F M; kernel_rfl
  show semK cl m T23_4 (semK cl m U23_3 (fun F M => kn (gT 511 F) (g4 F) M) (fun _ _ _ => .no) (fun F M => kr (gT 511 F) (g4 F) M)) (fun _ _ _ => .no) (fun F M => kr (gT 511 F) (g4 F) M) = _
  rw [hb]
  exact (z23_4 cl m kr (fun t5 t511 M =>
    kr t511 t5 M) ).trans (by funext F M; kernel_rfl)
noncomputable def T23_2 : CT := (.seq U23_2 T23_3)
noncomputable def d23_2 (cl : Cl) (m : Nat) (kr : X → X → Mm → CX) (kn : X → X → Mm → CX) (t0 t1 t511 : X) (M : Mm) : CX :=
  d23_3 cl m kr kn t0 t1 (.v .nils) t511 M
theorem z23_2 (cl : Cl) (m : Nat) (kr : X → X → Mm → CX) (kn : X → X → Mm → CX) : semK cl m T23_2 (fun F M => kn (gT 511 F) (g4 F) M) (fun _ _ _ => .no) (fun F M => kr (gT 511 F) (g4 F) M) = fun F M => d23_2 cl m kr kn (g0 F) (g1 F) (gT 511 F) M := by
  show semK cl m U23_2 (semK cl m T23_3 (fun F M => kn (gT 511 F) (g4 F) M) (fun _ _ _ => .no) (fun F M => kr (gT 511 F) (g4 F) M)) (fun _ _ _ => .no) (fun F M => kr (gT 511 F) (g4 F) M) = _
  rw [z23_3 cl m kr kn]
  funext F M; kernel_rfl
noncomputable def T23_1 : CT := (.seq U23_1 T23_2)
noncomputable def d23_1 (cl : Cl) (m : Nat) (kr : X → X → Mm → CX) (kn : X → X → Mm → CX) (t0 t1 t511 : X) (M : Mm) : CX :=
  d23_2 cl m kr kn t0 t1 t511 M
theorem z23_1 (cl : Cl) (m : Nat) (kr : X → X → Mm → CX) (kn : X → X → Mm → CX) : semK cl m T23_1 (fun F M => kn (gT 511 F) (g4 F) M) (fun _ _ _ => .no) (fun F M => kr (gT 511 F) (g4 F) M) = fun F M => d23_1 cl m kr kn (g0 F) (g1 F) (gT 511 F) M := by
  show semK cl m U23_1 (semK cl m T23_2 (fun F M => kn (gT 511 F) (g4 F) M) (fun _ _ _ => .no) (fun F M => kr (gT 511 F) (g4 F) M)) (fun _ _ _ => .no) (fun F M => kr (gT 511 F) (g4 F) M) = _
  rw [z23_2 cl m kr kn]
  funext F M; kernel_rfl
noncomputable def t23 : CT := T23_1
theorem z23 (cl : Cl) (m : Nat) (kr : X → X → Mm → CX) : semK cl m t23 (fun F M => kr (gT 511 F) (g4 F) M) (fun _ _ _ => .no) (fun F M => kr (gT 511 F) (g4 F) M) = fun F M => d23_1 cl m kr kr (g0 F) (g1 F) (gT 511 F) M := z23_1 cl m kr kr
noncomputable def d23 (cl : Cl) (m : Nat) (kr : X → X → Mm → CX) (t0 t1 : X) (M : Mm) : CX :=
  d23_1 cl m kr kr t0 t1 (.v .undef) M
/-! 26: countersign/countersignref36.Able -/
noncomputable def U26_1 : CT := (.ops [(.move (kX (.i .i64 (0))), s4)])
noncomputable def U26_2 : CT := (.seq (.ops [(.move (kX (.i .i64 (1))), s4)]) .ret)
noncomputable def U26_3 : CT := (.ops [(.move (kX (.i .i64 (0))), s5)])
noncomputable def U26_4 : CT := (.seq (.seq (.ops [(.move g5, s6),
    (.move g0, s7),
    (.lenS g7, s8),
    (.bin .lss g6 g8, s9)]) (.cond g9 .skip (.exit 0))) (.seq (.block 1 (.seq (.ops [(.move g0, s12),
    (.move g5, s13),
    (.indexAddr 1 g12 g13, s14),
    (.load1 g14, s15),
    (.move g1, s16),
    (.indexAddr 1 g15 g16, s17),
    (.load1 g17, s18),
    (.not g18, s19)]) (.cond g19 (.seq (.ops [(.move (kX (.i .i64 (0))), s4)]) .ret) .skip))) (.ops [(.move g5, s10),
    (.bin .add g10 (kX (.i .i64 (1))), s11),
    (.move g11, s5)])))
noncomputable def T26_5 : CT := (.loop U26_4)
noncomputable def d26_5 (cl : Cl) (m : Nat) (kr : X → X → Mm → CX) (k0 : X → Mm → CX) : Nat → X → X → X → X → Mm → CX
  | 0 => fun _ _ _ _ _ => .no
  | n + 1 => fun t0 t1 t5 t511 M =>
  vLenS t0 fun t8 =>
  vBin .lss t5 t8 fun t9 =>
  vIf t9 (
  vIndexAddr 1 t0 t5 fun t14 =>
  vLoad1 t14 M fun t15 =>
  vIndexAddr 1 t15 t1 fun t17 =>
  vLoad1 t17 M fun t18 =>
  vNot t18 fun t19 =>
  vIf t19 (
    kr t511 (.i .i64 (0)) M) (
  vBin .add t5 (.i .i64 (1)) fun t11 =>
  d26_5 cl m kr k0 n t0 t1 t11 t511 M)) (
  k0 t511 M)
theorem z26_5 (cl : Cl) (m : Nat) (kr : X → X → Mm → CX) (kn : X → Mm → CX) (k0 : X → Mm → CX) : semK cl m T26_5 (fun F M => kn (gT 511 F) M) (exB 0 (fun F M => k0 (gT 511 F) M) (fun _ _ _ => .no)) (fun F M => kr (gT 511 F) (g4 F) M) = fun F M => d26_5 cl m kr k0 m (g0 F) (g1 F) (g5 F) (gT 511 F) M := by
  have key : ∀ j, loopK (fun q => semK cl m U26_4 q (exB 0 (fun F M => k0 (gT 511 F) M) (fun _ _ _ => .no)) (fun F M => kr (gT 511 F) (g4 F) M)) j = fun F M => d26_5 cl m kr k0 j (g0 F) (g1 F) (g5 F) (gT 511 F) M := by
    intro j
    induction j with
    | zero => rfl
    | succ j ih =>
      show semK cl m U26_4 (loopK (fun q => semK cl m U26_4 q (exB 0 (fun F M => k0 (gT 511 F) M) (fun _ _ _ => .no)) (fun F M => kr (gT 511 F) (g4 F) M)) j) (exB 0 (fun F M => k0 (gT 511 F) M) (fun _ _ _ => .no)) (fun F M => kr (gT 511 F) (g4 F) M) = _
      rw [ih]
      funext F M; kernel_rfl
  exact key m
noncomputable def T26_4 : CT := (.block 0 T26_5)
noncomputable def d26_4 (cl : Cl) (m : Nat) (kr : X → X → Mm → CX) (kn : X → Mm → CX) (t0 t1 t5 t511 : X) (M : Mm) : CX :=
  d26_5 cl m kr kn m t0 t1 t5 t511 M
theorem z26_4 (cl : Cl) (m : Nat) (kr : X → X → Mm → CX) (kn : X → Mm → CX) : semK cl m T26_4 (fun F M => kn (gT 511 F) M) (fun _ _ _ => .no) (fun F M => kr (gT 511 F) (g4 F) M) = fun F M => d26_4 cl m kr kn (g0 F) (g1 F) (g5 F) (gT 511 F) M := by
  show semK cl m T26_5 (fun F M => kn (gT 511 F) M) (exB 0 (fun F M => kn (gT 511 F) M) (fun _ _ _ => .no)) (fun F M => kr (gT 511 F) (g4 F) M) = _
  exact (z26_5 cl m kr kn kn).trans (by funext F M; kernel_rfl)
noncomputable def T26_3 : CT := (.seq U26_3 T26_4)
noncomputable def d26_3 (cl : Cl) (m : Nat) (kr : X → X → Mm → CX) (kn : X → Mm → CX) (t0 t1 t511 : X) (M : Mm) : CX :=
  d26_4 cl m kr kn t0 t1 (.i .i64 (0)) t511 M
theorem z26_3 (cl : Cl) (m : Nat) (kr : X → X → Mm → CX) (kn : X → Mm → CX) : semK cl m T26_3 (fun F M => kn (gT 511 F) M) (fun _ _ _ => .no) (fun F M => kr (gT 511 F) (g4 F) M) = fun F M => d26_3 cl m kr kn (g0 F) (g1 F) (gT 511 F) M := by
  show semK cl m U26_3 (semK cl m T26_4 (fun F M => kn (gT 511 F) M) (fun _ _ _ => .no) (fun F M => kr (gT 511 F) (g4 F) M)) (fun _ _ _ => .no) (fun F M => kr (gT 511 F) (g4 F) M) = _
  rw [z26_4 cl m kr kn]
  funext F M; kernel_rfl
noncomputable def T26_2 : CT := (.seq T26_3 U26_2)
noncomputable def d26_2 (cl : Cl) (m : Nat) (kr : X → X → Mm → CX) (kn : X → X → Mm → CX) (t0 t1 t511 : X) (M : Mm) : CX :=
  d26_3 cl m kr (fun t511 M =>
    kr t511 (.i .i64 (1)) M) t0 t1 t511 M
theorem z26_2 (cl : Cl) (m : Nat) (kr : X → X → Mm → CX) (kn : X → X → Mm → CX) : semK cl m T26_2 (fun F M => kn (gT 511 F) (g4 F) M) (fun _ _ _ => .no) (fun F M => kr (gT 511 F) (g4 F) M) = fun F M => d26_2 cl m kr kn (g0 F) (g1 F) (gT 511 F) M := by
  have hb : semK cl m U26_2 (fun F M => kn (gT 511 F) (g4 F) M) (fun _ _ _ => .no) (fun F M => kr (gT 511 F) (g4 F) M) = fun F M => (fun t511 M =>
    kr t511 (.i .i64 (1)) M) (gT 511 F) M := by funext F M; kernel_rfl
  show semK cl m T26_3 (semK cl m U26_2 (fun F M => kn (gT 511 F) (g4 F) M) (fun _ _ _ => .no) (fun F M => kr (gT 511 F) (g4 F) M)) (fun _ _ _ => .no) (fun F M => kr (gT 511 F) (g4 F) M) = _
  rw [hb]
  exact (z26_3 cl m kr (fun t511 M =>
    kr t511 (.i .i64 (1)) M) ).trans (by funext F M; kernel_rfl)
noncomputable def T26_1 : CT := (.seq U26_1 T26_2)
noncomputable def d26_1 (cl : Cl) (m : Nat) (kr : X → X → Mm → CX) (kn : X → X → Mm → CX) (t0 t1 t511 : X) (M : Mm) : CX :=
  d26_2 cl m kr kn t0 t1 t511 M
theorem z26_1 (cl : Cl) (m : Nat) (kr : X → X → Mm → CX) (kn : X → X → Mm → CX) : semK cl m T26_1 (fun F M => kn (gT 511 F) (g4 F) M) (fun _ _ _ => .no) (fun F M => kr (gT 511 F) (g4 F) M) = fun F M => d26_1 cl m kr kn (g0 F) (g1 F) (gT 511 F) M := by
  show semK cl m U26_1 (semK cl m T26_2 (fun F M => kn (gT 511 F) (g4 F) M) (fun _ _ _ => .no) (fun F M => kr (gT 511 F) (g4 F) M)) (fun _ _ _ => .no) (fun F M => kr (gT 511 F) (g4 F) M) = _
  rw [z26_2 cl m kr kn]
  funext F M; kernel_rfl
noncomputable def t26 : CT := T26_1
theorem z26 (cl : Cl) (m : Nat) (kr : X → X → Mm → CX) : semK cl m t26 (fun F M => kr (gT 511 F) (g4 F) M) (fun _ _ _ => .no) (fun F M => kr (gT 511 F) (g4 F) M) = fun F M => d26_1 cl m kr kr (g0 F) (g1 F) (gT 511 F) M := z26_1 cl m kr kr
noncomputable def d26 (cl : Cl) (m : Nat) (kr : X → X → Mm → CX) (t0 t1 : X) (M : Mm) : CX :=
  d26_1 cl m kr kr t0 t1 (.v .undef) M
/-! 30: countersign/turns.weights -/
noncomputable def t30 : CT := (.seq (.ops [(.move (kX (.i .i64 (0))), s2)]) (.seq (.seq (.ops [(.move g0, s3),
    (.lenS g3, s4),
    (.bin .gtr g4 (kX (.i .i64 (16))), s5)]) (.cond g5 (.seq (.ops [(.move (kX (.i .i64 (3))), s2)]) .ret) .skip)) (.seq (.seq (.ops [(.move g0, s6),
    (.lenS g6, s7),
    (.bin .eql g7 (kX (.i .i64 (0))), s8),
    (.move g8, s9),
    (.guard g9 false (.move g0), s10),
    (.guard g9 false (.call 36 [g10, (kX (.v (.fn (.func 37) [] [])))]), s11),
    (.pick g9 (kX (.b true)) g11, s12)]) (.cond g12 (.seq (.ops [(.move (kX (.i .i64 (4))), s2)]) .ret) .skip)) (.seq (.ops [(.move (kX (.i .i64 (0))), s2)]) .ret))))
noncomputable def d30_1 (cl : Cl) (m : Nat) (kr : X → X → Mm → CX) (t0 t511 : X) (M : Mm) : CX :=
  vLenS t0 fun t4 =>
  vBin .gtr t4 (.i .i64 (16)) fun t5 =>
  vIf t5 (
    kr t511 (.i .i64 (3)) M) (
  vLenS t0 fun t7 =>
  vBin .eql t7 (.i .i64 (0)) fun t8 =>
  vGuard t8 false (fun k => k t0 M) M fun t10 M1 =>
  vGuard t8 false (fun k => vCall cl 36 [t10, (.v (.fn (.func 37) [] []))] M1 fun y M4 => k y M4) M1 fun t11 M3 =>
  vPick t8 (.b true) t11 fun t12 =>
  vIf t12 (
    kr t511 (.i .i64 (4)) M3) (
  kr t511 (.i .i64 (0)) M3))
theorem z30 (cl : Cl) (m : Nat) (kr : X → X → Mm → CX) : semK cl m t30 (fun F M => kr (gT 511 F) (g2 F) M) (fun _ _ _ => .no) (fun F M => kr (gT 511 F) (g2 F) M) = fun F M => d30_1 cl m kr (g0 F) (gT 511 F) M := by funext F M; kernel_rfl
noncomputable def d30 (cl : Cl) (m : Nat) (kr : X → X → Mm → CX) (t0 : X) (M : Mm) : CX :=
  d30_1 cl m kr t0 (.v .undef) M
/-! 31: slices.Clip[[]int,int] -/
noncomputable def t31 : CT := (.seq (.ops [(.move (kX (.v .nils)), s2)]) (.seq (.ops [(.move g0, s3),
    (.move g0, s4),
    (.lenS g4, s5),
    (.move g0, s6),
    (.lenS g6, s7),
    (.slice prg 22 (.tmp 3) none (some (.tmp 5)) (some (.tmp 7)) 9, s8),
    (.move g8, s2)]) .ret))
noncomputable def d31_1 (cl : Cl) (m : Nat) (kr : X → X → Mm → CX) (t0 t511 : X) (M : Mm) : CX :=
  vLenS t0 fun t5 =>
  vLenS t0 fun t7 =>
  vSlice prg 22 t0 none (some t5) (some t7) M fun t8 M1 =>
  kr t511 t8 M1
theorem z31 (cl : Cl) (m : Nat) (kr : X → X → Mm → CX) : semK cl m t31 (fun F M => kr (gT 511 F) (g2 F) M) (fun _ _ _ => .no) (fun F M => kr (gT 511 F) (g2 F) M) = fun F M => d31_1 cl m kr (g0 F) (gT 511 F) M := by funext F M; kernel_rfl
noncomputable def d31 (cl : Cl) (m : Nat) (kr : X → X → Mm → CX) (t0 : X) (M : Mm) : CX :=
  d31_1 cl m kr t0 (.v .undef) M
/-! 32: slices.Clone[[]int,int] -/
noncomputable def t32 : CT := (.seq (.ops [(.move (kX (.v .nils)), s2)]) (.seq (.seq (.ops [(.move g0, s3),
    (.binG prg .eql 22 22 (.tmp 3) (.const (.slice none 0 0)) 8, s4)]) (.cond g4 (.seq (.ops [(.move (kX (.v .nils)), s2)]) .ret) .skip)) (.seq (.ops [(.slit prg 22 0 [] 8, s5),
    (.move g0, s6),
    (.app prg 22 22 (.tmp 5) (.tmp 6) 8, s7),
    (.move g7, s2)]) .ret)))
noncomputable def d32_1 (cl : Cl) (m : Nat) (kr : X → X → Mm → CX) (t0 t511 : X) (M : Mm) : CX :=
  vBinG prg .eql 22 t0 (.v .nils) M fun t4 M1 =>
  vIf t4 (
    kr t511 (.v .nils) M1) (
  vSlit prg 22 0 [] M1 fun t5 M2 =>
  vApp prg 22 22 t5 t0 M2 fun t7 M3 =>
  kr t511 t7 M3)
theorem z32 (cl : Cl) (m : Nat) (kr : X → X → Mm → CX) : semK cl m t32 (fun F M => kr (gT 511 F) (g2 F) M) (fun _ _ _ => .no) (fun F M => kr (gT 511 F) (g2 F) M) = fun F M => d32_1 cl m kr (g0 F) (gT 511 F) M := by funext F M; kernel_rfl
noncomputable def d32 (cl : Cl) (m : Nat) (kr : X → X → Mm → CX) (t0 : X) (M : Mm) : CX :=
  d32_1 cl m kr t0 (.v .undef) M
/-! 33: countersign/turns.within -/
noncomputable def t33 : CT := (.seq (.ops [(.move (kX (.b false)), s6)]) (.seq (.ops [(.move g1, s7),
    (.move g0, s8),
    (.bin .leq g7 g8, s9),
    (.move g9, s10),
    (.guard g10 true (.move g0), s11),
    (.guard g10 true (.move g2), s12),
    (.guard g10 true (.bin .leq g11 g12), s13),
    (.pick g10 g13 (kX (.b false)), s14),
    (.move g14, s6)]) .ret))
noncomputable def d33_1 (cl : Cl) (m : Nat) (kr : X → X → Mm → CX) (t0 t1 t2 t511 : X) (M : Mm) : CX :=
  vBin .leq t1 t0 fun t9 =>
  vGuard t9 true (fun k => k t0 M) M fun t11 M1 =>
  vGuard t9 true (fun k => k t2 M1) M1 fun t12 M3 =>
  vGuard t9 true (fun k => vBin .leq t11 t12 fun y => k y M3) M3 fun t13 M5 =>
  vPick t9 t13 (.b false) fun t14 =>
  kr t511 t14 M5
theorem z33 (cl : Cl) (m : Nat) (kr : X → X → Mm → CX) : semK cl m t33 (fun F M => kr (gT 511 F) (g6 F) M) (fun _ _ _ => .no) (fun F M => kr (gT 511 F) (g6 F) M) = fun F M => d33_1 cl m kr (g0 F) (g1 F) (g2 F) (gT 511 F) M := by funext F M; kernel_rfl
noncomputable def d33 (cl : Cl) (m : Nat) (kr : X → X → Mm → CX) (t0 t1 t2 : X) (M : Mm) : CX :=
  d33_1 cl m kr t0 t1 t2 (.v .undef) M
/-! 34: slices.Contains[[]bool,bool] -/
noncomputable def t34 : CT := (.seq (.ops [(.move (kX (.b false)), s4)]) (.seq (.ops [(.move g0, s5),
    (.move g1, s6),
    (.call 38 [g5, g6], s7),
    (.bin .geq g7 (kX (.i .i64 (0))), s8),
    (.move g8, s4)]) .ret))
noncomputable def d34_1 (cl : Cl) (m : Nat) (kr : X → X → Mm → CX) (t0 t1 t511 : X) (M : Mm) : CX :=
  vCall cl 38 [t0, t1] M fun t7 M1 =>
  vBin .geq t7 (.i .i64 (0)) fun t8 =>
  kr t511 t8 M1
theorem z34 (cl : Cl) (m : Nat) (kr : X → X → Mm → CX) : semK cl m t34 (fun F M => kr (gT 511 F) (g4 F) M) (fun _ _ _ => .no) (fun F M => kr (gT 511 F) (g4 F) M) = fun F M => d34_1 cl m kr (g0 F) (g1 F) (gT 511 F) M := by funext F M; kernel_rfl
noncomputable def d34 (cl : Cl) (m : Nat) (kr : X → X → Mm → CX) (t0 t1 : X) (M : Mm) : CX :=
  d34_1 cl m kr t0 t1 (.v .undef) M
/-! 36: slices.ContainsFunc[[]int,int] -/
noncomputable def t36 : CT := (.seq (.ops [(.move (kX (.b false)), s4)]) (.seq (.ops [(.move g0, s5),
    (.move g1, s6),
    (.call 39 [g5, g6], s7),
    (.bin .geq g7 (kX (.i .i64 (0))), s8),
    (.move g8, s4)]) .ret))
noncomputable def d36_1 (cl : Cl) (m : Nat) (kr : X → X → Mm → CX) (t0 t1 t511 : X) (M : Mm) : CX :=
  vCall cl 39 [t0, t1] M fun t7 M1 =>
  vBin .geq t7 (.i .i64 (0)) fun t8 =>
  kr t511 t8 M1
theorem z36 (cl : Cl) (m : Nat) (kr : X → X → Mm → CX) : semK cl m t36 (fun F M => kr (gT 511 F) (g4 F) M) (fun _ _ _ => .no) (fun F M => kr (gT 511 F) (g4 F) M) = fun F M => d36_1 cl m kr (g0 F) (g1 F) (gT 511 F) M := by funext F M; kernel_rfl
noncomputable def d36 (cl : Cl) (m : Nat) (kr : X → X → Mm → CX) (t0 t1 : X) (M : Mm) : CX :=
  d36_1 cl m kr t0 t1 (.v .undef) M
/-! 37: countersign/turns.weights$1 -/
noncomputable def t37 : CT := (.seq (.ops [(.move (kX (.b false)), s2)]) (.seq (.ops [(.move g0, s3),
    (.call 33 [g3, (kX (.i .i64 (1))), (kX (.i .i64 (8)))], s4),
    (.not g4, s5),
    (.move g5, s2)]) .ret))
noncomputable def d37_1 (cl : Cl) (m : Nat) (kr : X → X → Mm → CX) (t0 t511 : X) (M : Mm) : CX :=
  vCall cl 33 [t0, (.i .i64 (1)), (.i .i64 (8))] M fun t4 M1 =>
  vNot t4 fun t5 =>
  kr t511 t5 M1
theorem z37 (cl : Cl) (m : Nat) (kr : X → X → Mm → CX) : semK cl m t37 (fun F M => kr (gT 511 F) (g2 F) M) (fun _ _ _ => .no) (fun F M => kr (gT 511 F) (g2 F) M) = fun F M => d37_1 cl m kr (g0 F) (gT 511 F) M := by funext F M; kernel_rfl
noncomputable def d37 (cl : Cl) (m : Nat) (kr : X → X → Mm → CX) (t0 : X) (M : Mm) : CX :=
  d37_1 cl m kr t0 (.v .undef) M
/-! 38: slices.Index[[]bool,bool] -/
noncomputable def U38_1 : CT := (.ops [(.move (kX (.i .i64 (0))), s4)])
noncomputable def U38_2 : CT := (.seq (.ops [(.move (kX (.i .i64 (-1))), s4)]) .ret)
noncomputable def U38_3 : CT := (.ops [(.move g0, s6),
    (.lenS g6, s7),
    (.move (kX (.i .i64 (0))), s8)])
noncomputable def U38_4 : CT := (.seq (.ops [(.bin .lss g8 g7, s9)]) (.seq (.cond g9 .skip (.exit 0)) (.seq (.block 1 (.seq (.ops [(.move g8, s10),
    (.move g10, s5)]) (.seq (.ops [(.move g1, s11),
    (.move g0, s12),
    (.move g5, s13),
    (.indexAddr 1 g12 g13, s14),
    (.load1 g14, s15),
    (.binG prg .eql 4 4 (.tmp 11) (.tmp 15) 19, s16)]) (.cond g16 (.seq (.ops [(.move g5, s17),
    (.move g17, s4)]) .ret) .skip)))) (.ops [(.bin .add g8 (kX (.i .i64 (1))), s18),
    (.move g18, s8)]))))
noncomputable def T38_5 : CT := (.loop U38_4)
noncomputable def d38_5 (cl : Cl) (m : Nat) (kr : X → X → Mm → CX) (k0 : X → Mm → CX) : Nat → X → X → X → X → X → Mm → CX
  | 0 => fun _ _ _ _ _ _ => .no
  | n + 1 => fun t0 t1 t7 t8 t511 M =>
  vBin .lss t8 t7 fun t9 =>
  vIf t9 (
  vIndexAddr 1 t0 t8 fun t14 =>
  vLoad1 t14 M fun t15 =>
  vBinG prg .eql 4 t1 t15 M fun t16 M1 =>
  vIf t16 (
    kr t511 t8 M1) (
  vBin .add t8 (.i .i64 (1)) fun t18 =>
  d38_5 cl m kr k0 n t0 t1 t7 t18 t511 M1)) (
  k0 t511 M)
theorem z38_5 (cl : Cl) (m : Nat) (kr : X → X → Mm → CX) (kn : X → Mm → CX) (k0 : X → Mm → CX) : semK cl m T38_5 (fun F M => kn (gT 511 F) M) (exB 0 (fun F M => k0 (gT 511 F) M) (fun _ _ _ => .no)) (fun F M => kr (gT 511 F) (g4 F) M) = fun F M => d38_5 cl m kr k0 m (g0 F) (g1 F) (g7 F) (g8 F) (gT 511 F) M := by
  have key : ∀ j, loopK (fun q => semK cl m U38_4 q (exB 0 (fun F M => k0 (gT 511 F) M) (fun _ _ _ => .no)) (fun F M => kr (gT 511 F) (g4 F) M)) j = fun F M => d38_5 cl m kr k0 j (g0 F) (g1 F) (g7 F) (g8 F) (gT 511 F) M := by
    intro j
    induction j with
    | zero => rfl
    | succ j ih =>
      show semK cl m U38_4 (loopK (fun q => semK cl m U38_4 q (exB 0 (fun F M => k0 (gT 511 F) M) (fun _ _ _ => .no)) (fun F M => kr (gT 511 F) (g4 F) M)) j) (exB 0 (fun F M => k0 (gT 511 F) M) (fun _ _ _ => .no)) (fun F M => kr (gT 511 F) (g4 F) M) = _
      rw [ih]
      funext F M; kernel_rfl
  exact key m
noncomputable def T38_4 : CT := (.block 0 T38_5)
noncomputable def d38_4 (cl : Cl) (m : Nat) (kr : X → X → Mm → CX) (kn : X → Mm → CX) (t0 t1 t7 t8 t511 : X) (M : Mm) : CX :=
  d38_5 cl m kr kn m t0 t1 t7 t8 t511 M
theorem z38_4 (cl : Cl) (m : Nat) (kr : X → X → Mm → CX) (kn : X → Mm → CX) : semK cl m T38_4 (fun F M => kn (gT 511 F) M) (fun _ _ _ => .no) (fun F M => kr (gT 511 F) (g4 F) M) = fun F M => d38_4 cl m kr kn (g0 F) (g1 F) (g7 F) (g8 F) (gT 511 F) M := by
  show semK cl m T38_5 (fun F M => kn (gT 511 F) M) (exB 0 (fun F M => kn (gT 511 F) M) (fun _ _ _ => .no)) (fun F M => kr (gT 511 F) (g4 F) M) = _
  exact (z38_5 cl m kr kn kn).trans (by funext F M; kernel_rfl)
noncomputable def T38_3 : CT := (.seq U38_3 T38_4)
noncomputable def d38_3 (cl : Cl) (m : Nat) (kr : X → X → Mm → CX) (kn : X → Mm → CX) (t0 t1 t511 : X) (M : Mm) : CX :=
  vLenS t0 fun t7 =>
  d38_4 cl m kr kn t0 t1 t7 (.i .i64 (0)) t511 M
theorem z38_3 (cl : Cl) (m : Nat) (kr : X → X → Mm → CX) (kn : X → Mm → CX) : semK cl m T38_3 (fun F M => kn (gT 511 F) M) (fun _ _ _ => .no) (fun F M => kr (gT 511 F) (g4 F) M) = fun F M => d38_3 cl m kr kn (g0 F) (g1 F) (gT 511 F) M := by
  show semK cl m U38_3 (semK cl m T38_4 (fun F M => kn (gT 511 F) M) (fun _ _ _ => .no) (fun F M => kr (gT 511 F) (g4 F) M)) (fun _ _ _ => .no) (fun F M => kr (gT 511 F) (g4 F) M) = _
  rw [z38_4 cl m kr kn]
  funext F M; kernel_rfl
noncomputable def T38_2 : CT := (.seq T38_3 U38_2)
noncomputable def d38_2 (cl : Cl) (m : Nat) (kr : X → X → Mm → CX) (kn : X → X → Mm → CX) (t0 t1 t511 : X) (M : Mm) : CX :=
  d38_3 cl m kr (fun t511 M =>
    kr t511 (.i .i64 (-1)) M) t0 t1 t511 M
theorem z38_2 (cl : Cl) (m : Nat) (kr : X → X → Mm → CX) (kn : X → X → Mm → CX) : semK cl m T38_2 (fun F M => kn (gT 511 F) (g4 F) M) (fun _ _ _ => .no) (fun F M => kr (gT 511 F) (g4 F) M) = fun F M => d38_2 cl m kr kn (g0 F) (g1 F) (gT 511 F) M := by
  have hb : semK cl m U38_2 (fun F M => kn (gT 511 F) (g4 F) M) (fun _ _ _ => .no) (fun F M => kr (gT 511 F) (g4 F) M) = fun F M => (fun t511 M =>
    kr t511 (.i .i64 (-1)) M) (gT 511 F) M := by funext F M; kernel_rfl
  show semK cl m T38_3 (semK cl m U38_2 (fun F M => kn (gT 511 F) (g4 F) M) (fun _ _ _ => .no) (fun F M => kr (gT 511 F) (g4 F) M)) (fun _ _ _ => .no) (fun F M => kr (gT 511 F) (g4 F) M) = _
  rw [hb]
  exact (z38_3 cl m kr (fun t511 M =>
    kr t511 (.i .i64 (-1)) M) ).trans (by funext F M; kernel_rfl)
noncomputable def T38_1 : CT := (.seq U38_1 T38_2)
noncomputable def d38_1 (cl : Cl) (m : Nat) (kr : X → X → Mm → CX) (kn : X → X → Mm → CX) (t0 t1 t511 : X) (M : Mm) : CX :=
  d38_2 cl m kr kn t0 t1 t511 M
theorem z38_1 (cl : Cl) (m : Nat) (kr : X → X → Mm → CX) (kn : X → X → Mm → CX) : semK cl m T38_1 (fun F M => kn (gT 511 F) (g4 F) M) (fun _ _ _ => .no) (fun F M => kr (gT 511 F) (g4 F) M) = fun F M => d38_1 cl m kr kn (g0 F) (g1 F) (gT 511 F) M := by
  show semK cl m U38_1 (semK cl m T38_2 (fun F M => kn (gT 511 F) (g4 F) M) (fun _ _ _ => .no) (fun F M => kr (gT 511 F) (g4 F) M)) (fun _ _ _ => .no) (fun F M => kr (gT 511 F) (g4 F) M) = _
  rw [z38_2 cl m kr kn]
  funext F M; kernel_rfl
noncomputable def t38 : CT := T38_1
theorem z38 (cl : Cl) (m : Nat) (kr : X → X → Mm → CX) : semK cl m t38 (fun F M => kr (gT 511 F) (g4 F) M) (fun _ _ _ => .no) (fun F M => kr (gT 511 F) (g4 F) M) = fun F M => d38_1 cl m kr kr (g0 F) (g1 F) (gT 511 F) M := z38_1 cl m kr kr
noncomputable def d38 (cl : Cl) (m : Nat) (kr : X → X → Mm → CX) (t0 t1 : X) (M : Mm) : CX :=
  d38_1 cl m kr kr t0 t1 (.v .undef) M
/-! 39: slices.IndexFunc[[]int,int] -/
noncomputable def U39_1 : CT := (.ops [(.move (kX (.i .i64 (0))), s4)])
noncomputable def U39_2 : CT := (.seq (.ops [(.move (kX (.i .i64 (-1))), s4)]) .ret)
noncomputable def U39_3 : CT := (.ops [(.move g0, s6),
    (.lenS g6, s7),
    (.move (kX (.i .i64 (0))), s8)])
noncomputable def U39_4 : CT := (.seq (.ops [(.bin .lss g8 g7, s9)]) (.seq (.cond g9 .skip (.exit 0)) (.seq (.block 1 (.seq (.ops [(.move g8, s10),
    (.move g10, s5)]) (.seq (.ops [(.move g1, s11),
    (.move g0, s12),
    (.move g5, s13),
    (.indexAddr 1 g12 g13, s14),
    (.load1 g14, s15),
    (.callV g11 [g15], s16)]) (.cond g16 (.seq (.ops [(.move g5, s17),
    (.move g17, s4)]) .ret) .skip)))) (.ops [(.bin .add g8 (kX (.i .i64 (1))), s18),
    (.move g18, s8)]))))
noncomputable def T39_5 : CT := (.loop U39_4)
noncomputable def d39_5 (cl : Cl) (m : Nat) (kr : X → X → Mm → CX) (k0 : X → Mm → CX) : Nat → X → X → X → X → X → Mm → CX
  | 0 => fun _ _ _ _ _ _ => .no
  | n + 1 => fun t0 t1 t7 t8 t511 M =>
  vBin .lss t8 t7 fun t9 =>
  vIf t9 (
  vIndexAddr 1 t0 t8 fun t14 =>
  vLoad1 t14 M fun t15 =>
  vCallV cl t1 [t15] M fun t16 M1 =>
  vIf t16 (
    kr t511 t8 M1) (
  vBin .add t8 (.i .i64 (1)) fun t18 =>
  d39_5 cl m kr k0 n t0 t1 t7 t18 t511 M1)) (
  k0 t511 M)
theorem z39_5 (cl : Cl) (m : Nat) (kr : X → X → Mm → CX) (kn : X → Mm → CX) (k0 : X → Mm → CX) : semK cl m T39_5 (fun F M => kn (gT 511 F) M) (exB 0 (fun F M => k0 (gT 511 F) M) (fun _ _ _ => .no)) (fun F M => kr (gT 511 F) (g4 F) M) = fun F M => d39_5 cl m kr k0 m (g0 F) (g1 F) (g7 F) (g8 F) (gT 511 F) M := by
  have key : ∀ j, loopK (fun q => semK cl m U39_4 q (exB 0 (fun F M => k0 (gT 511 F) M) (fun _ _ _ => .no)) (fun F M => kr (gT 511 F) (g4 F) M)) j = fun F M => d39_5 cl m kr k0 j (g0 F) (g1 F) (g7 F) (g8 F) (gT 511 F) M := by
    intro j
    induction j with
    | zero => rfl
    | succ j ih =>
      show semK cl m U39_4 (loopK (fun q => semK cl m U39_4 q (exB 0 (fun F M => k0 (gT 511 F) M) (fun _ _ _ => .no)) (fun F M => kr (gT 511 F) (g4 F) M)) j) (exB 0 (fun F M => k0 (gT 511 F) M) (fun _ _ _ => .no)) (fun F M => kr (gT 511 F) (g4 F) M) = _
      rw [ih]
      funext F M; kernel_rfl
  exact key m
noncomputable def T39_4 : CT := (.block 0 T39_5)
noncomputable def d39_4 (cl : Cl) (m : Nat) (kr : X → X → Mm → CX) (kn : X → Mm → CX) (t0 t1 t7 t8 t511 : X) (M : Mm) : CX :=
  d39_5 cl m kr kn m t0 t1 t7 t8 t511 M
theorem z39_4 (cl : Cl) (m : Nat) (kr : X → X → Mm → CX) (kn : X → Mm → CX) : semK cl m T39_4 (fun F M => kn (gT 511 F) M) (fun _ _ _ => .no) (fun F M => kr (gT 511 F) (g4 F) M) = fun F M => d39_4 cl m kr kn (g0 F) (g1 F) (g7 F) (g8 F) (gT 511 F) M := by
  show semK cl m T39_5 (fun F M => kn (gT 511 F) M) (exB 0 (fun F M => kn (gT 511 F) M) (fun _ _ _ => .no)) (fun F M => kr (gT 511 F) (g4 F) M) = _
  exact (z39_5 cl m kr kn kn).trans (by funext F M; kernel_rfl)
noncomputable def T39_3 : CT := (.seq U39_3 T39_4)
noncomputable def d39_3 (cl : Cl) (m : Nat) (kr : X → X → Mm → CX) (kn : X → Mm → CX) (t0 t1 t511 : X) (M : Mm) : CX :=
  vLenS t0 fun t7 =>
  d39_4 cl m kr kn t0 t1 t7 (.i .i64 (0)) t511 M
theorem z39_3 (cl : Cl) (m : Nat) (kr : X → X → Mm → CX) (kn : X → Mm → CX) : semK cl m T39_3 (fun F M => kn (gT 511 F) M) (fun _ _ _ => .no) (fun F M => kr (gT 511 F) (g4 F) M) = fun F M => d39_3 cl m kr kn (g0 F) (g1 F) (gT 511 F) M := by
  show semK cl m U39_3 (semK cl m T39_4 (fun F M => kn (gT 511 F) M) (fun _ _ _ => .no) (fun F M => kr (gT 511 F) (g4 F) M)) (fun _ _ _ => .no) (fun F M => kr (gT 511 F) (g4 F) M) = _
  rw [z39_4 cl m kr kn]
  funext F M; kernel_rfl
noncomputable def T39_2 : CT := (.seq T39_3 U39_2)
noncomputable def d39_2 (cl : Cl) (m : Nat) (kr : X → X → Mm → CX) (kn : X → X → Mm → CX) (t0 t1 t511 : X) (M : Mm) : CX :=
  d39_3 cl m kr (fun t511 M =>
    kr t511 (.i .i64 (-1)) M) t0 t1 t511 M
theorem z39_2 (cl : Cl) (m : Nat) (kr : X → X → Mm → CX) (kn : X → X → Mm → CX) : semK cl m T39_2 (fun F M => kn (gT 511 F) (g4 F) M) (fun _ _ _ => .no) (fun F M => kr (gT 511 F) (g4 F) M) = fun F M => d39_2 cl m kr kn (g0 F) (g1 F) (gT 511 F) M := by
  have hb : semK cl m U39_2 (fun F M => kn (gT 511 F) (g4 F) M) (fun _ _ _ => .no) (fun F M => kr (gT 511 F) (g4 F) M) = fun F M => (fun t511 M =>
    kr t511 (.i .i64 (-1)) M) (gT 511 F) M := by funext F M; kernel_rfl
  show semK cl m T39_3 (semK cl m U39_2 (fun F M => kn (gT 511 F) (g4 F) M) (fun _ _ _ => .no) (fun F M => kr (gT 511 F) (g4 F) M)) (fun _ _ _ => .no) (fun F M => kr (gT 511 F) (g4 F) M) = _
  rw [hb]
  exact (z39_3 cl m kr (fun t511 M =>
    kr t511 (.i .i64 (-1)) M) ).trans (by funext F M; kernel_rfl)
noncomputable def T39_1 : CT := (.seq U39_1 T39_2)
noncomputable def d39_1 (cl : Cl) (m : Nat) (kr : X → X → Mm → CX) (kn : X → X → Mm → CX) (t0 t1 t511 : X) (M : Mm) : CX :=
  d39_2 cl m kr kn t0 t1 t511 M
theorem z39_1 (cl : Cl) (m : Nat) (kr : X → X → Mm → CX) (kn : X → X → Mm → CX) : semK cl m T39_1 (fun F M => kn (gT 511 F) (g4 F) M) (fun _ _ _ => .no) (fun F M => kr (gT 511 F) (g4 F) M) = fun F M => d39_1 cl m kr kn (g0 F) (g1 F) (gT 511 F) M := by
  show semK cl m U39_1 (semK cl m T39_2 (fun F M => kn (gT 511 F) (g4 F) M) (fun _ _ _ => .no) (fun F M => kr (gT 511 F) (g4 F) M)) (fun _ _ _ => .no) (fun F M => kr (gT 511 F) (g4 F) M) = _
  rw [z39_2 cl m kr kn]
  funext F M; kernel_rfl
noncomputable def t39 : CT := T39_1
theorem z39 (cl : Cl) (m : Nat) (kr : X → X → Mm → CX) : semK cl m t39 (fun F M => kr (gT 511 F) (g4 F) M) (fun _ _ _ => .no) (fun F M => kr (gT 511 F) (g4 F) M) = fun F M => d39_1 cl m kr kr (g0 F) (g1 F) (gT 511 F) M := z39_1 cl m kr kr
noncomputable def d39 (cl : Cl) (m : Nat) (kr : X → X → Mm → CX) (t0 t1 : X) (M : Mm) : CX :=
  d39_1 cl m kr kr t0 t1 (.v .undef) M
end Go.Proofs.Ytehbfajmileefaa.Px
