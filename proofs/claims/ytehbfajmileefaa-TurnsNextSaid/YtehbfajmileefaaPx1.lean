/-
  The functions on values.
-/
import Derived.Test.YtehbfajmileefaaZk
set_option maxRecDepth 100000
set_option linter.unusedVariables false
namespace Go.Proofs.Ytehbfajmileefaa.Px
open Go.RowKit Go.Proofs.Ytehbfajmileefaa.Vx Go.Proofs.Ytehbfajmileefaa.Fx
/-! 3: countersign/countersignlaw36.TurnsNext -/
noncomputable def U3_1 : CT := (.ops [(.box 24 4 g0, s2),
    (.move (kX (.b false)), s4)])
noncomputable def U3_2 : CT := (.seq (.ops [(.fieldAddr 0 g2, s18),
    (.load1 g18, s19),
    (.lenS g19, s20),
    (.bin .gtr g20 (kX (.i .i64 (20))), s21),
    (.move g21, s22),
    (.guard g22 false (.move g1), s23),
    (.guard g22 false (.lenS g23), s24),
    (.guard g22 false (.bin .gtr g24 (kX (.i .i64 (20)))), s25),
    (.pick g22 (kX (.b true)) g25, s26)]) (.cond g26 (.seq (.ops [(.call 9 [], s27),
    (.move g27, s4)]) .ret) .skip))
noncomputable def U3_3 : CT := (.ops [(.move (kX (.v .nils)), s5)])
noncomputable def U3_4 : CT := (.ops [(.move g5, s28),
    (.fieldAddr 0 g2, s29),
    (.load1 g29, s30),
    (.app prg 22 22 (.tmp 28) (.tmp 30) 169, s31),
    (.move g31, s5)])
noncomputable def U3_5 : CT := (.ops [(.loadN 4 g2, s32),
    (.alloc 24 4 [.nils, .int .i64 (.int (0)), .int .i64 (.int (0)), .int .i64 (.int (0))], s6),
    (.storeN 4 g6 g32, sN)])
noncomputable def U3_6 : CT := (.ops [(.move g5, s33),
    (.fieldAddr 0 g6, s34),
    (.store1 g34 g33, sN)])
noncomputable def U3_7 : CT := (.ops [(.fieldAddr 0 g2, s36),
    (.load1 g36, s37),
    (.call 10 [g37], s38),
    (.move g38, s35),
    (.ext 0 g35, s39),
    (.ext 1 g35, s40),
    (.alloc 24 4 [.nils, .int .i64 (.int (0)), .int .i64 (.int (0)), .int .i64 (.int (0))], s7),
    (.storeN 4 g7 g39, sN),
    (.move g40, s8)])
noncomputable def U3_8 : CT := (.ops [(.move g5, s41),
    (.call 11 [g41], s42),
    (.move g42, s9)])
noncomputable def U3_9 : CT := (.seq (.draw [⟨.move g8, s43, 0, (some 43), none, false, none⟩,
    ⟨.move g9, s44, 1, (some 44), none, false, none⟩,
    ⟨.bin .neq g43 g44, s45, 2, (some 45), none, false, none⟩,
    ⟨.move g45, s46, 3, (some 46), none, false, none⟩,
    ⟨.guard g46 false (.loadN 4 g2), s47, 4, (some 47), none, false, none⟩,
    ⟨.guard g46 false (.call 12 [g47]), s48, 5, (some 48), none, true, (some (none, [6]))⟩,
    ⟨.guard g46 false (.loadN 4 g2), s49, 6, (some 49), (some g2), false, none⟩,
    ⟨.guard g46 false (.call 13 [g49]), s50, 7, (some 50), none, true, none⟩,
    ⟨.guard g46 false (.bin .neq g48 g50), s51, 8, (some 51), none, false, none⟩,
    ⟨.pick g46 (kX (.b true)) g51, s52, 9, (some 52), none, false, none⟩]) (.cond g52 (.seq (.ops [(.move (kX (.b false)), s4)]) .ret) .skip))
noncomputable def U3_10 : CT := (.seq (.ops [(.move g9, s53),
    (.bin .eql g53 (kX (.i .i64 (0))), s54),
    (.move g54, s55),
    (.guard g55 true (.fieldAddr 0 g7), s56),
    (.guard g55 true (.load1 g56), s57),
    (.guard g55 true (.move g5), s58),
    (.guard g55 true (.call 14 [g57, g58]), s59),
    (.guard g55 true (.bin .eql g59 (kX (.i .i64 (0)))), s60),
    (.guard g55 true (.move g60), s61),
    (.guard g61 false (.fieldAddr 1 g7), s62),
    (.guard g61 false (.load1 g62), s63),
    (.guard g61 false (.bin .neq g63 (kX (.i .i64 (0)))), s64),
    (.guard g55 true (.pick g61 (kX (.b true)) g64), s65),
    (.guard g55 true (.move g65), s66),
    (.guard g66 false (.fieldAddr 2 g7), s67),
    (.guard g66 false (.load1 g67), s68),
    (.guard g66 false (.move g5), s69),
    (.guard g66 false (.indexAddr 1 g69 (kX (.i .i64 (0)))), s70),
    (.guard g66 false (.load1 g70), s71),
    (.guard g66 false (.bin .neq g68 g71), s72),
    (.guard g55 true (.pick g66 (kX (.b true)) g72), s73),
    (.guard g55 true (.move g73), s74),
    (.guard g74 false (.fieldAddr 3 g7), s75),
    (.guard g74 false (.load1 g75), s76),
    (.guard g74 false (.bin .neq g76 (kX (.i .i64 (0)))), s77),
    (.guard g55 true (.pick g74 (kX (.b true)) g77), s78),
    (.pick g55 g78 (kX (.b false)), s79),
    (.move g79, s80),
    (.guard g80 false (.move g9), s81),
    (.guard g80 false (.bin .neq g81 (kX (.i .i64 (0)))), s82),
    (.guard g80 false (.move g82), s83),
    (.guard g83 true (.loadN 4 g7), s84),
    (.guard g83 true (.build [.nils, .int .i64 (.int (0)), .int .i64 (.int (0)), .int .i64 (.int (0))] []), s85),
    (.guard g83 true (.call 15 [g84, g85]), s86),
    (.guard g83 true (.bin .eql g86 (kX (.i .i64 (0)))), s87),
    (.guard g80 false (.pick g83 g87 (kX (.b false))), s88),
    (.pick g80 (kX (.b true)) g88, s89)]) (.cond g89 (.seq (.ops [(.move (kX (.b false)), s4)]) .ret) .skip))
noncomputable def U3_11 : CT := (.ops [(.loadN 4 g2, s91),
    (.move g1, s92),
    (.call 16 [g91, g92], s93),
    (.move g93, s90),
    (.ext 0 g90, s94),
    (.ext 1 g90, s95),
    (.ext 2 g90, s96),
    (.alloc 24 4 [.nils, .int .i64 (.int (0)), .int .i64 (.int (0)), .int .i64 (.int (0))], s10),
    (.storeN 4 g10 g94, sN),
    (.move g95, s11),
    (.move g96, s12)])
noncomputable def U3_12 : CT := (.ops [(.loadN 4 g2, s98),
    (.move g1, s99),
    (.call 17 [g98, g99], s100),
    (.move g100, s97),
    (.ext 0 g97, s101),
    (.ext 1 g97, s102),
    (.ext 2 g97, s103),
    (.ext 3 g97, s104),
    (.alloc 24 4 [.nils, .int .i64 (.int (0)), .int .i64 (.int (0)), .int .i64 (.int (0))], s13),
    (.storeN 4 g13 g101, sN),
    (.move g102, s14),
    (.move g103, s15),
    (.move g104, s16)])
noncomputable def U3_13 : CT := (.seq (.ops [(.move g16, s105),
    (.move g12, s106),
    (.bin .neq g105 g106, s107),
    (.move g107, s108),
    (.guard g108 false (.loadN 4 g13), s109),
    (.guard g108 false (.loadN 4 g10), s110),
    (.guard g108 false (.call 15 [g109, g110]), s111),
    (.guard g108 false (.bin .eql g111 (kX (.i .i64 (0)))), s112),
    (.pick g108 (kX (.b true)) g112, s113),
    (.move g113, s114),
    (.guard g114 false (.move g15), s115),
    (.guard g114 false (.move g11), s116),
    (.guard g114 false (.bin .geq g116 (kX (.i .i64 (0)))), s117),
    (.guard g114 false (.binG prg .neq 4 4 (.tmp 115) (.tmp 117) 169), s118),
    (.pick g114 (kX (.b true)) g118, s119),
    (.move g119, s120),
    (.guard g120 false (.move g14), s121),
    (.guard g120 false (.move g11), s122),
    (.guard g120 false (.mm prg false (.tmp 122) (.const (.int .i64 (0))) #[3, 3] 169), s123),
    (.guard g120 false (.bin .neq g121 g123), s124),
    (.pick g120 (kX (.b true)) g124, s125),
    (.move g125, s126),
    (.guard g126 false (.fieldAddr 0 g13), s127),
    (.guard g126 false (.load1 g127), s128),
    (.guard g126 false (.cap prg 22 (.tmp 128) 169), s129),
    (.guard g126 false (.fieldAddr 0 g13), s130),
    (.guard g126 false (.load1 g130), s131),
    (.guard g126 false (.lenS g131), s132),
    (.guard g126 false (.bin .neq g129 g132), s133),
    (.pick g126 (kX (.b true)) g133, s134)]) (.cond g134 (.seq (.ops [(.move (kX (.b false)), s4)]) .ret) .skip))
noncomputable def U3_14 : CT := (.seq (.ops [(.move g15, s135),
    (.move g135, s136),
    (.guard g136 true (.move g1), s137),
    (.guard g136 true (.move g14), s138),
    (.guard g136 true (.indexAddr 1 g137 g138), s139),
    (.guard g136 true (.load1 g139), s140),
    (.guard g136 true (.not g140), s141),
    (.guard g136 true (.move g141), s142),
    (.guard g142 false (.fieldAddr 3 g13), s143),
    (.guard g142 false (.load1 g143), s144),
    (.guard g142 false (.fieldAddr 3 g2), s145),
    (.guard g142 false (.load1 g145), s146),
    (.guard g142 false (.bin .add g146 (kX (.i .i64 (1)))), s147),
    (.guard g142 false (.bin .gtr g144 g147), s148),
    (.guard g136 true (.pick g142 (kX (.b true)) g148), s149),
    (.pick g136 g149 (kX (.b false)), s150)]) (.cond g150 (.seq (.ops [(.move (kX (.b false)), s4)]) .ret) .skip))
noncomputable def U3_15 : CT := (.seq (.ops [(.loadN 4 g2, s162),
    (.loadN 4 g6, s163),
    (.call 15 [g162, g163], s164),
    (.bin .eql g164 (kX (.i .i64 (1))), s165),
    (.move g165, s166),
    (.guard g166 true (.call 9 []), s167),
    (.pick g166 g167 (kX (.b false)), s168),
    (.move g168, s4)]) .ret)
noncomputable def U3_16 : CT := (.ops [(.move (kX (.i .i64 (0))), s17)])
noncomputable def U3_17 : CT := (.seq (.seq (.ops [(.move g17, s151),
    (.fieldAddr 0 g13, s152),
    (.load1 g152, s153),
    (.lenS g153, s154),
    (.bin .lss g151 g154, s155)]) (.cond g155 .skip (.exit 0))) (.seq (.block 1 (.ops [(.fieldAddr 0 g13, s158),
    (.load1 g158, s159),
    (.move g17, s160),
    (.indexAddr 1 g159 g160, s161),
    (.store1 g161 (kX (.i .i64 (0))), sN)])) (.ops [(.move g17, s156),
    (.bin .add g156 (kX (.i .i64 (1))), s157),
    (.move g157, s17)])))
noncomputable def T3_18 : CT := (.loop U3_17)
noncomputable def d3_18 (cl : Cl) (m : Nat) (kr : X → X → Mm → CX) (k0 : X → X → X → Mm → CX) : Nat → X → X → X → X → X → Mm → CX
  | 0 => fun _ _ _ _ _ _ => .no
  | n + 1 => fun t2 t6 t13 t17 t511 M =>
  vFieldAddr 0 t13 fun t152 =>
  vLoad1 t152 M fun t153 =>
  vLenS t153 fun t154 =>
  vBin .lss t17 t154 fun t155 =>
  vIf t155 (
  vFieldAddr 0 t13 fun t158 =>
  vLoad1 t158 M fun t159 =>
  vIndexAddr 1 t159 t17 fun t161 =>
  vStore1 t161 (.i .i64 (0)) M fun _ M1 =>
  vBin .add t17 (.i .i64 (1)) fun t157 =>
  d3_18 cl m kr k0 n t2 t6 t13 t157 t511 M1) (
  k0 t2 t6 t511 M)
theorem z3_18 (cl : Cl) (m : Nat) (kr : X → X → Mm → CX) (kn : X → X → X → Mm → CX) (k0 : X → X → X → Mm → CX) : semK cl m T3_18 (fun F M => kn (g2 F) (g6 F) (gT 511 F) M) (exB 0 (fun F M => k0 (g2 F) (g6 F) (gT 511 F) M) (fun _ _ _ => .no)) (fun F M => kr (gT 511 F) (g4 F) M) = fun F M => d3_18 cl m kr k0 m (g2 F) (g6 F) (g13 F) (g17 F) (gT 511 F) M := by
  have key : ∀ j, loopK (fun q => semK cl m U3_17 q (exB 0 (fun F M => k0 (g2 F) (g6 F) (gT 511 F) M) (fun _ _ _ => .no)) (fun F M => kr (gT 511 F) (g4 F) M)) j = fun F M => d3_18 cl m kr k0 j (g2 F) (g6 F) (g13 F) (g17 F) (gT 511 F) M := by
    intro j
    induction j with
    | zero => rfl
    | succ j ih =>
      show semK cl m U3_17 (loopK (fun q => semK cl m U3_17 q (exB 0 (fun F M => k0 (g2 F) (g6 F) (gT 511 F) M) (fun _ _ _ => .no)) (fun F M => kr (gT 511 F) (g4 F) M)) j) (exB 0 (fun F M => k0 (g2 F) (g6 F) (gT 511 F) M) (fun _ _ _ => .no)) (fun F M => kr (gT 511 F) (g4 F) M) = _
      rw [ih]
      funext F M; kernel_rfl
  exact key m
noncomputable def T3_17 : CT := (.block 0 T3_18)
noncomputable def d3_17 (cl : Cl) (m : Nat) (kr : X → X → Mm → CX) (kn : X → X → X → Mm → CX) (t2 t6 t13 t17 t511 : X) (M : Mm) : CX :=
  d3_18 cl m kr kn m t2 t6 t13 t17 t511 M
theorem z3_17 (cl : Cl) (m : Nat) (kr : X → X → Mm → CX) (kn : X → X → X → Mm → CX) : semK cl m T3_17 (fun F M => kn (g2 F) (g6 F) (gT 511 F) M) (fun _ _ _ => .no) (fun F M => kr (gT 511 F) (g4 F) M) = fun F M => d3_17 cl m kr kn (g2 F) (g6 F) (g13 F) (g17 F) (gT 511 F) M := by
  show semK cl m T3_18 (fun F M => kn (g2 F) (g6 F) (gT 511 F) M) (exB 0 (fun F M => kn (g2 F) (g6 F) (gT 511 F) M) (fun _ _ _ => .no)) (fun F M => kr (gT 511 F) (g4 F) M) = _
  exact (z3_18 cl m kr kn kn).trans (by funext F M; kernel_rfl)
noncomputable def T3_16 : CT := (.seq U3_16 T3_17)
noncomputable def d3_16 (cl : Cl) (m : Nat) (kr : X → X → Mm → CX) (kn : X → X → X → Mm → CX) (t2 t6 t13 t511 : X) (M : Mm) : CX :=
  d3_17 cl m kr kn t2 t6 t13 (.i .i64 (0)) t511 M
theorem z3_16 (cl : Cl) (m : Nat) (kr : X → X → Mm → CX) (kn : X → X → X → Mm → CX) : semK cl m T3_16 (fun F M => kn (g2 F) (g6 F) (gT 511 F) M) (fun _ _ _ => .no) (fun F M => kr (gT 511 F) (g4 F) M) = fun F M => d3_16 cl m kr kn (g2 F) (g6 F) (g13 F) (gT 511 F) M := by
  show semK cl m U3_16 (semK cl m T3_17 (fun F M => kn (g2 F) (g6 F) (gT 511 F) M) (fun _ _ _ => .no) (fun F M => kr (gT 511 F) (g4 F) M)) (fun _ _ _ => .no) (fun F M => kr (gT 511 F) (g4 F) M) = _
  rw [z3_17 cl m kr kn]
  funext F M; kernel_rfl
noncomputable def T3_15 : CT := (.seq T3_16 U3_15)
noncomputable def d3_15 (cl : Cl) (m : Nat) (kr : X → X → Mm → CX) (kn : X → X → Mm → CX) (t2 t6 t13 t511 : X) (M : Mm) : CX :=
  d3_16 cl m kr (fun t2 t6 t511 M =>
    vLoadN 4 t2 M fun t162 =>
    vLoadN 4 t6 M fun t163 =>
    vCall cl 15 [t162, t163] M fun t164 M2 =>
    vBin .eql t164 (.i .i64 (1)) fun t165 =>
    vGuard t165 true (fun k => vCall cl 9 [] M2 fun y M4 => k y M4) M2 fun t167 M3 =>
    vPick t165 t167 (.b false) fun t168 =>
    kr t511 t168 M3) t2 t6 t13 t511 M
theorem z3_15 (cl : Cl) (m : Nat) (kr : X → X → Mm → CX) (kn : X → X → Mm → CX) : semK cl m T3_15 (fun F M => kn (gT 511 F) (g4 F) M) (fun _ _ _ => .no) (fun F M => kr (gT 511 F) (g4 F) M) = fun F M => d3_15 cl m kr kn (g2 F) (g6 F) (g13 F) (gT 511 F) M := by
  have hb : semK cl m U3_15 (fun F M => kn (gT 511 F) (g4 F) M) (fun _ _ _ => .no) (fun F M => kr (gT 511 F) (g4 F) M) = fun F M => (fun t2 t6 t511 M =>
    vLoadN 4 t2 M fun t162 =>
    vLoadN 4 t6 M fun t163 =>
    vCall cl 15 [t162, t163] M fun t164 M2 =>
    vBin .eql t164 (.i .i64 (1)) fun t165 =>
    vGuard t165 true (fun k => vCall cl 9 [] M2 fun y M4 => k y M4) M2 fun t167 M3 =>
    vPick t165 t167 (.b false) fun t168 =>
    kr t511 t168 M3) (g2 F) (g6 F) (gT 511 F) M := by funext F M; kernel_rfl
  show semK cl m T3_16 (semK cl m U3_15 (fun F M => kn (gT 511 F) (g4 F) M) (fun _ _ _ => .no) (fun F M => kr (gT 511 F) (g4 F) M)) (fun _ _ _ => .no) (fun F M => kr (gT 511 F) (g4 F) M) = _
  rw [hb]
  exact (z3_16 cl m kr (fun t2 t6 t511 M =>
    vLoadN 4 t2 M fun t162 =>
    vLoadN 4 t6 M fun t163 =>
    vCall cl 15 [t162, t163] M fun t164 M2 =>
    vBin .eql t164 (.i .i64 (1)) fun t165 =>
    vGuard t165 true (fun k => vCall cl 9 [] M2 fun y M4 => k y M4) M2 fun t167 M3 =>
    vPick t165 t167 (.b false) fun t168 =>
    kr t511 t168 M3) ).trans (by funext F M; kernel_rfl)
noncomputable def T3_14 : CT := (.seq U3_14 T3_15)
noncomputable def d3_14 (cl : Cl) (m : Nat) (kr : X → X → Mm → CX) (kn : X → X → Mm → CX) (t1 t2 t6 t13 t14 t15 t511 : X) (M : Mm) : CX :=
  vGuard t15 true (fun k => k t1 M) M fun t137 M5 =>
  vGuard t15 true (fun k => k t14 M5) M5 fun t138 M7 =>
  vGuard t15 true (fun k => vIndexAddr 1 t137 t138 fun y => k y M7) M7 fun t139 M9 =>
  vGuard t15 true (fun k => vLoad1 t139 M9 fun y => k y M9) M9 fun t140 M11 =>
  vGuard t15 true (fun k => vNot t140 fun y => k y M11) M11 fun t141 M13 =>
  vGuard t15 true (fun k => k t141 M13) M13 fun t142 M15 =>
  vGuard t142 false (fun k => vFieldAddr 3 t13 fun y => k y M15) M15 fun t143 M17 =>
  vGuard t142 false (fun k => vLoad1 t143 M17 fun y => k y M17) M17 fun t144 M19 =>
  vGuard t142 false (fun k => vFieldAddr 3 t2 fun y => k y M19) M19 fun t145 M21 =>
  vGuard t142 false (fun k => vLoad1 t145 M21 fun y => k y M21) M21 fun t146 M23 =>
  vGuard t142 false (fun k => vBin .add t146 (.i .i64 (1)) fun y => k y M23) M23 fun t147 M25 =>
  vGuard t142 false (fun k => vBin .gtr t144 t147 fun y => k y M25) M25 fun t148 M27 =>
  vGuard t15 true (fun k => vPick t142 (.b true) t148 fun y => k y M27) M27 fun t149 M29 =>
  vPick t15 t149 (.b false) fun t150 =>
  vIf t150 (
    kr t511 (.b false) M29) (
  d3_15 cl m kr kn t2 t6 t13 t511 M29)
theorem z3_14 (cl : Cl) (m : Nat) (kr : X → X → Mm → CX) (kn : X → X → Mm → CX) : semK cl m T3_14 (fun F M => kn (gT 511 F) (g4 F) M) (fun _ _ _ => .no) (fun F M => kr (gT 511 F) (g4 F) M) = fun F M => d3_14 cl m kr kn (g1 F) (g2 F) (g6 F) (g13 F) (g14 F) (g15 F) (gT 511 F) M := by
  show semK cl m U3_14 (semK cl m T3_15 (fun F M => kn (gT 511 F) (g4 F) M) (fun _ _ _ => .no) (fun F M => kr (gT 511 F) (g4 F) M)) (fun _ _ _ => .no) (fun F M => kr (gT 511 F) (g4 F) M) = _
  rw [z3_15 cl m kr kn]
  funext F M; kernel_rfl
noncomputable def T3_13 : CT := (.seq U3_13 T3_14)
noncomputable def d3_13 (cl : Cl) (m : Nat) (kr : X → X → Mm → CX) (kn : X → X → Mm → CX) (t1 t2 t6 t10 t11 t12 t13 t14 t15 t16 t511 : X) (M : Mm) : CX :=
  vBin .neq t16 t12 fun t107 =>
  vGuard t107 false (fun k => vLoadN 4 t13 M fun y => k y M) M fun t109 M31 =>
  vGuard t107 false (fun k => vLoadN 4 t10 M31 fun y => k y M31) M31 fun t110 M33 =>
  vGuard t107 false (fun k => vCall cl 15 [t109, t110] M33 fun y M36 => k y M36) M33 fun t111 M35 =>
  vGuard t107 false (fun k => vBin .eql t111 (.i .i64 (0)) fun y => k y M35) M35 fun t112 M37 =>
  vPick t107 (.b true) t112 fun t113 =>
  vGuard t113 false (fun k => k t15 M37) M37 fun t115 M39 =>
  vGuard t113 false (fun k => k t11 M39) M39 fun t116 M41 =>
  vGuard t113 false (fun k => vBin .geq t116 (.i .i64 (0)) fun y => k y M41) M41 fun t117 M43 =>
  vGuard t113 false (fun k => vBinG prg .neq 4 t115 t117 M43 fun y M46 => k y M46) M43 fun t118 M45 =>
  vPick t113 (.b true) t118 fun t119 =>
  vGuard t119 false (fun k => k t14 M45) M45 fun t121 M47 =>
  vGuard t119 false (fun k => k t11 M47) M47 fun t122 M49 =>
  vGuard t119 false (fun k => vMM false t122 (.i .i64 (0)) M49 fun y M52 => k y M52) M49 fun t123 M51 =>
  vGuard t119 false (fun k => vBin .neq t121 t123 fun y => k y M51) M51 fun t124 M53 =>
  vPick t119 (.b true) t124 fun t125 =>
  vGuard t125 false (fun k => vFieldAddr 0 t13 fun y => k y M53) M53 fun t127 M55 =>
  vGuard t125 false (fun k => vLoad1 t127 M55 fun y => k y M55) M55 fun t128 M57 =>
  vGuard t125 false (fun k => vCap prg 22 t128 M57 fun y M60 => k y M60) M57 fun t129 M59 =>
  vGuard t125 false (fun k => vFieldAddr 0 t13 fun y => k y M59) M59 fun t130 M61 =>
  vGuard t125 false (fun k => vLoad1 t130 M61 fun y => k y M61) M61 fun t131 M63 =>
  vGuard t125 false (fun k => vLenS t131 fun y => k y M63) M63 fun t132 M65 =>
  vGuard t125 false (fun k => vBin .neq t129 t132 fun y => k y M65) M65 fun t133 M67 =>
  vPick t125 (.b true) t133 fun t134 =>
  vIf t134 (
    kr t511 (.b false) M67) (
  d3_14 cl m kr kn t1 t2 t6 t13 t14 t15 t511 M67)
theorem z3_13 (cl : Cl) (m : Nat) (kr : X → X → Mm → CX) (kn : X → X → Mm → CX) : semK cl m T3_13 (fun F M => kn (gT 511 F) (g4 F) M) (fun _ _ _ => .no) (fun F M => kr (gT 511 F) (g4 F) M) = fun F M => d3_13 cl m kr kn (g1 F) (g2 F) (g6 F) (g10 F) (g11 F) (g12 F) (g13 F) (g14 F) (g15 F) (g16 F) (gT 511 F) M := by
  show semK cl m U3_13 (semK cl m T3_14 (fun F M => kn (gT 511 F) (g4 F) M) (fun _ _ _ => .no) (fun F M => kr (gT 511 F) (g4 F) M)) (fun _ _ _ => .no) (fun F M => kr (gT 511 F) (g4 F) M) = _
  rw [z3_14 cl m kr kn]
  funext F M; kernel_rfl
noncomputable def T3_12 : CT := (.seq U3_12 T3_13)
noncomputable def d3_12 (cl : Cl) (m : Nat) (kr : X → X → Mm → CX) (kn : X → X → Mm → CX) (t1 t2 t6 t10 t11 t12 t511 : X) (M : Mm) : CX :=
  vLoadN 4 t2 M fun t98 =>
  vCall cl 17 [t98, t1] M fun t100 M69 =>
  vExt 0 t100 fun t101 =>
  vExt 1 t100 fun t102 =>
  vExt 2 t100 fun t103 =>
  vExt 3 t100 fun t104 =>
  vAlloc 24 4 [.nils, .int .i64 (.int (0)), .int .i64 (.int (0)), .int .i64 (.int (0))] M69 fun t13 M70 =>
  vStoreN 4 t13 t101 M70 fun _ M71 =>
  d3_13 cl m kr kn t1 t2 t6 t10 t11 t12 t13 t102 t103 t104 t511 M71
theorem z3_12 (cl : Cl) (m : Nat) (kr : X → X → Mm → CX) (kn : X → X → Mm → CX) : semK cl m T3_12 (fun F M => kn (gT 511 F) (g4 F) M) (fun _ _ _ => .no) (fun F M => kr (gT 511 F) (g4 F) M) = fun F M => d3_12 cl m kr kn (g1 F) (g2 F) (g6 F) (g10 F) (g11 F) (g12 F) (gT 511 F) M := by
  show semK cl m U3_12 (semK cl m T3_13 (fun F M => kn (gT 511 F) (g4 F) M) (fun _ _ _ => .no) (fun F M => kr (gT 511 F) (g4 F) M)) (fun _ _ _ => .no) (fun F M => kr (gT 511 F) (g4 F) M) = _
  rw [z3_13 cl m kr kn]
  funext F M; kernel_rfl
noncomputable def T3_11 : CT := (.seq U3_11 T3_12)
noncomputable def d3_11 (cl : Cl) (m : Nat) (kr : X → X → Mm → CX) (kn : X → X → Mm → CX) (t1 t2 t6 t511 : X) (M : Mm) : CX :=
  vLoadN 4 t2 M fun t91 =>
  vCall cl 16 [t91, t1] M fun t93 M72 =>
  vExt 0 t93 fun t94 =>
  vExt 1 t93 fun t95 =>
  vExt 2 t93 fun t96 =>
  vAlloc 24 4 [.nils, .int .i64 (.int (0)), .int .i64 (.int (0)), .int .i64 (.int (0))] M72 fun t10 M73 =>
  vStoreN 4 t10 t94 M73 fun _ M74 =>
  d3_12 cl m kr kn t1 t2 t6 t10 t95 t96 t511 M74
theorem z3_11 (cl : Cl) (m : Nat) (kr : X → X → Mm → CX) (kn : X → X → Mm → CX) : semK cl m T3_11 (fun F M => kn (gT 511 F) (g4 F) M) (fun _ _ _ => .no) (fun F M => kr (gT 511 F) (g4 F) M) = fun F M => d3_11 cl m kr kn (g1 F) (g2 F) (g6 F) (gT 511 F) M := by
  show semK cl m U3_11 (semK cl m T3_12 (fun F M => kn (gT 511 F) (g4 F) M) (fun _ _ _ => .no) (fun F M => kr (gT 511 F) (g4 F) M)) (fun _ _ _ => .no) (fun F M => kr (gT 511 F) (g4 F) M) = _
  rw [z3_12 cl m kr kn]
  funext F M; kernel_rfl
noncomputable def T3_10 : CT := (.seq U3_10 T3_11)
noncomputable def d3_10 (cl : Cl) (m : Nat) (kr : X → X → Mm → CX) (kn : X → X → Mm → CX) (t1 t2 t5 t6 t7 t9 t511 : X) (M : Mm) : CX :=
  vBin .eql t9 (.i .i64 (0)) fun t54 =>
  vGuard t54 true (fun k => vFieldAddr 0 t7 fun y => k y M) M fun t56 M75 =>
  vGuard t54 true (fun k => vLoad1 t56 M75 fun y => k y M75) M75 fun t57 M77 =>
  vGuard t54 true (fun k => k t5 M77) M77 fun t58 M79 =>
  vGuard t54 true (fun k => vCall cl 14 [t57, t58] M79 fun y M82 => k y M82) M79 fun t59 M81 =>
  vGuard t54 true (fun k => vBin .eql t59 (.i .i64 (0)) fun y => k y M81) M81 fun t60 M83 =>
  vGuard t54 true (fun k => k t60 M83) M83 fun t61 M85 =>
  vGuard t61 false (fun k => vFieldAddr 1 t7 fun y => k y M85) M85 fun t62 M87 =>
  vGuard t61 false (fun k => vLoad1 t62 M87 fun y => k y M87) M87 fun t63 M89 =>
  vGuard t61 false (fun k => vBin .neq t63 (.i .i64 (0)) fun y => k y M89) M89 fun t64 M91 =>
  vGuard t54 true (fun k => vPick t61 (.b true) t64 fun y => k y M91) M91 fun t65 M93 =>
  vGuard t54 true (fun k => k t65 M93) M93 fun t66 M95 =>
  vGuard t66 false (fun k => vFieldAddr 2 t7 fun y => k y M95) M95 fun t67 M97 =>
  vGuard t66 false (fun k => vLoad1 t67 M97 fun y => k y M97) M97 fun t68 M99 =>
  vGuard t66 false (fun k => k t5 M99) M99 fun t69 M101 =>
  vGuard t66 false (fun k => vIndexAddr 1 t69 (.i .i64 (0)) fun y => k y M101) M101 fun t70 M103 =>
  vGuard t66 false (fun k => vLoad1 t70 M103 fun y => k y M103) M103 fun t71 M105 =>
  vGuard t66 false (fun k => vBin .neq t68 t71 fun y => k y M105) M105 fun t72 M107 =>
  vGuard t54 true (fun k => vPick t66 (.b true) t72 fun y => k y M107) M107 fun t73 M109 =>
  vGuard t54 true (fun k => k t73 M109) M109 fun t74 M111 =>
  vGuard t74 false (fun k => vFieldAddr 3 t7 fun y => k y M111) M111 fun t75 M113 =>
  vGuard t74 false (fun k => vLoad1 t75 M113 fun y => k y M113) M113 fun t76 M115 =>
  vGuard t74 false (fun k => vBin .neq t76 (.i .i64 (0)) fun y => k y M115) M115 fun t77 M117 =>
  vGuard t54 true (fun k => vPick t74 (.b true) t77 fun y => k y M117) M117 fun t78 M119 =>
  vPick t54 t78 (.b false) fun t79 =>
  vGuard t79 false (fun k => k t9 M119) M119 fun t81 M121 =>
  vGuard t79 false (fun k => vBin .neq t81 (.i .i64 (0)) fun y => k y M121) M121 fun t82 M123 =>
  vGuard t79 false (fun k => k t82 M123) M123 fun t83 M125 =>
  vGuard t83 true (fun k => vLoadN 4 t7 M125 fun y => k y M125) M125 fun t84 M127 =>
  vGuard t83 true (fun k => vBuild [.nils, .int .i64 (.int (0)), .int .i64 (.int (0)), .int .i64 (.int (0))] [] fun y => k y M127) M127 fun t85 M129 =>
  vGuard t83 true (fun k => vCall cl 15 [t84, t85] M129 fun y M132 => k y M132) M129 fun t86 M131 =>
  vGuard t83 true (fun k => vBin .eql t86 (.i .i64 (0)) fun y => k y M131) M131 fun t87 M133 =>
  vGuard t79 false (fun k => vPick t83 t87 (.b false) fun y => k y M133) M133 fun t88 M135 =>
  vPick t79 (.b true) t88 fun t89 =>
  vIf t89 (
    kr t511 (.b false) M135) (
  d3_11 cl m kr kn t1 t2 t6 t511 M135)
theorem z3_10 (cl : Cl) (m : Nat) (kr : X → X → Mm → CX) (kn : X → X → Mm → CX) : semK cl m T3_10 (fun F M => kn (gT 511 F) (g4 F) M) (fun _ _ _ => .no) (fun F M => kr (gT 511 F) (g4 F) M) = fun F M => d3_10 cl m kr kn (g1 F) (g2 F) (g5 F) (g6 F) (g7 F) (g9 F) (gT 511 F) M := by
  show semK cl m U3_10 (semK cl m T3_11 (fun F M => kn (gT 511 F) (g4 F) M) (fun _ _ _ => .no) (fun F M => kr (gT 511 F) (g4 F) M)) (fun _ _ _ => .no) (fun F M => kr (gT 511 F) (g4 F) M) = _
  rw [z3_11 cl m kr kn]
  funext F M; kernel_rfl
noncomputable def T3_9 : CT := (.seq U3_9 T3_10)
noncomputable def d3_9 (cl : Cl) (m : Nat) (kr : X → X → Mm → CX) (kn : X → X → Mm → CX) (t1 t2 t5 t6 t7 t8 t9 t511 : X) (M : Mm) : CX :=
  jn (fun (n1 : Nat) =>
  chk True <|
  chk (Pst true false t8 M M none) <|
  chk True <|
  chk (Pst true false t9 M M none) <|
  chk True <|
  vBin .neq t8 t9 fun t45 =>
  chk (Pst true false t45 M M none) <|
  chk True <|
  chk (Pst true false t45 M M none) <|
  chk True <|
  vGuard t45 false (fun k => vLoadN 4 t2 M fun y => k y M) M fun t47 M137 =>
  chk (Pst true false t47 M M137 none) <|
  chk True <|
  vGuard t45 false (fun k => vCall cl 12 [t47] M137 fun y M140 => k y M140) M137 fun t48 M139 =>
  chk (Pst true true t48 M137 M139 (some (none, []))) <|
  chk (Old n1 t2) <|
  vGuard t45 false (fun k => vLoadN 4 t2 M139 fun y => k y M139) M139 fun t49 M141 =>
  chk (Pst true false t49 M139 M141 none) <|
  chk True <|
  vGuard t45 false (fun k => vCall cl 13 [t49] M141 fun y M144 => k y M144) M141 fun t50 M143 =>
  chk (Pst true true t50 M141 M143 none) <|
  chk True <|
  vGuard t45 false (fun k => vBin .neq t48 t50 fun y => k y M143) M143 fun t51 M145 =>
  chk (Pst true false t51 M143 M145 none) <|
  chk True <|
  vPick t45 (.b true) t51 fun t52 =>
  chk (Pst true false t52 M145 M145 none) <|
  vIf t52 (
    kr t511 (.b false) M145) (
  d3_10 cl m kr kn t1 t2 t5 t6 t7 t9 t511 M145)) M.nx
theorem z3_9 (cl : Cl) (m : Nat) (kr : X → X → Mm → CX) (kn : X → X → Mm → CX) : semK cl m T3_9 (fun F M => kn (gT 511 F) (g4 F) M) (fun _ _ _ => .no) (fun F M => kr (gT 511 F) (g4 F) M) = fun F M => d3_9 cl m kr kn (g1 F) (g2 F) (g5 F) (g6 F) (g7 F) (g8 F) (g9 F) (gT 511 F) M := by
  show semK cl m U3_9 (semK cl m T3_10 (fun F M => kn (gT 511 F) (g4 F) M) (fun _ _ _ => .no) (fun F M => kr (gT 511 F) (g4 F) M)) (fun _ _ _ => .no) (fun F M => kr (gT 511 F) (g4 F) M) = _
  rw [z3_10 cl m kr kn]
  funext F M; kernel_rfl
noncomputable def T3_8 : CT := (.seq U3_8 T3_9)
noncomputable def d3_8 (cl : Cl) (m : Nat) (kr : X → X → Mm → CX) (kn : X → X → Mm → CX) (t1 t2 t5 t6 t7 t8 t511 : X) (M : Mm) : CX :=
  vCall cl 11 [t5] M fun t42 M147 =>
  d3_9 cl m kr kn t1 t2 t5 t6 t7 t8 t42 t511 M147
theorem z3_8 (cl : Cl) (m : Nat) (kr : X → X → Mm → CX) (kn : X → X → Mm → CX) : semK cl m T3_8 (fun F M => kn (gT 511 F) (g4 F) M) (fun _ _ _ => .no) (fun F M => kr (gT 511 F) (g4 F) M) = fun F M => d3_8 cl m kr kn (g1 F) (g2 F) (g5 F) (g6 F) (g7 F) (g8 F) (gT 511 F) M := by
  show semK cl m U3_8 (semK cl m T3_9 (fun F M => kn (gT 511 F) (g4 F) M) (fun _ _ _ => .no) (fun F M => kr (gT 511 F) (g4 F) M)) (fun _ _ _ => .no) (fun F M => kr (gT 511 F) (g4 F) M) = _
  rw [z3_9 cl m kr kn]
  funext F M; kernel_rfl
noncomputable def T3_7 : CT := (.seq U3_7 T3_8)
noncomputable def d3_7 (cl : Cl) (m : Nat) (kr : X → X → Mm → CX) (kn : X → X → Mm → CX) (t1 t2 t5 t6 t511 : X) (M : Mm) : CX :=
  vFieldAddr 0 t2 fun t36 =>
  vLoad1 t36 M fun t37 =>
  vCall cl 10 [t37] M fun t38 M148 =>
  vExt 0 t38 fun t39 =>
  vExt 1 t38 fun t40 =>
  vAlloc 24 4 [.nils, .int .i64 (.int (0)), .int .i64 (.int (0)), .int .i64 (.int (0))] M148 fun t7 M149 =>
  vStoreN 4 t7 t39 M149 fun _ M150 =>
  d3_8 cl m kr kn t1 t2 t5 t6 t7 t40 t511 M150
theorem z3_7 (cl : Cl) (m : Nat) (kr : X → X → Mm → CX) (kn : X → X → Mm → CX) : semK cl m T3_7 (fun F M => kn (gT 511 F) (g4 F) M) (fun _ _ _ => .no) (fun F M => kr (gT 511 F) (g4 F) M) = fun F M => d3_7 cl m kr kn (g1 F) (g2 F) (g5 F) (g6 F) (gT 511 F) M := by
  show semK cl m U3_7 (semK cl m T3_8 (fun F M => kn (gT 511 F) (g4 F) M) (fun _ _ _ => .no) (fun F M => kr (gT 511 F) (g4 F) M)) (fun _ _ _ => .no) (fun F M => kr (gT 511 F) (g4 F) M) = _
  rw [z3_8 cl m kr kn]
  funext F M; kernel_rfl
noncomputable def T3_6 : CT := (.seq U3_6 T3_7)
noncomputable def d3_6 (cl : Cl) (m : Nat) (kr : X → X → Mm → CX) (kn : X → X → Mm → CX) (t1 t2 t5 t6 t511 : X) (M : Mm) : CX :=
  vFieldAddr 0 t6 fun t34 =>
  vStore1 t34 t5 M fun _ M151 =>
  d3_7 cl m kr kn t1 t2 t5 t6 t511 M151
theorem z3_6 (cl : Cl) (m : Nat) (kr : X → X → Mm → CX) (kn : X → X → Mm → CX) : semK cl m T3_6 (fun F M => kn (gT 511 F) (g4 F) M) (fun _ _ _ => .no) (fun F M => kr (gT 511 F) (g4 F) M) = fun F M => d3_6 cl m kr kn (g1 F) (g2 F) (g5 F) (g6 F) (gT 511 F) M := by
  show semK cl m U3_6 (semK cl m T3_7 (fun F M => kn (gT 511 F) (g4 F) M) (fun _ _ _ => .no) (fun F M => kr (gT 511 F) (g4 F) M)) (fun _ _ _ => .no) (fun F M => kr (gT 511 F) (g4 F) M) = _
  rw [z3_7 cl m kr kn]
  funext F M; kernel_rfl
noncomputable def T3_5 : CT := (.seq U3_5 T3_6)
noncomputable def d3_5 (cl : Cl) (m : Nat) (kr : X → X → Mm → CX) (kn : X → X → Mm → CX) (t1 t2 t5 t511 : X) (M : Mm) : CX :=
  vLoadN 4 t2 M fun t32 =>
  vAlloc 24 4 [.nils, .int .i64 (.int (0)), .int .i64 (.int (0)), .int .i64 (.int (0))] M fun t6 M152 =>
  vStoreN 4 t6 t32 M152 fun _ M153 =>
  d3_6 cl m kr kn t1 t2 t5 t6 t511 M153
theorem z3_5 (cl : Cl) (m : Nat) (kr : X → X → Mm → CX) (kn : X → X → Mm → CX) : semK cl m T3_5 (fun F M => kn (gT 511 F) (g4 F) M) (fun _ _ _ => .no) (fun F M => kr (gT 511 F) (g4 F) M) = fun F M => d3_5 cl m kr kn (g1 F) (g2 F) (g5 F) (gT 511 F) M := by
  show semK cl m U3_5 (semK cl m T3_6 (fun F M => kn (gT 511 F) (g4 F) M) (fun _ _ _ => .no) (fun F M => kr (gT 511 F) (g4 F) M)) (fun _ _ _ => .no) (fun F M => kr (gT 511 F) (g4 F) M) = _
  rw [z3_6 cl m kr kn]
  funext F M; kernel_rfl
noncomputable def T3_4 : CT := (.seq U3_4 T3_5)
noncomputable def d3_4 (cl : Cl) (m : Nat) (kr : X → X → Mm → CX) (kn : X → X → Mm → CX) (t1 t2 t5 t511 : X) (M : Mm) : CX :=
  vFieldAddr 0 t2 fun t29 =>
  vLoad1 t29 M fun t30 =>
  vApp prg 22 22 t5 t30 M fun t31 M154 =>
  d3_5 cl m kr kn t1 t2 t31 t511 M154
theorem z3_4 (cl : Cl) (m : Nat) (kr : X → X → Mm → CX) (kn : X → X → Mm → CX) : semK cl m T3_4 (fun F M => kn (gT 511 F) (g4 F) M) (fun _ _ _ => .no) (fun F M => kr (gT 511 F) (g4 F) M) = fun F M => d3_4 cl m kr kn (g1 F) (g2 F) (g5 F) (gT 511 F) M := by
  show semK cl m U3_4 (semK cl m T3_5 (fun F M => kn (gT 511 F) (g4 F) M) (fun _ _ _ => .no) (fun F M => kr (gT 511 F) (g4 F) M)) (fun _ _ _ => .no) (fun F M => kr (gT 511 F) (g4 F) M) = _
  rw [z3_5 cl m kr kn]
  funext F M; kernel_rfl
noncomputable def T3_3 : CT := (.seq U3_3 T3_4)
noncomputable def d3_3 (cl : Cl) (m : Nat) (kr : X → X → Mm → CX) (kn : X → X → Mm → CX) (t1 t2 t511 : X) (M : Mm) : CX :=
  d3_4 cl m kr kn t1 t2 (.v .nils) t511 M
theorem z3_3 (cl : Cl) (m : Nat) (kr : X → X → Mm → CX) (kn : X → X → Mm → CX) : semK cl m T3_3 (fun F M => kn (gT 511 F) (g4 F) M) (fun _ _ _ => .no) (fun F M => kr (gT 511 F) (g4 F) M) = fun F M => d3_3 cl m kr kn (g1 F) (g2 F) (gT 511 F) M := by
  show semK cl m U3_3 (semK cl m T3_4 (fun F M => kn (gT 511 F) (g4 F) M) (fun _ _ _ => .no) (fun F M => kr (gT 511 F) (g4 F) M)) (fun _ _ _ => .no) (fun F M => kr (gT 511 F) (g4 F) M) = _
  rw [z3_4 cl m kr kn]
  funext F M; kernel_rfl
noncomputable def T3_2 : CT := (.seq U3_2 T3_3)
noncomputable def d3_2 (cl : Cl) (m : Nat) (kr : X → X → Mm → CX) (kn : X → X → Mm → CX) (t1 t2 t511 : X) (M : Mm) : CX :=
  vFieldAddr 0 t2 fun t18 =>
  vLoad1 t18 M fun t19 =>
  vLenS t19 fun t20 =>
  vBin .gtr t20 (.i .i64 (20)) fun t21 =>
  vGuard t21 false (fun k => k t1 M) M fun t23 M155 =>
  vGuard t21 false (fun k => vLenS t23 fun y => k y M155) M155 fun t24 M157 =>
  vGuard t21 false (fun k => vBin .gtr t24 (.i .i64 (20)) fun y => k y M157) M157 fun t25 M159 =>
  vPick t21 (.b true) t25 fun t26 =>
  vIf t26 (
    vCall cl 9 [] M159 fun t27 M161 =>
    kr t511 t27 M161) (
  d3_3 cl m kr kn t1 t2 t511 M159)
theorem z3_2 (cl : Cl) (m : Nat) (kr : X → X → Mm → CX) (kn : X → X → Mm → CX) : semK cl m T3_2 (fun F M => kn (gT 511 F) (g4 F) M) (fun _ _ _ => .no) (fun F M => kr (gT 511 F) (g4 F) M) = fun F M => d3_2 cl m kr kn (g1 F) (g2 F) (gT 511 F) M := by
  show semK cl m U3_2 (semK cl m T3_3 (fun F M => kn (gT 511 F) (g4 F) M) (fun _ _ _ => .no) (fun F M => kr (gT 511 F) (g4 F) M)) (fun _ _ _ => .no) (fun F M => kr (gT 511 F) (g4 F) M) = _
  rw [z3_3 cl m kr kn]
  funext F M; kernel_rfl
noncomputable def T3_1 : CT := (.seq U3_1 T3_2)
noncomputable def d3_1 (cl : Cl) (m : Nat) (kr : X → X → Mm → CX) (kn : X → X → Mm → CX) (t0 t1 t511 : X) (M : Mm) : CX :=
  vBox 24 4 t0 M fun t2 M162 =>
  d3_2 cl m kr kn t1 t2 t511 M162
theorem z3_1 (cl : Cl) (m : Nat) (kr : X → X → Mm → CX) (kn : X → X → Mm → CX) : semK cl m T3_1 (fun F M => kn (gT 511 F) (g4 F) M) (fun _ _ _ => .no) (fun F M => kr (gT 511 F) (g4 F) M) = fun F M => d3_1 cl m kr kn (g0 F) (g1 F) (gT 511 F) M := by
  show semK cl m U3_1 (semK cl m T3_2 (fun F M => kn (gT 511 F) (g4 F) M) (fun _ _ _ => .no) (fun F M => kr (gT 511 F) (g4 F) M)) (fun _ _ _ => .no) (fun F M => kr (gT 511 F) (g4 F) M) = _
  rw [z3_2 cl m kr kn]
  funext F M; kernel_rfl
noncomputable def t3 : CT := T3_1
theorem z3 (cl : Cl) (m : Nat) (kr : X → X → Mm → CX) : semK cl m t3 (fun F M => kr (gT 511 F) (g4 F) M) (fun _ _ _ => .no) (fun F M => kr (gT 511 F) (g4 F) M) = fun F M => d3_1 cl m kr kr (g0 F) (g1 F) (gT 511 F) M := z3_1 cl m kr kr
noncomputable def d3 (cl : Cl) (m : Nat) (kr : X → X → Mm → CX) (t0 t1 : X) (M : Mm) : CX :=
  d3_1 cl m kr kr t0 t1 (.v .undef) M
/-! 4: countersign/countersignlaw36.TurnsTakes -/
noncomputable def U4_1 : CT := (.ops [(.box 42 4 g0, s3),
    (.move (kX (.b false)), s6)])
noncomputable def U4_2 : CT := (.seq (.ops [(.move g1, s19),
    (.lenS g19, s20),
    (.bin .gtr g20 (kX (.i .i64 (30))), s21)]) (.cond g21 (.seq (.ops [(.call 9 [], s22),
    (.move g22, s6)]) .ret) .skip))
noncomputable def U4_3 : CT := (.ops [(.move (kX (.i .i64 (0))), s7)])
noncomputable def U4_4 : CT := (.seq (.seq (.ops [(.move g7, s23),
    (.move g1, s24),
    (.lenS g24, s25),
    (.bin .lss g23 g25, s26)]) (.cond g26 .skip (.exit 0))) (.seq (.block 1 (.seq (.ops [(.move g1, s29),
    (.move g7, s30),
    (.indexAddr 1 g29 g30, s31),
    (.load1 g31, s32),
    (.lenS g32, s33),
    (.bin .gtr g33 (kX (.i .i64 (6))), s34)]) (.cond g34 (.seq (.ops [(.call 9 [], s35),
    (.move g35, s6)]) .ret) .skip))) (.ops [(.move g7, s27),
    (.bin .add g27 (kX (.i .i64 (1))), s28),
    (.move g28, s7)])))
noncomputable def T4_6 : CT := (.loop U4_4)
noncomputable def d4_6 (cl : Cl) (m : Nat) (kr : X → X → Mm → CX) (k0 : X → X → X → X → Mm → CX) : Nat → X → X → X → X → X → Mm → CX
  | 0 => fun _ _ _ _ _ _ => .no
  | n + 1 => fun t1 t2 t3 t7 t511 M =>
  vLenS t1 fun t25 =>
  vBin .lss t7 t25 fun t26 =>
  vIf t26 (
  vIndexAddr 1 t1 t7 fun t31 =>
  vLoad1 t31 M fun t32 =>
  vLenS t32 fun t33 =>
  vBin .gtr t33 (.i .i64 (6)) fun t34 =>
  vIf t34 (
    vCall cl 9 [] M fun t35 M1 =>
    kr t511 t35 M1) (
  vBin .add t7 (.i .i64 (1)) fun t28 =>
  d4_6 cl m kr k0 n t1 t2 t3 t28 t511 M)) (
  k0 t1 t2 t3 t511 M)
theorem z4_6 (cl : Cl) (m : Nat) (kr : X → X → Mm → CX) (kn : X → X → X → X → Mm → CX) (k0 : X → X → X → X → Mm → CX) : semK cl m T4_6 (fun F M => kn (g1 F) (g2 F) (g3 F) (gT 511 F) M) (exB 0 (fun F M => k0 (g1 F) (g2 F) (g3 F) (gT 511 F) M) (fun _ _ _ => .no)) (fun F M => kr (gT 511 F) (g6 F) M) = fun F M => d4_6 cl m kr k0 m (g1 F) (g2 F) (g3 F) (g7 F) (gT 511 F) M := by
  have key : ∀ j, loopK (fun q => semK cl m U4_4 q (exB 0 (fun F M => k0 (g1 F) (g2 F) (g3 F) (gT 511 F) M) (fun _ _ _ => .no)) (fun F M => kr (gT 511 F) (g6 F) M)) j = fun F M => d4_6 cl m kr k0 j (g1 F) (g2 F) (g3 F) (g7 F) (gT 511 F) M := by
    intro j
    induction j with
    | zero => rfl
    | succ j ih =>
      show semK cl m U4_4 (loopK (fun q => semK cl m U4_4 q (exB 0 (fun F M => k0 (g1 F) (g2 F) (g3 F) (gT 511 F) M) (fun _ _ _ => .no)) (fun F M => kr (gT 511 F) (g6 F) M)) j) (exB 0 (fun F M => k0 (g1 F) (g2 F) (g3 F) (gT 511 F) M) (fun _ _ _ => .no)) (fun F M => kr (gT 511 F) (g6 F) M) = _
      rw [ih]
      funext F M; kernel_rfl
  exact key m
noncomputable def T4_5 : CT := (.block 0 T4_6)
noncomputable def d4_5 (cl : Cl) (m : Nat) (kr : X → X → Mm → CX) (kn : X → X → X → X → Mm → CX) (t1 t2 t3 t7 t511 : X) (M : Mm) : CX :=
  d4_6 cl m kr kn m t1 t2 t3 t7 t511 M
theorem z4_5 (cl : Cl) (m : Nat) (kr : X → X → Mm → CX) (kn : X → X → X → X → Mm → CX) : semK cl m T4_5 (fun F M => kn (g1 F) (g2 F) (g3 F) (gT 511 F) M) (fun _ _ _ => .no) (fun F M => kr (gT 511 F) (g6 F) M) = fun F M => d4_5 cl m kr kn (g1 F) (g2 F) (g3 F) (g7 F) (gT 511 F) M := by
  show semK cl m T4_6 (fun F M => kn (g1 F) (g2 F) (g3 F) (gT 511 F) M) (exB 0 (fun F M => kn (g1 F) (g2 F) (g3 F) (gT 511 F) M) (fun _ _ _ => .no)) (fun F M => kr (gT 511 F) (g6 F) M) = _
  exact (z4_6 cl m kr kn kn).trans (by funext F M; kernel_rfl)
noncomputable def T4_4 : CT := (.seq U4_3 T4_5)
noncomputable def d4_4 (cl : Cl) (m : Nat) (kr : X → X → Mm → CX) (kn : X → X → X → X → Mm → CX) (t1 t2 t3 t511 : X) (M : Mm) : CX :=
  d4_5 cl m kr kn t1 t2 t3 (.i .i64 (0)) t511 M
theorem z4_4 (cl : Cl) (m : Nat) (kr : X → X → Mm → CX) (kn : X → X → X → X → Mm → CX) : semK cl m T4_4 (fun F M => kn (g1 F) (g2 F) (g3 F) (gT 511 F) M) (fun _ _ _ => .no) (fun F M => kr (gT 511 F) (g6 F) M) = fun F M => d4_4 cl m kr kn (g1 F) (g2 F) (g3 F) (gT 511 F) M := by
  show semK cl m U4_3 (semK cl m T4_5 (fun F M => kn (g1 F) (g2 F) (g3 F) (gT 511 F) M) (fun _ _ _ => .no) (fun F M => kr (gT 511 F) (g6 F) M)) (fun _ _ _ => .no) (fun F M => kr (gT 511 F) (g6 F) M) = _
  rw [z4_5 cl m kr kn]
  funext F M; kernel_rfl
noncomputable def U4_5 : CT := (.ops [(.loadN 4 g3, s36),
    (.call 18 [g36], s37),
    (.alloc 24 4 [.nils, .int .i64 (.int (0)), .int .i64 (.int (0)), .int .i64 (.int (0))], s8),
    (.storeN 4 g8 g37, sN)])
noncomputable def U4_6 : CT := (.ops [(.loadN 4 g8, s39),
    (.move g1, s40),
    (.call 19 [g39, g40], s41),
    (.move g41, s38),
    (.ext 0 g38, s42),
    (.ext 1 g38, s43),
    (.ext 2 g38, s44),
    (.alloc 24 4 [.nils, .int .i64 (.int (0)), .int .i64 (.int (0)), .int .i64 (.int (0))], s9),
    (.storeN 4 g9 g42, sN),
    (.move g43, s10),
    (.move g44, s11)])
noncomputable def U4_7 : CT := (.ops [(.loadN 4 g8, s46),
    (.move g1, s47),
    (.call 20 [g46, g47], s48),
    (.move g48, s45),
    (.ext 0 g45, s49),
    (.ext 1 g45, s50),
    (.ext 2 g45, s51),
    (.alloc 24 4 [.nils, .int .i64 (.int (0)), .int .i64 (.int (0)), .int .i64 (.int (0))], s12),
    (.storeN 4 g12 g49, sN),
    (.move g50, s13),
    (.move g51, s14)])
noncomputable def U4_8 : CT := (.seq (.ops [(.move g14, s52),
    (.move g11, s53),
    (.bin .neq g52 g53, s54),
    (.move g54, s55),
    (.guard g55 false (.loadN 4 g12), s56),
    (.guard g55 false (.loadN 4 g9), s57),
    (.guard g55 false (.call 15 [g56, g57]), s58),
    (.guard g55 false (.move g13), s59),
    (.guard g55 false (.move g10), s60),
    (.guard g55 false (.call 14 [g59, g60]), s61),
    (.guard g55 false (.bin .mul g58 g61), s62),
    (.guard g55 false (.bin .eql g62 (kX (.i .i64 (0)))), s63),
    (.pick g55 (kX (.b true)) g63, s64),
    (.move g64, s65),
    (.guard g65 false (.move g13), s66),
    (.guard g65 false (.cap prg 22 (.tmp 66) 144), s67),
    (.guard g65 false (.move g13), s68),
    (.guard g65 false (.lenS g68), s69),
    (.guard g65 false (.bin .neq g67 g69), s70),
    (.pick g65 (kX (.b true)) g70, s71)]) (.cond g71 (.seq (.ops [(.move (kX (.b false)), s6)]) .ret) .skip))
noncomputable def U4_9 : CT := (.ops [(.move g13, s73),
    (.move g2, s74),
    (.call 21 [g73, g74], s75),
    (.move g75, s72),
    (.ext 0 g72, s76),
    (.ext 1 g72, s77),
    (.move g76, s15),
    (.move g77, s16)])
noncomputable def U4_10 : CT := (.seq (.ops [(.move g2, s78),
    (.bin .lss g78 (kX (.i .i64 (1))), s79),
    (.move g79, s80),
    (.guard g80 false (.move g2), s81),
    (.guard g80 false (.bin .gtr g81 (kX (.i .i64 (16)))), s82),
    (.pick g80 (kX (.b true)) g82, s83)]) (.cond g83 (.seq (.ops [(.move g16, s84),
    (.bin .eql g84 (kX (.i .i64 (4))), s85),
    (.move g85, s86),
    (.guard g86 true (.move g15), s87),
    (.guard g86 true (.lenS g87), s88),
    (.guard g86 true (.bin .eql g88 (kX (.i .i64 (0)))), s89),
    (.pick g86 g89 (kX (.b false)), s90),
    (.move g90, s91),
    (.guard g91 true (.call 9 []), s92),
    (.pick g91 g92 (kX (.b false)), s93),
    (.move g93, s6)]) .ret) .skip))
noncomputable def U4_11 : CT := (.ops [(.move (kX (.i .i64 (0))), s17)])
noncomputable def U4_12 : CT := (.seq (.seq (.ops [(.move g17, s94),
    (.move g10, s95),
    (.lenS g95, s96),
    (.bin .lss g94 g96, s97)]) (.cond g97 .skip (.exit 2))) (.seq (.block 3 (.seq (.ops [(.move g10, s100),
    (.move g17, s101),
    (.indexAddr 1 g100 g101, s102),
    (.load1 g102, s103),
    (.move g2, s104),
    (.bin .geq g103 g104, s105)]) (.cond g105 (.seq (.ops [(.move g16, s106),
    (.bin .eql g106 (kX (.i .i64 (4))), s107),
    (.move g107, s108),
    (.guard g108 true (.move g15), s109),
    (.guard g108 true (.lenS g109), s110),
    (.guard g108 true (.bin .eql g110 (kX (.i .i64 (0)))), s111),
    (.pick g108 g111 (kX (.b false)), s112),
    (.move g112, s113),
    (.guard g113 true (.call 9 []), s114),
    (.pick g113 g114 (kX (.b false)), s115),
    (.move g115, s6)]) .ret) .skip))) (.ops [(.move g17, s98),
    (.bin .add g98 (kX (.i .i64 (1))), s99),
    (.move g99, s17)])))
noncomputable def T4_16 : CT := (.loop U4_12)
noncomputable def d4_16 (cl : Cl) (m : Nat) (kr : X → X → Mm → CX) (k2 : X → X → X → X → X → Mm → CX) : Nat → X → X → X → X → X → X → Mm → CX
  | 0 => fun _ _ _ _ _ _ _ => .no
  | n + 1 => fun t2 t10 t15 t16 t17 t511 M =>
  vLenS t10 fun t96 =>
  vBin .lss t17 t96 fun t97 =>
  vIf t97 (
  vIndexAddr 1 t10 t17 fun t102 =>
  vLoad1 t102 M fun t103 =>
  vBin .geq t103 t2 fun t105 =>
  vIf t105 (
    vBin .eql t16 (.i .i64 (4)) fun t107 =>
    vGuard t107 true (fun k => k t15 M) M fun t109 M2 =>
    vGuard t107 true (fun k => vLenS t109 fun y => k y M2) M2 fun t110 M4 =>
    vGuard t107 true (fun k => vBin .eql t110 (.i .i64 (0)) fun y => k y M4) M4 fun t111 M6 =>
    vPick t107 t111 (.b false) fun t112 =>
    vGuard t112 true (fun k => vCall cl 9 [] M6 fun y M9 => k y M9) M6 fun t114 M8 =>
    vPick t112 t114 (.b false) fun t115 =>
    kr t511 t115 M8) (
  vBin .add t17 (.i .i64 (1)) fun t99 =>
  d4_16 cl m kr k2 n t2 t10 t15 t16 t99 t511 M)) (
  k2 t2 t10 t15 t16 t511 M)
theorem z4_16 (cl : Cl) (m : Nat) (kr : X → X → Mm → CX) (kn : X → X → X → X → X → Mm → CX) (k2 : X → X → X → X → X → Mm → CX) : semK cl m T4_16 (fun F M => kn (g2 F) (g10 F) (g15 F) (g16 F) (gT 511 F) M) (exB 2 (fun F M => k2 (g2 F) (g10 F) (g15 F) (g16 F) (gT 511 F) M) (fun _ _ _ => .no)) (fun F M => kr (gT 511 F) (g6 F) M) = fun F M => d4_16 cl m kr k2 m (g2 F) (g10 F) (g15 F) (g16 F) (g17 F) (gT 511 F) M := by
  have key : ∀ j, loopK (fun q => semK cl m U4_12 q (exB 2 (fun F M => k2 (g2 F) (g10 F) (g15 F) (g16 F) (gT 511 F) M) (fun _ _ _ => .no)) (fun F M => kr (gT 511 F) (g6 F) M)) j = fun F M => d4_16 cl m kr k2 j (g2 F) (g10 F) (g15 F) (g16 F) (g17 F) (gT 511 F) M := by
    intro j
    induction j with
    | zero => rfl
    | succ j ih =>
      show semK cl m U4_12 (loopK (fun q => semK cl m U4_12 q (exB 2 (fun F M => k2 (g2 F) (g10 F) (g15 F) (g16 F) (gT 511 F) M) (fun _ _ _ => .no)) (fun F M => kr (gT 511 F) (g6 F) M)) j) (exB 2 (fun F M => k2 (g2 F) (g10 F) (g15 F) (g16 F) (gT 511 F) M) (fun _ _ _ => .no)) (fun F M => kr (gT 511 F) (g6 F) M) = _
      rw [ih]
      funext F M; kernel_rfl
  exact key m
noncomputable def T4_15 : CT := (.block 2 T4_16)
noncomputable def d4_15 (cl : Cl) (m : Nat) (kr : X → X → Mm → CX) (kn : X → X → X → X → X → Mm → CX) (t2 t10 t15 t16 t17 t511 : X) (M : Mm) : CX :=
  d4_16 cl m kr kn m t2 t10 t15 t16 t17 t511 M
theorem z4_15 (cl : Cl) (m : Nat) (kr : X → X → Mm → CX) (kn : X → X → X → X → X → Mm → CX) : semK cl m T4_15 (fun F M => kn (g2 F) (g10 F) (g15 F) (g16 F) (gT 511 F) M) (fun _ _ _ => .no) (fun F M => kr (gT 511 F) (g6 F) M) = fun F M => d4_15 cl m kr kn (g2 F) (g10 F) (g15 F) (g16 F) (g17 F) (gT 511 F) M := by
  show semK cl m T4_16 (fun F M => kn (g2 F) (g10 F) (g15 F) (g16 F) (gT 511 F) M) (exB 2 (fun F M => kn (g2 F) (g10 F) (g15 F) (g16 F) (gT 511 F) M) (fun _ _ _ => .no)) (fun F M => kr (gT 511 F) (g6 F) M) = _
  exact (z4_16 cl m kr kn kn).trans (by funext F M; kernel_rfl)
noncomputable def T4_14 : CT := (.seq U4_11 T4_15)
noncomputable def d4_14 (cl : Cl) (m : Nat) (kr : X → X → Mm → CX) (kn : X → X → X → X → X → Mm → CX) (t2 t10 t15 t16 t511 : X) (M : Mm) : CX :=
  d4_15 cl m kr kn t2 t10 t15 t16 (.i .i64 (0)) t511 M
theorem z4_14 (cl : Cl) (m : Nat) (kr : X → X → Mm → CX) (kn : X → X → X → X → X → Mm → CX) : semK cl m T4_14 (fun F M => kn (g2 F) (g10 F) (g15 F) (g16 F) (gT 511 F) M) (fun _ _ _ => .no) (fun F M => kr (gT 511 F) (g6 F) M) = fun F M => d4_14 cl m kr kn (g2 F) (g10 F) (g15 F) (g16 F) (gT 511 F) M := by
  show semK cl m U4_11 (semK cl m T4_15 (fun F M => kn (g2 F) (g10 F) (g15 F) (g16 F) (gT 511 F) M) (fun _ _ _ => .no) (fun F M => kr (gT 511 F) (g6 F) M)) (fun _ _ _ => .no) (fun F M => kr (gT 511 F) (g6 F) M) = _
  rw [z4_15 cl m kr kn]
  funext F M; kernel_rfl
noncomputable def U4_13 : CT := (.seq (.ops [(.move g16, s116),
    (.bin .neq g116 (kX (.i .i64 (0))), s117),
    (.move g117, s118),
    (.guard g118 false (.move g15), s119),
    (.guard g118 false (.lenS g119), s120),
    (.guard g118 false (.move g2), s121),
    (.guard g118 false (.bin .neq g120 g121), s122),
    (.pick g118 (kX (.b true)) g122, s123),
    (.move g123, s124),
    (.guard g124 false (.move g15), s125),
    (.guard g124 false (.cap prg 22 (.tmp 125) 144), s126),
    (.guard g124 false (.move g2), s127),
    (.guard g124 false (.bin .neq g126 g127), s128),
    (.pick g124 (kX (.b true)) g128, s129)]) (.cond g129 (.seq (.ops [(.move (kX (.b false)), s6)]) .ret) .skip))
noncomputable def U4_14 : CT := (.seq (.ops [(.call 9 [], s143),
    (.move g143, s6)]) .ret)
noncomputable def U4_15 : CT := (.ops [(.move (kX (.i .i64 (0))), s18)])
noncomputable def U4_16 : CT := (.seq (.seq (.ops [(.move g18, s130),
    (.move g2, s131),
    (.bin .lss g130 g131, s132)]) (.cond g132 .skip (.exit 4))) (.seq (.block 5 (.seq (.draw [⟨.move g15, s135, 0, (some 135), none, false, none⟩,
    ⟨.move g18, s136, 1, (some 136), none, false, none⟩,
    ⟨.indexAddr 1 g135 g136, s137, 2, (some 137), none, false, none⟩,
    ⟨.load1 g137, s138, 3, (some 138), (some g137), false, none⟩,
    ⟨.move g10, s139, 4, (some 139), none, false, none⟩,
    ⟨.move g18, s140, 5, (some 140), none, false, none⟩,
    ⟨.call 22 [g139, g140], s141, 6, (some 141), none, true, (some (none, [0, 1, 2, 3]))⟩,
    ⟨.bin .neq g138 g141, s142, 7, (some 142), none, false, none⟩]) (.cond g142 (.seq (.ops [(.move (kX (.b false)), s6)]) .ret) .skip))) (.ops [(.move g18, s133),
    (.bin .add g133 (kX (.i .i64 (1))), s134),
    (.move g134, s18)])))
noncomputable def T4_21 : CT := (.loop U4_16)
noncomputable def d4_21 (cl : Cl) (m : Nat) (kr : X → X → Mm → CX) (k4 : X → Mm → CX) : Nat → X → X → X → X → X → Mm → CX
  | 0 => fun _ _ _ _ _ _ => .no
  | n + 1 => fun t2 t10 t15 t18 t511 M =>
  vBin .lss t18 t2 fun t132 =>
  vIf t132 (
  jn (fun (n1 : Nat) =>
  chk True <|
  chk (Pst true false t15 M M none) <|
  chk True <|
  chk (Pst true false t18 M M none) <|
  chk True <|
  vIndexAddr 1 t15 t18 fun t137 =>
  chk (Pst true false t137 M M none) <|
  chk (Old n1 t137) <|
  vLoad1 t137 M fun t138 =>
  chk (Pst true false t138 M M none) <|
  chk True <|
  chk (Pst true false t10 M M none) <|
  chk True <|
  chk (Pst true false t18 M M none) <|
  chk True <|
  vCall cl 22 [t10, t18] M fun t141 M10 =>
  chk (Pst true true t141 M M10 (some (none, [t137]))) <|
  chk True <|
  vBin .neq t138 t141 fun t142 =>
  chk (Pst true false t142 M10 M10 none) <|
  vIf t142 (
    kr t511 (.b false) M10) (
  vBin .add t18 (.i .i64 (1)) fun t134 =>
  d4_21 cl m kr k4 n t2 t10 t15 t134 t511 M10)) M.nx) (
  k4 t511 M)
theorem z4_21 (cl : Cl) (m : Nat) (kr : X → X → Mm → CX) (kn : X → Mm → CX) (k4 : X → Mm → CX) : semK cl m T4_21 (fun F M => kn (gT 511 F) M) (exB 4 (fun F M => k4 (gT 511 F) M) (fun _ _ _ => .no)) (fun F M => kr (gT 511 F) (g6 F) M) = fun F M => d4_21 cl m kr k4 m (g2 F) (g10 F) (g15 F) (g18 F) (gT 511 F) M := by
  have key : ∀ j, loopK (fun q => semK cl m U4_16 q (exB 4 (fun F M => k4 (gT 511 F) M) (fun _ _ _ => .no)) (fun F M => kr (gT 511 F) (g6 F) M)) j = fun F M => d4_21 cl m kr k4 j (g2 F) (g10 F) (g15 F) (g18 F) (gT 511 F) M := by
    intro j
    induction j with
    | zero => rfl
    | succ j ih =>
      show semK cl m U4_16 (loopK (fun q => semK cl m U4_16 q (exB 4 (fun F M => k4 (gT 511 F) M) (fun _ _ _ => .no)) (fun F M => kr (gT 511 F) (g6 F) M)) j) (exB 4 (fun F M => k4 (gT 511 F) M) (fun _ _ _ => .no)) (fun F M => kr (gT 511 F) (g6 F) M) = _
      rw [ih]
      funext F M; kernel_rfl
  exact key m
noncomputable def T4_20 : CT := (.block 4 T4_21)
noncomputable def d4_20 (cl : Cl) (m : Nat) (kr : X → X → Mm → CX) (kn : X → Mm → CX) (t2 t10 t15 t18 t511 : X) (M : Mm) : CX :=
  d4_21 cl m kr kn m t2 t10 t15 t18 t511 M
theorem z4_20 (cl : Cl) (m : Nat) (kr : X → X → Mm → CX) (kn : X → Mm → CX) : semK cl m T4_20 (fun F M => kn (gT 511 F) M) (fun _ _ _ => .no) (fun F M => kr (gT 511 F) (g6 F) M) = fun F M => d4_20 cl m kr kn (g2 F) (g10 F) (g15 F) (g18 F) (gT 511 F) M := by
  show semK cl m T4_21 (fun F M => kn (gT 511 F) M) (exB 4 (fun F M => kn (gT 511 F) M) (fun _ _ _ => .no)) (fun F M => kr (gT 511 F) (g6 F) M) = _
  exact (z4_21 cl m kr kn kn).trans (by funext F M; kernel_rfl)
noncomputable def T4_19 : CT := (.seq U4_15 T4_20)
noncomputable def d4_19 (cl : Cl) (m : Nat) (kr : X → X → Mm → CX) (kn : X → Mm → CX) (t2 t10 t15 t511 : X) (M : Mm) : CX :=
  d4_20 cl m kr kn t2 t10 t15 (.i .i64 (0)) t511 M
theorem z4_19 (cl : Cl) (m : Nat) (kr : X → X → Mm → CX) (kn : X → Mm → CX) : semK cl m T4_19 (fun F M => kn (gT 511 F) M) (fun _ _ _ => .no) (fun F M => kr (gT 511 F) (g6 F) M) = fun F M => d4_19 cl m kr kn (g2 F) (g10 F) (g15 F) (gT 511 F) M := by
  show semK cl m U4_15 (semK cl m T4_20 (fun F M => kn (gT 511 F) M) (fun _ _ _ => .no) (fun F M => kr (gT 511 F) (g6 F) M)) (fun _ _ _ => .no) (fun F M => kr (gT 511 F) (g6 F) M) = _
  rw [z4_20 cl m kr kn]
  funext F M; kernel_rfl
noncomputable def T4_18 : CT := (.seq T4_19 U4_14)
noncomputable def d4_18 (cl : Cl) (m : Nat) (kr : X → X → Mm → CX) (kn : X → X → Mm → CX) (t2 t10 t15 t511 : X) (M : Mm) : CX :=
  d4_19 cl m kr (fun t511 M =>
    vCall cl 9 [] M fun t143 M11 =>
    kr t511 t143 M11) t2 t10 t15 t511 M
theorem z4_18 (cl : Cl) (m : Nat) (kr : X → X → Mm → CX) (kn : X → X → Mm → CX) : semK cl m T4_18 (fun F M => kn (gT 511 F) (g6 F) M) (fun _ _ _ => .no) (fun F M => kr (gT 511 F) (g6 F) M) = fun F M => d4_18 cl m kr kn (g2 F) (g10 F) (g15 F) (gT 511 F) M := by
  have hb : semK cl m U4_14 (fun F M => kn (gT 511 F) (g6 F) M) (fun _ _ _ => .no) (fun F M => kr (gT 511 F) (g6 F) M) = fun F M => (fun t511 M =>
    vCall cl 9 [] M fun t143 M11 =>
    kr t511 t143 M11) (gT 511 F) M := by funext F M; kernel_rfl
  show semK cl m T4_19 (semK cl m U4_14 (fun F M => kn (gT 511 F) (g6 F) M) (fun _ _ _ => .no) (fun F M => kr (gT 511 F) (g6 F) M)) (fun _ _ _ => .no) (fun F M => kr (gT 511 F) (g6 F) M) = _
  rw [hb]
  exact (z4_19 cl m kr (fun t511 M =>
    vCall cl 9 [] M fun t143 M11 =>
    kr t511 t143 M11) ).trans (by funext F M; kernel_rfl)
noncomputable def T4_17 : CT := (.seq U4_13 T4_18)
noncomputable def d4_17 (cl : Cl) (m : Nat) (kr : X → X → Mm → CX) (kn : X → X → Mm → CX) (t2 t10 t15 t16 t511 : X) (M : Mm) : CX :=
  vBin .neq t16 (.i .i64 (0)) fun t117 =>
  vGuard t117 false (fun k => k t15 M) M fun t119 M12 =>
  vGuard t117 false (fun k => vLenS t119 fun y => k y M12) M12 fun t120 M14 =>
  vGuard t117 false (fun k => k t2 M14) M14 fun t121 M16 =>
  vGuard t117 false (fun k => vBin .neq t120 t121 fun y => k y M16) M16 fun t122 M18 =>
  vPick t117 (.b true) t122 fun t123 =>
  vGuard t123 false (fun k => k t15 M18) M18 fun t125 M20 =>
  vGuard t123 false (fun k => vCap prg 22 t125 M20 fun y M23 => k y M23) M20 fun t126 M22 =>
  vGuard t123 false (fun k => k t2 M22) M22 fun t127 M24 =>
  vGuard t123 false (fun k => vBin .neq t126 t127 fun y => k y M24) M24 fun t128 M26 =>
  vPick t123 (.b true) t128 fun t129 =>
  vIf t129 (
    kr t511 (.b false) M26) (
  d4_18 cl m kr kn t2 t10 t15 t511 M26)
theorem z4_17 (cl : Cl) (m : Nat) (kr : X → X → Mm → CX) (kn : X → X → Mm → CX) : semK cl m T4_17 (fun F M => kn (gT 511 F) (g6 F) M) (fun _ _ _ => .no) (fun F M => kr (gT 511 F) (g6 F) M) = fun F M => d4_17 cl m kr kn (g2 F) (g10 F) (g15 F) (g16 F) (gT 511 F) M := by
  show semK cl m U4_13 (semK cl m T4_18 (fun F M => kn (gT 511 F) (g6 F) M) (fun _ _ _ => .no) (fun F M => kr (gT 511 F) (g6 F) M)) (fun _ _ _ => .no) (fun F M => kr (gT 511 F) (g6 F) M) = _
  rw [z4_18 cl m kr kn]
  funext F M; kernel_rfl
noncomputable def T4_13 : CT := (.seq T4_14 T4_17)
noncomputable def d4_13 (cl : Cl) (m : Nat) (kr : X → X → Mm → CX) (kn : X → X → Mm → CX) (t2 t10 t15 t16 t511 : X) (M : Mm) : CX :=
  d4_14 cl m kr (fun t2 t10 t15 t16 t511 M => d4_17 cl m kr kn t2 t10 t15 t16 t511 M) t2 t10 t15 t16 t511 M
theorem z4_13 (cl : Cl) (m : Nat) (kr : X → X → Mm → CX) (kn : X → X → Mm → CX) : semK cl m T4_13 (fun F M => kn (gT 511 F) (g6 F) M) (fun _ _ _ => .no) (fun F M => kr (gT 511 F) (g6 F) M) = fun F M => d4_13 cl m kr kn (g2 F) (g10 F) (g15 F) (g16 F) (gT 511 F) M := by
  have hb : semK cl m T4_17 (fun F M => kn (gT 511 F) (g6 F) M) (fun _ _ _ => .no) (fun F M => kr (gT 511 F) (g6 F) M) = fun F M => (fun t2 t10 t15 t16 t511 M => d4_17 cl m kr kn t2 t10 t15 t16 t511 M) (g2 F) (g10 F) (g15 F) (g16 F) (gT 511 F) M := z4_17 cl m kr kn
  show semK cl m T4_14 (semK cl m T4_17 (fun F M => kn (gT 511 F) (g6 F) M) (fun _ _ _ => .no) (fun F M => kr (gT 511 F) (g6 F) M)) (fun _ _ _ => .no) (fun F M => kr (gT 511 F) (g6 F) M) = _
  rw [hb]
  exact (z4_14 cl m kr (fun t2 t10 t15 t16 t511 M => d4_17 cl m kr kn t2 t10 t15 t16 t511 M) ).trans (by funext F M; kernel_rfl)
noncomputable def T4_12 : CT := (.seq U4_10 T4_13)
noncomputable def d4_12 (cl : Cl) (m : Nat) (kr : X → X → Mm → CX) (kn : X → X → Mm → CX) (t2 t10 t15 t16 t511 : X) (M : Mm) : CX :=
  vBin .lss t2 (.i .i64 (1)) fun t79 =>
  vGuard t79 false (fun k => k t2 M) M fun t81 M28 =>
  vGuard t79 false (fun k => vBin .gtr t81 (.i .i64 (16)) fun y => k y M28) M28 fun t82 M30 =>
  vPick t79 (.b true) t82 fun t83 =>
  vIf t83 (
    vBin .eql t16 (.i .i64 (4)) fun t85 =>
    vGuard t85 true (fun k => k t15 M30) M30 fun t87 M32 =>
    vGuard t85 true (fun k => vLenS t87 fun y => k y M32) M32 fun t88 M34 =>
    vGuard t85 true (fun k => vBin .eql t88 (.i .i64 (0)) fun y => k y M34) M34 fun t89 M36 =>
    vPick t85 t89 (.b false) fun t90 =>
    vGuard t90 true (fun k => vCall cl 9 [] M36 fun y M39 => k y M39) M36 fun t92 M38 =>
    vPick t90 t92 (.b false) fun t93 =>
    kr t511 t93 M38) (
  d4_13 cl m kr kn t2 t10 t15 t16 t511 M30)
theorem z4_12 (cl : Cl) (m : Nat) (kr : X → X → Mm → CX) (kn : X → X → Mm → CX) : semK cl m T4_12 (fun F M => kn (gT 511 F) (g6 F) M) (fun _ _ _ => .no) (fun F M => kr (gT 511 F) (g6 F) M) = fun F M => d4_12 cl m kr kn (g2 F) (g10 F) (g15 F) (g16 F) (gT 511 F) M := by
  show semK cl m U4_10 (semK cl m T4_13 (fun F M => kn (gT 511 F) (g6 F) M) (fun _ _ _ => .no) (fun F M => kr (gT 511 F) (g6 F) M)) (fun _ _ _ => .no) (fun F M => kr (gT 511 F) (g6 F) M) = _
  rw [z4_13 cl m kr kn]
  funext F M; kernel_rfl
noncomputable def T4_11 : CT := (.seq U4_9 T4_12)
noncomputable def d4_11 (cl : Cl) (m : Nat) (kr : X → X → Mm → CX) (kn : X → X → Mm → CX) (t2 t10 t13 t511 : X) (M : Mm) : CX :=
  vCall cl 21 [t13, t2] M fun t75 M40 =>
  vExt 0 t75 fun t76 =>
  vExt 1 t75 fun t77 =>
  d4_12 cl m kr kn t2 t10 t76 t77 t511 M40
theorem z4_11 (cl : Cl) (m : Nat) (kr : X → X → Mm → CX) (kn : X → X → Mm → CX) : semK cl m T4_11 (fun F M => kn (gT 511 F) (g6 F) M) (fun _ _ _ => .no) (fun F M => kr (gT 511 F) (g6 F) M) = fun F M => d4_11 cl m kr kn (g2 F) (g10 F) (g13 F) (gT 511 F) M := by
  show semK cl m U4_9 (semK cl m T4_12 (fun F M => kn (gT 511 F) (g6 F) M) (fun _ _ _ => .no) (fun F M => kr (gT 511 F) (g6 F) M)) (fun _ _ _ => .no) (fun F M => kr (gT 511 F) (g6 F) M) = _
  rw [z4_12 cl m kr kn]
  funext F M; kernel_rfl
noncomputable def T4_10 : CT := (.seq U4_8 T4_11)
noncomputable def d4_10 (cl : Cl) (m : Nat) (kr : X → X → Mm → CX) (kn : X → X → Mm → CX) (t2 t9 t10 t11 t12 t13 t14 t511 : X) (M : Mm) : CX :=
  vBin .neq t14 t11 fun t54 =>
  vGuard t54 false (fun k => vLoadN 4 t12 M fun y => k y M) M fun t56 M41 =>
  vGuard t54 false (fun k => vLoadN 4 t9 M41 fun y => k y M41) M41 fun t57 M43 =>
  vGuard t54 false (fun k => vCall cl 15 [t56, t57] M43 fun y M46 => k y M46) M43 fun t58 M45 =>
  vGuard t54 false (fun k => k t13 M45) M45 fun t59 M47 =>
  vGuard t54 false (fun k => k t10 M47) M47 fun t60 M49 =>
  vGuard t54 false (fun k => vCall cl 14 [t59, t60] M49 fun y M52 => k y M52) M49 fun t61 M51 =>
  vGuard t54 false (fun k => vBin .mul t58 t61 fun y => k y M51) M51 fun t62 M53 =>
  vGuard t54 false (fun k => vBin .eql t62 (.i .i64 (0)) fun y => k y M53) M53 fun t63 M55 =>
  vPick t54 (.b true) t63 fun t64 =>
  vGuard t64 false (fun k => k t13 M55) M55 fun t66 M57 =>
  vGuard t64 false (fun k => vCap prg 22 t66 M57 fun y M60 => k y M60) M57 fun t67 M59 =>
  vGuard t64 false (fun k => k t13 M59) M59 fun t68 M61 =>
  vGuard t64 false (fun k => vLenS t68 fun y => k y M61) M61 fun t69 M63 =>
  vGuard t64 false (fun k => vBin .neq t67 t69 fun y => k y M63) M63 fun t70 M65 =>
  vPick t64 (.b true) t70 fun t71 =>
  vIf t71 (
    kr t511 (.b false) M65) (
  d4_11 cl m kr kn t2 t10 t13 t511 M65)
theorem z4_10 (cl : Cl) (m : Nat) (kr : X → X → Mm → CX) (kn : X → X → Mm → CX) : semK cl m T4_10 (fun F M => kn (gT 511 F) (g6 F) M) (fun _ _ _ => .no) (fun F M => kr (gT 511 F) (g6 F) M) = fun F M => d4_10 cl m kr kn (g2 F) (g9 F) (g10 F) (g11 F) (g12 F) (g13 F) (g14 F) (gT 511 F) M := by
  show semK cl m U4_8 (semK cl m T4_11 (fun F M => kn (gT 511 F) (g6 F) M) (fun _ _ _ => .no) (fun F M => kr (gT 511 F) (g6 F) M)) (fun _ _ _ => .no) (fun F M => kr (gT 511 F) (g6 F) M) = _
  rw [z4_11 cl m kr kn]
  funext F M; kernel_rfl
noncomputable def T4_9 : CT := (.seq U4_7 T4_10)
noncomputable def d4_9 (cl : Cl) (m : Nat) (kr : X → X → Mm → CX) (kn : X → X → Mm → CX) (t1 t2 t8 t9 t10 t11 t511 : X) (M : Mm) : CX :=
  vLoadN 4 t8 M fun t46 =>
  vCall cl 20 [t46, t1] M fun t48 M67 =>
  vExt 0 t48 fun t49 =>
  vExt 1 t48 fun t50 =>
  vExt 2 t48 fun t51 =>
  vAlloc 24 4 [.nils, .int .i64 (.int (0)), .int .i64 (.int (0)), .int .i64 (.int (0))] M67 fun t12 M68 =>
  vStoreN 4 t12 t49 M68 fun _ M69 =>
  d4_10 cl m kr kn t2 t9 t10 t11 t12 t50 t51 t511 M69
theorem z4_9 (cl : Cl) (m : Nat) (kr : X → X → Mm → CX) (kn : X → X → Mm → CX) : semK cl m T4_9 (fun F M => kn (gT 511 F) (g6 F) M) (fun _ _ _ => .no) (fun F M => kr (gT 511 F) (g6 F) M) = fun F M => d4_9 cl m kr kn (g1 F) (g2 F) (g8 F) (g9 F) (g10 F) (g11 F) (gT 511 F) M := by
  show semK cl m U4_7 (semK cl m T4_10 (fun F M => kn (gT 511 F) (g6 F) M) (fun _ _ _ => .no) (fun F M => kr (gT 511 F) (g6 F) M)) (fun _ _ _ => .no) (fun F M => kr (gT 511 F) (g6 F) M) = _
  rw [z4_10 cl m kr kn]
  funext F M; kernel_rfl
noncomputable def T4_8 : CT := (.seq U4_6 T4_9)
noncomputable def d4_8 (cl : Cl) (m : Nat) (kr : X → X → Mm → CX) (kn : X → X → Mm → CX) (t1 t2 t8 t511 : X) (M : Mm) : CX :=
  vLoadN 4 t8 M fun t39 =>
  vCall cl 19 [t39, t1] M fun t41 M70 =>
  vExt 0 t41 fun t42 =>
  vExt 1 t41 fun t43 =>
  vExt 2 t41 fun t44 =>
  vAlloc 24 4 [.nils, .int .i64 (.int (0)), .int .i64 (.int (0)), .int .i64 (.int (0))] M70 fun t9 M71 =>
  vStoreN 4 t9 t42 M71 fun _ M72 =>
  d4_9 cl m kr kn t1 t2 t8 t9 t43 t44 t511 M72
theorem z4_8 (cl : Cl) (m : Nat) (kr : X → X → Mm → CX) (kn : X → X → Mm → CX) : semK cl m T4_8 (fun F M => kn (gT 511 F) (g6 F) M) (fun _ _ _ => .no) (fun F M => kr (gT 511 F) (g6 F) M) = fun F M => d4_8 cl m kr kn (g1 F) (g2 F) (g8 F) (gT 511 F) M := by
  show semK cl m U4_6 (semK cl m T4_9 (fun F M => kn (gT 511 F) (g6 F) M) (fun _ _ _ => .no) (fun F M => kr (gT 511 F) (g6 F) M)) (fun _ _ _ => .no) (fun F M => kr (gT 511 F) (g6 F) M) = _
  rw [z4_9 cl m kr kn]
  funext F M; kernel_rfl
noncomputable def T4_7 : CT := (.seq U4_5 T4_8)
noncomputable def d4_7 (cl : Cl) (m : Nat) (kr : X → X → Mm → CX) (kn : X → X → Mm → CX) (t1 t2 t3 t511 : X) (M : Mm) : CX :=
  vLoadN 4 t3 M fun t36 =>
  vCall cl 18 [t36] M fun t37 M73 =>
  vAlloc 24 4 [.nils, .int .i64 (.int (0)), .int .i64 (.int (0)), .int .i64 (.int (0))] M73 fun t8 M74 =>
  vStoreN 4 t8 t37 M74 fun _ M75 =>
  d4_8 cl m kr kn t1 t2 t8 t511 M75
theorem z4_7 (cl : Cl) (m : Nat) (kr : X → X → Mm → CX) (kn : X → X → Mm → CX) : semK cl m T4_7 (fun F M => kn (gT 511 F) (g6 F) M) (fun _ _ _ => .no) (fun F M => kr (gT 511 F) (g6 F) M) = fun F M => d4_7 cl m kr kn (g1 F) (g2 F) (g3 F) (gT 511 F) M := by
  show semK cl m U4_5 (semK cl m T4_8 (fun F M => kn (gT 511 F) (g6 F) M) (fun _ _ _ => .no) (fun F M => kr (gT 511 F) (g6 F) M)) (fun _ _ _ => .no) (fun F M => kr (gT 511 F) (g6 F) M) = _
  rw [z4_8 cl m kr kn]
  funext F M; kernel_rfl
noncomputable def T4_3 : CT := (.seq T4_4 T4_7)
noncomputable def d4_3 (cl : Cl) (m : Nat) (kr : X → X → Mm → CX) (kn : X → X → Mm → CX) (t1 t2 t3 t511 : X) (M : Mm) : CX :=
  d4_4 cl m kr (fun t1 t2 t3 t511 M => d4_7 cl m kr kn t1 t2 t3 t511 M) t1 t2 t3 t511 M
theorem z4_3 (cl : Cl) (m : Nat) (kr : X → X → Mm → CX) (kn : X → X → Mm → CX) : semK cl m T4_3 (fun F M => kn (gT 511 F) (g6 F) M) (fun _ _ _ => .no) (fun F M => kr (gT 511 F) (g6 F) M) = fun F M => d4_3 cl m kr kn (g1 F) (g2 F) (g3 F) (gT 511 F) M := by
  have hb : semK cl m T4_7 (fun F M => kn (gT 511 F) (g6 F) M) (fun _ _ _ => .no) (fun F M => kr (gT 511 F) (g6 F) M) = fun F M => (fun t1 t2 t3 t511 M => d4_7 cl m kr kn t1 t2 t3 t511 M) (g1 F) (g2 F) (g3 F) (gT 511 F) M := z4_7 cl m kr kn
  show semK cl m T4_4 (semK cl m T4_7 (fun F M => kn (gT 511 F) (g6 F) M) (fun _ _ _ => .no) (fun F M => kr (gT 511 F) (g6 F) M)) (fun _ _ _ => .no) (fun F M => kr (gT 511 F) (g6 F) M) = _
  rw [hb]
  exact (z4_4 cl m kr (fun t1 t2 t3 t511 M => d4_7 cl m kr kn t1 t2 t3 t511 M) ).trans (by funext F M; kernel_rfl)
noncomputable def T4_2 : CT := (.seq U4_2 T4_3)
noncomputable def d4_2 (cl : Cl) (m : Nat) (kr : X → X → Mm → CX) (kn : X → X → Mm → CX) (t1 t2 t3 t511 : X) (M : Mm) : CX :=
  vLenS t1 fun t20 =>
  vBin .gtr t20 (.i .i64 (30)) fun t21 =>
  vIf t21 (
    vCall cl 9 [] M fun t22 M76 =>
    kr t511 t22 M76) (
  d4_3 cl m kr kn t1 t2 t3 t511 M)
theorem z4_2 (cl : Cl) (m : Nat) (kr : X → X → Mm → CX) (kn : X → X → Mm → CX) : semK cl m T4_2 (fun F M => kn (gT 511 F) (g6 F) M) (fun _ _ _ => .no) (fun F M => kr (gT 511 F) (g6 F) M) = fun F M => d4_2 cl m kr kn (g1 F) (g2 F) (g3 F) (gT 511 F) M := by
  show semK cl m U4_2 (semK cl m T4_3 (fun F M => kn (gT 511 F) (g6 F) M) (fun _ _ _ => .no) (fun F M => kr (gT 511 F) (g6 F) M)) (fun _ _ _ => .no) (fun F M => kr (gT 511 F) (g6 F) M) = _
  rw [z4_3 cl m kr kn]
  funext F M; kernel_rfl
noncomputable def T4_1 : CT := (.seq U4_1 T4_2)
noncomputable def d4_1 (cl : Cl) (m : Nat) (kr : X → X → Mm → CX) (kn : X → X → Mm → CX) (t0 t1 t2 t511 : X) (M : Mm) : CX :=
  vBox 42 4 t0 M fun t3 M77 =>
  d4_2 cl m kr kn t1 t2 t3 t511 M77
theorem z4_1 (cl : Cl) (m : Nat) (kr : X → X → Mm → CX) (kn : X → X → Mm → CX) : semK cl m T4_1 (fun F M => kn (gT 511 F) (g6 F) M) (fun _ _ _ => .no) (fun F M => kr (gT 511 F) (g6 F) M) = fun F M => d4_1 cl m kr kn (g0 F) (g1 F) (g2 F) (gT 511 F) M := by
  show semK cl m U4_1 (semK cl m T4_2 (fun F M => kn (gT 511 F) (g6 F) M) (fun _ _ _ => .no) (fun F M => kr (gT 511 F) (g6 F) M)) (fun _ _ _ => .no) (fun F M => kr (gT 511 F) (g6 F) M) = _
  rw [z4_2 cl m kr kn]
  funext F M; kernel_rfl
noncomputable def t4 : CT := T4_1
theorem z4 (cl : Cl) (m : Nat) (kr : X → X → Mm → CX) : semK cl m t4 (fun F M => kr (gT 511 F) (g6 F) M) (fun _ _ _ => .no) (fun F M => kr (gT 511 F) (g6 F) M) = fun F M => d4_1 cl m kr kr (g0 F) (g1 F) (g2 F) (gT 511 F) M := z4_1 cl m kr kr
noncomputable def d4 (cl : Cl) (m : Nat) (kr : X → X → Mm → CX) (t0 t1 t2 : X) (M : Mm) : CX :=
  d4_1 cl m kr kr t0 t1 t2 (.v .undef) M
/-! 6: countersign/countersignlaw36.TurnsServed -/
noncomputable def U6_1 : CT := (.ops [(.box 42 4 g0, s2),
    (.move (kX (.b false)), s4)])
noncomputable def U6_2 : CT := (.ops [(.loadN 4 g2, s17),
    (.call 18 [g17], s18),
    (.alloc 24 4 [.nils, .int .i64 (.int (0)), .int .i64 (.int (0)), .int .i64 (.int (0))], s5),
    (.storeN 4 g5 g18, sN)])
noncomputable def U6_3 : CT := (.ops [(.move g1, s19),
    (.fieldAddr 0 g5, s20),
    (.load1 g20, s21),
    (.lenS g21, s22),
    (.call 23 [g19, g22], s23),
    (.move g23, s6)])
noncomputable def U6_4 : CT := (.ops [(.loadN 4 g5, s25),
    (.move g6, s26),
    (.call 20 [g25, g26], s27),
    (.move g27, s24),
    (.ext 0 g24, s28),
    (.ext 1 g24, s29),
    (.ext 2 g24, s30),
    (.alloc 24 4 [.nils, .int .i64 (.int (0)), .int .i64 (.int (0)), .int .i64 (.int (0))], s7),
    (.storeN 4 g7 g28, sN),
    (.move g29, s8),
    (.move g30, s9)])
noncomputable def U6_5 : CT := (.seq (.ops [(.move g9, s31),
    (.bin .neq g31 (kX (.i .i64 (0))), s32),
    (.move g32, s33),
    (.guard g33 false (.move g8), s34),
    (.guard g33 false (.lenS g34), s35),
    (.guard g33 false (.move g6), s36),
    (.guard g33 false (.lenS g36), s37),
    (.guard g33 false (.bin .neq g35 g37), s38),
    (.pick g33 (kX (.b true)) g38, s39)]) (.cond g39 (.seq (.ops [(.move (kX (.b false)), s4)]) .ret) .skip))
noncomputable def U6_6 : CT := (.ops [(.move (kX (.i .i64 (0))), s10)])
noncomputable def U6_7 : CT := (.ops [(.move (kX (.i .i64 (0))), s11)])
noncomputable def U6_8 : CT := (.seq (.seq (.ops [(.move g11, s40),
    (.fieldAddr 0 g5, s41),
    (.load1 g41, s42),
    (.lenS g42, s43),
    (.bin .lss g40 g43, s44)]) (.cond g44 .skip (.exit 0))) (.seq (.block 1 (.ops [(.move g10, s47),
    (.fieldAddr 0 g5, s48),
    (.load1 g48, s49),
    (.move g11, s50),
    (.indexAddr 1 g49 g50, s51),
    (.load1 g51, s52),
    (.bin .add g47 g52, s53),
    (.move g53, s10)])) (.ops [(.move g11, s45),
    (.bin .add g45 (kX (.i .i64 (1))), s46),
    (.move g46, s11)])))
noncomputable def T6_10 : CT := (.loop U6_8)
noncomputable def d6_10 (cl : Cl) (m : Nat) (kr : X → X → Mm → CX) (k0 : X → X → X → X → X → Mm → CX) : Nat → X → X → X → X → X → X → Mm → CX
  | 0 => fun _ _ _ _ _ _ _ => .no
  | n + 1 => fun t5 t6 t8 t10 t11 t511 M =>
  vFieldAddr 0 t5 fun t41 =>
  vLoad1 t41 M fun t42 =>
  vLenS t42 fun t43 =>
  vBin .lss t11 t43 fun t44 =>
  vIf t44 (
  vFieldAddr 0 t5 fun t48 =>
  vLoad1 t48 M fun t49 =>
  vIndexAddr 1 t49 t11 fun t51 =>
  vLoad1 t51 M fun t52 =>
  vBin .add t10 t52 fun t53 =>
  vBin .add t11 (.i .i64 (1)) fun t46 =>
  d6_10 cl m kr k0 n t5 t6 t8 t53 t46 t511 M) (
  k0 t5 t6 t8 t10 t511 M)
theorem z6_10 (cl : Cl) (m : Nat) (kr : X → X → Mm → CX) (kn : X → X → X → X → X → Mm → CX) (k0 : X → X → X → X → X → Mm → CX) : semK cl m T6_10 (fun F M => kn (g5 F) (g6 F) (g8 F) (g10 F) (gT 511 F) M) (exB 0 (fun F M => k0 (g5 F) (g6 F) (g8 F) (g10 F) (gT 511 F) M) (fun _ _ _ => .no)) (fun F M => kr (gT 511 F) (g4 F) M) = fun F M => d6_10 cl m kr k0 m (g5 F) (g6 F) (g8 F) (g10 F) (g11 F) (gT 511 F) M := by
  have key : ∀ j, loopK (fun q => semK cl m U6_8 q (exB 0 (fun F M => k0 (g5 F) (g6 F) (g8 F) (g10 F) (gT 511 F) M) (fun _ _ _ => .no)) (fun F M => kr (gT 511 F) (g4 F) M)) j = fun F M => d6_10 cl m kr k0 j (g5 F) (g6 F) (g8 F) (g10 F) (g11 F) (gT 511 F) M := by
    intro j
    induction j with
    | zero => rfl
    | succ j ih =>
      show semK cl m U6_8 (loopK (fun q => semK cl m U6_8 q (exB 0 (fun F M => k0 (g5 F) (g6 F) (g8 F) (g10 F) (gT 511 F) M) (fun _ _ _ => .no)) (fun F M => kr (gT 511 F) (g4 F) M)) j) (exB 0 (fun F M => k0 (g5 F) (g6 F) (g8 F) (g10 F) (gT 511 F) M) (fun _ _ _ => .no)) (fun F M => kr (gT 511 F) (g4 F) M) = _
      rw [ih]
      funext F M; kernel_rfl
  exact key m
noncomputable def T6_9 : CT := (.block 0 T6_10)
noncomputable def d6_9 (cl : Cl) (m : Nat) (kr : X → X → Mm → CX) (kn : X → X → X → X → X → Mm → CX) (t5 t6 t8 t10 t11 t511 : X) (M : Mm) : CX :=
  d6_10 cl m kr kn m t5 t6 t8 t10 t11 t511 M
theorem z6_9 (cl : Cl) (m : Nat) (kr : X → X → Mm → CX) (kn : X → X → X → X → X → Mm → CX) : semK cl m T6_9 (fun F M => kn (g5 F) (g6 F) (g8 F) (g10 F) (gT 511 F) M) (fun _ _ _ => .no) (fun F M => kr (gT 511 F) (g4 F) M) = fun F M => d6_9 cl m kr kn (g5 F) (g6 F) (g8 F) (g10 F) (g11 F) (gT 511 F) M := by
  show semK cl m T6_10 (fun F M => kn (g5 F) (g6 F) (g8 F) (g10 F) (gT 511 F) M) (exB 0 (fun F M => kn (g5 F) (g6 F) (g8 F) (g10 F) (gT 511 F) M) (fun _ _ _ => .no)) (fun F M => kr (gT 511 F) (g4 F) M) = _
  exact (z6_10 cl m kr kn kn).trans (by funext F M; kernel_rfl)
noncomputable def T6_8 : CT := (.seq U6_7 T6_9)
noncomputable def d6_8 (cl : Cl) (m : Nat) (kr : X → X → Mm → CX) (kn : X → X → X → X → X → Mm → CX) (t5 t6 t8 t10 t511 : X) (M : Mm) : CX :=
  d6_9 cl m kr kn t5 t6 t8 t10 (.i .i64 (0)) t511 M
theorem z6_8 (cl : Cl) (m : Nat) (kr : X → X → Mm → CX) (kn : X → X → X → X → X → Mm → CX) : semK cl m T6_8 (fun F M => kn (g5 F) (g6 F) (g8 F) (g10 F) (gT 511 F) M) (fun _ _ _ => .no) (fun F M => kr (gT 511 F) (g4 F) M) = fun F M => d6_8 cl m kr kn (g5 F) (g6 F) (g8 F) (g10 F) (gT 511 F) M := by
  show semK cl m U6_7 (semK cl m T6_9 (fun F M => kn (g5 F) (g6 F) (g8 F) (g10 F) (gT 511 F) M) (fun _ _ _ => .no) (fun F M => kr (gT 511 F) (g4 F) M)) (fun _ _ _ => .no) (fun F M => kr (gT 511 F) (g4 F) M) = _
  rw [z6_9 cl m kr kn]
  funext F M; kernel_rfl
noncomputable def U6_9 : CT := (.seq (.ops [(.call 9 [], s142),
    (.move g142, s4)]) .ret)
noncomputable def U6_10 : CT := (.ops [(.move (kX (.i .i64 (0))), s12)])
noncomputable def U6_11 : CT := (.seq (.ops [(.move g12, s54),
    (.move g6, s55),
    (.lenS g55, s56),
    (.bin .lss g54 g56, s57)]) (.cond g57 .skip (.exit 2)))
noncomputable def U6_12 : CT := (.ops [(.move g12, s58),
    (.bin .add g58 (kX (.i .i64 (1))), s59),
    (.move g59, s12)])
noncomputable def U6_13 : CT := (.ops [(.move (kX (.b false)), s13)])
noncomputable def U6_14 : CT := (.ops [(.move (kX (.i .i64 (0))), s14)])
noncomputable def U6_15 : CT := (.seq (.seq (.ops [(.move g14, s60),
    (.move g6, s61),
    (.move g12, s62),
    (.indexAddr 1 g61 g62, s63),
    (.load1 g63, s64),
    (.lenS g64, s65),
    (.bin .lss g60 g65, s66)]) (.cond g66 .skip (.exit 4))) (.seq (.block 5 (.ops [(.move g13, s69),
    (.move g69, s70),
    (.guard g70 false (.move g6), s71),
    (.guard g70 false (.move g12), s72),
    (.guard g70 false (.indexAddr 1 g71 g72), s73),
    (.guard g70 false (.load1 g73), s74),
    (.guard g70 false (.move g14), s75),
    (.guard g70 false (.indexAddr 1 g74 g75), s76),
    (.guard g70 false (.load1 g76), s77),
    (.pick g70 (kX (.b true)) g77, s78),
    (.move g78, s13)])) (.ops [(.move g14, s67),
    (.bin .add g67 (kX (.i .i64 (1))), s68),
    (.move g68, s14)])))
noncomputable def T6_22 : CT := (.loop U6_15)
noncomputable def d6_22 (cl : Cl) (m : Nat) (kr : X → X → Mm → CX) (k4 : X → X → X → X → X → X → X → Mm → CX) (k3 : X → X → X → X → X → X → Mm → CX) (k2 : X → Mm → CX) : Nat → X → X → X → X → X → X → X → X → Mm → CX
  | 0 => fun _ _ _ _ _ _ _ _ _ => .no
  | n + 1 => fun t5 t6 t8 t10 t12 t13 t14 t511 M =>
  vIndexAddr 1 t6 t12 fun t63 =>
  vLoad1 t63 M fun t64 =>
  vLenS t64 fun t65 =>
  vBin .lss t14 t65 fun t66 =>
  vIf t66 (
  vGuard t13 false (fun k => k t6 M) M fun t71 M1 =>
  vGuard t13 false (fun k => k t12 M1) M1 fun t72 M3 =>
  vGuard t13 false (fun k => vIndexAddr 1 t71 t72 fun y => k y M3) M3 fun t73 M5 =>
  vGuard t13 false (fun k => vLoad1 t73 M5 fun y => k y M5) M5 fun t74 M7 =>
  vGuard t13 false (fun k => k t14 M7) M7 fun t75 M9 =>
  vGuard t13 false (fun k => vIndexAddr 1 t74 t75 fun y => k y M9) M9 fun t76 M11 =>
  vGuard t13 false (fun k => vLoad1 t76 M11 fun y => k y M11) M11 fun t77 M13 =>
  vPick t13 (.b true) t77 fun t78 =>
  vBin .add t14 (.i .i64 (1)) fun t68 =>
  d6_22 cl m kr k4 k3 k2 n t5 t6 t8 t10 t12 t78 t68 t511 M13) (
  k4 t5 t6 t8 t10 t12 t13 t511 M)
theorem z6_22 (cl : Cl) (m : Nat) (kr : X → X → Mm → CX) (kn : X → X → X → X → X → X → X → Mm → CX) (k4 : X → X → X → X → X → X → X → Mm → CX) (k3 : X → X → X → X → X → X → Mm → CX) (k2 : X → Mm → CX) : semK cl m T6_22 (fun F M => kn (g5 F) (g6 F) (g8 F) (g10 F) (g12 F) (g13 F) (gT 511 F) M) (exB 4 (fun F M => k4 (g5 F) (g6 F) (g8 F) (g10 F) (g12 F) (g13 F) (gT 511 F) M) (exB 3 (fun F M => k3 (g5 F) (g6 F) (g8 F) (g10 F) (g12 F) (gT 511 F) M) (exB 2 (fun F M => k2 (gT 511 F) M) (fun _ _ _ => .no)))) (fun F M => kr (gT 511 F) (g4 F) M) = fun F M => d6_22 cl m kr k4 k3 k2 m (g5 F) (g6 F) (g8 F) (g10 F) (g12 F) (g13 F) (g14 F) (gT 511 F) M := by
  have key : ∀ j, loopK (fun q => semK cl m U6_15 q (exB 4 (fun F M => k4 (g5 F) (g6 F) (g8 F) (g10 F) (g12 F) (g13 F) (gT 511 F) M) (exB 3 (fun F M => k3 (g5 F) (g6 F) (g8 F) (g10 F) (g12 F) (gT 511 F) M) (exB 2 (fun F M => k2 (gT 511 F) M) (fun _ _ _ => .no)))) (fun F M => kr (gT 511 F) (g4 F) M)) j = fun F M => d6_22 cl m kr k4 k3 k2 j (g5 F) (g6 F) (g8 F) (g10 F) (g12 F) (g13 F) (g14 F) (gT 511 F) M := by
    intro j
    induction j with
    | zero => rfl
    | succ j ih =>
      show semK cl m U6_15 (loopK (fun q => semK cl m U6_15 q (exB 4 (fun F M => k4 (g5 F) (g6 F) (g8 F) (g10 F) (g12 F) (g13 F) (gT 511 F) M) (exB 3 (fun F M => k3 (g5 F) (g6 F) (g8 F) (g10 F) (g12 F) (gT 511 F) M) (exB 2 (fun F M => k2 (gT 511 F) M) (fun _ _ _ => .no)))) (fun F M => kr (gT 511 F) (g4 F) M)) j) (exB 4 (fun F M => k4 (g5 F) (g6 F) (g8 F) (g10 F) (g12 F) (g13 F) (gT 511 F) M) (exB 3 (fun F M => k3 (g5 F) (g6 F) (g8 F) (g10 F) (g12 F) (gT 511 F) M) (exB 2 (fun F M => k2 (gT 511 F) M) (fun _ _ _ => .no)))) (fun F M => kr (gT 511 F) (g4 F) M) = _
      rw [ih]
      funext F M; kernel_rfl
  exact key m
noncomputable def T6_21 : CT := (.block 4 T6_22)
noncomputable def d6_21 (cl : Cl) (m : Nat) (kr : X → X → Mm → CX) (kn : X → X → X → X → X → X → X → Mm → CX) (k3 : X → X → X → X → X → X → Mm → CX) (k2 : X → Mm → CX) (t5 t6 t8 t10 t12 t13 t14 t511 : X) (M : Mm) : CX :=
  d6_22 cl m kr kn k3 k2 m t5 t6 t8 t10 t12 t13 t14 t511 M
theorem z6_21 (cl : Cl) (m : Nat) (kr : X → X → Mm → CX) (kn : X → X → X → X → X → X → X → Mm → CX) (k3 : X → X → X → X → X → X → Mm → CX) (k2 : X → Mm → CX) : semK cl m T6_21 (fun F M => kn (g5 F) (g6 F) (g8 F) (g10 F) (g12 F) (g13 F) (gT 511 F) M) (exB 3 (fun F M => k3 (g5 F) (g6 F) (g8 F) (g10 F) (g12 F) (gT 511 F) M) (exB 2 (fun F M => k2 (gT 511 F) M) (fun _ _ _ => .no))) (fun F M => kr (gT 511 F) (g4 F) M) = fun F M => d6_21 cl m kr kn k3 k2 (g5 F) (g6 F) (g8 F) (g10 F) (g12 F) (g13 F) (g14 F) (gT 511 F) M := by
  show semK cl m T6_22 (fun F M => kn (g5 F) (g6 F) (g8 F) (g10 F) (g12 F) (g13 F) (gT 511 F) M) (exB 4 (fun F M => kn (g5 F) (g6 F) (g8 F) (g10 F) (g12 F) (g13 F) (gT 511 F) M) (exB 3 (fun F M => k3 (g5 F) (g6 F) (g8 F) (g10 F) (g12 F) (gT 511 F) M) (exB 2 (fun F M => k2 (gT 511 F) M) (fun _ _ _ => .no)))) (fun F M => kr (gT 511 F) (g4 F) M) = _
  exact (z6_22 cl m kr kn kn k3 k2).trans (by funext F M; kernel_rfl)
noncomputable def T6_20 : CT := (.seq U6_14 T6_21)
noncomputable def d6_20 (cl : Cl) (m : Nat) (kr : X → X → Mm → CX) (kn : X → X → X → X → X → X → X → Mm → CX) (k3 : X → X → X → X → X → X → Mm → CX) (k2 : X → Mm → CX) (t5 t6 t8 t10 t12 t13 t511 : X) (M : Mm) : CX :=
  d6_21 cl m kr kn k3 k2 t5 t6 t8 t10 t12 t13 (.i .i64 (0)) t511 M
theorem z6_20 (cl : Cl) (m : Nat) (kr : X → X → Mm → CX) (kn : X → X → X → X → X → X → X → Mm → CX) (k3 : X → X → X → X → X → X → Mm → CX) (k2 : X → Mm → CX) : semK cl m T6_20 (fun F M => kn (g5 F) (g6 F) (g8 F) (g10 F) (g12 F) (g13 F) (gT 511 F) M) (exB 3 (fun F M => k3 (g5 F) (g6 F) (g8 F) (g10 F) (g12 F) (gT 511 F) M) (exB 2 (fun F M => k2 (gT 511 F) M) (fun _ _ _ => .no))) (fun F M => kr (gT 511 F) (g4 F) M) = fun F M => d6_20 cl m kr kn k3 k2 (g5 F) (g6 F) (g8 F) (g10 F) (g12 F) (g13 F) (gT 511 F) M := by
  show semK cl m U6_14 (semK cl m T6_21 (fun F M => kn (g5 F) (g6 F) (g8 F) (g10 F) (g12 F) (g13 F) (gT 511 F) M) (exB 3 (fun F M => k3 (g5 F) (g6 F) (g8 F) (g10 F) (g12 F) (gT 511 F) M) (exB 2 (fun F M => k2 (gT 511 F) M) (fun _ _ _ => .no))) (fun F M => kr (gT 511 F) (g4 F) M)) (exB 3 (fun F M => k3 (g5 F) (g6 F) (g8 F) (g10 F) (g12 F) (gT 511 F) M) (exB 2 (fun F M => k2 (gT 511 F) M) (fun _ _ _ => .no))) (fun F M => kr (gT 511 F) (g4 F) M) = _
  rw [z6_21 cl m kr kn k3 k2]
  funext F M; kernel_rfl
noncomputable def U6_16 : CT := (.seq (.ops [(.move g8, s79),
    (.move g12, s80),
    (.indexAddr 1 g79 g80, s81),
    (.load1 g81, s82),
    (.move g82, s15)]) (.seq (.ops [(.move g13, s83),
    (.move g15, s84),
    (.bin .geq g84 (kX (.i .i64 (0))), s85),
    (.binG prg .neq 4 4 (.tmp 83) (.tmp 85) 143, s86),
    (.move g86, s87),
    (.guard g87 false (.move g15), s88),
    (.guard g87 false (.move g6), s89),
    (.guard g87 false (.move g12), s90),
    (.guard g87 false (.indexAddr 1 g89 g90), s91),
    (.guard g87 false (.load1 g91), s92),
    (.guard g87 false (.lenS g92), s93),
    (.guard g87 false (.bin .geq g88 g93), s94),
    (.pick g87 (kX (.b true)) g94, s95),
    (.move g95, s96),
    (.guard g96 false (.move g13), s97),
    (.guard g96 false (.move g97), s98),
    (.guard g98 true (.move g6), s99),
    (.guard g98 true (.move g12), s100),
    (.guard g98 true (.indexAddr 1 g99 g100), s101),
    (.guard g98 true (.load1 g101), s102),
    (.guard g98 true (.move g15), s103),
    (.guard g98 true (.indexAddr 1 g102 g103), s104),
    (.guard g98 true (.load1 g104), s105),
    (.guard g98 true (.not g105), s106),
    (.guard g96 false (.pick g98 g106 (kX (.b false))), s107),
    (.pick g96 (kX (.b true)) g107, s108)]) (.cond g108 (.seq (.ops [(.move (kX (.b false)), s4)]) .ret) .skip)))
noncomputable def U6_17 : CT := (.seq (.ops [(.move g12, s109),
    (.move g10, s110),
    (.bin .add g109 g110, s111),
    (.move g6, s112),
    (.lenS g112, s113),
    (.bin .gtr g111 g113, s114)]) (.cond g114 (.exit 3) .skip))
noncomputable def U6_18 : CT := (.ops [(.move (kX (.i .i64 (0))), s16)])
noncomputable def U6_19 : CT := (.seq (.seq (.ops [(.move g16, s115),
    (.fieldAddr 0 g5, s116),
    (.load1 g116, s117),
    (.lenS g117, s118),
    (.bin .lss g115 g118, s119)]) (.cond g119 .skip (.exit 6))) (.seq (.block 7 (.seq (.ops [(.move g6, s122),
    (.move g12, s123),
    (.move g12, s124),
    (.move g10, s125),
    (.bin .add g124 g125, s126),
    (.slice prg 43 (.tmp 122) (some (.tmp 123)) (some (.tmp 126)) none 143, s127),
    (.move g16, s128),
    (.call 26 [g127, g128], s129),
    (.bin .eql g129 (kX (.i .i64 (1))), s130),
    (.move g130, s131),
    (.guard g131 true (.move g8), s132),
    (.guard g131 true (.move g12), s133),
    (.guard g131 true (.move g12), s134),
    (.guard g131 true (.move g10), s135),
    (.guard g131 true (.bin .add g134 g135), s136),
    (.guard g131 true (.slice prg 22 (.tmp 132) (some (.tmp 133)) (some (.tmp 136)) none 143), s137),
    (.guard g131 true (.move g16), s138),
    (.guard g131 true (.call 22 [g137, g138]), s139),
    (.guard g131 true (.bin .eql g139 (kX (.i .i64 (0)))), s140),
    (.pick g131 g140 (kX (.b false)), s141)]) (.cond g141 (.seq (.ops [(.move (kX (.b false)), s4)]) .ret) .skip))) (.ops [(.move g16, s120),
    (.bin .add g120 (kX (.i .i64 (1))), s121),
    (.move g121, s16)])))
noncomputable def T6_27 : CT := (.loop U6_19)
noncomputable def d6_27 (cl : Cl) (m : Nat) (kr : X → X → Mm → CX) (k6 : X → X → X → X → X → X → Mm → CX) (k3 : X → X → X → X → X → X → Mm → CX) (k2 : X → Mm → CX) : Nat → X → X → X → X → X → X → X → Mm → CX
  | 0 => fun _ _ _ _ _ _ _ _ => .no
  | n + 1 => fun t5 t6 t8 t10 t12 t16 t511 M =>
  vFieldAddr 0 t5 fun t116 =>
  vLoad1 t116 M fun t117 =>
  vLenS t117 fun t118 =>
  vBin .lss t16 t118 fun t119 =>
  vIf t119 (
  vBin .add t12 t10 fun t126 =>
  vSlice prg 43 t6 (some t12) (some t126) none M fun t127 M15 =>
  vCall cl 26 [t127, t16] M15 fun t129 M16 =>
  vBin .eql t129 (.i .i64 (1)) fun t130 =>
  vGuard t130 true (fun k => k t8 M16) M16 fun t132 M17 =>
  vGuard t130 true (fun k => k t12 M17) M17 fun t133 M19 =>
  vGuard t130 true (fun k => k t12 M19) M19 fun t134 M21 =>
  vGuard t130 true (fun k => k t10 M21) M21 fun t135 M23 =>
  vGuard t130 true (fun k => vBin .add t134 t135 fun y => k y M23) M23 fun t136 M25 =>
  vGuard t130 true (fun k => vSlice prg 22 t132 (some t133) (some t136) none M25 fun y M28 => k y M28) M25 fun t137 M27 =>
  vGuard t130 true (fun k => k t16 M27) M27 fun t138 M29 =>
  vGuard t130 true (fun k => vCall cl 22 [t137, t138] M29 fun y M32 => k y M32) M29 fun t139 M31 =>
  vGuard t130 true (fun k => vBin .eql t139 (.i .i64 (0)) fun y => k y M31) M31 fun t140 M33 =>
  vPick t130 t140 (.b false) fun t141 =>
  vIf t141 (
    kr t511 (.b false) M33) (
  vBin .add t16 (.i .i64 (1)) fun t121 =>
  d6_27 cl m kr k6 k3 k2 n t5 t6 t8 t10 t12 t121 t511 M33)) (
  k6 t5 t6 t8 t10 t12 t511 M)
theorem z6_27 (cl : Cl) (m : Nat) (kr : X → X → Mm → CX) (kn : X → X → X → X → X → X → Mm → CX) (k6 : X → X → X → X → X → X → Mm → CX) (k3 : X → X → X → X → X → X → Mm → CX) (k2 : X → Mm → CX) : semK cl m T6_27 (fun F M => kn (g5 F) (g6 F) (g8 F) (g10 F) (g12 F) (gT 511 F) M) (exB 6 (fun F M => k6 (g5 F) (g6 F) (g8 F) (g10 F) (g12 F) (gT 511 F) M) (exB 3 (fun F M => k3 (g5 F) (g6 F) (g8 F) (g10 F) (g12 F) (gT 511 F) M) (exB 2 (fun F M => k2 (gT 511 F) M) (fun _ _ _ => .no)))) (fun F M => kr (gT 511 F) (g4 F) M) = fun F M => d6_27 cl m kr k6 k3 k2 m (g5 F) (g6 F) (g8 F) (g10 F) (g12 F) (g16 F) (gT 511 F) M := by
  have key : ∀ j, loopK (fun q => semK cl m U6_19 q (exB 6 (fun F M => k6 (g5 F) (g6 F) (g8 F) (g10 F) (g12 F) (gT 511 F) M) (exB 3 (fun F M => k3 (g5 F) (g6 F) (g8 F) (g10 F) (g12 F) (gT 511 F) M) (exB 2 (fun F M => k2 (gT 511 F) M) (fun _ _ _ => .no)))) (fun F M => kr (gT 511 F) (g4 F) M)) j = fun F M => d6_27 cl m kr k6 k3 k2 j (g5 F) (g6 F) (g8 F) (g10 F) (g12 F) (g16 F) (gT 511 F) M := by
    intro j
    induction j with
    | zero => rfl
    | succ j ih =>
      show semK cl m U6_19 (loopK (fun q => semK cl m U6_19 q (exB 6 (fun F M => k6 (g5 F) (g6 F) (g8 F) (g10 F) (g12 F) (gT 511 F) M) (exB 3 (fun F M => k3 (g5 F) (g6 F) (g8 F) (g10 F) (g12 F) (gT 511 F) M) (exB 2 (fun F M => k2 (gT 511 F) M) (fun _ _ _ => .no)))) (fun F M => kr (gT 511 F) (g4 F) M)) j) (exB 6 (fun F M => k6 (g5 F) (g6 F) (g8 F) (g10 F) (g12 F) (gT 511 F) M) (exB 3 (fun F M => k3 (g5 F) (g6 F) (g8 F) (g10 F) (g12 F) (gT 511 F) M) (exB 2 (fun F M => k2 (gT 511 F) M) (fun _ _ _ => .no)))) (fun F M => kr (gT 511 F) (g4 F) M) = _
      rw [ih]
      funext F M; kernel_rfl
  exact key m
noncomputable def T6_26 : CT := (.block 6 T6_27)
noncomputable def d6_26 (cl : Cl) (m : Nat) (kr : X → X → Mm → CX) (kn : X → X → X → X → X → X → Mm → CX) (k3 : X → X → X → X → X → X → Mm → CX) (k2 : X → Mm → CX) (t5 t6 t8 t10 t12 t16 t511 : X) (M : Mm) : CX :=
  d6_27 cl m kr kn k3 k2 m t5 t6 t8 t10 t12 t16 t511 M
theorem z6_26 (cl : Cl) (m : Nat) (kr : X → X → Mm → CX) (kn : X → X → X → X → X → X → Mm → CX) (k3 : X → X → X → X → X → X → Mm → CX) (k2 : X → Mm → CX) : semK cl m T6_26 (fun F M => kn (g5 F) (g6 F) (g8 F) (g10 F) (g12 F) (gT 511 F) M) (exB 3 (fun F M => k3 (g5 F) (g6 F) (g8 F) (g10 F) (g12 F) (gT 511 F) M) (exB 2 (fun F M => k2 (gT 511 F) M) (fun _ _ _ => .no))) (fun F M => kr (gT 511 F) (g4 F) M) = fun F M => d6_26 cl m kr kn k3 k2 (g5 F) (g6 F) (g8 F) (g10 F) (g12 F) (g16 F) (gT 511 F) M := by
  show semK cl m T6_27 (fun F M => kn (g5 F) (g6 F) (g8 F) (g10 F) (g12 F) (gT 511 F) M) (exB 6 (fun F M => kn (g5 F) (g6 F) (g8 F) (g10 F) (g12 F) (gT 511 F) M) (exB 3 (fun F M => k3 (g5 F) (g6 F) (g8 F) (g10 F) (g12 F) (gT 511 F) M) (exB 2 (fun F M => k2 (gT 511 F) M) (fun _ _ _ => .no)))) (fun F M => kr (gT 511 F) (g4 F) M) = _
  exact (z6_27 cl m kr kn kn k3 k2).trans (by funext F M; kernel_rfl)
noncomputable def T6_25 : CT := (.seq U6_18 T6_26)
noncomputable def d6_25 (cl : Cl) (m : Nat) (kr : X → X → Mm → CX) (kn : X → X → X → X → X → X → Mm → CX) (k3 : X → X → X → X → X → X → Mm → CX) (k2 : X → Mm → CX) (t5 t6 t8 t10 t12 t511 : X) (M : Mm) : CX :=
  d6_26 cl m kr kn k3 k2 t5 t6 t8 t10 t12 (.i .i64 (0)) t511 M
theorem z6_25 (cl : Cl) (m : Nat) (kr : X → X → Mm → CX) (kn : X → X → X → X → X → X → Mm → CX) (k3 : X → X → X → X → X → X → Mm → CX) (k2 : X → Mm → CX) : semK cl m T6_25 (fun F M => kn (g5 F) (g6 F) (g8 F) (g10 F) (g12 F) (gT 511 F) M) (exB 3 (fun F M => k3 (g5 F) (g6 F) (g8 F) (g10 F) (g12 F) (gT 511 F) M) (exB 2 (fun F M => k2 (gT 511 F) M) (fun _ _ _ => .no))) (fun F M => kr (gT 511 F) (g4 F) M) = fun F M => d6_25 cl m kr kn k3 k2 (g5 F) (g6 F) (g8 F) (g10 F) (g12 F) (gT 511 F) M := by
  show semK cl m U6_18 (semK cl m T6_26 (fun F M => kn (g5 F) (g6 F) (g8 F) (g10 F) (g12 F) (gT 511 F) M) (exB 3 (fun F M => k3 (g5 F) (g6 F) (g8 F) (g10 F) (g12 F) (gT 511 F) M) (exB 2 (fun F M => k2 (gT 511 F) M) (fun _ _ _ => .no))) (fun F M => kr (gT 511 F) (g4 F) M)) (exB 3 (fun F M => k3 (g5 F) (g6 F) (g8 F) (g10 F) (g12 F) (gT 511 F) M) (exB 2 (fun F M => k2 (gT 511 F) M) (fun _ _ _ => .no))) (fun F M => kr (gT 511 F) (g4 F) M) = _
  rw [z6_26 cl m kr kn k3 k2]
  funext F M; kernel_rfl
noncomputable def T6_24 : CT := (.seq U6_17 T6_25)
noncomputable def d6_24 (cl : Cl) (m : Nat) (kr : X → X → Mm → CX) (kn : X → X → X → X → X → X → Mm → CX) (k3 : X → X → X → X → X → X → Mm → CX) (k2 : X → Mm → CX) (t5 t6 t8 t10 t12 t511 : X) (M : Mm) : CX :=
  vBin .add t12 t10 fun t111 =>
  vLenS t6 fun t113 =>
  vBin .gtr t111 t113 fun t114 =>
  vIf t114 (
  k3 t5 t6 t8 t10 t12 t511 M) (
  d6_25 cl m kr kn k3 k2 t5 t6 t8 t10 t12 t511 M)
theorem z6_24 (cl : Cl) (m : Nat) (kr : X → X → Mm → CX) (kn : X → X → X → X → X → X → Mm → CX) (k3 : X → X → X → X → X → X → Mm → CX) (k2 : X → Mm → CX) : semK cl m T6_24 (fun F M => kn (g5 F) (g6 F) (g8 F) (g10 F) (g12 F) (gT 511 F) M) (exB 3 (fun F M => k3 (g5 F) (g6 F) (g8 F) (g10 F) (g12 F) (gT 511 F) M) (exB 2 (fun F M => k2 (gT 511 F) M) (fun _ _ _ => .no))) (fun F M => kr (gT 511 F) (g4 F) M) = fun F M => d6_24 cl m kr kn k3 k2 (g5 F) (g6 F) (g8 F) (g10 F) (g12 F) (gT 511 F) M := by
  show semK cl m U6_17 (semK cl m T6_25 (fun F M => kn (g5 F) (g6 F) (g8 F) (g10 F) (g12 F) (gT 511 F) M) (exB 3 (fun F M => k3 (g5 F) (g6 F) (g8 F) (g10 F) (g12 F) (gT 511 F) M) (exB 2 (fun F M => k2 (gT 511 F) M) (fun _ _ _ => .no))) (fun F M => kr (gT 511 F) (g4 F) M)) (exB 3 (fun F M => k3 (g5 F) (g6 F) (g8 F) (g10 F) (g12 F) (gT 511 F) M) (exB 2 (fun F M => k2 (gT 511 F) M) (fun _ _ _ => .no))) (fun F M => kr (gT 511 F) (g4 F) M) = _
  rw [z6_25 cl m kr kn k3 k2]
  funext F M; kernel_rfl
noncomputable def T6_23 : CT := (.seq U6_16 T6_24)
noncomputable def d6_23 (cl : Cl) (m : Nat) (kr : X → X → Mm → CX) (kn : X → X → X → X → X → X → Mm → CX) (k3 : X → X → X → X → X → X → Mm → CX) (k2 : X → Mm → CX) (t5 t6 t8 t10 t12 t13 t511 : X) (M : Mm) : CX :=
  vIndexAddr 1 t8 t12 fun t81 =>
  vLoad1 t81 M fun t82 =>
  vBin .geq t82 (.i .i64 (0)) fun t85 =>
  vBinG prg .neq 4 t13 t85 M fun t86 M35 =>
  vGuard t86 false (fun k => k t82 M35) M35 fun t88 M36 =>
  vGuard t86 false (fun k => k t6 M36) M36 fun t89 M38 =>
  vGuard t86 false (fun k => k t12 M38) M38 fun t90 M40 =>
  vGuard t86 false (fun k => vIndexAddr 1 t89 t90 fun y => k y M40) M40 fun t91 M42 =>
  vGuard t86 false (fun k => vLoad1 t91 M42 fun y => k y M42) M42 fun t92 M44 =>
  vGuard t86 false (fun k => vLenS t92 fun y => k y M44) M44 fun t93 M46 =>
  vGuard t86 false (fun k => vBin .geq t88 t93 fun y => k y M46) M46 fun t94 M48 =>
  vPick t86 (.b true) t94 fun t95 =>
  vGuard t95 false (fun k => k t13 M48) M48 fun t97 M50 =>
  vGuard t95 false (fun k => k t97 M50) M50 fun t98 M52 =>
  vGuard t98 true (fun k => k t6 M52) M52 fun t99 M54 =>
  vGuard t98 true (fun k => k t12 M54) M54 fun t100 M56 =>
  vGuard t98 true (fun k => vIndexAddr 1 t99 t100 fun y => k y M56) M56 fun t101 M58 =>
  vGuard t98 true (fun k => vLoad1 t101 M58 fun y => k y M58) M58 fun t102 M60 =>
  vGuard t98 true (fun k => k t82 M60) M60 fun t103 M62 =>
  vGuard t98 true (fun k => vIndexAddr 1 t102 t103 fun y => k y M62) M62 fun t104 M64 =>
  vGuard t98 true (fun k => vLoad1 t104 M64 fun y => k y M64) M64 fun t105 M66 =>
  vGuard t98 true (fun k => vNot t105 fun y => k y M66) M66 fun t106 M68 =>
  vGuard t95 false (fun k => vPick t98 t106 (.b false) fun y => k y M68) M68 fun t107 M70 =>
  vPick t95 (.b true) t107 fun t108 =>
  vIf t108 (
    kr t511 (.b false) M70) (
  d6_24 cl m kr kn k3 k2 t5 t6 t8 t10 t12 t511 M70)
theorem z6_23 (cl : Cl) (m : Nat) (kr : X → X → Mm → CX) (kn : X → X → X → X → X → X → Mm → CX) (k3 : X → X → X → X → X → X → Mm → CX) (k2 : X → Mm → CX) : semK cl m T6_23 (fun F M => kn (g5 F) (g6 F) (g8 F) (g10 F) (g12 F) (gT 511 F) M) (exB 3 (fun F M => k3 (g5 F) (g6 F) (g8 F) (g10 F) (g12 F) (gT 511 F) M) (exB 2 (fun F M => k2 (gT 511 F) M) (fun _ _ _ => .no))) (fun F M => kr (gT 511 F) (g4 F) M) = fun F M => d6_23 cl m kr kn k3 k2 (g5 F) (g6 F) (g8 F) (g10 F) (g12 F) (g13 F) (gT 511 F) M := by
  show semK cl m U6_16 (semK cl m T6_24 (fun F M => kn (g5 F) (g6 F) (g8 F) (g10 F) (g12 F) (gT 511 F) M) (exB 3 (fun F M => k3 (g5 F) (g6 F) (g8 F) (g10 F) (g12 F) (gT 511 F) M) (exB 2 (fun F M => k2 (gT 511 F) M) (fun _ _ _ => .no))) (fun F M => kr (gT 511 F) (g4 F) M)) (exB 3 (fun F M => k3 (g5 F) (g6 F) (g8 F) (g10 F) (g12 F) (gT 511 F) M) (exB 2 (fun F M => k2 (gT 511 F) M) (fun _ _ _ => .no))) (fun F M => kr (gT 511 F) (g4 F) M) = _
  rw [z6_24 cl m kr kn k3 k2]
  funext F M; kernel_rfl
noncomputable def T6_19 : CT := (.seq T6_20 T6_23)
noncomputable def d6_19 (cl : Cl) (m : Nat) (kr : X → X → Mm → CX) (kn : X → X → X → X → X → X → Mm → CX) (k3 : X → X → X → X → X → X → Mm → CX) (k2 : X → Mm → CX) (t5 t6 t8 t10 t12 t13 t511 : X) (M : Mm) : CX :=
  d6_20 cl m kr (fun t5 t6 t8 t10 t12 t13 t511 M => d6_23 cl m kr kn k3 k2 t5 t6 t8 t10 t12 t13 t511 M) k3 k2 t5 t6 t8 t10 t12 t13 t511 M
theorem z6_19 (cl : Cl) (m : Nat) (kr : X → X → Mm → CX) (kn : X → X → X → X → X → X → Mm → CX) (k3 : X → X → X → X → X → X → Mm → CX) (k2 : X → Mm → CX) : semK cl m T6_19 (fun F M => kn (g5 F) (g6 F) (g8 F) (g10 F) (g12 F) (gT 511 F) M) (exB 3 (fun F M => k3 (g5 F) (g6 F) (g8 F) (g10 F) (g12 F) (gT 511 F) M) (exB 2 (fun F M => k2 (gT 511 F) M) (fun _ _ _ => .no))) (fun F M => kr (gT 511 F) (g4 F) M) = fun F M => d6_19 cl m kr kn k3 k2 (g5 F) (g6 F) (g8 F) (g10 F) (g12 F) (g13 F) (gT 511 F) M := by
  have hb : semK cl m T6_23 (fun F M => kn (g5 F) (g6 F) (g8 F) (g10 F) (g12 F) (gT 511 F) M) (exB 3 (fun F M => k3 (g5 F) (g6 F) (g8 F) (g10 F) (g12 F) (gT 511 F) M) (exB 2 (fun F M => k2 (gT 511 F) M) (fun _ _ _ => .no))) (fun F M => kr (gT 511 F) (g4 F) M) = fun F M => (fun t5 t6 t8 t10 t12 t13 t511 M => d6_23 cl m kr kn k3 k2 t5 t6 t8 t10 t12 t13 t511 M) (g5 F) (g6 F) (g8 F) (g10 F) (g12 F) (g13 F) (gT 511 F) M := z6_23 cl m kr kn k3 k2
  show semK cl m T6_20 (semK cl m T6_23 (fun F M => kn (g5 F) (g6 F) (g8 F) (g10 F) (g12 F) (gT 511 F) M) (exB 3 (fun F M => k3 (g5 F) (g6 F) (g8 F) (g10 F) (g12 F) (gT 511 F) M) (exB 2 (fun F M => k2 (gT 511 F) M) (fun _ _ _ => .no))) (fun F M => kr (gT 511 F) (g4 F) M)) (exB 3 (fun F M => k3 (g5 F) (g6 F) (g8 F) (g10 F) (g12 F) (gT 511 F) M) (exB 2 (fun F M => k2 (gT 511 F) M) (fun _ _ _ => .no))) (fun F M => kr (gT 511 F) (g4 F) M) = _
  rw [hb]
  exact (z6_20 cl m kr (fun t5 t6 t8 t10 t12 t13 t511 M => d6_23 cl m kr kn k3 k2 t5 t6 t8 t10 t12 t13 t511 M) k3 k2).trans (by funext F M; kernel_rfl)
noncomputable def T6_18 : CT := (.seq U6_13 T6_19)
noncomputable def d6_18 (cl : Cl) (m : Nat) (kr : X → X → Mm → CX) (kn : X → X → X → X → X → X → Mm → CX) (k3 : X → X → X → X → X → X → Mm → CX) (k2 : X → Mm → CX) (t5 t6 t8 t10 t12 t511 : X) (M : Mm) : CX :=
  d6_19 cl m kr kn k3 k2 t5 t6 t8 t10 t12 (.b false) t511 M
theorem z6_18 (cl : Cl) (m : Nat) (kr : X → X → Mm → CX) (kn : X → X → X → X → X → X → Mm → CX) (k3 : X → X → X → X → X → X → Mm → CX) (k2 : X → Mm → CX) : semK cl m T6_18 (fun F M => kn (g5 F) (g6 F) (g8 F) (g10 F) (g12 F) (gT 511 F) M) (exB 3 (fun F M => k3 (g5 F) (g6 F) (g8 F) (g10 F) (g12 F) (gT 511 F) M) (exB 2 (fun F M => k2 (gT 511 F) M) (fun _ _ _ => .no))) (fun F M => kr (gT 511 F) (g4 F) M) = fun F M => d6_18 cl m kr kn k3 k2 (g5 F) (g6 F) (g8 F) (g10 F) (g12 F) (gT 511 F) M := by
  show semK cl m U6_13 (semK cl m T6_19 (fun F M => kn (g5 F) (g6 F) (g8 F) (g10 F) (g12 F) (gT 511 F) M) (exB 3 (fun F M => k3 (g5 F) (g6 F) (g8 F) (g10 F) (g12 F) (gT 511 F) M) (exB 2 (fun F M => k2 (gT 511 F) M) (fun _ _ _ => .no))) (fun F M => kr (gT 511 F) (g4 F) M)) (exB 3 (fun F M => k3 (g5 F) (g6 F) (g8 F) (g10 F) (g12 F) (gT 511 F) M) (exB 2 (fun F M => k2 (gT 511 F) M) (fun _ _ _ => .no))) (fun F M => kr (gT 511 F) (g4 F) M) = _
  rw [z6_19 cl m kr kn k3 k2]
  funext F M; kernel_rfl
noncomputable def T6_17 : CT := (.block 3 T6_18)
noncomputable def d6_17 (cl : Cl) (m : Nat) (kr : X → X → Mm → CX) (kn : X → X → X → X → X → X → Mm → CX) (k2 : X → Mm → CX) (t5 t6 t8 t10 t12 t511 : X) (M : Mm) : CX :=
  d6_18 cl m kr kn kn k2 t5 t6 t8 t10 t12 t511 M
theorem z6_17 (cl : Cl) (m : Nat) (kr : X → X → Mm → CX) (kn : X → X → X → X → X → X → Mm → CX) (k2 : X → Mm → CX) : semK cl m T6_17 (fun F M => kn (g5 F) (g6 F) (g8 F) (g10 F) (g12 F) (gT 511 F) M) (exB 2 (fun F M => k2 (gT 511 F) M) (fun _ _ _ => .no)) (fun F M => kr (gT 511 F) (g4 F) M) = fun F M => d6_17 cl m kr kn k2 (g5 F) (g6 F) (g8 F) (g10 F) (g12 F) (gT 511 F) M := by
  show semK cl m T6_18 (fun F M => kn (g5 F) (g6 F) (g8 F) (g10 F) (g12 F) (gT 511 F) M) (exB 3 (fun F M => kn (g5 F) (g6 F) (g8 F) (g10 F) (g12 F) (gT 511 F) M) (exB 2 (fun F M => k2 (gT 511 F) M) (fun _ _ _ => .no))) (fun F M => kr (gT 511 F) (g4 F) M) = _
  exact (z6_18 cl m kr kn kn k2).trans (by funext F M; kernel_rfl)
noncomputable def T6_16 : CT := (.seq T6_17 U6_12)
noncomputable def d6_16 (cl : Cl) (m : Nat) (kr : X → X → Mm → CX) (kn : X → X → X → X → X → X → Mm → CX) (k2 : X → Mm → CX) (t5 t6 t8 t10 t12 t511 : X) (M : Mm) : CX :=
  d6_17 cl m kr (fun t5 t6 t8 t10 t12 t511 M =>
    vBin .add t12 (.i .i64 (1)) fun t59 =>
    kn t5 t6 t8 t10 t59 t511 M) k2 t5 t6 t8 t10 t12 t511 M
theorem z6_16 (cl : Cl) (m : Nat) (kr : X → X → Mm → CX) (kn : X → X → X → X → X → X → Mm → CX) (k2 : X → Mm → CX) : semK cl m T6_16 (fun F M => kn (g5 F) (g6 F) (g8 F) (g10 F) (g12 F) (gT 511 F) M) (exB 2 (fun F M => k2 (gT 511 F) M) (fun _ _ _ => .no)) (fun F M => kr (gT 511 F) (g4 F) M) = fun F M => d6_16 cl m kr kn k2 (g5 F) (g6 F) (g8 F) (g10 F) (g12 F) (gT 511 F) M := by
  have hb : semK cl m U6_12 (fun F M => kn (g5 F) (g6 F) (g8 F) (g10 F) (g12 F) (gT 511 F) M) (exB 2 (fun F M => k2 (gT 511 F) M) (fun _ _ _ => .no)) (fun F M => kr (gT 511 F) (g4 F) M) = fun F M => (fun t5 t6 t8 t10 t12 t511 M =>
    vBin .add t12 (.i .i64 (1)) fun t59 =>
    kn t5 t6 t8 t10 t59 t511 M) (g5 F) (g6 F) (g8 F) (g10 F) (g12 F) (gT 511 F) M := by funext F M; kernel_rfl
  show semK cl m T6_17 (semK cl m U6_12 (fun F M => kn (g5 F) (g6 F) (g8 F) (g10 F) (g12 F) (gT 511 F) M) (exB 2 (fun F M => k2 (gT 511 F) M) (fun _ _ _ => .no)) (fun F M => kr (gT 511 F) (g4 F) M)) (exB 2 (fun F M => k2 (gT 511 F) M) (fun _ _ _ => .no)) (fun F M => kr (gT 511 F) (g4 F) M) = _
  rw [hb]
  exact (z6_17 cl m kr (fun t5 t6 t8 t10 t12 t511 M =>
    vBin .add t12 (.i .i64 (1)) fun t59 =>
    kn t5 t6 t8 t10 t59 t511 M) k2).trans (by funext F M; kernel_rfl)
noncomputable def T6_15 : CT := (.seq U6_11 T6_16)
noncomputable def d6_15 (cl : Cl) (m : Nat) (kr : X → X → Mm → CX) (kn : X → X → X → X → X → X → Mm → CX) (k2 : X → Mm → CX) (t5 t6 t8 t10 t12 t511 : X) (M : Mm) : CX :=
  vLenS t6 fun t56 =>
  vBin .lss t12 t56 fun t57 =>
  vIf t57 (
  d6_16 cl m kr kn k2 t5 t6 t8 t10 t12 t511 M) (
  k2 t511 M)
theorem z6_15 (cl : Cl) (m : Nat) (kr : X → X → Mm → CX) (kn : X → X → X → X → X → X → Mm → CX) (k2 : X → Mm → CX) : semK cl m T6_15 (fun F M => kn (g5 F) (g6 F) (g8 F) (g10 F) (g12 F) (gT 511 F) M) (exB 2 (fun F M => k2 (gT 511 F) M) (fun _ _ _ => .no)) (fun F M => kr (gT 511 F) (g4 F) M) = fun F M => d6_15 cl m kr kn k2 (g5 F) (g6 F) (g8 F) (g10 F) (g12 F) (gT 511 F) M := by
  show semK cl m U6_11 (semK cl m T6_16 (fun F M => kn (g5 F) (g6 F) (g8 F) (g10 F) (g12 F) (gT 511 F) M) (exB 2 (fun F M => k2 (gT 511 F) M) (fun _ _ _ => .no)) (fun F M => kr (gT 511 F) (g4 F) M)) (exB 2 (fun F M => k2 (gT 511 F) M) (fun _ _ _ => .no)) (fun F M => kr (gT 511 F) (g4 F) M) = _
  rw [z6_16 cl m kr kn k2]
  funext F M; kernel_rfl
noncomputable def T6_14 : CT := (.loop T6_15)
noncomputable def d6_14 (cl : Cl) (m : Nat) (kr : X → X → Mm → CX) (k2 : X → Mm → CX) : Nat → X → X → X → X → X → X → Mm → CX
  | 0 => fun _ _ _ _ _ _ _ => .no
  | n + 1 => fun t5 t6 t8 t10 t12 t511 M =>
  d6_15 cl m kr (d6_14 cl m kr k2 n) k2 t5 t6 t8 t10 t12 t511 M
theorem z6_14 (cl : Cl) (m : Nat) (kr : X → X → Mm → CX) (kn : X → Mm → CX) (k2 : X → Mm → CX) : semK cl m T6_14 (fun F M => kn (gT 511 F) M) (exB 2 (fun F M => k2 (gT 511 F) M) (fun _ _ _ => .no)) (fun F M => kr (gT 511 F) (g4 F) M) = fun F M => d6_14 cl m kr k2 m (g5 F) (g6 F) (g8 F) (g10 F) (g12 F) (gT 511 F) M := by
  have key : ∀ j, loopK (fun q => semK cl m T6_15 q (exB 2 (fun F M => k2 (gT 511 F) M) (fun _ _ _ => .no)) (fun F M => kr (gT 511 F) (g4 F) M)) j = fun F M => d6_14 cl m kr k2 j (g5 F) (g6 F) (g8 F) (g10 F) (g12 F) (gT 511 F) M := by
    intro j
    induction j with
    | zero => rfl
    | succ j ih =>
      show semK cl m T6_15 (loopK (fun q => semK cl m T6_15 q (exB 2 (fun F M => k2 (gT 511 F) M) (fun _ _ _ => .no)) (fun F M => kr (gT 511 F) (g4 F) M)) j) (exB 2 (fun F M => k2 (gT 511 F) M) (fun _ _ _ => .no)) (fun F M => kr (gT 511 F) (g4 F) M) = _
      rw [ih]
      exact (z6_15 cl m kr (d6_14 cl m kr k2 j) k2).trans (by funext F M; kernel_rfl)
  exact key m
noncomputable def T6_13 : CT := (.block 2 T6_14)
noncomputable def d6_13 (cl : Cl) (m : Nat) (kr : X → X → Mm → CX) (kn : X → Mm → CX) (t5 t6 t8 t10 t12 t511 : X) (M : Mm) : CX :=
  d6_14 cl m kr kn m t5 t6 t8 t10 t12 t511 M
theorem z6_13 (cl : Cl) (m : Nat) (kr : X → X → Mm → CX) (kn : X → Mm → CX) : semK cl m T6_13 (fun F M => kn (gT 511 F) M) (fun _ _ _ => .no) (fun F M => kr (gT 511 F) (g4 F) M) = fun F M => d6_13 cl m kr kn (g5 F) (g6 F) (g8 F) (g10 F) (g12 F) (gT 511 F) M := by
  show semK cl m T6_14 (fun F M => kn (gT 511 F) M) (exB 2 (fun F M => kn (gT 511 F) M) (fun _ _ _ => .no)) (fun F M => kr (gT 511 F) (g4 F) M) = _
  exact (z6_14 cl m kr kn kn).trans (by funext F M; kernel_rfl)
noncomputable def T6_12 : CT := (.seq U6_10 T6_13)
noncomputable def d6_12 (cl : Cl) (m : Nat) (kr : X → X → Mm → CX) (kn : X → Mm → CX) (t5 t6 t8 t10 t511 : X) (M : Mm) : CX :=
  d6_13 cl m kr kn t5 t6 t8 t10 (.i .i64 (0)) t511 M
theorem z6_12 (cl : Cl) (m : Nat) (kr : X → X → Mm → CX) (kn : X → Mm → CX) : semK cl m T6_12 (fun F M => kn (gT 511 F) M) (fun _ _ _ => .no) (fun F M => kr (gT 511 F) (g4 F) M) = fun F M => d6_12 cl m kr kn (g5 F) (g6 F) (g8 F) (g10 F) (gT 511 F) M := by
  show semK cl m U6_10 (semK cl m T6_13 (fun F M => kn (gT 511 F) M) (fun _ _ _ => .no) (fun F M => kr (gT 511 F) (g4 F) M)) (fun _ _ _ => .no) (fun F M => kr (gT 511 F) (g4 F) M) = _
  rw [z6_13 cl m kr kn]
  funext F M; kernel_rfl
noncomputable def T6_11 : CT := (.seq T6_12 U6_9)
noncomputable def d6_11 (cl : Cl) (m : Nat) (kr : X → X → Mm → CX) (kn : X → X → Mm → CX) (t5 t6 t8 t10 t511 : X) (M : Mm) : CX :=
  d6_12 cl m kr (fun t511 M =>
    vCall cl 9 [] M fun t142 M72 =>
    kr t511 t142 M72) t5 t6 t8 t10 t511 M
theorem z6_11 (cl : Cl) (m : Nat) (kr : X → X → Mm → CX) (kn : X → X → Mm → CX) : semK cl m T6_11 (fun F M => kn (gT 511 F) (g4 F) M) (fun _ _ _ => .no) (fun F M => kr (gT 511 F) (g4 F) M) = fun F M => d6_11 cl m kr kn (g5 F) (g6 F) (g8 F) (g10 F) (gT 511 F) M := by
  have hb : semK cl m U6_9 (fun F M => kn (gT 511 F) (g4 F) M) (fun _ _ _ => .no) (fun F M => kr (gT 511 F) (g4 F) M) = fun F M => (fun t511 M =>
    vCall cl 9 [] M fun t142 M72 =>
    kr t511 t142 M72) (gT 511 F) M := by funext F M; kernel_rfl
  show semK cl m T6_12 (semK cl m U6_9 (fun F M => kn (gT 511 F) (g4 F) M) (fun _ _ _ => .no) (fun F M => kr (gT 511 F) (g4 F) M)) (fun _ _ _ => .no) (fun F M => kr (gT 511 F) (g4 F) M) = _
  rw [hb]
  exact (z6_12 cl m kr (fun t511 M =>
    vCall cl 9 [] M fun t142 M72 =>
    kr t511 t142 M72) ).trans (by funext F M; kernel_rfl)
noncomputable def T6_7 : CT := (.seq T6_8 T6_11)
noncomputable def d6_7 (cl : Cl) (m : Nat) (kr : X → X → Mm → CX) (kn : X → X → Mm → CX) (t5 t6 t8 t10 t511 : X) (M : Mm) : CX :=
  d6_8 cl m kr (fun t5 t6 t8 t10 t511 M => d6_11 cl m kr kn t5 t6 t8 t10 t511 M) t5 t6 t8 t10 t511 M
theorem z6_7 (cl : Cl) (m : Nat) (kr : X → X → Mm → CX) (kn : X → X → Mm → CX) : semK cl m T6_7 (fun F M => kn (gT 511 F) (g4 F) M) (fun _ _ _ => .no) (fun F M => kr (gT 511 F) (g4 F) M) = fun F M => d6_7 cl m kr kn (g5 F) (g6 F) (g8 F) (g10 F) (gT 511 F) M := by
  have hb : semK cl m T6_11 (fun F M => kn (gT 511 F) (g4 F) M) (fun _ _ _ => .no) (fun F M => kr (gT 511 F) (g4 F) M) = fun F M => (fun t5 t6 t8 t10 t511 M => d6_11 cl m kr kn t5 t6 t8 t10 t511 M) (g5 F) (g6 F) (g8 F) (g10 F) (gT 511 F) M := z6_11 cl m kr kn
  show semK cl m T6_8 (semK cl m T6_11 (fun F M => kn (gT 511 F) (g4 F) M) (fun _ _ _ => .no) (fun F M => kr (gT 511 F) (g4 F) M)) (fun _ _ _ => .no) (fun F M => kr (gT 511 F) (g4 F) M) = _
  rw [hb]
  exact (z6_8 cl m kr (fun t5 t6 t8 t10 t511 M => d6_11 cl m kr kn t5 t6 t8 t10 t511 M) ).trans (by funext F M; kernel_rfl)
noncomputable def T6_6 : CT := (.seq U6_6 T6_7)
noncomputable def d6_6 (cl : Cl) (m : Nat) (kr : X → X → Mm → CX) (kn : X → X → Mm → CX) (t5 t6 t8 t511 : X) (M : Mm) : CX :=
  d6_7 cl m kr kn t5 t6 t8 (.i .i64 (0)) t511 M
theorem z6_6 (cl : Cl) (m : Nat) (kr : X → X → Mm → CX) (kn : X → X → Mm → CX) : semK cl m T6_6 (fun F M => kn (gT 511 F) (g4 F) M) (fun _ _ _ => .no) (fun F M => kr (gT 511 F) (g4 F) M) = fun F M => d6_6 cl m kr kn (g5 F) (g6 F) (g8 F) (gT 511 F) M := by
  show semK cl m U6_6 (semK cl m T6_7 (fun F M => kn (gT 511 F) (g4 F) M) (fun _ _ _ => .no) (fun F M => kr (gT 511 F) (g4 F) M)) (fun _ _ _ => .no) (fun F M => kr (gT 511 F) (g4 F) M) = _
  rw [z6_7 cl m kr kn]
  funext F M; kernel_rfl
noncomputable def T6_5 : CT := (.seq U6_5 T6_6)
noncomputable def d6_5 (cl : Cl) (m : Nat) (kr : X → X → Mm → CX) (kn : X → X → Mm → CX) (t5 t6 t8 t9 t511 : X) (M : Mm) : CX :=
  vBin .neq t9 (.i .i64 (0)) fun t32 =>
  vGuard t32 false (fun k => k t8 M) M fun t34 M73 =>
  vGuard t32 false (fun k => vLenS t34 fun y => k y M73) M73 fun t35 M75 =>
  vGuard t32 false (fun k => k t6 M75) M75 fun t36 M77 =>
  vGuard t32 false (fun k => vLenS t36 fun y => k y M77) M77 fun t37 M79 =>
  vGuard t32 false (fun k => vBin .neq t35 t37 fun y => k y M79) M79 fun t38 M81 =>
  vPick t32 (.b true) t38 fun t39 =>
  vIf t39 (
    kr t511 (.b false) M81) (
  d6_6 cl m kr kn t5 t6 t8 t511 M81)
theorem z6_5 (cl : Cl) (m : Nat) (kr : X → X → Mm → CX) (kn : X → X → Mm → CX) : semK cl m T6_5 (fun F M => kn (gT 511 F) (g4 F) M) (fun _ _ _ => .no) (fun F M => kr (gT 511 F) (g4 F) M) = fun F M => d6_5 cl m kr kn (g5 F) (g6 F) (g8 F) (g9 F) (gT 511 F) M := by
  show semK cl m U6_5 (semK cl m T6_6 (fun F M => kn (gT 511 F) (g4 F) M) (fun _ _ _ => .no) (fun F M => kr (gT 511 F) (g4 F) M)) (fun _ _ _ => .no) (fun F M => kr (gT 511 F) (g4 F) M) = _
  rw [z6_6 cl m kr kn]
  funext F M; kernel_rfl
noncomputable def T6_4 : CT := (.seq U6_4 T6_5)
noncomputable def d6_4 (cl : Cl) (m : Nat) (kr : X → X → Mm → CX) (kn : X → X → Mm → CX) (t5 t6 t511 : X) (M : Mm) : CX :=
  vLoadN 4 t5 M fun t25 =>
  vCall cl 20 [t25, t6] M fun t27 M83 =>
  vExt 0 t27 fun t28 =>
  vExt 1 t27 fun t29 =>
  vExt 2 t27 fun t30 =>
  vAlloc 24 4 [.nils, .int .i64 (.int (0)), .int .i64 (.int (0)), .int .i64 (.int (0))] M83 fun t7 M84 =>
  vStoreN 4 t7 t28 M84 fun _ M85 =>
  d6_5 cl m kr kn t5 t6 t29 t30 t511 M85
theorem z6_4 (cl : Cl) (m : Nat) (kr : X → X → Mm → CX) (kn : X → X → Mm → CX) : semK cl m T6_4 (fun F M => kn (gT 511 F) (g4 F) M) (fun _ _ _ => .no) (fun F M => kr (gT 511 F) (g4 F) M) = fun F M => d6_4 cl m kr kn (g5 F) (g6 F) (gT 511 F) M := by
  show semK cl m U6_4 (semK cl m T6_5 (fun F M => kn (gT 511 F) (g4 F) M) (fun _ _ _ => .no) (fun F M => kr (gT 511 F) (g4 F) M)) (fun _ _ _ => .no) (fun F M => kr (gT 511 F) (g4 F) M) = _
  rw [z6_5 cl m kr kn]
  funext F M; kernel_rfl
noncomputable def T6_3 : CT := (.seq U6_3 T6_4)
noncomputable def d6_3 (cl : Cl) (m : Nat) (kr : X → X → Mm → CX) (kn : X → X → Mm → CX) (t1 t5 t511 : X) (M : Mm) : CX :=
  vFieldAddr 0 t5 fun t20 =>
  vLoad1 t20 M fun t21 =>
  vLenS t21 fun t22 =>
  vCall cl 23 [t1, t22] M fun t23 M86 =>
  d6_4 cl m kr kn t5 t23 t511 M86
theorem z6_3 (cl : Cl) (m : Nat) (kr : X → X → Mm → CX) (kn : X → X → Mm → CX) : semK cl m T6_3 (fun F M => kn (gT 511 F) (g4 F) M) (fun _ _ _ => .no) (fun F M => kr (gT 511 F) (g4 F) M) = fun F M => d6_3 cl m kr kn (g1 F) (g5 F) (gT 511 F) M := by
  show semK cl m U6_3 (semK cl m T6_4 (fun F M => kn (gT 511 F) (g4 F) M) (fun _ _ _ => .no) (fun F M => kr (gT 511 F) (g4 F) M)) (fun _ _ _ => .no) (fun F M => kr (gT 511 F) (g4 F) M) = _
  rw [z6_4 cl m kr kn]
  funext F M; kernel_rfl
noncomputable def T6_2 : CT := (.seq U6_2 T6_3)
noncomputable def d6_2 (cl : Cl) (m : Nat) (kr : X → X → Mm → CX) (kn : X → X → Mm → CX) (t1 t2 t511 : X) (M : Mm) : CX :=
  vLoadN 4 t2 M fun t17 =>
  vCall cl 18 [t17] M fun t18 M87 =>
  vAlloc 24 4 [.nils, .int .i64 (.int (0)), .int .i64 (.int (0)), .int .i64 (.int (0))] M87 fun t5 M88 =>
  vStoreN 4 t5 t18 M88 fun _ M89 =>
  d6_3 cl m kr kn t1 t5 t511 M89
theorem z6_2 (cl : Cl) (m : Nat) (kr : X → X → Mm → CX) (kn : X → X → Mm → CX) : semK cl m T6_2 (fun F M => kn (gT 511 F) (g4 F) M) (fun _ _ _ => .no) (fun F M => kr (gT 511 F) (g4 F) M) = fun F M => d6_2 cl m kr kn (g1 F) (g2 F) (gT 511 F) M := by
  show semK cl m U6_2 (semK cl m T6_3 (fun F M => kn (gT 511 F) (g4 F) M) (fun _ _ _ => .no) (fun F M => kr (gT 511 F) (g4 F) M)) (fun _ _ _ => .no) (fun F M => kr (gT 511 F) (g4 F) M) = _
  rw [z6_3 cl m kr kn]
  funext F M; kernel_rfl
noncomputable def T6_1 : CT := (.seq U6_1 T6_2)
noncomputable def d6_1 (cl : Cl) (m : Nat) (kr : X → X → Mm → CX) (kn : X → X → Mm → CX) (t0 t1 t511 : X) (M : Mm) : CX :=
  vBox 42 4 t0 M fun t2 M90 =>
  d6_2 cl m kr kn t1 t2 t511 M90
theorem z6_1 (cl : Cl) (m : Nat) (kr : X → X → Mm → CX) (kn : X → X → Mm → CX) : semK cl m T6_1 (fun F M => kn (gT 511 F) (g4 F) M) (fun _ _ _ => .no) (fun F M => kr (gT 511 F) (g4 F) M) = fun F M => d6_1 cl m kr kn (g0 F) (g1 F) (gT 511 F) M := by
  show semK cl m U6_1 (semK cl m T6_2 (fun F M => kn (gT 511 F) (g4 F) M) (fun _ _ _ => .no) (fun F M => kr (gT 511 F) (g4 F) M)) (fun _ _ _ => .no) (fun F M => kr (gT 511 F) (g4 F) M) = _
  rw [z6_2 cl m kr kn]
  funext F M; kernel_rfl
noncomputable def t6 : CT := T6_1
theorem z6 (cl : Cl) (m : Nat) (kr : X → X → Mm → CX) : semK cl m t6 (fun F M => kr (gT 511 F) (g4 F) M) (fun _ _ _ => .no) (fun F M => kr (gT 511 F) (g4 F) M) = fun F M => d6_1 cl m kr kr (g0 F) (g1 F) (gT 511 F) M := z6_1 cl m kr kr
noncomputable def d6 (cl : Cl) (m : Nat) (kr : X → X → Mm → CX) (t0 t1 : X) (M : Mm) : CX :=
  d6_1 cl m kr kr t0 t1 (.v .undef) M
/-! 10: countersign/turns.New -/
noncomputable def t10 : CT := (.seq (.ops [(.alloc 24 4 [.nils, .int .i64 (.int (0)), .int .i64 (.int (0)), .int .i64 (.int (0))], s2),
    (.move (kX (.i .i64 (0))), s3)]) (.seq (.seq (.ops [(.move g0, s5),
    (.call 30 [g5], s6),
    (.move g6, s4)]) (.seq (.ops [(.move g4, s7),
    (.bin .neq g7 (kX (.i .i64 (0))), s8)]) (.cond g8 (.seq (.ops [(.build [.nils, .int .i64 (.int (0)), .int .i64 (.int (0)), .int .i64 (.int (0))] [], s9),
    (.move g4, s10),
    (.storeN 4 g2 g9, sN),
    (.move g10, s3)]) .ret) .skip))) (.seq (.draw [⟨.move g0, s11, 0, (some 11), none, false, none⟩,
    ⟨.call 32 [g11], s12, 1, (some 12), none, true, (some (none, [3, 4, 5]))⟩,
    ⟨.call 31 [g12], s13, 2, (some 13), none, true, (some (none, [3, 4, 5]))⟩,
    ⟨.move g0, s14, 3, (some 14), none, false, none⟩,
    ⟨.indexAddr 1 g14 (kX (.i .i64 (0))), s15, 4, (some 15), none, false, none⟩,
    ⟨.load1 g15, s16, 5, (some 16), (some g15), false, none⟩,
    ⟨.build [.nils, .int .i64 (.int (0)), .int .i64 (.int (0)), .int .i64 (.int (0))] [(0, 1, g13), (2, 1, g16)], s17, 6, (some 17), none, false, none⟩,
    ⟨.storeN 4 g2 g17, sN, 7, none, none, true, none⟩,
    ⟨.move (kX (.i .i64 (0))), s3, 8, (some 3), none, false, none⟩]) .ret)))
noncomputable def d10_1 (cl : Cl) (m : Nat) (kr : X → X → X → Mm → CX) (t0 t511 : X) (M : Mm) : CX :=
  vAlloc 24 4 [.nils, .int .i64 (.int (0)), .int .i64 (.int (0)), .int .i64 (.int (0))] M fun t2 M1 =>
  vCall cl 30 [t0] M1 fun t6 M2 =>
  vBin .neq t6 (.i .i64 (0)) fun t8 =>
  vIf t8 (
    vBuild [.nils, .int .i64 (.int (0)), .int .i64 (.int (0)), .int .i64 (.int (0))] [] fun t9 =>
    vStoreN 4 t2 t9 M2 fun _ M3 =>
    kr t511 t2 t6 M3) (
  jn (fun (n1 : Nat) =>
  chk True <|
  chk (Pst true false t0 M2 M2 none) <|
  chk True <|
  vCall cl 32 [t0] M2 fun t12 M4 =>
  chk (Pst true true t12 M2 M4 (some (none, []))) <|
  chk True <|
  vCall cl 31 [t12] M4 fun t13 M5 =>
  chk (Pst true true t13 M4 M5 (some (none, []))) <|
  chk True <|
  chk (Pst true false t0 M5 M5 none) <|
  chk True <|
  vIndexAddr 1 t0 (.i .i64 (0)) fun t15 =>
  chk (Pst true false t15 M5 M5 none) <|
  chk (Old n1 t15) <|
  vLoad1 t15 M5 fun t16 =>
  chk (Pst true false t16 M5 M5 none) <|
  chk True <|
  vBuild [.nils, .int .i64 (.int (0)), .int .i64 (.int (0)), .int .i64 (.int (0))] [(0, 1, t13), (2, 1, t16)] fun t17 =>
  chk (Pst true false t17 M5 M5 none) <|
  chk True <|
  vStoreN 4 t2 t17 M5 fun _ M6 =>
  chk (Pst false true (.v .undef) M5 M6 none) <|
  chk True <|
  chk (Pst true false (.i .i64 (0)) M6 M6 none) <|
  kr t511 t2 (.i .i64 (0)) M6) M2.nx)
theorem z10 (cl : Cl) (m : Nat) (kr : X → X → X → Mm → CX) : semK cl m t10 (fun F M => kr (gT 511 F) (g2 F) (g3 F) M) (fun _ _ _ => .no) (fun F M => kr (gT 511 F) (g2 F) (g3 F) M) = fun F M => d10_1 cl m kr (g0 F) (gT 511 F) M := by funext F M; kernel_rfl
noncomputable def d10 (cl : Cl) (m : Nat) (kr : X → X → X → Mm → CX) (t0 : X) (M : Mm) : CX :=
  d10_1 cl m kr t0 (.v .undef) M
/-! 11: countersign/countersignref36.Weights -/
noncomputable def U11_1 : CT := (.ops [(.move (kX (.i .i64 (0))), s2)])
noncomputable def U11_2 : CT := (.seq (.ops [(.move g0, s4),
    (.lenS g4, s5),
    (.bin .gtr g5 (kX (.i .i64 (16))), s6)]) (.cond g6 (.seq (.ops [(.move (kX (.i .i64 (3))), s2)]) .ret) .skip))
noncomputable def U11_3 : CT := (.seq (.seq (.ops [(.move g0, s25),
    (.lenS g25, s26),
    (.bin .eql g26 (kX (.i .i64 (0))), s27)]) (.cond g27 (.seq (.ops [(.move (kX (.i .i64 (4))), s2)]) .ret) .skip)) (.seq (.ops [(.move (kX (.i .i64 (0))), s2)]) .ret))
noncomputable def U11_4 : CT := (.ops [(.move (kX (.i .i64 (0))), s3)])
noncomputable def U11_5 : CT := (.seq (.seq (.ops [(.move g3, s7),
    (.move g0, s8),
    (.lenS g8, s9),
    (.bin .lss g7 g9, s10)]) (.cond g10 .skip (.exit 0))) (.seq (.block 1 (.seq (.ops [(.move g0, s13),
    (.move g3, s14),
    (.indexAddr 1 g13 g14, s15),
    (.load1 g15, s16),
    (.bin .lss g16 (kX (.i .i64 (1))), s17),
    (.move g17, s18),
    (.guard g18 false (.move g0), s19),
    (.guard g18 false (.move g3), s20),
    (.guard g18 false (.indexAddr 1 g19 g20), s21),
    (.guard g18 false (.load1 g21), s22),
    (.guard g18 false (.bin .gtr g22 (kX (.i .i64 (8)))), s23),
    (.pick g18 (kX (.b true)) g23, s24)]) (.cond g24 (.seq (.ops [(.move (kX (.i .i64 (4))), s2)]) .ret) .skip))) (.ops [(.move g3, s11),
    (.bin .add g11 (kX (.i .i64 (1))), s12),
    (.move g12, s3)])))
noncomputable def T11_6 : CT := (.loop U11_5)
noncomputable def d11_6 (cl : Cl) (m : Nat) (kr : X → X → Mm → CX) (k0 : X → X → Mm → CX) : Nat → X → X → X → Mm → CX
  | 0 => fun _ _ _ _ => .no
  | n + 1 => fun t0 t3 t511 M =>
  vLenS t0 fun t9 =>
  vBin .lss t3 t9 fun t10 =>
  vIf t10 (
  vIndexAddr 1 t0 t3 fun t15 =>
  vLoad1 t15 M fun t16 =>
  vBin .lss t16 (.i .i64 (1)) fun t17 =>
  vGuard t17 false (fun k => k t0 M) M fun t19 M1 =>
  vGuard t17 false (fun k => k t3 M1) M1 fun t20 M3 =>
  vGuard t17 false (fun k => vIndexAddr 1 t19 t20 fun y => k y M3) M3 fun t21 M5 =>
  vGuard t17 false (fun k => vLoad1 t21 M5 fun y => k y M5) M5 fun t22 M7 =>
  vGuard t17 false (fun k => vBin .gtr t22 (.i .i64 (8)) fun y => k y M7) M7 fun t23 M9 =>
  vPick t17 (.b true) t23 fun t24 =>
  vIf t24 (
    kr t511 (.i .i64 (4)) M9) (
  vBin .add t3 (.i .i64 (1)) fun t12 =>
  d11_6 cl m kr k0 n t0 t12 t511 M9)) (
  k0 t0 t511 M)
theorem z11_6 (cl : Cl) (m : Nat) (kr : X → X → Mm → CX) (kn : X → X → Mm → CX) (k0 : X → X → Mm → CX) : semK cl m T11_6 (fun F M => kn (g0 F) (gT 511 F) M) (exB 0 (fun F M => k0 (g0 F) (gT 511 F) M) (fun _ _ _ => .no)) (fun F M => kr (gT 511 F) (g2 F) M) = fun F M => d11_6 cl m kr k0 m (g0 F) (g3 F) (gT 511 F) M := by
  have key : ∀ j, loopK (fun q => semK cl m U11_5 q (exB 0 (fun F M => k0 (g0 F) (gT 511 F) M) (fun _ _ _ => .no)) (fun F M => kr (gT 511 F) (g2 F) M)) j = fun F M => d11_6 cl m kr k0 j (g0 F) (g3 F) (gT 511 F) M := by
    intro j
    induction j with
    | zero => rfl
    | succ j ih =>
      show semK cl m U11_5 (loopK (fun q => semK cl m U11_5 q (exB 0 (fun F M => k0 (g0 F) (gT 511 F) M) (fun _ _ _ => .no)) (fun F M => kr (gT 511 F) (g2 F) M)) j) (exB 0 (fun F M => k0 (g0 F) (gT 511 F) M) (fun _ _ _ => .no)) (fun F M => kr (gT 511 F) (g2 F) M) = _
      rw [ih]
      funext F M; kernel_rfl
  exact key m
noncomputable def T11_5 : CT := (.block 0 T11_6)
noncomputable def d11_5 (cl : Cl) (m : Nat) (kr : X → X → Mm → CX) (kn : X → X → Mm → CX) (t0 t3 t511 : X) (M : Mm) : CX :=
  d11_6 cl m kr kn m t0 t3 t511 M
theorem z11_5 (cl : Cl) (m : Nat) (kr : X → X → Mm → CX) (kn : X → X → Mm → CX) : semK cl m T11_5 (fun F M => kn (g0 F) (gT 511 F) M) (fun _ _ _ => .no) (fun F M => kr (gT 511 F) (g2 F) M) = fun F M => d11_5 cl m kr kn (g0 F) (g3 F) (gT 511 F) M := by
  show semK cl m T11_6 (fun F M => kn (g0 F) (gT 511 F) M) (exB 0 (fun F M => kn (g0 F) (gT 511 F) M) (fun _ _ _ => .no)) (fun F M => kr (gT 511 F) (g2 F) M) = _
  exact (z11_6 cl m kr kn kn).trans (by funext F M; kernel_rfl)
noncomputable def T11_4 : CT := (.seq U11_4 T11_5)
noncomputable def d11_4 (cl : Cl) (m : Nat) (kr : X → X → Mm → CX) (kn : X → X → Mm → CX) (t0 t511 : X) (M : Mm) : CX :=
  d11_5 cl m kr kn t0 (.i .i64 (0)) t511 M
theorem z11_4 (cl : Cl) (m : Nat) (kr : X → X → Mm → CX) (kn : X → X → Mm → CX) : semK cl m T11_4 (fun F M => kn (g0 F) (gT 511 F) M) (fun _ _ _ => .no) (fun F M => kr (gT 511 F) (g2 F) M) = fun F M => d11_4 cl m kr kn (g0 F) (gT 511 F) M := by
  show semK cl m U11_4 (semK cl m T11_5 (fun F M => kn (g0 F) (gT 511 F) M) (fun _ _ _ => .no) (fun F M => kr (gT 511 F) (g2 F) M)) (fun _ _ _ => .no) (fun F M => kr (gT 511 F) (g2 F) M) = _
  rw [z11_5 cl m kr kn]
  funext F M; kernel_rfl
noncomputable def T11_3 : CT := (.seq T11_4 U11_3)
noncomputable def d11_3 (cl : Cl) (m : Nat) (kr : X → X → Mm → CX) (kn : X → X → Mm → CX) (t0 t511 : X) (M : Mm) : CX :=
  d11_4 cl m kr (fun t0 t511 M =>
    vLenS t0 fun t26 =>
    vBin .eql t26 (.i .i64 (0)) fun t27 =>
    vIf t27 (
      kr t511 (.i .i64 (4)) M) (
    kr t511 (.i .i64 (0)) M)) t0 t511 M
theorem z11_3 (cl : Cl) (m : Nat) (kr : X → X → Mm → CX) (kn : X → X → Mm → CX) : semK cl m T11_3 (fun F M => kn (gT 511 F) (g2 F) M) (fun _ _ _ => .no) (fun F M => kr (gT 511 F) (g2 F) M) = fun F M => d11_3 cl m kr kn (g0 F) (gT 511 F) M := by
  have hb : semK cl m U11_3 (fun F M => kn (gT 511 F) (g2 F) M) (fun _ _ _ => .no) (fun F M => kr (gT 511 F) (g2 F) M) = fun F M => (fun t0 t511 M =>
    vLenS t0 fun t26 =>
    vBin .eql t26 (.i .i64 (0)) fun t27 =>
    vIf t27 (
      kr t511 (.i .i64 (4)) M) (
    kr t511 (.i .i64 (0)) M)) (g0 F) (gT 511 F) M := by funext F M; kernel_rfl
  show semK cl m T11_4 (semK cl m U11_3 (fun F M => kn (gT 511 F) (g2 F) M) (fun _ _ _ => .no) (fun F M => kr (gT 511 F) (g2 F) M)) (fun _ _ _ => .no) (fun F M => kr (gT 511 F) (g2 F) M) = _
  rw [hb]
  exact (z11_4 cl m kr (fun t0 t511 M =>
    vLenS t0 fun t26 =>
    vBin .eql t26 (.i .i64 (0)) fun t27 =>
    vIf t27 (
      kr t511 (.i .i64 (4)) M) (
    kr t511 (.i .i64 (0)) M)) ).trans (by funext F M; kernel_rfl)
noncomputable def T11_2 : CT := (.seq U11_2 T11_3)
noncomputable def d11_2 (cl : Cl) (m : Nat) (kr : X → X → Mm → CX) (kn : X → X → Mm → CX) (t0 t511 : X) (M : Mm) : CX :=
  vLenS t0 fun t5 =>
  vBin .gtr t5 (.i .i64 (16)) fun t6 =>
  vIf t6 (
    kr t511 (.i .i64 (3)) M) (
  d11_3 cl m kr kn t0 t511 M)
theorem z11_2 (cl : Cl) (m : Nat) (kr : X → X → Mm → CX) (kn : X → X → Mm → CX) : semK cl m T11_2 (fun F M => kn (gT 511 F) (g2 F) M) (fun _ _ _ => .no) (fun F M => kr (gT 511 F) (g2 F) M) = fun F M => d11_2 cl m kr kn (g0 F) (gT 511 F) M := by
  show semK cl m U11_2 (semK cl m T11_3 (fun F M => kn (gT 511 F) (g2 F) M) (fun _ _ _ => .no) (fun F M => kr (gT 511 F) (g2 F) M)) (fun _ _ _ => .no) (fun F M => kr (gT 511 F) (g2 F) M) = _
  rw [z11_3 cl m kr kn]
  funext F M; kernel_rfl
noncomputable def T11_1 : CT := (.seq U11_1 T11_2)
noncomputable def d11_1 (cl : Cl) (m : Nat) (kr : X → X → Mm → CX) (kn : X → X → Mm → CX) (t0 t511 : X) (M : Mm) : CX :=
  d11_2 cl m kr kn t0 t511 M
theorem z11_1 (cl : Cl) (m : Nat) (kr : X → X → Mm → CX) (kn : X → X → Mm → CX) : semK cl m T11_1 (fun F M => kn (gT 511 F) (g2 F) M) (fun _ _ _ => .no) (fun F M => kr (gT 511 F) (g2 F) M) = fun F M => d11_1 cl m kr kn (g0 F) (gT 511 F) M := by
  show semK cl m U11_1 (semK cl m T11_2 (fun F M => kn (gT 511 F) (g2 F) M) (fun _ _ _ => .no) (fun F M => kr (gT 511 F) (g2 F) M)) (fun _ _ _ => .no) (fun F M => kr (gT 511 F) (g2 F) M) = _
  rw [z11_2 cl m kr kn]
  funext F M; kernel_rfl
noncomputable def t11 : CT := T11_1
theorem z11 (cl : Cl) (m : Nat) (kr : X → X → Mm → CX) : semK cl m t11 (fun F M => kr (gT 511 F) (g2 F) M) (fun _ _ _ => .no) (fun F M => kr (gT 511 F) (g2 F) M) = fun F M => d11_1 cl m kr kr (g0 F) (gT 511 F) M := z11_1 cl m kr kr
noncomputable def d11 (cl : Cl) (m : Nat) (kr : X → X → Mm → CX) (t0 : X) (M : Mm) : CX :=
  d11_1 cl m kr kr t0 (.v .undef) M
/-! 12: countersign/turns.Check -/
noncomputable def t12 : CT := (.seq (.ops [(.box 24 4 g0, s1),
    (.move (kX (.i .i64 (0))), s2)]) (.seq (.seq (.ops [(.fieldAddr 0 g1, s4),
    (.load1 g4, s5),
    (.call 30 [g5], s6),
    (.move g6, s3)]) (.seq (.ops [(.move g3, s7),
    (.bin .neq g7 (kX (.i .i64 (0))), s8)]) (.cond g8 (.seq (.ops [(.move g3, s9),
    (.move g9, s2)]) .ret) .skip))) (.seq (.seq (.ops [(.fieldAddr 1 g1, s10),
    (.load1 g10, s11),
    (.fieldAddr 0 g1, s12),
    (.load1 g12, s13),
    (.lenS g13, s14),
    (.bin .sub g14 (kX (.i .i64 (1))), s15),
    (.call 33 [g11, (kX (.i .i64 (0))), g15], s16),
    (.not g16, s17),
    (.move g17, s18),
    (.guard g18 false (.fieldAddr 2 g1), s19),
    (.guard g18 false (.load1 g19), s20),
    (.guard g18 false (.fieldAddr 0 g1), s21),
    (.guard g18 false (.load1 g21), s22),
    (.guard g18 false (.fieldAddr 1 g1), s23),
    (.guard g18 false (.load1 g23), s24),
    (.guard g18 false (.indexAddr 1 g22 g24), s25),
    (.guard g18 false (.load1 g25), s26),
    (.guard g18 false (.call 33 [g20, (kX (.i .i64 (0))), g26]), s27),
    (.guard g18 false (.not g27), s28),
    (.pick g18 (kX (.b true)) g28, s29),
    (.move g29, s30),
    (.guard g30 false (.fieldAddr 3 g1), s31),
    (.guard g30 false (.load1 g31), s32),
    (.guard g30 false (.bin .lss g32 (kX (.i .i64 (0)))), s33),
    (.pick g30 (kX (.b true)) g33, s34),
    (.move g34, s35),
    (.guard g35 false (.fieldAddr 3 g1), s36),
    (.guard g35 false (.load1 g36), s37),
    (.guard g35 false (.bin .gtr g37 (kX (.i .i64 (4611686018427387904)))), s38),
    (.pick g35 (kX (.b true)) g38, s39)]) (.cond g39 (.seq (.ops [(.move (kX (.i .i64 (4))), s2)]) .ret) .skip)) (.seq (.ops [(.move (kX (.i .i64 (0))), s2)]) .ret))))
noncomputable def d12_1 (cl : Cl) (m : Nat) (kr : X → X → Mm → CX) (t0 t511 : X) (M : Mm) : CX :=
  vBox 24 4 t0 M fun t1 M1 =>
  vFieldAddr 0 t1 fun t4 =>
  vLoad1 t4 M1 fun t5 =>
  vCall cl 30 [t5] M1 fun t6 M2 =>
  vBin .neq t6 (.i .i64 (0)) fun t8 =>
  vIf t8 (
    kr t511 t6 M2) (
  vFieldAddr 1 t1 fun t10 =>
  vLoad1 t10 M2 fun t11 =>
  vFieldAddr 0 t1 fun t12 =>
  vLoad1 t12 M2 fun t13 =>
  vLenS t13 fun t14 =>
  vBin .sub t14 (.i .i64 (1)) fun t15 =>
  vCall cl 33 [t11, (.i .i64 (0)), t15] M2 fun t16 M3 =>
  vNot t16 fun t17 =>
  vGuard t17 false (fun k => vFieldAddr 2 t1 fun y => k y M3) M3 fun t19 M4 =>
  vGuard t17 false (fun k => vLoad1 t19 M4 fun y => k y M4) M4 fun t20 M6 =>
  vGuard t17 false (fun k => vFieldAddr 0 t1 fun y => k y M6) M6 fun t21 M8 =>
  vGuard t17 false (fun k => vLoad1 t21 M8 fun y => k y M8) M8 fun t22 M10 =>
  vGuard t17 false (fun k => vFieldAddr 1 t1 fun y => k y M10) M10 fun t23 M12 =>
  vGuard t17 false (fun k => vLoad1 t23 M12 fun y => k y M12) M12 fun t24 M14 =>
  vGuard t17 false (fun k => vIndexAddr 1 t22 t24 fun y => k y M14) M14 fun t25 M16 =>
  vGuard t17 false (fun k => vLoad1 t25 M16 fun y => k y M16) M16 fun t26 M18 =>
  vGuard t17 false (fun k => vCall cl 33 [t20, (.i .i64 (0)), t26] M18 fun y M21 => k y M21) M18 fun t27 M20 =>
  vGuard t17 false (fun k => vNot t27 fun y => k y M20) M20 fun t28 M22 =>
  vPick t17 (.b true) t28 fun t29 =>
  vGuard t29 false (fun k => vFieldAddr 3 t1 fun y => k y M22) M22 fun t31 M24 =>
  vGuard t29 false (fun k => vLoad1 t31 M24 fun y => k y M24) M24 fun t32 M26 =>
  vGuard t29 false (fun k => vBin .lss t32 (.i .i64 (0)) fun y => k y M26) M26 fun t33 M28 =>
  vPick t29 (.b true) t33 fun t34 =>
  vGuard t34 false (fun k => vFieldAddr 3 t1 fun y => k y M28) M28 fun t36 M30 =>
  vGuard t34 false (fun k => vLoad1 t36 M30 fun y => k y M30) M30 fun t37 M32 =>
  vGuard t34 false (fun k => vBin .gtr t37 (.i .i64 (4611686018427387904)) fun y => k y M32) M32 fun t38 M34 =>
  vPick t34 (.b true) t38 fun t39 =>
  vIf t39 (
    kr t511 (.i .i64 (4)) M34) (
  kr t511 (.i .i64 (0)) M34))
theorem z12 (cl : Cl) (m : Nat) (kr : X → X → Mm → CX) : semK cl m t12 (fun F M => kr (gT 511 F) (g2 F) M) (fun _ _ _ => .no) (fun F M => kr (gT 511 F) (g2 F) M) = fun F M => d12_1 cl m kr (g0 F) (gT 511 F) M := by funext F M; kernel_rfl
noncomputable def d12 (cl : Cl) (m : Nat) (kr : X → X → Mm → CX) (t0 : X) (M : Mm) : CX :=
  d12_1 cl m kr t0 (.v .undef) M
/-! 13: countersign/countersignref36.Check -/
noncomputable def t13 : CT := (.seq (.ops [(.box 24 4 g0, s1),
    (.move (kX (.i .i64 (0))), s2)]) (.seq (.seq (.ops [(.fieldAddr 0 g1, s3),
    (.load1 g3, s4),
    (.call 11 [g4], s5),
    (.bin .gtr g5 (kX (.i .i64 (0))), s6)]) (.cond g6 (.seq (.ops [(.fieldAddr 0 g1, s7),
    (.load1 g7, s8),
    (.call 11 [g8], s9),
    (.move g9, s2)]) .ret) .skip)) (.seq (.seq (.ops [(.fieldAddr 1 g1, s10),
    (.load1 g10, s11),
    (.bin .lss g11 (kX (.i .i64 (0))), s12),
    (.move g12, s13),
    (.guard g13 false (.fieldAddr 1 g1), s14),
    (.guard g13 false (.load1 g14), s15),
    (.guard g13 false (.fieldAddr 0 g1), s16),
    (.guard g13 false (.load1 g16), s17),
    (.guard g13 false (.lenS g17), s18),
    (.guard g13 false (.bin .sub g18 (kX (.i .i64 (1)))), s19),
    (.guard g13 false (.bin .gtr g15 g19), s20),
    (.pick g13 (kX (.b true)) g20, s21),
    (.move g21, s22),
    (.guard g22 false (.fieldAddr 3 g1), s23),
    (.guard g22 false (.load1 g23), s24),
    (.guard g22 false (.bin .lss g24 (kX (.i .i64 (0)))), s25),
    (.pick g22 (kX (.b true)) g25, s26),
    (.move g26, s27),
    (.guard g27 false (.fieldAddr 3 g1), s28),
    (.guard g27 false (.load1 g28), s29),
    (.guard g27 false (.bin .gtr g29 (kX (.i .i64 (4611686018427387904)))), s30),
    (.pick g27 (kX (.b true)) g30, s31)]) (.cond g31 (.seq (.ops [(.move (kX (.i .i64 (4))), s2)]) .ret) .skip)) (.seq (.seq (.ops [(.fieldAddr 2 g1, s32),
    (.load1 g32, s33),
    (.bin .lss g33 (kX (.i .i64 (0))), s34),
    (.move g34, s35),
    (.guard g35 false (.fieldAddr 2 g1), s36),
    (.guard g35 false (.load1 g36), s37),
    (.guard g35 false (.fieldAddr 0 g1), s38),
    (.guard g35 false (.load1 g38), s39),
    (.guard g35 false (.fieldAddr 1 g1), s40),
    (.guard g35 false (.load1 g40), s41),
    (.guard g35 false (.indexAddr 1 g39 g41), s42),
    (.guard g35 false (.load1 g42), s43),
    (.guard g35 false (.bin .gtr g37 g43), s44),
    (.pick g35 (kX (.b true)) g44, s45)]) (.cond g45 (.seq (.ops [(.move (kX (.i .i64 (4))), s2)]) .ret) .skip)) (.seq (.ops [(.move (kX (.i .i64 (0))), s2)]) .ret)))))
noncomputable def d13_1 (cl : Cl) (m : Nat) (kr : X → X → Mm → CX) (t0 t511 : X) (M : Mm) : CX :=
  vBox 24 4 t0 M fun t1 M1 =>
  vFieldAddr 0 t1 fun t3 =>
  vLoad1 t3 M1 fun t4 =>
  vCall cl 11 [t4] M1 fun t5 M2 =>
  vBin .gtr t5 (.i .i64 (0)) fun t6 =>
  vIf t6 (
    vFieldAddr 0 t1 fun t7 =>
    vLoad1 t7 M2 fun t8 =>
    vCall cl 11 [t8] M2 fun t9 M3 =>
    kr t511 t9 M3) (
  vFieldAddr 1 t1 fun t10 =>
  vLoad1 t10 M2 fun t11 =>
  vBin .lss t11 (.i .i64 (0)) fun t12 =>
  vGuard t12 false (fun k => vFieldAddr 1 t1 fun y => k y M2) M2 fun t14 M4 =>
  vGuard t12 false (fun k => vLoad1 t14 M4 fun y => k y M4) M4 fun t15 M6 =>
  vGuard t12 false (fun k => vFieldAddr 0 t1 fun y => k y M6) M6 fun t16 M8 =>
  vGuard t12 false (fun k => vLoad1 t16 M8 fun y => k y M8) M8 fun t17 M10 =>
  vGuard t12 false (fun k => vLenS t17 fun y => k y M10) M10 fun t18 M12 =>
  vGuard t12 false (fun k => vBin .sub t18 (.i .i64 (1)) fun y => k y M12) M12 fun t19 M14 =>
  vGuard t12 false (fun k => vBin .gtr t15 t19 fun y => k y M14) M14 fun t20 M16 =>
  vPick t12 (.b true) t20 fun t21 =>
  vGuard t21 false (fun k => vFieldAddr 3 t1 fun y => k y M16) M16 fun t23 M18 =>
  vGuard t21 false (fun k => vLoad1 t23 M18 fun y => k y M18) M18 fun t24 M20 =>
  vGuard t21 false (fun k => vBin .lss t24 (.i .i64 (0)) fun y => k y M20) M20 fun t25 M22 =>
  vPick t21 (.b true) t25 fun t26 =>
  vGuard t26 false (fun k => vFieldAddr 3 t1 fun y => k y M22) M22 fun t28 M24 =>
  vGuard t26 false (fun k => vLoad1 t28 M24 fun y => k y M24) M24 fun t29 M26 =>
  vGuard t26 false (fun k => vBin .gtr t29 (.i .i64 (4611686018427387904)) fun y => k y M26) M26 fun t30 M28 =>
  vPick t26 (.b true) t30 fun t31 =>
  vIf t31 (
    kr t511 (.i .i64 (4)) M28) (
  vFieldAddr 2 t1 fun t32 =>
  vLoad1 t32 M28 fun t33 =>
  vBin .lss t33 (.i .i64 (0)) fun t34 =>
  vGuard t34 false (fun k => vFieldAddr 2 t1 fun y => k y M28) M28 fun t36 M30 =>
  vGuard t34 false (fun k => vLoad1 t36 M30 fun y => k y M30) M30 fun t37 M32 =>
  vGuard t34 false (fun k => vFieldAddr 0 t1 fun y => k y M32) M32 fun t38 M34 =>
  vGuard t34 false (fun k => vLoad1 t38 M34 fun y => k y M34) M34 fun t39 M36 =>
  vGuard t34 false (fun k => vFieldAddr 1 t1 fun y => k y M36) M36 fun t40 M38 =>
  vGuard t34 false (fun k => vLoad1 t40 M38 fun y => k y M38) M38 fun t41 M40 =>
  vGuard t34 false (fun k => vIndexAddr 1 t39 t41 fun y => k y M40) M40 fun t42 M42 =>
  vGuard t34 false (fun k => vLoad1 t42 M42 fun y => k y M42) M42 fun t43 M44 =>
  vGuard t34 false (fun k => vBin .gtr t37 t43 fun y => k y M44) M44 fun t44 M46 =>
  vPick t34 (.b true) t44 fun t45 =>
  vIf t45 (
    kr t511 (.i .i64 (4)) M46) (
  kr t511 (.i .i64 (0)) M46)))
theorem z13 (cl : Cl) (m : Nat) (kr : X → X → Mm → CX) : semK cl m t13 (fun F M => kr (gT 511 F) (g2 F) M) (fun _ _ _ => .no) (fun F M => kr (gT 511 F) (g2 F) M) = fun F M => d13_1 cl m kr (g0 F) (gT 511 F) M := by funext F M; kernel_rfl
noncomputable def d13 (cl : Cl) (m : Nat) (kr : X → X → Mm → CX) (t0 : X) (M : Mm) : CX :=
  d13_1 cl m kr t0 (.v .undef) M
/-! 14: countersign/countersignref36.SameInts -/
noncomputable def U14_1 : CT := (.ops [(.move (kX (.i .i64 (0))), s4)])
noncomputable def U14_2 : CT := (.seq (.ops [(.move g0, s6),
    (.lenS g6, s7),
    (.move g1, s8),
    (.lenS g8, s9),
    (.bin .neq g7 g9, s10)]) (.cond g10 (.seq (.ops [(.move (kX (.i .i64 (0))), s4)]) .ret) .skip))
noncomputable def U14_3 : CT := (.seq (.ops [(.move (kX (.i .i64 (1))), s4)]) .ret)
noncomputable def U14_4 : CT := (.ops [(.move (kX (.i .i64 (0))), s5)])
noncomputable def U14_5 : CT := (.seq (.seq (.ops [(.move g5, s11),
    (.move g0, s12),
    (.lenS g12, s13),
    (.bin .lss g11 g13, s14)]) (.cond g14 .skip (.exit 0))) (.seq (.block 1 (.seq (.ops [(.move g0, s17),
    (.move g5, s18),
    (.indexAddr 1 g17 g18, s19),
    (.load1 g19, s20),
    (.move g1, s21),
    (.move g5, s22),
    (.indexAddr 1 g21 g22, s23),
    (.load1 g23, s24),
    (.bin .neq g20 g24, s25)]) (.cond g25 (.seq (.ops [(.move (kX (.i .i64 (0))), s4)]) .ret) .skip))) (.ops [(.move g5, s15),
    (.bin .add g15 (kX (.i .i64 (1))), s16),
    (.move g16, s5)])))
noncomputable def T14_6 : CT := (.loop U14_5)
noncomputable def d14_6 (cl : Cl) (m : Nat) (kr : X → X → Mm → CX) (k0 : X → Mm → CX) : Nat → X → X → X → X → Mm → CX
  | 0 => fun _ _ _ _ _ => .no
  | n + 1 => fun t0 t1 t5 t511 M =>
  vLenS t0 fun t13 =>
  vBin .lss t5 t13 fun t14 =>
  vIf t14 (
  vIndexAddr 1 t0 t5 fun t19 =>
  vLoad1 t19 M fun t20 =>
  vIndexAddr 1 t1 t5 fun t23 =>
  vLoad1 t23 M fun t24 =>
  vBin .neq t20 t24 fun t25 =>
  vIf t25 (
    kr t511 (.i .i64 (0)) M) (
  vBin .add t5 (.i .i64 (1)) fun t16 =>
  d14_6 cl m kr k0 n t0 t1 t16 t511 M)) (
  k0 t511 M)
theorem z14_6 (cl : Cl) (m : Nat) (kr : X → X → Mm → CX) (kn : X → Mm → CX) (k0 : X → Mm → CX) : semK cl m T14_6 (fun F M => kn (gT 511 F) M) (exB 0 (fun F M => k0 (gT 511 F) M) (fun _ _ _ => .no)) (fun F M => kr (gT 511 F) (g4 F) M) = fun F M => d14_6 cl m kr k0 m (g0 F) (g1 F) (g5 F) (gT 511 F) M := by
  have key : ∀ j, loopK (fun q => semK cl m U14_5 q (exB 0 (fun F M => k0 (gT 511 F) M) (fun _ _ _ => .no)) (fun F M => kr (gT 511 F) (g4 F) M)) j = fun F M => d14_6 cl m kr k0 j (g0 F) (g1 F) (g5 F) (gT 511 F) M := by
    intro j
    induction j with
    | zero => rfl
    | succ j ih =>
      show semK cl m U14_5 (loopK (fun q => semK cl m U14_5 q (exB 0 (fun F M => k0 (gT 511 F) M) (fun _ _ _ => .no)) (fun F M => kr (gT 511 F) (g4 F) M)) j) (exB 0 (fun F M => k0 (gT 511 F) M) (fun _ _ _ => .no)) (fun F M => kr (gT 511 F) (g4 F) M) = _
      rw [ih]
      funext F M; kernel_rfl
  exact key m
noncomputable def T14_5 : CT := (.block 0 T14_6)
noncomputable def d14_5 (cl : Cl) (m : Nat) (kr : X → X → Mm → CX) (kn : X → Mm → CX) (t0 t1 t5 t511 : X) (M : Mm) : CX :=
  d14_6 cl m kr kn m t0 t1 t5 t511 M
theorem z14_5 (cl : Cl) (m : Nat) (kr : X → X → Mm → CX) (kn : X → Mm → CX) : semK cl m T14_5 (fun F M => kn (gT 511 F) M) (fun _ _ _ => .no) (fun F M => kr (gT 511 F) (g4 F) M) = fun F M => d14_5 cl m kr kn (g0 F) (g1 F) (g5 F) (gT 511 F) M := by
  show semK cl m T14_6 (fun F M => kn (gT 511 F) M) (exB 0 (fun F M => kn (gT 511 F) M) (fun _ _ _ => .no)) (fun F M => kr (gT 511 F) (g4 F) M) = _
  exact (z14_6 cl m kr kn kn).trans (by funext F M; kernel_rfl)
noncomputable def T14_4 : CT := (.seq U14_4 T14_5)
noncomputable def d14_4 (cl : Cl) (m : Nat) (kr : X → X → Mm → CX) (kn : X → Mm → CX) (t0 t1 t511 : X) (M : Mm) : CX :=
  d14_5 cl m kr kn t0 t1 (.i .i64 (0)) t511 M
theorem z14_4 (cl : Cl) (m : Nat) (kr : X → X → Mm → CX) (kn : X → Mm → CX) : semK cl m T14_4 (fun F M => kn (gT 511 F) M) (fun _ _ _ => .no) (fun F M => kr (gT 511 F) (g4 F) M) = fun F M => d14_4 cl m kr kn (g0 F) (g1 F) (gT 511 F) M := by
  show semK cl m U14_4 (semK cl m T14_5 (fun F M => kn (gT 511 F) M) (fun _ _ _ => .no) (fun F M => kr (gT 511 F) (g4 F) M)) (fun _ _ _ => .no) (fun F M => kr (gT 511 F) (g4 F) M) = _
  rw [z14_5 cl m kr kn]
  funext F M; kernel_rfl
noncomputable def T14_3 : CT := (.seq T14_4 U14_3)
noncomputable def d14_3 (cl : Cl) (m : Nat) (kr : X → X → Mm → CX) (kn : X → X → Mm → CX) (t0 t1 t511 : X) (M : Mm) : CX :=
  d14_4 cl m kr (fun t511 M =>
    kr t511 (.i .i64 (1)) M) t0 t1 t511 M
theorem z14_3 (cl : Cl) (m : Nat) (kr : X → X → Mm → CX) (kn : X → X → Mm → CX) : semK cl m T14_3 (fun F M => kn (gT 511 F) (g4 F) M) (fun _ _ _ => .no) (fun F M => kr (gT 511 F) (g4 F) M) = fun F M => d14_3 cl m kr kn (g0 F) (g1 F) (gT 511 F) M := by
  have hb : semK cl m U14_3 (fun F M => kn (gT 511 F) (g4 F) M) (fun _ _ _ => .no) (fun F M => kr (gT 511 F) (g4 F) M) = fun F M => (fun t511 M =>
    kr t511 (.i .i64 (1)) M) (gT 511 F) M := by funext F M; kernel_rfl
  show semK cl m T14_4 (semK cl m U14_3 (fun F M => kn (gT 511 F) (g4 F) M) (fun _ _ _ => .no) (fun F M => kr (gT 511 F) (g4 F) M)) (fun _ _ _ => .no) (fun F M => kr (gT 511 F) (g4 F) M) = _
  rw [hb]
  exact (z14_4 cl m kr (fun t511 M =>
    kr t511 (.i .i64 (1)) M) ).trans (by funext F M; kernel_rfl)
noncomputable def T14_2 : CT := (.seq U14_2 T14_3)
noncomputable def d14_2 (cl : Cl) (m : Nat) (kr : X → X → Mm → CX) (kn : X → X → Mm → CX) (t0 t1 t511 : X) (M : Mm) : CX :=
  vLenS t0 fun t7 =>
  vLenS t1 fun t9 =>
  vBin .neq t7 t9 fun t10 =>
  vIf t10 (
    kr t511 (.i .i64 (0)) M) (
  d14_3 cl m kr kn t0 t1 t511 M)
theorem z14_2 (cl : Cl) (m : Nat) (kr : X → X → Mm → CX) (kn : X → X → Mm → CX) : semK cl m T14_2 (fun F M => kn (gT 511 F) (g4 F) M) (fun _ _ _ => .no) (fun F M => kr (gT 511 F) (g4 F) M) = fun F M => d14_2 cl m kr kn (g0 F) (g1 F) (gT 511 F) M := by
  show semK cl m U14_2 (semK cl m T14_3 (fun F M => kn (gT 511 F) (g4 F) M) (fun _ _ _ => .no) (fun F M => kr (gT 511 F) (g4 F) M)) (fun _ _ _ => .no) (fun F M => kr (gT 511 F) (g4 F) M) = _
  rw [z14_3 cl m kr kn]
  funext F M; kernel_rfl
noncomputable def T14_1 : CT := (.seq U14_1 T14_2)
noncomputable def d14_1 (cl : Cl) (m : Nat) (kr : X → X → Mm → CX) (kn : X → X → Mm → CX) (t0 t1 t511 : X) (M : Mm) : CX :=
  d14_2 cl m kr kn t0 t1 t511 M
theorem z14_1 (cl : Cl) (m : Nat) (kr : X → X → Mm → CX) (kn : X → X → Mm → CX) : semK cl m T14_1 (fun F M => kn (gT 511 F) (g4 F) M) (fun _ _ _ => .no) (fun F M => kr (gT 511 F) (g4 F) M) = fun F M => d14_1 cl m kr kn (g0 F) (g1 F) (gT 511 F) M := by
  show semK cl m U14_1 (semK cl m T14_2 (fun F M => kn (gT 511 F) (g4 F) M) (fun _ _ _ => .no) (fun F M => kr (gT 511 F) (g4 F) M)) (fun _ _ _ => .no) (fun F M => kr (gT 511 F) (g4 F) M) = _
  rw [z14_2 cl m kr kn]
  funext F M; kernel_rfl
noncomputable def t14 : CT := T14_1
theorem z14 (cl : Cl) (m : Nat) (kr : X → X → Mm → CX) : semK cl m t14 (fun F M => kr (gT 511 F) (g4 F) M) (fun _ _ _ => .no) (fun F M => kr (gT 511 F) (g4 F) M) = fun F M => d14_1 cl m kr kr (g0 F) (g1 F) (gT 511 F) M := z14_1 cl m kr kr
noncomputable def d14 (cl : Cl) (m : Nat) (kr : X → X → Mm → CX) (t0 t1 : X) (M : Mm) : CX :=
  d14_1 cl m kr kr t0 t1 (.v .undef) M
/-! 15: countersign/countersignref36.Same -/
noncomputable def t15 : CT := (.seq (.ops [(.box 24 4 g0, s2),
    (.box 24 4 g1, s3),
    (.move (kX (.i .i64 (0))), s4)]) (.seq (.seq (.ops [(.fieldAddr 1 g2, s5),
    (.load1 g5, s6),
    (.fieldAddr 1 g3, s7),
    (.load1 g7, s8),
    (.bin .neq g6 g8, s9),
    (.move g9, s10),
    (.guard g10 false (.fieldAddr 2 g2), s11),
    (.guard g10 false (.load1 g11), s12),
    (.guard g10 false (.fieldAddr 2 g3), s13),
    (.guard g10 false (.load1 g13), s14),
    (.guard g10 false (.bin .neq g12 g14), s15),
    (.pick g10 (kX (.b true)) g15, s16),
    (.move g16, s17),
    (.guard g17 false (.fieldAddr 3 g2), s18),
    (.guard g17 false (.load1 g18), s19),
    (.guard g17 false (.fieldAddr 3 g3), s20),
    (.guard g17 false (.load1 g20), s21),
    (.guard g17 false (.bin .neq g19 g21), s22),
    (.pick g17 (kX (.b true)) g22, s23)]) (.cond g23 (.seq (.ops [(.move (kX (.i .i64 (0))), s4)]) .ret) .skip)) (.seq (.ops [(.fieldAddr 0 g2, s24),
    (.load1 g24, s25),
    (.fieldAddr 0 g3, s26),
    (.load1 g26, s27),
    (.call 14 [g25, g27], s28),
    (.move g28, s4)]) .ret)))
noncomputable def d15_1 (cl : Cl) (m : Nat) (kr : X → X → Mm → CX) (t0 t1 t511 : X) (M : Mm) : CX :=
  vBox 24 4 t0 M fun t2 M1 =>
  vBox 24 4 t1 M1 fun t3 M2 =>
  vFieldAddr 1 t2 fun t5 =>
  vLoad1 t5 M2 fun t6 =>
  vFieldAddr 1 t3 fun t7 =>
  vLoad1 t7 M2 fun t8 =>
  vBin .neq t6 t8 fun t9 =>
  vGuard t9 false (fun k => vFieldAddr 2 t2 fun y => k y M2) M2 fun t11 M3 =>
  vGuard t9 false (fun k => vLoad1 t11 M3 fun y => k y M3) M3 fun t12 M5 =>
  vGuard t9 false (fun k => vFieldAddr 2 t3 fun y => k y M5) M5 fun t13 M7 =>
  vGuard t9 false (fun k => vLoad1 t13 M7 fun y => k y M7) M7 fun t14 M9 =>
  vGuard t9 false (fun k => vBin .neq t12 t14 fun y => k y M9) M9 fun t15 M11 =>
  vPick t9 (.b true) t15 fun t16 =>
  vGuard t16 false (fun k => vFieldAddr 3 t2 fun y => k y M11) M11 fun t18 M13 =>
  vGuard t16 false (fun k => vLoad1 t18 M13 fun y => k y M13) M13 fun t19 M15 =>
  vGuard t16 false (fun k => vFieldAddr 3 t3 fun y => k y M15) M15 fun t20 M17 =>
  vGuard t16 false (fun k => vLoad1 t20 M17 fun y => k y M17) M17 fun t21 M19 =>
  vGuard t16 false (fun k => vBin .neq t19 t21 fun y => k y M19) M19 fun t22 M21 =>
  vPick t16 (.b true) t22 fun t23 =>
  vIf t23 (
    kr t511 (.i .i64 (0)) M21) (
  vFieldAddr 0 t2 fun t24 =>
  vLoad1 t24 M21 fun t25 =>
  vFieldAddr 0 t3 fun t26 =>
  vLoad1 t26 M21 fun t27 =>
  vCall cl 14 [t25, t27] M21 fun t28 M23 =>
  kr t511 t28 M23)
theorem z15 (cl : Cl) (m : Nat) (kr : X → X → Mm → CX) : semK cl m t15 (fun F M => kr (gT 511 F) (g4 F) M) (fun _ _ _ => .no) (fun F M => kr (gT 511 F) (g4 F) M) = fun F M => d15_1 cl m kr (g0 F) (g1 F) (gT 511 F) M := by funext F M; kernel_rfl
noncomputable def d15 (cl : Cl) (m : Nat) (kr : X → X → Mm → CX) (t0 t1 : X) (M : Mm) : CX :=
  d15_1 cl m kr t0 t1 (.v .undef) M
end Go.Proofs.Ytehbfajmileefaa.Px
