import Derived.Test.YtehbfajmileefaaHz
set_option linter.constructorNameAsVariable false
set_option linter.unusedVariables false
set_option maxRecDepth 100000
set_option maxHeartbeats 4000000
namespace Go.Proofs.Ytehbfajmileefaa.Hx
open Go.RowKit Go.Proofs.Ytehbfajmileefaa.Vx Go.Proofs.Ytehbfajmileefaa.Fx Go.Proofs.Ytehbfajmileefaa.Px
noncomputable section
abbrev K0 := Nm → CW
abbrev K1 := W → K0
abbrev K2 := W → K1
abbrev K3 := W → K2
abbrev K4 := W → K3
abbrev K5 := W → K4
abbrev K6 := W → K5
abbrev K7 := W → K6
abbrev K8 := W → K7
abbrev K9 := W → K8
abbrev K10 := W → K9
abbrev K11 := W → K10
abbrev K12 := W → K11
abbrev NO : Nat → FW → Nm → CW := fun _ _ _ => .no
abbrev Zx_1_2_3_511 (k : K4) : FW → Nm → CW := fun F M => k (F 1) (F 2) (F 3) (F 511) M
abbrev Z6 (k : K2) : FW → Nm → CW := fun F M => k (F 511) (F 6) M
abbrev Zx_2_10_15_16_511 (k : K5) : FW → Nm → CW := fun F M => k (F 2) (F 10) (F 15) (F 16) (F 511) M
abbrev Z (k : K1) : FW → Nm → CW := fun F M => k (F 511) M
abbrev Zx_0_511 (k : K2) : FW → Nm → CW := fun F M => k (F 0) (F 511) M
abbrev Z2 (k : K2) : FW → Nm → CW := fun F M => k (F 511) (F 2) M
abbrev Z4 (k : K2) : FW → Nm → CW := fun F M => k (F 511) (F 4) M
abbrev Zx_2_4_511 (k : K3) : FW → Nm → CW := fun F M => k (F 2) (F 4) (F 511) M
abbrev Z4_5_6 (k : K4) : FW → Nm → CW := fun F M => k (F 511) (F 4) (F 5) (F 6) M
abbrev Zx_4_511 (k : K2) : FW → Nm → CW := fun F M => k (F 4) (F 511) M
abbrev Z4_5_6_7 (k : K5) : FW → Nm → CW := fun F M => k (F 511) (F 4) (F 5) (F 6) (F 7) M
abbrev Zx_2_4_7_511 (k : K4) : FW → Nm → CW := fun F M => k (F 2) (F 4) (F 7) (F 511) M
abbrev Zx_4_5_511 (k : K3) : FW → Nm → CW := fun F M => k (F 4) (F 5) (F 511) M
abbrev Zx_1_6_511 (k : K3) : FW → Nm → CW := fun F M => k (F 1) (F 6) (F 511) M
abbrev Z4_5 (k : K3) : FW → Nm → CW := fun F M => k (F 511) (F 4) (F 5) M
abbrev Zx_5_511 (k : K2) : FW → Nm → CW := fun F M => k (F 5) (F 511) M
def U4_1 : HT := (.ops [(.box 42 4 (.tmp 0), (some 3)),
    (.move (.const (.bool false)), (some 6))])
def U4_2 : HT := (.seq (.ops [(.move (.tmp 1), (some 19)),
    (.lenS (.tmp 19), (some 20)),
    (.bin .gtr (.tmp 20) (.const (.int .i64 (30))), (some 21))]) (.cond (.tmp 21) (.seq (.ops [(.call 9 [], (some 22)),
    (.move (.tmp 22), (some 6))]) .ret) .skip))
def U4_3 : HT := (.ops [(.move (.const (.int .i64 (0))), (some 7))])
def U4_4 : HT := (.seq (.seq (.ops [(.move (.tmp 7), (some 23)),
    (.move (.tmp 1), (some 24)),
    (.lenS (.tmp 24), (some 25)),
    (.bin .lss (.tmp 23) (.tmp 25), (some 26))]) (.cond (.tmp 26) .skip (.exit 0))) (.seq (.block 1 (.seq (.ops [(.move (.tmp 1), (some 29)),
    (.move (.tmp 7), (some 30)),
    (.indexAddr 1 (.tmp 29) (.tmp 30), (some 31)),
    (.load1 (.tmp 31), (some 32)),
    (.lenS (.tmp 32), (some 33)),
    (.bin .gtr (.tmp 33) (.const (.int .i64 (6))), (some 34))]) (.cond (.tmp 34) (.seq (.ops [(.call 9 [], (some 35)),
    (.move (.tmp 35), (some 6))]) .ret) .skip))) (.ops [(.move (.tmp 7), (some 27)),
    (.bin .add (.tmp 27) (.const (.int .i64 (1))), (some 28)),
    (.move (.tmp 28), (some 7))])))
def T4_6 : HT := (.loop (.canon [1, 2, 3, 7, 511] U4_4))
def d4_6b (cl : Clh) (m : Nat) (kr : K2) (k0 : K4) (q : K5) (t1 t2 t3 t7 t511 : W) (M : Nm) : CW :=
  hLenS t1 fun t25 =>
  hBin .lss t7 t25 fun t26 =>
  hIf t26 (
  hIndexAddr 1 t1 t7 fun t31 =>
  hLoad1 t31 M fun t32 =>
  hLenS t32 fun t33 =>
  hBin .gtr t33 (.i .i64 (6)) fun t34 =>
  hIf t34 (
    hCall cl 9 [] M fun t35 M1 =>
    kr t511 t35 M1) (
  hBin .add t7 (.i .i64 (1)) fun t28 =>
  q t1 t2 t3 t28 t511 M)) (
  k0 t1 t2 t3 t511 M)
def d4_6 (cl : Clh) (m : Nat) (kr : K2) (k0 : K4) : Nat → W → W → W → W → W → Nm → CW
  | 0 => fun _ _ _ _ _ _ => .no
  | n + 1 => fun t1 t2 t3 t7 t511 M => jn (fun (σ : List Nat) => d4_6b cl m kr k0 (d4_6 cl m kr k0 n) (ren 4 σ t1) (ren 4 σ t2) (ren 4 σ t3) (ren 4 σ t7) (ren 4 σ t511) ⟨canH M.H σ 0 σ, σ.length⟩) (reach M.H [t1, t2, t3, t7, t511])
theorem z4_6 (cl : Clh) (m : Nat) (kr : K2) (kn : K4) (k0 : K4) : hK prg cl m T4_6 (Zx_1_2_3_511 kn) (exH 0 (Zx_1_2_3_511 k0) NO) (Z6 kr) = fun F M => d4_6 cl m kr k0 m (F 1) (F 2) (F 3) (F 7) (F 511) M := by
  have key : ∀ j, loopH (fun q => hK prg cl m (.canon [1, 2, 3, 7, 511] U4_4) q (exH 0 (Zx_1_2_3_511 k0) NO) (Z6 kr)) j = fun F M => d4_6 cl m kr k0 j (F 1) (F 2) (F 3) (F 7) (F 511) M := by
    intro j
    induction j with
    | zero => rfl
    | succ j ih =>
      show (fun (F : FW) (N : Nm) => hK prg cl m U4_4 (loopH (fun q => hK prg cl m (.canon [1, 2, 3, 7, 511] U4_4) q (exH 0 (Zx_1_2_3_511 k0) NO) (Z6 kr)) j) (exH 0 (Zx_1_2_3_511 k0) NO) (Z6 kr) (canF [1, 2, 3, 7, 511] (reach N.H ([1, 2, 3, 7, 511].map F)) F) ⟨canH N.H (reach N.H ([1, 2, 3, 7, 511].map F)) 0 (reach N.H ([1, 2, 3, 7, 511].map F)), (reach N.H ([1, 2, 3, 7, 511].map F)).length⟩) = _
      rw [ih]
      have hb : hK prg cl m U4_4 (fun F M => d4_6 cl m kr k0 j (F 1) (F 2) (F 3) (F 7) (F 511) M) (exH 0 (Zx_1_2_3_511 k0) NO) (Z6 kr) = fun F M => d4_6b cl m kr k0 (d4_6 cl m kr k0 j) (F 1) (F 2) (F 3) (F 7) (F 511) M := by funext F M; kernel_rfl
      rw [hb]; funext F M; kernel_rfl
  exact key m
def T4_5 : HT := (.block 0 T4_6)
def d4_5 (cl : Clh) (m : Nat) (kr : K2) (kn : K4) (t1 t2 t3 t7 t511 : W) (M : Nm) : CW :=
  d4_6 cl m kr kn m t1 t2 t3 t7 t511 M
theorem z4_5 (cl : Clh) (m : Nat) (kr : K2) (kn : K4) : hK prg cl m T4_5 (Zx_1_2_3_511 kn) NO (Z6 kr) = fun F M => d4_5 cl m kr kn (F 1) (F 2) (F 3) (F 7) (F 511) M := by
  show hK prg cl m T4_6 (Zx_1_2_3_511 kn) (exH 0 (Zx_1_2_3_511 kn) NO) (Z6 kr) = _
  exact (z4_6 cl m kr kn kn).trans (by funext F M; kernel_rfl)
def T4_4 : HT := (.seq U4_3 T4_5)
def d4_4 (cl : Clh) (m : Nat) (kr : K2) (kn : K4) (t1 t2 t3 t511 : W) (M : Nm) : CW :=
  d4_5 cl m kr kn t1 t2 t3 (.i .i64 (0)) t511 M
theorem z4_4 (cl : Clh) (m : Nat) (kr : K2) (kn : K4) : hK prg cl m T4_4 (Zx_1_2_3_511 kn) NO (Z6 kr) = fun F M => d4_4 cl m kr kn (F 1) (F 2) (F 3) (F 511) M := by
  show hK prg cl m U4_3 (hK prg cl m T4_5 (Zx_1_2_3_511 kn) NO (Z6 kr)) NO (Z6 kr) = _
  rw [z4_5 cl m kr kn]
  funext F M; kernel_rfl
def U4_5 : HT := (.ops [(.loadN 4 (.tmp 3), (some 36)),
    (.call 18 [(.tmp 36)], (some 37)),
    (.alloc 24 4 [.nils, .int .i64 (.int (0)), .int .i64 (.int (0)), .int .i64 (.int (0))], (some 8)),
    (.storeN 4 (.tmp 8) (.tmp 37), none)])
def U4_6 : HT := (.ops [(.loadN 4 (.tmp 8), (some 39)),
    (.move (.tmp 1), (some 40)),
    (.call 19 [(.tmp 39), (.tmp 40)], (some 41)),
    (.move (.tmp 41), (some 38)),
    (.ext 0 (.tmp 38), (some 42)),
    (.ext 1 (.tmp 38), (some 43)),
    (.ext 2 (.tmp 38), (some 44)),
    (.alloc 24 4 [.nils, .int .i64 (.int (0)), .int .i64 (.int (0)), .int .i64 (.int (0))], (some 9)),
    (.storeN 4 (.tmp 9) (.tmp 42), none),
    (.move (.tmp 43), (some 10)),
    (.move (.tmp 44), (some 11))])
def U4_7 : HT := (.ops [(.loadN 4 (.tmp 8), (some 46)),
    (.move (.tmp 1), (some 47)),
    (.call 20 [(.tmp 46), (.tmp 47)], (some 48)),
    (.move (.tmp 48), (some 45)),
    (.ext 0 (.tmp 45), (some 49)),
    (.ext 1 (.tmp 45), (some 50)),
    (.ext 2 (.tmp 45), (some 51)),
    (.alloc 24 4 [.nils, .int .i64 (.int (0)), .int .i64 (.int (0)), .int .i64 (.int (0))], (some 12)),
    (.storeN 4 (.tmp 12) (.tmp 49), none),
    (.move (.tmp 50), (some 13)),
    (.move (.tmp 51), (some 14))])
def U4_8 : HT := (.seq (.ops [(.move (.tmp 14), (some 52)),
    (.move (.tmp 11), (some 53)),
    (.bin .neq (.tmp 52) (.tmp 53), (some 54)),
    (.move (.tmp 54), (some 55)),
    (.guard 55 false (.loadN 4 (.tmp 12)), (some 56)),
    (.guard 55 false (.loadN 4 (.tmp 9)), (some 57)),
    (.guard 55 false (.call 15 [(.tmp 56), (.tmp 57)]), (some 58)),
    (.guard 55 false (.move (.tmp 13)), (some 59)),
    (.guard 55 false (.move (.tmp 10)), (some 60)),
    (.guard 55 false (.call 14 [(.tmp 59), (.tmp 60)]), (some 61)),
    (.guard 55 false (.bin .mul (.tmp 58) (.tmp 61)), (some 62)),
    (.guard 55 false (.bin .eql (.tmp 62) (.const (.int .i64 (0)))), (some 63)),
    (.pick (.tmp 55) (.const (.bool true)) (.tmp 63), (some 64)),
    (.move (.tmp 64), (some 65)),
    (.guard 65 false (.move (.tmp 13)), (some 66)),
    (.guard 65 false (.cap 22 (.tmp 66)), (some 67)),
    (.guard 65 false (.move (.tmp 13)), (some 68)),
    (.guard 65 false (.lenS (.tmp 68)), (some 69)),
    (.guard 65 false (.bin .neq (.tmp 67) (.tmp 69)), (some 70)),
    (.pick (.tmp 65) (.const (.bool true)) (.tmp 70), (some 71))]) (.cond (.tmp 71) (.seq (.ops [(.move (.const (.bool false)), (some 6))]) .ret) .skip))
def U4_9 : HT := (.ops [(.move (.tmp 13), (some 73)),
    (.move (.tmp 2), (some 74)),
    (.call 21 [(.tmp 73), (.tmp 74)], (some 75)),
    (.move (.tmp 75), (some 72)),
    (.ext 0 (.tmp 72), (some 76)),
    (.ext 1 (.tmp 72), (some 77)),
    (.move (.tmp 76), (some 15)),
    (.move (.tmp 77), (some 16))])
def U4_10 : HT := (.seq (.ops [(.move (.tmp 2), (some 78)),
    (.bin .lss (.tmp 78) (.const (.int .i64 (1))), (some 79)),
    (.move (.tmp 79), (some 80)),
    (.guard 80 false (.move (.tmp 2)), (some 81)),
    (.guard 80 false (.bin .gtr (.tmp 81) (.const (.int .i64 (16)))), (some 82)),
    (.pick (.tmp 80) (.const (.bool true)) (.tmp 82), (some 83))]) (.cond (.tmp 83) (.seq (.ops [(.move (.tmp 16), (some 84)),
    (.bin .eql (.tmp 84) (.const (.int .i64 (4))), (some 85)),
    (.move (.tmp 85), (some 86)),
    (.guard 86 true (.move (.tmp 15)), (some 87)),
    (.guard 86 true (.lenS (.tmp 87)), (some 88)),
    (.guard 86 true (.bin .eql (.tmp 88) (.const (.int .i64 (0)))), (some 89)),
    (.pick (.tmp 86) (.tmp 89) (.const (.bool false)), (some 90)),
    (.move (.tmp 90), (some 91)),
    (.guard 91 true (.call 9 []), (some 92)),
    (.pick (.tmp 91) (.tmp 92) (.const (.bool false)), (some 93)),
    (.move (.tmp 93), (some 6))]) .ret) .skip))
def U4_11 : HT := (.ops [(.move (.const (.int .i64 (0))), (some 17))])
def U4_12 : HT := (.seq (.seq (.ops [(.move (.tmp 17), (some 94)),
    (.move (.tmp 10), (some 95)),
    (.lenS (.tmp 95), (some 96)),
    (.bin .lss (.tmp 94) (.tmp 96), (some 97))]) (.cond (.tmp 97) .skip (.exit 2))) (.seq (.block 3 (.seq (.ops [(.move (.tmp 10), (some 100)),
    (.move (.tmp 17), (some 101)),
    (.indexAddr 1 (.tmp 100) (.tmp 101), (some 102)),
    (.load1 (.tmp 102), (some 103)),
    (.move (.tmp 2), (some 104)),
    (.bin .geq (.tmp 103) (.tmp 104), (some 105))]) (.cond (.tmp 105) (.seq (.ops [(.move (.tmp 16), (some 106)),
    (.bin .eql (.tmp 106) (.const (.int .i64 (4))), (some 107)),
    (.move (.tmp 107), (some 108)),
    (.guard 108 true (.move (.tmp 15)), (some 109)),
    (.guard 108 true (.lenS (.tmp 109)), (some 110)),
    (.guard 108 true (.bin .eql (.tmp 110) (.const (.int .i64 (0)))), (some 111)),
    (.pick (.tmp 108) (.tmp 111) (.const (.bool false)), (some 112)),
    (.move (.tmp 112), (some 113)),
    (.guard 113 true (.call 9 []), (some 114)),
    (.pick (.tmp 113) (.tmp 114) (.const (.bool false)), (some 115)),
    (.move (.tmp 115), (some 6))]) .ret) .skip))) (.ops [(.move (.tmp 17), (some 98)),
    (.bin .add (.tmp 98) (.const (.int .i64 (1))), (some 99)),
    (.move (.tmp 99), (some 17))])))
def T4_16 : HT := (.loop (.canon [2, 10, 15, 16, 17, 511] U4_12))
def d4_16b (cl : Clh) (m : Nat) (kr : K2) (k2 : K5) (q : K6) (t2 t10 t15 t16 t17 t511 : W) (M : Nm) : CW :=
  hLenS t10 fun t96 =>
  hBin .lss t17 t96 fun t97 =>
  hIf t97 (
  hIndexAddr 1 t10 t17 fun t102 =>
  hLoad1 t102 M fun t103 =>
  hBin .geq t103 t2 fun t105 =>
  hIf t105 (
    hBin .eql t16 (.i .i64 (4)) fun t107 =>
    hGuard t107 true (fun k => k t15 M) M fun t109 M2 =>
    hGuard t107 true (fun k => hLenS t109 fun y => k y M2) M2 fun t110 M4 =>
    hGuard t107 true (fun k => hBin .eql t110 (.i .i64 (0)) fun y => k y M4) M4 fun t111 M6 =>
    hPick t107 t111 (.b false) fun t112 =>
    hGuard t112 true (fun k => hCall cl 9 [] M6 fun y M9 => k y M9) M6 fun t114 M8 =>
    hPick t112 t114 (.b false) fun t115 =>
    kr t511 t115 M8) (
  hBin .add t17 (.i .i64 (1)) fun t99 =>
  q t2 t10 t15 t16 t99 t511 M)) (
  k2 t2 t10 t15 t16 t511 M)
def d4_16 (cl : Clh) (m : Nat) (kr : K2) (k2 : K5) : Nat → W → W → W → W → W → W → Nm → CW
  | 0 => fun _ _ _ _ _ _ _ => .no
  | n + 1 => fun t2 t10 t15 t16 t17 t511 M => jn (fun (σ : List Nat) => d4_16b cl m kr k2 (d4_16 cl m kr k2 n) (ren 4 σ t2) (ren 4 σ t10) (ren 4 σ t15) (ren 4 σ t16) (ren 4 σ t17) (ren 4 σ t511) ⟨canH M.H σ 0 σ, σ.length⟩) (reach M.H [t2, t10, t15, t16, t17, t511])
theorem z4_16 (cl : Clh) (m : Nat) (kr : K2) (kn : K5) (k2 : K5) : hK prg cl m T4_16 (Zx_2_10_15_16_511 kn) (exH 2 (Zx_2_10_15_16_511 k2) NO) (Z6 kr) = fun F M => d4_16 cl m kr k2 m (F 2) (F 10) (F 15) (F 16) (F 17) (F 511) M := by
  have key : ∀ j, loopH (fun q => hK prg cl m (.canon [2, 10, 15, 16, 17, 511] U4_12) q (exH 2 (Zx_2_10_15_16_511 k2) NO) (Z6 kr)) j = fun F M => d4_16 cl m kr k2 j (F 2) (F 10) (F 15) (F 16) (F 17) (F 511) M := by
    intro j
    induction j with
    | zero => rfl
    | succ j ih =>
      show (fun (F : FW) (N : Nm) => hK prg cl m U4_12 (loopH (fun q => hK prg cl m (.canon [2, 10, 15, 16, 17, 511] U4_12) q (exH 2 (Zx_2_10_15_16_511 k2) NO) (Z6 kr)) j) (exH 2 (Zx_2_10_15_16_511 k2) NO) (Z6 kr) (canF [2, 10, 15, 16, 17, 511] (reach N.H ([2, 10, 15, 16, 17, 511].map F)) F) ⟨canH N.H (reach N.H ([2, 10, 15, 16, 17, 511].map F)) 0 (reach N.H ([2, 10, 15, 16, 17, 511].map F)), (reach N.H ([2, 10, 15, 16, 17, 511].map F)).length⟩) = _
      rw [ih]
      have hb : hK prg cl m U4_12 (fun F M => d4_16 cl m kr k2 j (F 2) (F 10) (F 15) (F 16) (F 17) (F 511) M) (exH 2 (Zx_2_10_15_16_511 k2) NO) (Z6 kr) = fun F M => d4_16b cl m kr k2 (d4_16 cl m kr k2 j) (F 2) (F 10) (F 15) (F 16) (F 17) (F 511) M := by funext F M; kernel_rfl
      rw [hb]; funext F M; kernel_rfl
  exact key m
def T4_15 : HT := (.block 2 T4_16)
def d4_15 (cl : Clh) (m : Nat) (kr : K2) (kn : K5) (t2 t10 t15 t16 t17 t511 : W) (M : Nm) : CW :=
  d4_16 cl m kr kn m t2 t10 t15 t16 t17 t511 M
theorem z4_15 (cl : Clh) (m : Nat) (kr : K2) (kn : K5) : hK prg cl m T4_15 (Zx_2_10_15_16_511 kn) NO (Z6 kr) = fun F M => d4_15 cl m kr kn (F 2) (F 10) (F 15) (F 16) (F 17) (F 511) M := by
  show hK prg cl m T4_16 (Zx_2_10_15_16_511 kn) (exH 2 (Zx_2_10_15_16_511 kn) NO) (Z6 kr) = _
  exact (z4_16 cl m kr kn kn).trans (by funext F M; kernel_rfl)
def T4_14 : HT := (.seq U4_11 T4_15)
def d4_14 (cl : Clh) (m : Nat) (kr : K2) (kn : K5) (t2 t10 t15 t16 t511 : W) (M : Nm) : CW :=
  d4_15 cl m kr kn t2 t10 t15 t16 (.i .i64 (0)) t511 M
theorem z4_14 (cl : Clh) (m : Nat) (kr : K2) (kn : K5) : hK prg cl m T4_14 (Zx_2_10_15_16_511 kn) NO (Z6 kr) = fun F M => d4_14 cl m kr kn (F 2) (F 10) (F 15) (F 16) (F 511) M := by
  show hK prg cl m U4_11 (hK prg cl m T4_15 (Zx_2_10_15_16_511 kn) NO (Z6 kr)) NO (Z6 kr) = _
  rw [z4_15 cl m kr kn]
  funext F M; kernel_rfl
def U4_13 : HT := (.seq (.ops [(.move (.tmp 16), (some 116)),
    (.bin .neq (.tmp 116) (.const (.int .i64 (0))), (some 117)),
    (.move (.tmp 117), (some 118)),
    (.guard 118 false (.move (.tmp 15)), (some 119)),
    (.guard 118 false (.lenS (.tmp 119)), (some 120)),
    (.guard 118 false (.move (.tmp 2)), (some 121)),
    (.guard 118 false (.bin .neq (.tmp 120) (.tmp 121)), (some 122)),
    (.pick (.tmp 118) (.const (.bool true)) (.tmp 122), (some 123)),
    (.move (.tmp 123), (some 124)),
    (.guard 124 false (.move (.tmp 15)), (some 125)),
    (.guard 124 false (.cap 22 (.tmp 125)), (some 126)),
    (.guard 124 false (.move (.tmp 2)), (some 127)),
    (.guard 124 false (.bin .neq (.tmp 126) (.tmp 127)), (some 128)),
    (.pick (.tmp 124) (.const (.bool true)) (.tmp 128), (some 129))]) (.cond (.tmp 129) (.seq (.ops [(.move (.const (.bool false)), (some 6))]) .ret) .skip))
def U4_14 : HT := (.seq (.ops [(.call 9 [], (some 143)),
    (.move (.tmp 143), (some 6))]) .ret)
def U4_15 : HT := (.ops [(.move (.const (.int .i64 (0))), (some 18))])
def U4_16 : HT := (.seq (.seq (.ops [(.move (.tmp 18), (some 130)),
    (.move (.tmp 2), (some 131)),
    (.bin .lss (.tmp 130) (.tmp 131), (some 132))]) (.cond (.tmp 132) .skip (.exit 4))) (.seq (.block 5 (.seq (.draw [⟨.move (.tmp 15), (some 135), 0, none, false, none, true⟩,
    ⟨.move (.tmp 18), (some 136), 1, none, false, none, true⟩,
    ⟨.indexAddr 1 (.tmp 135) (.tmp 136), (some 137), 2, none, false, none, true⟩,
    ⟨.load1 (.tmp 137), (some 138), 3, (some (.tmp 137)), false, none, false⟩,
    ⟨.move (.tmp 10), (some 139), 4, none, false, none, true⟩,
    ⟨.move (.tmp 18), (some 140), 5, none, false, none, true⟩,
    ⟨.call 22 [(.tmp 139), (.tmp 140)], (some 141), 6, none, true, (some [0, 1, 2, 3]), false⟩,
    ⟨.bin .neq (.tmp 138) (.tmp 141), (some 142), 7, none, false, none, false⟩]) (.cond (.tmp 142) (.seq (.ops [(.move (.const (.bool false)), (some 6))]) .ret) .skip))) (.ops [(.move (.tmp 18), (some 133)),
    (.bin .add (.tmp 133) (.const (.int .i64 (1))), (some 134)),
    (.move (.tmp 134), (some 18))])))
def T4_21 : HT := (.loop (.canon [2, 10, 15, 18, 511] U4_16))
def d4_21b (cl : Clh) (m : Nat) (kr : K2) (k4 : K1) (q : K5) (t2 t10 t15 t18 t511 : W) (M : Nm) : CW :=
  hBin .lss t18 t2 fun t132 =>
  hIf t132 (
  jn (fun (n1 : Nat) =>
  gate true true true <|
  gate true true true <|
  gate true true true <|
  hIndexAddr 1 t15 t18 fun t137 =>
  gate (oldV n1 true t137) true true <|
  hLoad1 t137 M fun t138 =>
  gate true true true <|
  gate true true true <|
  gate true (adsW M.H none [t137]) true <|
  hCall cl 22 [t10, t18] M fun t141 M10 =>
  gate true true true <|
  hBin .neq t138 t141 fun t142 =>
  hIf t142 (
    kr t511 (.b false) M10) (
  hBin .add t18 (.i .i64 (1)) fun t134 =>
  q t2 t10 t15 t134 t511 M10)) M.nx) (
  k4 t511 M)
def d4_21 (cl : Clh) (m : Nat) (kr : K2) (k4 : K1) : Nat → W → W → W → W → W → Nm → CW
  | 0 => fun _ _ _ _ _ _ => .no
  | n + 1 => fun t2 t10 t15 t18 t511 M => jn (fun (σ : List Nat) => d4_21b cl m kr k4 (d4_21 cl m kr k4 n) (ren 4 σ t2) (ren 4 σ t10) (ren 4 σ t15) (ren 4 σ t18) (ren 4 σ t511) ⟨canH M.H σ 0 σ, σ.length⟩) (reach M.H [t2, t10, t15, t18, t511])
theorem z4_21 (cl : Clh) (m : Nat) (kr : K2) (kn : K1) (k4 : K1) : hK prg cl m T4_21 (Z kn) (exH 4 (Z k4) NO) (Z6 kr) = fun F M => d4_21 cl m kr k4 m (F 2) (F 10) (F 15) (F 18) (F 511) M := by
  have key : ∀ j, loopH (fun q => hK prg cl m (.canon [2, 10, 15, 18, 511] U4_16) q (exH 4 (Z k4) NO) (Z6 kr)) j = fun F M => d4_21 cl m kr k4 j (F 2) (F 10) (F 15) (F 18) (F 511) M := by
    intro j
    induction j with
    | zero => rfl
    | succ j ih =>
      show (fun (F : FW) (N : Nm) => hK prg cl m U4_16 (loopH (fun q => hK prg cl m (.canon [2, 10, 15, 18, 511] U4_16) q (exH 4 (Z k4) NO) (Z6 kr)) j) (exH 4 (Z k4) NO) (Z6 kr) (canF [2, 10, 15, 18, 511] (reach N.H ([2, 10, 15, 18, 511].map F)) F) ⟨canH N.H (reach N.H ([2, 10, 15, 18, 511].map F)) 0 (reach N.H ([2, 10, 15, 18, 511].map F)), (reach N.H ([2, 10, 15, 18, 511].map F)).length⟩) = _
      rw [ih]
      have hb : hK prg cl m U4_16 (fun F M => d4_21 cl m kr k4 j (F 2) (F 10) (F 15) (F 18) (F 511) M) (exH 4 (Z k4) NO) (Z6 kr) = fun F M => d4_21b cl m kr k4 (d4_21 cl m kr k4 j) (F 2) (F 10) (F 15) (F 18) (F 511) M := by funext F M; kernel_rfl
      rw [hb]; funext F M; kernel_rfl
  exact key m
def T4_20 : HT := (.block 4 T4_21)
def d4_20 (cl : Clh) (m : Nat) (kr : K2) (kn : K1) (t2 t10 t15 t18 t511 : W) (M : Nm) : CW :=
  d4_21 cl m kr kn m t2 t10 t15 t18 t511 M
theorem z4_20 (cl : Clh) (m : Nat) (kr : K2) (kn : K1) : hK prg cl m T4_20 (Z kn) NO (Z6 kr) = fun F M => d4_20 cl m kr kn (F 2) (F 10) (F 15) (F 18) (F 511) M := by
  show hK prg cl m T4_21 (Z kn) (exH 4 (Z kn) NO) (Z6 kr) = _
  exact (z4_21 cl m kr kn kn).trans (by funext F M; kernel_rfl)
def T4_19 : HT := (.seq U4_15 T4_20)
def d4_19 (cl : Clh) (m : Nat) (kr : K2) (kn : K1) (t2 t10 t15 t511 : W) (M : Nm) : CW :=
  d4_20 cl m kr kn t2 t10 t15 (.i .i64 (0)) t511 M
theorem z4_19 (cl : Clh) (m : Nat) (kr : K2) (kn : K1) : hK prg cl m T4_19 (Z kn) NO (Z6 kr) = fun F M => d4_19 cl m kr kn (F 2) (F 10) (F 15) (F 511) M := by
  show hK prg cl m U4_15 (hK prg cl m T4_20 (Z kn) NO (Z6 kr)) NO (Z6 kr) = _
  rw [z4_20 cl m kr kn]
  funext F M; kernel_rfl
def T4_18 : HT := (.seq T4_19 U4_14)
def d4_18 (cl : Clh) (m : Nat) (kr : K2) (kn : K2) (t2 t10 t15 t511 : W) (M : Nm) : CW :=
  d4_19 cl m kr (fun t511 M =>
    hCall cl 9 [] M fun t143 M11 =>
    kr t511 t143 M11) t2 t10 t15 t511 M
theorem z4_18 (cl : Clh) (m : Nat) (kr : K2) (kn : K2) : hK prg cl m T4_18 (Z6 kn) NO (Z6 kr) = fun F M => d4_18 cl m kr kn (F 2) (F 10) (F 15) (F 511) M := by
  have hb : hK prg cl m U4_14 (Z6 kn) NO (Z6 kr) = fun F M => (fun t511 M =>
    hCall cl 9 [] M fun t143 M11 =>
    kr t511 t143 M11) (F 511) M := by funext F M; kernel_rfl
  show hK prg cl m T4_19 (hK prg cl m U4_14 (Z6 kn) NO (Z6 kr)) NO (Z6 kr) = _
  rw [hb]
  exact (z4_19 cl m kr (fun t511 M =>
    hCall cl 9 [] M fun t143 M11 =>
    kr t511 t143 M11) ).trans (by funext F M; kernel_rfl)
def T4_17 : HT := (.seq U4_13 T4_18)
def d4_17 (cl : Clh) (m : Nat) (kr : K2) (kn : K2) (t2 t10 t15 t16 t511 : W) (M : Nm) : CW :=
  hBin .neq t16 (.i .i64 (0)) fun t117 =>
  hGuard t117 false (fun k => k t15 M) M fun t119 M12 =>
  hGuard t117 false (fun k => hLenS t119 fun y => k y M12) M12 fun t120 M14 =>
  hGuard t117 false (fun k => k t2 M14) M14 fun t121 M16 =>
  hGuard t117 false (fun k => hBin .neq t120 t121 fun y => k y M16) M16 fun t122 M18 =>
  hPick t117 (.b true) t122 fun t123 =>
  hGuard t123 false (fun k => k t15 M18) M18 fun t125 M20 =>
  hGuard t123 false (fun k => hCap prg 22 t125 fun y => k y M20) M20 fun t126 M22 =>
  hGuard t123 false (fun k => k t2 M22) M22 fun t127 M24 =>
  hGuard t123 false (fun k => hBin .neq t126 t127 fun y => k y M24) M24 fun t128 M26 =>
  hPick t123 (.b true) t128 fun t129 =>
  hIf t129 (
    kr t511 (.b false) M26) (
  d4_18 cl m kr kn t2 t10 t15 t511 M26)
theorem z4_17 (cl : Clh) (m : Nat) (kr : K2) (kn : K2) : hK prg cl m T4_17 (Z6 kn) NO (Z6 kr) = fun F M => d4_17 cl m kr kn (F 2) (F 10) (F 15) (F 16) (F 511) M := by
  show hK prg cl m U4_13 (hK prg cl m T4_18 (Z6 kn) NO (Z6 kr)) NO (Z6 kr) = _
  rw [z4_18 cl m kr kn]
  funext F M; kernel_rfl
def T4_13 : HT := (.seq T4_14 T4_17)
def d4_13 (cl : Clh) (m : Nat) (kr : K2) (kn : K2) (t2 t10 t15 t16 t511 : W) (M : Nm) : CW :=
  d4_14 cl m kr (fun t2 t10 t15 t16 t511 M => d4_17 cl m kr kn t2 t10 t15 t16 t511 M) t2 t10 t15 t16 t511 M
theorem z4_13 (cl : Clh) (m : Nat) (kr : K2) (kn : K2) : hK prg cl m T4_13 (Z6 kn) NO (Z6 kr) = fun F M => d4_13 cl m kr kn (F 2) (F 10) (F 15) (F 16) (F 511) M := by
  have hb : hK prg cl m T4_17 (Z6 kn) NO (Z6 kr) = fun F M => (fun t2 t10 t15 t16 t511 M => d4_17 cl m kr kn t2 t10 t15 t16 t511 M) (F 2) (F 10) (F 15) (F 16) (F 511) M := z4_17 cl m kr kn
  show hK prg cl m T4_14 (hK prg cl m T4_17 (Z6 kn) NO (Z6 kr)) NO (Z6 kr) = _
  rw [hb]
  exact (z4_14 cl m kr (fun t2 t10 t15 t16 t511 M => d4_17 cl m kr kn t2 t10 t15 t16 t511 M) ).trans (by funext F M; kernel_rfl)
def T4_12 : HT := (.seq U4_10 T4_13)
def d4_12 (cl : Clh) (m : Nat) (kr : K2) (kn : K2) (t2 t10 t15 t16 t511 : W) (M : Nm) : CW :=
  hBin .lss t2 (.i .i64 (1)) fun t79 =>
  hGuard t79 false (fun k => k t2 M) M fun t81 M28 =>
  hGuard t79 false (fun k => hBin .gtr t81 (.i .i64 (16)) fun y => k y M28) M28 fun t82 M30 =>
  hPick t79 (.b true) t82 fun t83 =>
  hIf t83 (
    hBin .eql t16 (.i .i64 (4)) fun t85 =>
    hGuard t85 true (fun k => k t15 M30) M30 fun t87 M32 =>
    hGuard t85 true (fun k => hLenS t87 fun y => k y M32) M32 fun t88 M34 =>
    hGuard t85 true (fun k => hBin .eql t88 (.i .i64 (0)) fun y => k y M34) M34 fun t89 M36 =>
    hPick t85 t89 (.b false) fun t90 =>
    hGuard t90 true (fun k => hCall cl 9 [] M36 fun y M39 => k y M39) M36 fun t92 M38 =>
    hPick t90 t92 (.b false) fun t93 =>
    kr t511 t93 M38) (
  d4_13 cl m kr kn t2 t10 t15 t16 t511 M30)
theorem z4_12 (cl : Clh) (m : Nat) (kr : K2) (kn : K2) : hK prg cl m T4_12 (Z6 kn) NO (Z6 kr) = fun F M => d4_12 cl m kr kn (F 2) (F 10) (F 15) (F 16) (F 511) M := by
  show hK prg cl m U4_10 (hK prg cl m T4_13 (Z6 kn) NO (Z6 kr)) NO (Z6 kr) = _
  rw [z4_13 cl m kr kn]
  funext F M; kernel_rfl
def T4_11 : HT := (.seq U4_9 T4_12)
def d4_11 (cl : Clh) (m : Nat) (kr : K2) (kn : K2) (t2 t10 t13 t511 : W) (M : Nm) : CW :=
  hCall cl 21 [t13, t2] M fun t75 M40 =>
  hExt 0 t75 fun t76 =>
  hExt 1 t75 fun t77 =>
  d4_12 cl m kr kn t2 t10 t76 t77 t511 M40
theorem z4_11 (cl : Clh) (m : Nat) (kr : K2) (kn : K2) : hK prg cl m T4_11 (Z6 kn) NO (Z6 kr) = fun F M => d4_11 cl m kr kn (F 2) (F 10) (F 13) (F 511) M := by
  show hK prg cl m U4_9 (hK prg cl m T4_12 (Z6 kn) NO (Z6 kr)) NO (Z6 kr) = _
  rw [z4_12 cl m kr kn]
  funext F M; kernel_rfl
def T4_10 : HT := (.seq U4_8 T4_11)
def d4_10 (cl : Clh) (m : Nat) (kr : K2) (kn : K2) (t2 t9 t10 t11 t12 t13 t14 t511 : W) (M : Nm) : CW :=
  hBin .neq t14 t11 fun t54 =>
  hGuard t54 false (fun k => hLoadN 4 t12 M fun y => k y M) M fun t56 M41 =>
  hGuard t54 false (fun k => hLoadN 4 t9 M41 fun y => k y M41) M41 fun t57 M43 =>
  hGuard t54 false (fun k => hCall cl 15 [t56, t57] M43 fun y M46 => k y M46) M43 fun t58 M45 =>
  hGuard t54 false (fun k => k t13 M45) M45 fun t59 M47 =>
  hGuard t54 false (fun k => k t10 M47) M47 fun t60 M49 =>
  hGuard t54 false (fun k => hCall cl 14 [t59, t60] M49 fun y M52 => k y M52) M49 fun t61 M51 =>
  hGuard t54 false (fun k => hBin .mul t58 t61 fun y => k y M51) M51 fun t62 M53 =>
  hGuard t54 false (fun k => hBin .eql t62 (.i .i64 (0)) fun y => k y M53) M53 fun t63 M55 =>
  hPick t54 (.b true) t63 fun t64 =>
  hGuard t64 false (fun k => k t13 M55) M55 fun t66 M57 =>
  hGuard t64 false (fun k => hCap prg 22 t66 fun y => k y M57) M57 fun t67 M59 =>
  hGuard t64 false (fun k => k t13 M59) M59 fun t68 M61 =>
  hGuard t64 false (fun k => hLenS t68 fun y => k y M61) M61 fun t69 M63 =>
  hGuard t64 false (fun k => hBin .neq t67 t69 fun y => k y M63) M63 fun t70 M65 =>
  hPick t64 (.b true) t70 fun t71 =>
  hIf t71 (
    kr t511 (.b false) M65) (
  d4_11 cl m kr kn t2 t10 t13 t511 M65)
theorem z4_10 (cl : Clh) (m : Nat) (kr : K2) (kn : K2) : hK prg cl m T4_10 (Z6 kn) NO (Z6 kr) = fun F M => d4_10 cl m kr kn (F 2) (F 9) (F 10) (F 11) (F 12) (F 13) (F 14) (F 511) M := by
  show hK prg cl m U4_8 (hK prg cl m T4_11 (Z6 kn) NO (Z6 kr)) NO (Z6 kr) = _
  rw [z4_11 cl m kr kn]
  funext F M; kernel_rfl
def T4_9 : HT := (.seq U4_7 T4_10)
def d4_9 (cl : Clh) (m : Nat) (kr : K2) (kn : K2) (t1 t2 t8 t9 t10 t11 t511 : W) (M : Nm) : CW :=
  hLoadN 4 t8 M fun t46 =>
  hCall cl 20 [t46, t1] M fun t48 M67 =>
  hExt 0 t48 fun t49 =>
  hExt 1 t48 fun t50 =>
  hExt 2 t48 fun t51 =>
  hNew 24 4 [.c .nils, .i .i64 (0), .i .i64 (0), .i .i64 (0)] M67 fun t12 M68 =>
  hStoreN 4 t12 t49 M68 fun _ M69 =>
  d4_10 cl m kr kn t2 t9 t10 t11 t12 t50 t51 t511 M69
theorem z4_9 (cl : Clh) (m : Nat) (kr : K2) (kn : K2) : hK prg cl m T4_9 (Z6 kn) NO (Z6 kr) = fun F M => d4_9 cl m kr kn (F 1) (F 2) (F 8) (F 9) (F 10) (F 11) (F 511) M := by
  show hK prg cl m U4_7 (hK prg cl m T4_10 (Z6 kn) NO (Z6 kr)) NO (Z6 kr) = _
  rw [z4_10 cl m kr kn]
  funext F M; kernel_rfl
def T4_8 : HT := (.seq U4_6 T4_9)
def d4_8 (cl : Clh) (m : Nat) (kr : K2) (kn : K2) (t1 t2 t8 t511 : W) (M : Nm) : CW :=
  hLoadN 4 t8 M fun t39 =>
  hCall cl 19 [t39, t1] M fun t41 M70 =>
  hExt 0 t41 fun t42 =>
  hExt 1 t41 fun t43 =>
  hExt 2 t41 fun t44 =>
  hNew 24 4 [.c .nils, .i .i64 (0), .i .i64 (0), .i .i64 (0)] M70 fun t9 M71 =>
  hStoreN 4 t9 t42 M71 fun _ M72 =>
  d4_9 cl m kr kn t1 t2 t8 t9 t43 t44 t511 M72
theorem z4_8 (cl : Clh) (m : Nat) (kr : K2) (kn : K2) : hK prg cl m T4_8 (Z6 kn) NO (Z6 kr) = fun F M => d4_8 cl m kr kn (F 1) (F 2) (F 8) (F 511) M := by
  show hK prg cl m U4_6 (hK prg cl m T4_9 (Z6 kn) NO (Z6 kr)) NO (Z6 kr) = _
  rw [z4_9 cl m kr kn]
  funext F M; kernel_rfl
def T4_7 : HT := (.seq U4_5 T4_8)
def d4_7 (cl : Clh) (m : Nat) (kr : K2) (kn : K2) (t1 t2 t3 t511 : W) (M : Nm) : CW :=
  hLoadN 4 t3 M fun t36 =>
  hCall cl 18 [t36] M fun t37 M73 =>
  hNew 24 4 [.c .nils, .i .i64 (0), .i .i64 (0), .i .i64 (0)] M73 fun t8 M74 =>
  hStoreN 4 t8 t37 M74 fun _ M75 =>
  d4_8 cl m kr kn t1 t2 t8 t511 M75
theorem z4_7 (cl : Clh) (m : Nat) (kr : K2) (kn : K2) : hK prg cl m T4_7 (Z6 kn) NO (Z6 kr) = fun F M => d4_7 cl m kr kn (F 1) (F 2) (F 3) (F 511) M := by
  show hK prg cl m U4_5 (hK prg cl m T4_8 (Z6 kn) NO (Z6 kr)) NO (Z6 kr) = _
  rw [z4_8 cl m kr kn]
  funext F M; kernel_rfl
def T4_3 : HT := (.seq T4_4 T4_7)
def d4_3 (cl : Clh) (m : Nat) (kr : K2) (kn : K2) (t1 t2 t3 t511 : W) (M : Nm) : CW :=
  d4_4 cl m kr (fun t1 t2 t3 t511 M => d4_7 cl m kr kn t1 t2 t3 t511 M) t1 t2 t3 t511 M
theorem z4_3 (cl : Clh) (m : Nat) (kr : K2) (kn : K2) : hK prg cl m T4_3 (Z6 kn) NO (Z6 kr) = fun F M => d4_3 cl m kr kn (F 1) (F 2) (F 3) (F 511) M := by
  have hb : hK prg cl m T4_7 (Z6 kn) NO (Z6 kr) = fun F M => (fun t1 t2 t3 t511 M => d4_7 cl m kr kn t1 t2 t3 t511 M) (F 1) (F 2) (F 3) (F 511) M := z4_7 cl m kr kn
  show hK prg cl m T4_4 (hK prg cl m T4_7 (Z6 kn) NO (Z6 kr)) NO (Z6 kr) = _
  rw [hb]
  exact (z4_4 cl m kr (fun t1 t2 t3 t511 M => d4_7 cl m kr kn t1 t2 t3 t511 M) ).trans (by funext F M; kernel_rfl)
def T4_2 : HT := (.seq U4_2 T4_3)
def d4_2 (cl : Clh) (m : Nat) (kr : K2) (kn : K2) (t1 t2 t3 t511 : W) (M : Nm) : CW :=
  hLenS t1 fun t20 =>
  hBin .gtr t20 (.i .i64 (30)) fun t21 =>
  hIf t21 (
    hCall cl 9 [] M fun t22 M76 =>
    kr t511 t22 M76) (
  d4_3 cl m kr kn t1 t2 t3 t511 M)
theorem z4_2 (cl : Clh) (m : Nat) (kr : K2) (kn : K2) : hK prg cl m T4_2 (Z6 kn) NO (Z6 kr) = fun F M => d4_2 cl m kr kn (F 1) (F 2) (F 3) (F 511) M := by
  show hK prg cl m U4_2 (hK prg cl m T4_3 (Z6 kn) NO (Z6 kr)) NO (Z6 kr) = _
  rw [z4_3 cl m kr kn]
  funext F M; kernel_rfl
def T4_1 : HT := (.seq U4_1 T4_2)
def d4_1 (cl : Clh) (m : Nat) (kr : K2) (kn : K2) (t0 t1 t2 t511 : W) (M : Nm) : CW :=
  hBox 42 4 t0 M fun t3 M77 =>
  d4_2 cl m kr kn t1 t2 t3 t511 M77
theorem z4_1 (cl : Clh) (m : Nat) (kr : K2) (kn : K2) : hK prg cl m T4_1 (Z6 kn) NO (Z6 kr) = fun F M => d4_1 cl m kr kn (F 0) (F 1) (F 2) (F 511) M := by
  show hK prg cl m U4_1 (hK prg cl m T4_2 (Z6 kn) NO (Z6 kr)) NO (Z6 kr) = _
  rw [z4_2 cl m kr kn]
  funext F M; kernel_rfl
def t4 : HT := T4_1
theorem z4 (cl : Clh) (m : Nat) (kr : K2) : hK prg cl m t4 (Z6 kr) NO (Z6 kr) = fun F M => d4_1 cl m kr kr (F 0) (F 1) (F 2) (F 511) M := z4_1 cl m kr kr
def d4 (cl : Clh) (m : Nat) (kr : K2) (t0 t1 t2 : W) (M : Nm) : CW :=
  d4_1 cl m kr kr t0 t1 t2 (.tup []) M
def U11_1 : HT := (.ops [(.move (.const (.int .i64 (0))), (some 2))])
def U11_2 : HT := (.seq (.ops [(.move (.tmp 0), (some 4)),
    (.lenS (.tmp 4), (some 5)),
    (.bin .gtr (.tmp 5) (.const (.int .i64 (16))), (some 6))]) (.cond (.tmp 6) (.seq (.ops [(.move (.const (.int .i64 (3))), (some 2))]) .ret) .skip))
def U11_3 : HT := (.seq (.seq (.ops [(.move (.tmp 0), (some 25)),
    (.lenS (.tmp 25), (some 26)),
    (.bin .eql (.tmp 26) (.const (.int .i64 (0))), (some 27))]) (.cond (.tmp 27) (.seq (.ops [(.move (.const (.int .i64 (4))), (some 2))]) .ret) .skip)) (.seq (.ops [(.move (.const (.int .i64 (0))), (some 2))]) .ret))
def U11_4 : HT := (.ops [(.move (.const (.int .i64 (0))), (some 3))])
def U11_5 : HT := (.seq (.seq (.ops [(.move (.tmp 3), (some 7)),
    (.move (.tmp 0), (some 8)),
    (.lenS (.tmp 8), (some 9)),
    (.bin .lss (.tmp 7) (.tmp 9), (some 10))]) (.cond (.tmp 10) .skip (.exit 0))) (.seq (.block 1 (.seq (.ops [(.move (.tmp 0), (some 13)),
    (.move (.tmp 3), (some 14)),
    (.indexAddr 1 (.tmp 13) (.tmp 14), (some 15)),
    (.load1 (.tmp 15), (some 16)),
    (.bin .lss (.tmp 16) (.const (.int .i64 (1))), (some 17)),
    (.move (.tmp 17), (some 18)),
    (.guard 18 false (.move (.tmp 0)), (some 19)),
    (.guard 18 false (.move (.tmp 3)), (some 20)),
    (.guard 18 false (.indexAddr 1 (.tmp 19) (.tmp 20)), (some 21)),
    (.guard 18 false (.load1 (.tmp 21)), (some 22)),
    (.guard 18 false (.bin .gtr (.tmp 22) (.const (.int .i64 (8)))), (some 23)),
    (.pick (.tmp 18) (.const (.bool true)) (.tmp 23), (some 24))]) (.cond (.tmp 24) (.seq (.ops [(.move (.const (.int .i64 (4))), (some 2))]) .ret) .skip))) (.ops [(.move (.tmp 3), (some 11)),
    (.bin .add (.tmp 11) (.const (.int .i64 (1))), (some 12)),
    (.move (.tmp 12), (some 3))])))
def T11_6 : HT := (.loop (.canon [0, 3, 511] U11_5))
def d11_6b (cl : Clh) (m : Nat) (kr : K2) (k0 : K2) (q : K3) (t0 t3 t511 : W) (M : Nm) : CW :=
  hLenS t0 fun t9 =>
  hBin .lss t3 t9 fun t10 =>
  hIf t10 (
  hIndexAddr 1 t0 t3 fun t15 =>
  hLoad1 t15 M fun t16 =>
  hBin .lss t16 (.i .i64 (1)) fun t17 =>
  hGuard t17 false (fun k => k t0 M) M fun t19 M1 =>
  hGuard t17 false (fun k => k t3 M1) M1 fun t20 M3 =>
  hGuard t17 false (fun k => hIndexAddr 1 t19 t20 fun y => k y M3) M3 fun t21 M5 =>
  hGuard t17 false (fun k => hLoad1 t21 M5 fun y => k y M5) M5 fun t22 M7 =>
  hGuard t17 false (fun k => hBin .gtr t22 (.i .i64 (8)) fun y => k y M7) M7 fun t23 M9 =>
  hPick t17 (.b true) t23 fun t24 =>
  hIf t24 (
    kr t511 (.i .i64 (4)) M9) (
  hBin .add t3 (.i .i64 (1)) fun t12 =>
  q t0 t12 t511 M9)) (
  k0 t0 t511 M)
def d11_6 (cl : Clh) (m : Nat) (kr : K2) (k0 : K2) : Nat → W → W → W → Nm → CW
  | 0 => fun _ _ _ _ => .no
  | n + 1 => fun t0 t3 t511 M => jn (fun (σ : List Nat) => d11_6b cl m kr k0 (d11_6 cl m kr k0 n) (ren 4 σ t0) (ren 4 σ t3) (ren 4 σ t511) ⟨canH M.H σ 0 σ, σ.length⟩) (reach M.H [t0, t3, t511])
theorem z11_6 (cl : Clh) (m : Nat) (kr : K2) (kn : K2) (k0 : K2) : hK prg cl m T11_6 (Zx_0_511 kn) (exH 0 (Zx_0_511 k0) NO) (Z2 kr) = fun F M => d11_6 cl m kr k0 m (F 0) (F 3) (F 511) M := by
  have key : ∀ j, loopH (fun q => hK prg cl m (.canon [0, 3, 511] U11_5) q (exH 0 (Zx_0_511 k0) NO) (Z2 kr)) j = fun F M => d11_6 cl m kr k0 j (F 0) (F 3) (F 511) M := by
    intro j
    induction j with
    | zero => rfl
    | succ j ih =>
      show (fun (F : FW) (N : Nm) => hK prg cl m U11_5 (loopH (fun q => hK prg cl m (.canon [0, 3, 511] U11_5) q (exH 0 (Zx_0_511 k0) NO) (Z2 kr)) j) (exH 0 (Zx_0_511 k0) NO) (Z2 kr) (canF [0, 3, 511] (reach N.H ([0, 3, 511].map F)) F) ⟨canH N.H (reach N.H ([0, 3, 511].map F)) 0 (reach N.H ([0, 3, 511].map F)), (reach N.H ([0, 3, 511].map F)).length⟩) = _
      rw [ih]
      have hb : hK prg cl m U11_5 (fun F M => d11_6 cl m kr k0 j (F 0) (F 3) (F 511) M) (exH 0 (Zx_0_511 k0) NO) (Z2 kr) = fun F M => d11_6b cl m kr k0 (d11_6 cl m kr k0 j) (F 0) (F 3) (F 511) M := by funext F M; kernel_rfl
      rw [hb]; funext F M; kernel_rfl
  exact key m
def T11_5 : HT := (.block 0 T11_6)
def d11_5 (cl : Clh) (m : Nat) (kr : K2) (kn : K2) (t0 t3 t511 : W) (M : Nm) : CW :=
  d11_6 cl m kr kn m t0 t3 t511 M
theorem z11_5 (cl : Clh) (m : Nat) (kr : K2) (kn : K2) : hK prg cl m T11_5 (Zx_0_511 kn) NO (Z2 kr) = fun F M => d11_5 cl m kr kn (F 0) (F 3) (F 511) M := by
  show hK prg cl m T11_6 (Zx_0_511 kn) (exH 0 (Zx_0_511 kn) NO) (Z2 kr) = _
  exact (z11_6 cl m kr kn kn).trans (by funext F M; kernel_rfl)
def T11_4 : HT := (.seq U11_4 T11_5)
def d11_4 (cl : Clh) (m : Nat) (kr : K2) (kn : K2) (t0 t511 : W) (M : Nm) : CW :=
  d11_5 cl m kr kn t0 (.i .i64 (0)) t511 M
theorem z11_4 (cl : Clh) (m : Nat) (kr : K2) (kn : K2) : hK prg cl m T11_4 (Zx_0_511 kn) NO (Z2 kr) = fun F M => d11_4 cl m kr kn (F 0) (F 511) M := by
  show hK prg cl m U11_4 (hK prg cl m T11_5 (Zx_0_511 kn) NO (Z2 kr)) NO (Z2 kr) = _
  rw [z11_5 cl m kr kn]
  funext F M; kernel_rfl
def T11_3 : HT := (.seq T11_4 U11_3)
def d11_3 (cl : Clh) (m : Nat) (kr : K2) (kn : K2) (t0 t511 : W) (M : Nm) : CW :=
  d11_4 cl m kr (fun t0 t511 M =>
    hLenS t0 fun t26 =>
    hBin .eql t26 (.i .i64 (0)) fun t27 =>
    hIf t27 (
      kr t511 (.i .i64 (4)) M) (
    kr t511 (.i .i64 (0)) M)) t0 t511 M
theorem z11_3 (cl : Clh) (m : Nat) (kr : K2) (kn : K2) : hK prg cl m T11_3 (Z2 kn) NO (Z2 kr) = fun F M => d11_3 cl m kr kn (F 0) (F 511) M := by
  have hb : hK prg cl m U11_3 (Z2 kn) NO (Z2 kr) = fun F M => (fun t0 t511 M =>
    hLenS t0 fun t26 =>
    hBin .eql t26 (.i .i64 (0)) fun t27 =>
    hIf t27 (
      kr t511 (.i .i64 (4)) M) (
    kr t511 (.i .i64 (0)) M)) (F 0) (F 511) M := by funext F M; kernel_rfl
  show hK prg cl m T11_4 (hK prg cl m U11_3 (Z2 kn) NO (Z2 kr)) NO (Z2 kr) = _
  rw [hb]
  exact (z11_4 cl m kr (fun t0 t511 M =>
    hLenS t0 fun t26 =>
    hBin .eql t26 (.i .i64 (0)) fun t27 =>
    hIf t27 (
      kr t511 (.i .i64 (4)) M) (
    kr t511 (.i .i64 (0)) M)) ).trans (by funext F M; kernel_rfl)
def T11_2 : HT := (.seq U11_2 T11_3)
def d11_2 (cl : Clh) (m : Nat) (kr : K2) (kn : K2) (t0 t511 : W) (M : Nm) : CW :=
  hLenS t0 fun t5 =>
  hBin .gtr t5 (.i .i64 (16)) fun t6 =>
  hIf t6 (
    kr t511 (.i .i64 (3)) M) (
  d11_3 cl m kr kn t0 t511 M)
theorem z11_2 (cl : Clh) (m : Nat) (kr : K2) (kn : K2) : hK prg cl m T11_2 (Z2 kn) NO (Z2 kr) = fun F M => d11_2 cl m kr kn (F 0) (F 511) M := by
  show hK prg cl m U11_2 (hK prg cl m T11_3 (Z2 kn) NO (Z2 kr)) NO (Z2 kr) = _
  rw [z11_3 cl m kr kn]
  funext F M; kernel_rfl
def T11_1 : HT := (.seq U11_1 T11_2)
def d11_1 (cl : Clh) (m : Nat) (kr : K2) (kn : K2) (t0 t511 : W) (M : Nm) : CW :=
  d11_2 cl m kr kn t0 t511 M
theorem z11_1 (cl : Clh) (m : Nat) (kr : K2) (kn : K2) : hK prg cl m T11_1 (Z2 kn) NO (Z2 kr) = fun F M => d11_1 cl m kr kn (F 0) (F 511) M := by
  show hK prg cl m U11_1 (hK prg cl m T11_2 (Z2 kn) NO (Z2 kr)) NO (Z2 kr) = _
  rw [z11_2 cl m kr kn]
  funext F M; kernel_rfl
def t11 : HT := T11_1
theorem z11 (cl : Clh) (m : Nat) (kr : K2) : hK prg cl m t11 (Z2 kr) NO (Z2 kr) = fun F M => d11_1 cl m kr kr (F 0) (F 511) M := z11_1 cl m kr kr
def d11 (cl : Clh) (m : Nat) (kr : K2) (t0 : W) (M : Nm) : CW :=
  d11_1 cl m kr kr t0 (.tup []) M
def t12 : HT := (.seq (.ops [(.box 24 4 (.tmp 0), (some 1)),
    (.move (.const (.int .i64 (0))), (some 2))]) (.seq (.seq (.ops [(.fieldAddr 0 (.tmp 1), (some 4)),
    (.load1 (.tmp 4), (some 5)),
    (.call 30 [(.tmp 5)], (some 6)),
    (.move (.tmp 6), (some 3))]) (.seq (.ops [(.move (.tmp 3), (some 7)),
    (.bin .neq (.tmp 7) (.const (.int .i64 (0))), (some 8))]) (.cond (.tmp 8) (.seq (.ops [(.move (.tmp 3), (some 9)),
    (.move (.tmp 9), (some 2))]) .ret) .skip))) (.seq (.seq (.ops [(.fieldAddr 1 (.tmp 1), (some 10)),
    (.load1 (.tmp 10), (some 11)),
    (.fieldAddr 0 (.tmp 1), (some 12)),
    (.load1 (.tmp 12), (some 13)),
    (.lenS (.tmp 13), (some 14)),
    (.bin .sub (.tmp 14) (.const (.int .i64 (1))), (some 15)),
    (.call 33 [(.tmp 11), (.const (.int .i64 (0))), (.tmp 15)], (some 16)),
    (.not (.tmp 16), (some 17)),
    (.move (.tmp 17), (some 18)),
    (.guard 18 false (.fieldAddr 2 (.tmp 1)), (some 19)),
    (.guard 18 false (.load1 (.tmp 19)), (some 20)),
    (.guard 18 false (.fieldAddr 0 (.tmp 1)), (some 21)),
    (.guard 18 false (.load1 (.tmp 21)), (some 22)),
    (.guard 18 false (.fieldAddr 1 (.tmp 1)), (some 23)),
    (.guard 18 false (.load1 (.tmp 23)), (some 24)),
    (.guard 18 false (.indexAddr 1 (.tmp 22) (.tmp 24)), (some 25)),
    (.guard 18 false (.load1 (.tmp 25)), (some 26)),
    (.guard 18 false (.call 33 [(.tmp 20), (.const (.int .i64 (0))), (.tmp 26)]), (some 27)),
    (.guard 18 false (.not (.tmp 27)), (some 28)),
    (.pick (.tmp 18) (.const (.bool true)) (.tmp 28), (some 29)),
    (.move (.tmp 29), (some 30)),
    (.guard 30 false (.fieldAddr 3 (.tmp 1)), (some 31)),
    (.guard 30 false (.load1 (.tmp 31)), (some 32)),
    (.guard 30 false (.bin .lss (.tmp 32) (.const (.int .i64 (0)))), (some 33)),
    (.pick (.tmp 30) (.const (.bool true)) (.tmp 33), (some 34)),
    (.move (.tmp 34), (some 35)),
    (.guard 35 false (.fieldAddr 3 (.tmp 1)), (some 36)),
    (.guard 35 false (.load1 (.tmp 36)), (some 37)),
    (.guard 35 false (.bin .gtr (.tmp 37) (.const (.int .i64 (4611686018427387904)))), (some 38)),
    (.pick (.tmp 35) (.const (.bool true)) (.tmp 38), (some 39))]) (.cond (.tmp 39) (.seq (.ops [(.move (.const (.int .i64 (4))), (some 2))]) .ret) .skip)) (.seq (.ops [(.move (.const (.int .i64 (0))), (some 2))]) .ret))))
def d12_1 (cl : Clh) (m : Nat) (kr : K2) (t0 t511 : W) (M : Nm) : CW :=
  hBox 24 4 t0 M fun t1 M1 =>
  hFieldAddr 0 t1 fun t4 =>
  hLoad1 t4 M1 fun t5 =>
  hCall cl 30 [t5] M1 fun t6 M2 =>
  hBin .neq t6 (.i .i64 (0)) fun t8 =>
  hIf t8 (
    kr t511 t6 M2) (
  hFieldAddr 1 t1 fun t10 =>
  hLoad1 t10 M2 fun t11 =>
  hFieldAddr 0 t1 fun t12 =>
  hLoad1 t12 M2 fun t13 =>
  hLenS t13 fun t14 =>
  hBin .sub t14 (.i .i64 (1)) fun t15 =>
  hCall cl 33 [t11, (.i .i64 (0)), t15] M2 fun t16 M3 =>
  hNot t16 fun t17 =>
  hGuard t17 false (fun k => hFieldAddr 2 t1 fun y => k y M3) M3 fun t19 M4 =>
  hGuard t17 false (fun k => hLoad1 t19 M4 fun y => k y M4) M4 fun t20 M6 =>
  hGuard t17 false (fun k => hFieldAddr 0 t1 fun y => k y M6) M6 fun t21 M8 =>
  hGuard t17 false (fun k => hLoad1 t21 M8 fun y => k y M8) M8 fun t22 M10 =>
  hGuard t17 false (fun k => hFieldAddr 1 t1 fun y => k y M10) M10 fun t23 M12 =>
  hGuard t17 false (fun k => hLoad1 t23 M12 fun y => k y M12) M12 fun t24 M14 =>
  hGuard t17 false (fun k => hIndexAddr 1 t22 t24 fun y => k y M14) M14 fun t25 M16 =>
  hGuard t17 false (fun k => hLoad1 t25 M16 fun y => k y M16) M16 fun t26 M18 =>
  hGuard t17 false (fun k => hCall cl 33 [t20, (.i .i64 (0)), t26] M18 fun y M21 => k y M21) M18 fun t27 M20 =>
  hGuard t17 false (fun k => hNot t27 fun y => k y M20) M20 fun t28 M22 =>
  hPick t17 (.b true) t28 fun t29 =>
  hGuard t29 false (fun k => hFieldAddr 3 t1 fun y => k y M22) M22 fun t31 M24 =>
  hGuard t29 false (fun k => hLoad1 t31 M24 fun y => k y M24) M24 fun t32 M26 =>
  hGuard t29 false (fun k => hBin .lss t32 (.i .i64 (0)) fun y => k y M26) M26 fun t33 M28 =>
  hPick t29 (.b true) t33 fun t34 =>
  hGuard t34 false (fun k => hFieldAddr 3 t1 fun y => k y M28) M28 fun t36 M30 =>
  hGuard t34 false (fun k => hLoad1 t36 M30 fun y => k y M30) M30 fun t37 M32 =>
  hGuard t34 false (fun k => hBin .gtr t37 (.i .i64 (4611686018427387904)) fun y => k y M32) M32 fun t38 M34 =>
  hPick t34 (.b true) t38 fun t39 =>
  hIf t39 (
    kr t511 (.i .i64 (4)) M34) (
  kr t511 (.i .i64 (0)) M34))
theorem z12 (cl : Clh) (m : Nat) (kr : K2) : hK prg cl m t12 (Z2 kr) NO (Z2 kr) = fun F M => d12_1 cl m kr (F 0) (F 511) M := by funext F M; kernel_rfl
def d12 (cl : Clh) (m : Nat) (kr : K2) (t0 : W) (M : Nm) : CW :=
  d12_1 cl m kr t0 (.tup []) M
def t13 : HT := (.seq (.ops [(.box 24 4 (.tmp 0), (some 1)),
    (.move (.const (.int .i64 (0))), (some 2))]) (.seq (.seq (.ops [(.fieldAddr 0 (.tmp 1), (some 3)),
    (.load1 (.tmp 3), (some 4)),
    (.call 11 [(.tmp 4)], (some 5)),
    (.bin .gtr (.tmp 5) (.const (.int .i64 (0))), (some 6))]) (.cond (.tmp 6) (.seq (.ops [(.fieldAddr 0 (.tmp 1), (some 7)),
    (.load1 (.tmp 7), (some 8)),
    (.call 11 [(.tmp 8)], (some 9)),
    (.move (.tmp 9), (some 2))]) .ret) .skip)) (.seq (.seq (.ops [(.fieldAddr 1 (.tmp 1), (some 10)),
    (.load1 (.tmp 10), (some 11)),
    (.bin .lss (.tmp 11) (.const (.int .i64 (0))), (some 12)),
    (.move (.tmp 12), (some 13)),
    (.guard 13 false (.fieldAddr 1 (.tmp 1)), (some 14)),
    (.guard 13 false (.load1 (.tmp 14)), (some 15)),
    (.guard 13 false (.fieldAddr 0 (.tmp 1)), (some 16)),
    (.guard 13 false (.load1 (.tmp 16)), (some 17)),
    (.guard 13 false (.lenS (.tmp 17)), (some 18)),
    (.guard 13 false (.bin .sub (.tmp 18) (.const (.int .i64 (1)))), (some 19)),
    (.guard 13 false (.bin .gtr (.tmp 15) (.tmp 19)), (some 20)),
    (.pick (.tmp 13) (.const (.bool true)) (.tmp 20), (some 21)),
    (.move (.tmp 21), (some 22)),
    (.guard 22 false (.fieldAddr 3 (.tmp 1)), (some 23)),
    (.guard 22 false (.load1 (.tmp 23)), (some 24)),
    (.guard 22 false (.bin .lss (.tmp 24) (.const (.int .i64 (0)))), (some 25)),
    (.pick (.tmp 22) (.const (.bool true)) (.tmp 25), (some 26)),
    (.move (.tmp 26), (some 27)),
    (.guard 27 false (.fieldAddr 3 (.tmp 1)), (some 28)),
    (.guard 27 false (.load1 (.tmp 28)), (some 29)),
    (.guard 27 false (.bin .gtr (.tmp 29) (.const (.int .i64 (4611686018427387904)))), (some 30)),
    (.pick (.tmp 27) (.const (.bool true)) (.tmp 30), (some 31))]) (.cond (.tmp 31) (.seq (.ops [(.move (.const (.int .i64 (4))), (some 2))]) .ret) .skip)) (.seq (.seq (.ops [(.fieldAddr 2 (.tmp 1), (some 32)),
    (.load1 (.tmp 32), (some 33)),
    (.bin .lss (.tmp 33) (.const (.int .i64 (0))), (some 34)),
    (.move (.tmp 34), (some 35)),
    (.guard 35 false (.fieldAddr 2 (.tmp 1)), (some 36)),
    (.guard 35 false (.load1 (.tmp 36)), (some 37)),
    (.guard 35 false (.fieldAddr 0 (.tmp 1)), (some 38)),
    (.guard 35 false (.load1 (.tmp 38)), (some 39)),
    (.guard 35 false (.fieldAddr 1 (.tmp 1)), (some 40)),
    (.guard 35 false (.load1 (.tmp 40)), (some 41)),
    (.guard 35 false (.indexAddr 1 (.tmp 39) (.tmp 41)), (some 42)),
    (.guard 35 false (.load1 (.tmp 42)), (some 43)),
    (.guard 35 false (.bin .gtr (.tmp 37) (.tmp 43)), (some 44)),
    (.pick (.tmp 35) (.const (.bool true)) (.tmp 44), (some 45))]) (.cond (.tmp 45) (.seq (.ops [(.move (.const (.int .i64 (4))), (some 2))]) .ret) .skip)) (.seq (.ops [(.move (.const (.int .i64 (0))), (some 2))]) .ret)))))
def d13_1 (cl : Clh) (m : Nat) (kr : K2) (t0 t511 : W) (M : Nm) : CW :=
  hBox 24 4 t0 M fun t1 M1 =>
  hFieldAddr 0 t1 fun t3 =>
  hLoad1 t3 M1 fun t4 =>
  hCall cl 11 [t4] M1 fun t5 M2 =>
  hBin .gtr t5 (.i .i64 (0)) fun t6 =>
  hIf t6 (
    hFieldAddr 0 t1 fun t7 =>
    hLoad1 t7 M2 fun t8 =>
    hCall cl 11 [t8] M2 fun t9 M3 =>
    kr t511 t9 M3) (
  hFieldAddr 1 t1 fun t10 =>
  hLoad1 t10 M2 fun t11 =>
  hBin .lss t11 (.i .i64 (0)) fun t12 =>
  hGuard t12 false (fun k => hFieldAddr 1 t1 fun y => k y M2) M2 fun t14 M4 =>
  hGuard t12 false (fun k => hLoad1 t14 M4 fun y => k y M4) M4 fun t15 M6 =>
  hGuard t12 false (fun k => hFieldAddr 0 t1 fun y => k y M6) M6 fun t16 M8 =>
  hGuard t12 false (fun k => hLoad1 t16 M8 fun y => k y M8) M8 fun t17 M10 =>
  hGuard t12 false (fun k => hLenS t17 fun y => k y M10) M10 fun t18 M12 =>
  hGuard t12 false (fun k => hBin .sub t18 (.i .i64 (1)) fun y => k y M12) M12 fun t19 M14 =>
  hGuard t12 false (fun k => hBin .gtr t15 t19 fun y => k y M14) M14 fun t20 M16 =>
  hPick t12 (.b true) t20 fun t21 =>
  hGuard t21 false (fun k => hFieldAddr 3 t1 fun y => k y M16) M16 fun t23 M18 =>
  hGuard t21 false (fun k => hLoad1 t23 M18 fun y => k y M18) M18 fun t24 M20 =>
  hGuard t21 false (fun k => hBin .lss t24 (.i .i64 (0)) fun y => k y M20) M20 fun t25 M22 =>
  hPick t21 (.b true) t25 fun t26 =>
  hGuard t26 false (fun k => hFieldAddr 3 t1 fun y => k y M22) M22 fun t28 M24 =>
  hGuard t26 false (fun k => hLoad1 t28 M24 fun y => k y M24) M24 fun t29 M26 =>
  hGuard t26 false (fun k => hBin .gtr t29 (.i .i64 (4611686018427387904)) fun y => k y M26) M26 fun t30 M28 =>
  hPick t26 (.b true) t30 fun t31 =>
  hIf t31 (
    kr t511 (.i .i64 (4)) M28) (
  hFieldAddr 2 t1 fun t32 =>
  hLoad1 t32 M28 fun t33 =>
  hBin .lss t33 (.i .i64 (0)) fun t34 =>
  hGuard t34 false (fun k => hFieldAddr 2 t1 fun y => k y M28) M28 fun t36 M30 =>
  hGuard t34 false (fun k => hLoad1 t36 M30 fun y => k y M30) M30 fun t37 M32 =>
  hGuard t34 false (fun k => hFieldAddr 0 t1 fun y => k y M32) M32 fun t38 M34 =>
  hGuard t34 false (fun k => hLoad1 t38 M34 fun y => k y M34) M34 fun t39 M36 =>
  hGuard t34 false (fun k => hFieldAddr 1 t1 fun y => k y M36) M36 fun t40 M38 =>
  hGuard t34 false (fun k => hLoad1 t40 M38 fun y => k y M38) M38 fun t41 M40 =>
  hGuard t34 false (fun k => hIndexAddr 1 t39 t41 fun y => k y M40) M40 fun t42 M42 =>
  hGuard t34 false (fun k => hLoad1 t42 M42 fun y => k y M42) M42 fun t43 M44 =>
  hGuard t34 false (fun k => hBin .gtr t37 t43 fun y => k y M44) M44 fun t44 M46 =>
  hPick t34 (.b true) t44 fun t45 =>
  hIf t45 (
    kr t511 (.i .i64 (4)) M46) (
  kr t511 (.i .i64 (0)) M46)))
theorem z13 (cl : Clh) (m : Nat) (kr : K2) : hK prg cl m t13 (Z2 kr) NO (Z2 kr) = fun F M => d13_1 cl m kr (F 0) (F 511) M := by funext F M; kernel_rfl
def d13 (cl : Clh) (m : Nat) (kr : K2) (t0 : W) (M : Nm) : CW :=
  d13_1 cl m kr t0 (.tup []) M
def U14_1 : HT := (.ops [(.move (.const (.int .i64 (0))), (some 4))])
def U14_2 : HT := (.seq (.ops [(.move (.tmp 0), (some 6)),
    (.lenS (.tmp 6), (some 7)),
    (.move (.tmp 1), (some 8)),
    (.lenS (.tmp 8), (some 9)),
    (.bin .neq (.tmp 7) (.tmp 9), (some 10))]) (.cond (.tmp 10) (.seq (.ops [(.move (.const (.int .i64 (0))), (some 4))]) .ret) .skip))
def U14_3 : HT := (.seq (.ops [(.move (.const (.int .i64 (1))), (some 4))]) .ret)
def U14_4 : HT := (.ops [(.move (.const (.int .i64 (0))), (some 5))])
def U14_5 : HT := (.seq (.seq (.ops [(.move (.tmp 5), (some 11)),
    (.move (.tmp 0), (some 12)),
    (.lenS (.tmp 12), (some 13)),
    (.bin .lss (.tmp 11) (.tmp 13), (some 14))]) (.cond (.tmp 14) .skip (.exit 0))) (.seq (.block 1 (.seq (.ops [(.move (.tmp 0), (some 17)),
    (.move (.tmp 5), (some 18)),
    (.indexAddr 1 (.tmp 17) (.tmp 18), (some 19)),
    (.load1 (.tmp 19), (some 20)),
    (.move (.tmp 1), (some 21)),
    (.move (.tmp 5), (some 22)),
    (.indexAddr 1 (.tmp 21) (.tmp 22), (some 23)),
    (.load1 (.tmp 23), (some 24)),
    (.bin .neq (.tmp 20) (.tmp 24), (some 25))]) (.cond (.tmp 25) (.seq (.ops [(.move (.const (.int .i64 (0))), (some 4))]) .ret) .skip))) (.ops [(.move (.tmp 5), (some 15)),
    (.bin .add (.tmp 15) (.const (.int .i64 (1))), (some 16)),
    (.move (.tmp 16), (some 5))])))
def T14_6 : HT := (.loop (.canon [0, 1, 5, 511] U14_5))
def d14_6b (cl : Clh) (m : Nat) (kr : K2) (k0 : K1) (q : K4) (t0 t1 t5 t511 : W) (M : Nm) : CW :=
  hLenS t0 fun t13 =>
  hBin .lss t5 t13 fun t14 =>
  hIf t14 (
  hIndexAddr 1 t0 t5 fun t19 =>
  hLoad1 t19 M fun t20 =>
  hIndexAddr 1 t1 t5 fun t23 =>
  hLoad1 t23 M fun t24 =>
  hBin .neq t20 t24 fun t25 =>
  hIf t25 (
    kr t511 (.i .i64 (0)) M) (
  hBin .add t5 (.i .i64 (1)) fun t16 =>
  q t0 t1 t16 t511 M)) (
  k0 t511 M)
def d14_6 (cl : Clh) (m : Nat) (kr : K2) (k0 : K1) : Nat → W → W → W → W → Nm → CW
  | 0 => fun _ _ _ _ _ => .no
  | n + 1 => fun t0 t1 t5 t511 M => jn (fun (σ : List Nat) => d14_6b cl m kr k0 (d14_6 cl m kr k0 n) (ren 4 σ t0) (ren 4 σ t1) (ren 4 σ t5) (ren 4 σ t511) ⟨canH M.H σ 0 σ, σ.length⟩) (reach M.H [t0, t1, t5, t511])
theorem z14_6 (cl : Clh) (m : Nat) (kr : K2) (kn : K1) (k0 : K1) : hK prg cl m T14_6 (Z kn) (exH 0 (Z k0) NO) (Z4 kr) = fun F M => d14_6 cl m kr k0 m (F 0) (F 1) (F 5) (F 511) M := by
  have key : ∀ j, loopH (fun q => hK prg cl m (.canon [0, 1, 5, 511] U14_5) q (exH 0 (Z k0) NO) (Z4 kr)) j = fun F M => d14_6 cl m kr k0 j (F 0) (F 1) (F 5) (F 511) M := by
    intro j
    induction j with
    | zero => rfl
    | succ j ih =>
      show (fun (F : FW) (N : Nm) => hK prg cl m U14_5 (loopH (fun q => hK prg cl m (.canon [0, 1, 5, 511] U14_5) q (exH 0 (Z k0) NO) (Z4 kr)) j) (exH 0 (Z k0) NO) (Z4 kr) (canF [0, 1, 5, 511] (reach N.H ([0, 1, 5, 511].map F)) F) ⟨canH N.H (reach N.H ([0, 1, 5, 511].map F)) 0 (reach N.H ([0, 1, 5, 511].map F)), (reach N.H ([0, 1, 5, 511].map F)).length⟩) = _
      rw [ih]
      have hb : hK prg cl m U14_5 (fun F M => d14_6 cl m kr k0 j (F 0) (F 1) (F 5) (F 511) M) (exH 0 (Z k0) NO) (Z4 kr) = fun F M => d14_6b cl m kr k0 (d14_6 cl m kr k0 j) (F 0) (F 1) (F 5) (F 511) M := by funext F M; kernel_rfl
      rw [hb]; funext F M; kernel_rfl
  exact key m
def T14_5 : HT := (.block 0 T14_6)
def d14_5 (cl : Clh) (m : Nat) (kr : K2) (kn : K1) (t0 t1 t5 t511 : W) (M : Nm) : CW :=
  d14_6 cl m kr kn m t0 t1 t5 t511 M
theorem z14_5 (cl : Clh) (m : Nat) (kr : K2) (kn : K1) : hK prg cl m T14_5 (Z kn) NO (Z4 kr) = fun F M => d14_5 cl m kr kn (F 0) (F 1) (F 5) (F 511) M := by
  show hK prg cl m T14_6 (Z kn) (exH 0 (Z kn) NO) (Z4 kr) = _
  exact (z14_6 cl m kr kn kn).trans (by funext F M; kernel_rfl)
def T14_4 : HT := (.seq U14_4 T14_5)
def d14_4 (cl : Clh) (m : Nat) (kr : K2) (kn : K1) (t0 t1 t511 : W) (M : Nm) : CW :=
  d14_5 cl m kr kn t0 t1 (.i .i64 (0)) t511 M
theorem z14_4 (cl : Clh) (m : Nat) (kr : K2) (kn : K1) : hK prg cl m T14_4 (Z kn) NO (Z4 kr) = fun F M => d14_4 cl m kr kn (F 0) (F 1) (F 511) M := by
  show hK prg cl m U14_4 (hK prg cl m T14_5 (Z kn) NO (Z4 kr)) NO (Z4 kr) = _
  rw [z14_5 cl m kr kn]
  funext F M; kernel_rfl
def T14_3 : HT := (.seq T14_4 U14_3)
def d14_3 (cl : Clh) (m : Nat) (kr : K2) (kn : K2) (t0 t1 t511 : W) (M : Nm) : CW :=
  d14_4 cl m kr (fun t511 M =>
    kr t511 (.i .i64 (1)) M) t0 t1 t511 M
theorem z14_3 (cl : Clh) (m : Nat) (kr : K2) (kn : K2) : hK prg cl m T14_3 (Z4 kn) NO (Z4 kr) = fun F M => d14_3 cl m kr kn (F 0) (F 1) (F 511) M := by
  have hb : hK prg cl m U14_3 (Z4 kn) NO (Z4 kr) = fun F M => (fun t511 M =>
    kr t511 (.i .i64 (1)) M) (F 511) M := by funext F M; kernel_rfl
  show hK prg cl m T14_4 (hK prg cl m U14_3 (Z4 kn) NO (Z4 kr)) NO (Z4 kr) = _
  rw [hb]
  exact (z14_4 cl m kr (fun t511 M =>
    kr t511 (.i .i64 (1)) M) ).trans (by funext F M; kernel_rfl)
def T14_2 : HT := (.seq U14_2 T14_3)
def d14_2 (cl : Clh) (m : Nat) (kr : K2) (kn : K2) (t0 t1 t511 : W) (M : Nm) : CW :=
  hLenS t0 fun t7 =>
  hLenS t1 fun t9 =>
  hBin .neq t7 t9 fun t10 =>
  hIf t10 (
    kr t511 (.i .i64 (0)) M) (
  d14_3 cl m kr kn t0 t1 t511 M)
theorem z14_2 (cl : Clh) (m : Nat) (kr : K2) (kn : K2) : hK prg cl m T14_2 (Z4 kn) NO (Z4 kr) = fun F M => d14_2 cl m kr kn (F 0) (F 1) (F 511) M := by
  show hK prg cl m U14_2 (hK prg cl m T14_3 (Z4 kn) NO (Z4 kr)) NO (Z4 kr) = _
  rw [z14_3 cl m kr kn]
  funext F M; kernel_rfl
def T14_1 : HT := (.seq U14_1 T14_2)
def d14_1 (cl : Clh) (m : Nat) (kr : K2) (kn : K2) (t0 t1 t511 : W) (M : Nm) : CW :=
  d14_2 cl m kr kn t0 t1 t511 M
theorem z14_1 (cl : Clh) (m : Nat) (kr : K2) (kn : K2) : hK prg cl m T14_1 (Z4 kn) NO (Z4 kr) = fun F M => d14_1 cl m kr kn (F 0) (F 1) (F 511) M := by
  show hK prg cl m U14_1 (hK prg cl m T14_2 (Z4 kn) NO (Z4 kr)) NO (Z4 kr) = _
  rw [z14_2 cl m kr kn]
  funext F M; kernel_rfl
def t14 : HT := T14_1
theorem z14 (cl : Clh) (m : Nat) (kr : K2) : hK prg cl m t14 (Z4 kr) NO (Z4 kr) = fun F M => d14_1 cl m kr kr (F 0) (F 1) (F 511) M := z14_1 cl m kr kr
def d14 (cl : Clh) (m : Nat) (kr : K2) (t0 t1 : W) (M : Nm) : CW :=
  d14_1 cl m kr kr t0 t1 (.tup []) M
def t15 : HT := (.seq (.ops [(.box 24 4 (.tmp 0), (some 2)),
    (.box 24 4 (.tmp 1), (some 3)),
    (.move (.const (.int .i64 (0))), (some 4))]) (.seq (.seq (.ops [(.fieldAddr 1 (.tmp 2), (some 5)),
    (.load1 (.tmp 5), (some 6)),
    (.fieldAddr 1 (.tmp 3), (some 7)),
    (.load1 (.tmp 7), (some 8)),
    (.bin .neq (.tmp 6) (.tmp 8), (some 9)),
    (.move (.tmp 9), (some 10)),
    (.guard 10 false (.fieldAddr 2 (.tmp 2)), (some 11)),
    (.guard 10 false (.load1 (.tmp 11)), (some 12)),
    (.guard 10 false (.fieldAddr 2 (.tmp 3)), (some 13)),
    (.guard 10 false (.load1 (.tmp 13)), (some 14)),
    (.guard 10 false (.bin .neq (.tmp 12) (.tmp 14)), (some 15)),
    (.pick (.tmp 10) (.const (.bool true)) (.tmp 15), (some 16)),
    (.move (.tmp 16), (some 17)),
    (.guard 17 false (.fieldAddr 3 (.tmp 2)), (some 18)),
    (.guard 17 false (.load1 (.tmp 18)), (some 19)),
    (.guard 17 false (.fieldAddr 3 (.tmp 3)), (some 20)),
    (.guard 17 false (.load1 (.tmp 20)), (some 21)),
    (.guard 17 false (.bin .neq (.tmp 19) (.tmp 21)), (some 22)),
    (.pick (.tmp 17) (.const (.bool true)) (.tmp 22), (some 23))]) (.cond (.tmp 23) (.seq (.ops [(.move (.const (.int .i64 (0))), (some 4))]) .ret) .skip)) (.seq (.ops [(.fieldAddr 0 (.tmp 2), (some 24)),
    (.load1 (.tmp 24), (some 25)),
    (.fieldAddr 0 (.tmp 3), (some 26)),
    (.load1 (.tmp 26), (some 27)),
    (.call 14 [(.tmp 25), (.tmp 27)], (some 28)),
    (.move (.tmp 28), (some 4))]) .ret)))
def d15_1 (cl : Clh) (m : Nat) (kr : K2) (t0 t1 t511 : W) (M : Nm) : CW :=
  hBox 24 4 t0 M fun t2 M1 =>
  hBox 24 4 t1 M1 fun t3 M2 =>
  hFieldAddr 1 t2 fun t5 =>
  hLoad1 t5 M2 fun t6 =>
  hFieldAddr 1 t3 fun t7 =>
  hLoad1 t7 M2 fun t8 =>
  hBin .neq t6 t8 fun t9 =>
  hGuard t9 false (fun k => hFieldAddr 2 t2 fun y => k y M2) M2 fun t11 M3 =>
  hGuard t9 false (fun k => hLoad1 t11 M3 fun y => k y M3) M3 fun t12 M5 =>
  hGuard t9 false (fun k => hFieldAddr 2 t3 fun y => k y M5) M5 fun t13 M7 =>
  hGuard t9 false (fun k => hLoad1 t13 M7 fun y => k y M7) M7 fun t14 M9 =>
  hGuard t9 false (fun k => hBin .neq t12 t14 fun y => k y M9) M9 fun t15 M11 =>
  hPick t9 (.b true) t15 fun t16 =>
  hGuard t16 false (fun k => hFieldAddr 3 t2 fun y => k y M11) M11 fun t18 M13 =>
  hGuard t16 false (fun k => hLoad1 t18 M13 fun y => k y M13) M13 fun t19 M15 =>
  hGuard t16 false (fun k => hFieldAddr 3 t3 fun y => k y M15) M15 fun t20 M17 =>
  hGuard t16 false (fun k => hLoad1 t20 M17 fun y => k y M17) M17 fun t21 M19 =>
  hGuard t16 false (fun k => hBin .neq t19 t21 fun y => k y M19) M19 fun t22 M21 =>
  hPick t16 (.b true) t22 fun t23 =>
  hIf t23 (
    kr t511 (.i .i64 (0)) M21) (
  hFieldAddr 0 t2 fun t24 =>
  hLoad1 t24 M21 fun t25 =>
  hFieldAddr 0 t3 fun t26 =>
  hLoad1 t26 M21 fun t27 =>
  hCall cl 14 [t25, t27] M21 fun t28 M23 =>
  kr t511 t28 M23)
theorem z15 (cl : Clh) (m : Nat) (kr : K2) : hK prg cl m t15 (Z4 kr) NO (Z4 kr) = fun F M => d15_1 cl m kr (F 0) (F 1) (F 511) M := by funext F M; kernel_rfl
def d15 (cl : Clh) (m : Nat) (kr : K2) (t0 t1 : W) (M : Nm) : CW :=
  d15_1 cl m kr t0 t1 (.tup []) M
def U16_1 : HT := (.ops [(.box 24 4 (.tmp 0), (some 2)),
    (.alloc 24 4 [.nils, .int .i64 (.int (0)), .int .i64 (.int (0)), .int .i64 (.int (0))], (some 4)),
    (.move (.const (.int .i64 (0))), (some 5)),
    (.move (.const (.int .i64 (0))), (some 6))])
def U16_2 : HT := (.seq (.ops [(.loadN 4 (.tmp 2), (some 10)),
    (.call 13 [(.tmp 10)], (some 11)),
    (.bin .gtr (.tmp 11) (.const (.int .i64 (0))), (some 12))]) (.cond (.tmp 12) (.seq (.ops [(.build [.nils, .int .i64 (.int (0)), .int .i64 (.int (0)), .int .i64 (.int (0))] [], (some 13)),
    (.loadN 4 (.tmp 2), (some 14)),
    (.call 13 [(.tmp 14)], (some 15)),
    (.storeN 4 (.tmp 4) (.tmp 13), none),
    (.move (.const (.int .i64 (-1))), (some 5)),
    (.move (.tmp 15), (some 6))]) .ret) .skip))
def U16_3 : HT := (.seq (.ops [(.move (.tmp 1), (some 16)),
    (.lenS (.tmp 16), (some 17)),
    (.fieldAddr 0 (.tmp 2), (some 18)),
    (.load1 (.tmp 18), (some 19)),
    (.lenS (.tmp 19), (some 20)),
    (.bin .neq (.tmp 17) (.tmp 20), (some 21))]) (.cond (.tmp 21) (.seq (.ops [(.build [.nils, .int .i64 (.int (0)), .int .i64 (.int (0)), .int .i64 (.int (0))] [], (some 22)),
    (.storeN 4 (.tmp 4) (.tmp 22), none),
    (.move (.const (.int .i64 (-1))), (some 5)),
    (.move (.const (.int .i64 (1))), (some 6))]) .ret) .skip))
def U16_4 : HT := (.ops [(.move (.tmp 1), (some 23)),
    (.lenS (.tmp 23), (some 24)),
    (.move (.tmp 24), (some 7))])
def U16_5 : HT := (.ops [(.loadN 4 (.tmp 2), (some 25)),
    (.alloc 24 4 [.nils, .int .i64 (.int (0)), .int .i64 (.int (0)), .int .i64 (.int (0))], (some 8)),
    (.storeN 4 (.tmp 8) (.tmp 25), none)])
def U16_6 : HT := (.seq (.ops [(.loadN 4 (.tmp 2), (some 75)),
    (.storeN 4 (.tmp 4) (.tmp 75), none),
    (.move (.const (.int .i64 (-1))), (some 5)),
    (.move (.const (.int .i64 (0))), (some 6))]) .ret)
def U16_7 : HT := (.ops [(.move (.const (.int .i64 (0))), (some 9))])
def U16_8 : HT := (.seq (.seq (.ops [(.move (.tmp 9), (some 26)),
    (.move (.tmp 7), (some 27)),
    (.bin .leq (.tmp 26) (.tmp 27), (some 28))]) (.cond (.tmp 28) .skip (.exit 0))) (.seq (.block 1 (.seq (.seq (.ops [(.move (.tmp 9), (some 31)),
    (.bin .gtr (.tmp 31) (.const (.int .i64 (0))), (some 32))]) (.cond (.tmp 32) (.seq (.ops [(.fieldAddr 1 (.tmp 2), (some 33)),
    (.load1 (.tmp 33), (some 34)),
    (.move (.tmp 9), (some 35)),
    (.bin .add (.tmp 34) (.tmp 35), (some 36)),
    (.move (.tmp 7), (some 37)),
    (.binG .rem 3 3 (.tmp 36) (.tmp 37), (some 38)),
    (.fieldAddr 1 (.tmp 8), (some 39)),
    (.store1 (.tmp 39) (.tmp 38), none)]) (.seq (.ops [(.fieldAddr 0 (.tmp 2), (some 40)),
    (.load1 (.tmp 40), (some 41)),
    (.fieldAddr 1 (.tmp 8), (some 42)),
    (.load1 (.tmp 42), (some 43)),
    (.indexAddr 1 (.tmp 41) (.tmp 43), (some 44)),
    (.load1 (.tmp 44), (some 45)),
    (.fieldAddr 2 (.tmp 8), (some 46)),
    (.store1 (.tmp 46) (.tmp 45), none)]) (.seq (.ops [(.fieldAddr 1 (.tmp 8), (some 47)),
    (.load1 (.tmp 47), (some 48)),
    (.bin .eql (.tmp 48) (.const (.int .i64 (0))), (some 49))]) (.cond (.tmp 49) (.ops [(.fieldAddr 3 (.tmp 8), (some 50)),
    (.load1 (.tmp 50), (some 51)),
    (.bin .add (.tmp 51) (.const (.int .i64 (1))), (some 52)),
    (.fieldAddr 3 (.tmp 8), (some 53)),
    (.store1 (.tmp 53) (.tmp 52), none)]) .skip)))) .skip)) (.seq (.ops [(.move (.tmp 1), (some 54)),
    (.fieldAddr 1 (.tmp 8), (some 55)),
    (.load1 (.tmp 55), (some 56)),
    (.indexAddr 1 (.tmp 54) (.tmp 56), (some 57)),
    (.load1 (.tmp 57), (some 58)),
    (.move (.tmp 58), (some 59)),
    (.guard 59 true (.fieldAddr 2 (.tmp 8)), (some 60)),
    (.guard 59 true (.load1 (.tmp 60)), (some 61)),
    (.guard 59 true (.bin .gtr (.tmp 61) (.const (.int .i64 (0)))), (some 62)),
    (.pick (.tmp 59) (.tmp 62) (.const (.bool false)), (some 63))]) (.cond (.tmp 63) (.seq (.seq (.ops [(.fieldAddr 3 (.tmp 8), (some 64)),
    (.load1 (.tmp 64), (some 65)),
    (.bin .gtr (.tmp 65) (.const (.int .i64 (4611686018427387904))), (some 66))]) (.cond (.tmp 66) (.seq (.ops [(.build [.nils, .int .i64 (.int (0)), .int .i64 (.int (0)), .int .i64 (.int (0))] [], (some 67)),
    (.storeN 4 (.tmp 4) (.tmp 67), none),
    (.move (.const (.int .i64 (-1))), (some 5)),
    (.move (.const (.int .i64 (4))), (some 6))]) .ret) .skip)) (.seq (.ops [(.fieldAddr 2 (.tmp 8), (some 68)),
    (.load1 (.tmp 68), (some 69)),
    (.bin .sub (.tmp 69) (.const (.int .i64 (1))), (some 70)),
    (.fieldAddr 2 (.tmp 8), (some 71)),
    (.store1 (.tmp 71) (.tmp 70), none)]) (.seq (.draw [⟨.loadN 4 (.tmp 8), (some 72), 0, none, false, none, false⟩,
    ⟨.fieldAddr 1 (.tmp 8), (some 73), 1, none, false, none, true⟩,
    ⟨.load1 (.tmp 73), (some 74), 2, (some (.tmp 73)), false, none, false⟩,
    ⟨.storeN 4 (.tmp 4) (.tmp 72), none, 3, none, true, (some [1, 2]), false⟩,
    ⟨.move (.tmp 74), (some 5), 4, none, false, none, false⟩,
    ⟨.move (.const (.int .i64 (0))), (some 6), 5, none, false, none, false⟩]) .ret))) .skip)))) (.ops [(.move (.tmp 9), (some 29)),
    (.bin .add (.tmp 29) (.const (.int .i64 (1))), (some 30)),
    (.move (.tmp 30), (some 9))])))
def T16_9 : HT := (.loop (.canon [1, 2, 4, 7, 8, 9, 511] U16_8))
def d16_9b (cl : Clh) (m : Nat) (kr : K4) (k0 : K3) (q : K7) (t1 t2 t4 t7 t8 t9 t511 : W) (M : Nm) : CW :=
  hBin .leq t9 t7 fun t28 =>
  hIf t28 (
  jn (fun (j1 : K7) =>
    jn (fun (j2 : K7) =>
      hBin .gtr t9 (.i .i64 (0)) fun t32 =>
      hIf t32 (
        hFieldAddr 1 t2 fun t33 =>
        hLoad1 t33 M fun t34 =>
        hBin .add t34 t9 fun t36 =>
        hBinG prg .rem 3 t36 t7 fun t38 =>
        hFieldAddr 1 t8 fun t39 =>
        hStore1 t39 t38 M fun _ M3 =>
        hFieldAddr 0 t2 fun t40 =>
        hLoad1 t40 M3 fun t41 =>
        hFieldAddr 1 t8 fun t42 =>
        hLoad1 t42 M3 fun t43 =>
        hIndexAddr 1 t41 t43 fun t44 =>
        hLoad1 t44 M3 fun t45 =>
        hFieldAddr 2 t8 fun t46 =>
        hStore1 t46 t45 M3 fun _ M4 =>
        hFieldAddr 1 t8 fun t47 =>
        hLoad1 t47 M4 fun t48 =>
        hBin .eql t48 (.i .i64 (0)) fun t49 =>
        hIf t49 (
          hFieldAddr 3 t8 fun t50 =>
          hLoad1 t50 M4 fun t51 =>
          hBin .add t51 (.i .i64 (1)) fun t52 =>
          hFieldAddr 3 t8 fun t53 =>
          hStore1 t53 t52 M4 fun _ M5 =>
      j2 t1 t2 t4 t7 t8 t9 t511 M5) (
      j2 t1 t2 t4 t7 t8 t9 t511 M4)) (
      j2 t1 t2 t4 t7 t8 t9 t511 M)) (fun t1 t2 t4 t7 t8 t9 t511 M2 =>
      hFieldAddr 1 t8 fun t55 =>
      hLoad1 t55 M2 fun t56 =>
      hIndexAddr 1 t1 t56 fun t57 =>
      hLoad1 t57 M2 fun t58 =>
      hGuard t58 true (fun k => hFieldAddr 2 t8 fun y => k y M2) M2 fun t60 M6 =>
      hGuard t58 true (fun k => hLoad1 t60 M6 fun y => k y M6) M6 fun t61 M8 =>
      hGuard t58 true (fun k => hBin .gtr t61 (.i .i64 (0)) fun y => k y M8) M8 fun t62 M10 =>
      hPick t58 t62 (.b false) fun t63 =>
      hIf t63 (
        hFieldAddr 3 t8 fun t64 =>
        hLoad1 t64 M10 fun t65 =>
        hBin .gtr t65 (.i .i64 (4611686018427387904)) fun t66 =>
        hIf t66 (
          hBuildO [.c .nils, .i .i64 (0), .i .i64 (0), .i .i64 (0)] [] fun t67 =>
          hStoreN 4 t4 t67 M10 fun _ M12 =>
          kr t511 t4 (.i .i64 (-1)) (.i .i64 (4)) M12) (
        hFieldAddr 2 t8 fun t68 =>
        hLoad1 t68 M10 fun t69 =>
        hBin .sub t69 (.i .i64 (1)) fun t70 =>
        hFieldAddr 2 t8 fun t71 =>
        hStore1 t71 t70 M10 fun _ M13 =>
        jn (fun (n3 : Nat) =>
        gate true true true <|
        hLoadN 4 t8 M13 fun t72 =>
        gate true true true <|
        hFieldAddr 1 t8 fun t73 =>
        gate (oldV n3 true t73) true true <|
        hLoad1 t73 M13 fun t74 =>
        gate true (adsW M13.H (some t4) [t73]) true <|
        hStoreN 4 t4 t72 M13 fun _ M14 =>
        gate true true true <|
        gate true true true <|
        kr t511 t4 t74 (.i .i64 (0)) M14) M13.nx)) (
    j1 t1 t2 t4 t7 t8 t9 t511 M10))) (fun t1 t2 t4 t7 t8 t9 t511 M1 =>
    hBin .add t9 (.i .i64 (1)) fun t30 =>
  q t1 t2 t4 t7 t8 t30 t511 M1)) (
  k0 t2 t4 t511 M)
def d16_9 (cl : Clh) (m : Nat) (kr : K4) (k0 : K3) : Nat → W → W → W → W → W → W → W → Nm → CW
  | 0 => fun _ _ _ _ _ _ _ _ => .no
  | n + 1 => fun t1 t2 t4 t7 t8 t9 t511 M => jn (fun (σ : List Nat) => d16_9b cl m kr k0 (d16_9 cl m kr k0 n) (ren 4 σ t1) (ren 4 σ t2) (ren 4 σ t4) (ren 4 σ t7) (ren 4 σ t8) (ren 4 σ t9) (ren 4 σ t511) ⟨canH M.H σ 0 σ, σ.length⟩) (reach M.H [t1, t2, t4, t7, t8, t9, t511])
theorem z16_9 (cl : Clh) (m : Nat) (kr : K4) (kn : K3) (k0 : K3) : hK prg cl m T16_9 (Zx_2_4_511 kn) (exH 0 (Zx_2_4_511 k0) NO) (Z4_5_6 kr) = fun F M => d16_9 cl m kr k0 m (F 1) (F 2) (F 4) (F 7) (F 8) (F 9) (F 511) M := by
  have key : ∀ j, loopH (fun q => hK prg cl m (.canon [1, 2, 4, 7, 8, 9, 511] U16_8) q (exH 0 (Zx_2_4_511 k0) NO) (Z4_5_6 kr)) j = fun F M => d16_9 cl m kr k0 j (F 1) (F 2) (F 4) (F 7) (F 8) (F 9) (F 511) M := by
    intro j
    induction j with
    | zero => rfl
    | succ j ih =>
      show (fun (F : FW) (N : Nm) => hK prg cl m U16_8 (loopH (fun q => hK prg cl m (.canon [1, 2, 4, 7, 8, 9, 511] U16_8) q (exH 0 (Zx_2_4_511 k0) NO) (Z4_5_6 kr)) j) (exH 0 (Zx_2_4_511 k0) NO) (Z4_5_6 kr) (canF [1, 2, 4, 7, 8, 9, 511] (reach N.H ([1, 2, 4, 7, 8, 9, 511].map F)) F) ⟨canH N.H (reach N.H ([1, 2, 4, 7, 8, 9, 511].map F)) 0 (reach N.H ([1, 2, 4, 7, 8, 9, 511].map F)), (reach N.H ([1, 2, 4, 7, 8, 9, 511].map F)).length⟩) = _
      rw [ih]
      have hb : hK prg cl m U16_8 (fun F M => d16_9 cl m kr k0 j (F 1) (F 2) (F 4) (F 7) (F 8) (F 9) (F 511) M) (exH 0 (Zx_2_4_511 k0) NO) (Z4_5_6 kr) = fun F M => d16_9b cl m kr k0 (d16_9 cl m kr k0 j) (F 1) (F 2) (F 4) (F 7) (F 8) (F 9) (F 511) M := by funext F M; kernel_rfl
      rw [hb]; funext F M; kernel_rfl
  exact key m
def T16_8 : HT := (.block 0 T16_9)
def d16_8 (cl : Clh) (m : Nat) (kr : K4) (kn : K3) (t1 t2 t4 t7 t8 t9 t511 : W) (M : Nm) : CW :=
  d16_9 cl m kr kn m t1 t2 t4 t7 t8 t9 t511 M
theorem z16_8 (cl : Clh) (m : Nat) (kr : K4) (kn : K3) : hK prg cl m T16_8 (Zx_2_4_511 kn) NO (Z4_5_6 kr) = fun F M => d16_8 cl m kr kn (F 1) (F 2) (F 4) (F 7) (F 8) (F 9) (F 511) M := by
  show hK prg cl m T16_9 (Zx_2_4_511 kn) (exH 0 (Zx_2_4_511 kn) NO) (Z4_5_6 kr) = _
  exact (z16_9 cl m kr kn kn).trans (by funext F M; kernel_rfl)
def T16_7 : HT := (.seq U16_7 T16_8)
def d16_7 (cl : Clh) (m : Nat) (kr : K4) (kn : K3) (t1 t2 t4 t7 t8 t511 : W) (M : Nm) : CW :=
  d16_8 cl m kr kn t1 t2 t4 t7 t8 (.i .i64 (0)) t511 M
theorem z16_7 (cl : Clh) (m : Nat) (kr : K4) (kn : K3) : hK prg cl m T16_7 (Zx_2_4_511 kn) NO (Z4_5_6 kr) = fun F M => d16_7 cl m kr kn (F 1) (F 2) (F 4) (F 7) (F 8) (F 511) M := by
  show hK prg cl m U16_7 (hK prg cl m T16_8 (Zx_2_4_511 kn) NO (Z4_5_6 kr)) NO (Z4_5_6 kr) = _
  rw [z16_8 cl m kr kn]
  funext F M; kernel_rfl
def T16_6 : HT := (.seq T16_7 U16_6)
def d16_6 (cl : Clh) (m : Nat) (kr : K4) (kn : K4) (t1 t2 t4 t7 t8 t511 : W) (M : Nm) : CW :=
  d16_7 cl m kr (fun t2 t4 t511 M =>
    hLoadN 4 t2 M fun t75 =>
    hStoreN 4 t4 t75 M fun _ M15 =>
    kr t511 t4 (.i .i64 (-1)) (.i .i64 (0)) M15) t1 t2 t4 t7 t8 t511 M
theorem z16_6 (cl : Clh) (m : Nat) (kr : K4) (kn : K4) : hK prg cl m T16_6 (Z4_5_6 kn) NO (Z4_5_6 kr) = fun F M => d16_6 cl m kr kn (F 1) (F 2) (F 4) (F 7) (F 8) (F 511) M := by
  have hb : hK prg cl m U16_6 (Z4_5_6 kn) NO (Z4_5_6 kr) = fun F M => (fun t2 t4 t511 M =>
    hLoadN 4 t2 M fun t75 =>
    hStoreN 4 t4 t75 M fun _ M15 =>
    kr t511 t4 (.i .i64 (-1)) (.i .i64 (0)) M15) (F 2) (F 4) (F 511) M := by funext F M; kernel_rfl
  show hK prg cl m T16_7 (hK prg cl m U16_6 (Z4_5_6 kn) NO (Z4_5_6 kr)) NO (Z4_5_6 kr) = _
  rw [hb]
  exact (z16_7 cl m kr (fun t2 t4 t511 M =>
    hLoadN 4 t2 M fun t75 =>
    hStoreN 4 t4 t75 M fun _ M15 =>
    kr t511 t4 (.i .i64 (-1)) (.i .i64 (0)) M15) ).trans (by funext F M; kernel_rfl)
def T16_5 : HT := (.seq U16_5 T16_6)
def d16_5 (cl : Clh) (m : Nat) (kr : K4) (kn : K4) (t1 t2 t4 t7 t511 : W) (M : Nm) : CW :=
  hLoadN 4 t2 M fun t25 =>
  hNew 24 4 [.c .nils, .i .i64 (0), .i .i64 (0), .i .i64 (0)] M fun t8 M16 =>
  hStoreN 4 t8 t25 M16 fun _ M17 =>
  d16_6 cl m kr kn t1 t2 t4 t7 t8 t511 M17
theorem z16_5 (cl : Clh) (m : Nat) (kr : K4) (kn : K4) : hK prg cl m T16_5 (Z4_5_6 kn) NO (Z4_5_6 kr) = fun F M => d16_5 cl m kr kn (F 1) (F 2) (F 4) (F 7) (F 511) M := by
  show hK prg cl m U16_5 (hK prg cl m T16_6 (Z4_5_6 kn) NO (Z4_5_6 kr)) NO (Z4_5_6 kr) = _
  rw [z16_6 cl m kr kn]
  funext F M; kernel_rfl
def T16_4 : HT := (.seq U16_4 T16_5)
def d16_4 (cl : Clh) (m : Nat) (kr : K4) (kn : K4) (t1 t2 t4 t511 : W) (M : Nm) : CW :=
  hLenS t1 fun t24 =>
  d16_5 cl m kr kn t1 t2 t4 t24 t511 M
theorem z16_4 (cl : Clh) (m : Nat) (kr : K4) (kn : K4) : hK prg cl m T16_4 (Z4_5_6 kn) NO (Z4_5_6 kr) = fun F M => d16_4 cl m kr kn (F 1) (F 2) (F 4) (F 511) M := by
  show hK prg cl m U16_4 (hK prg cl m T16_5 (Z4_5_6 kn) NO (Z4_5_6 kr)) NO (Z4_5_6 kr) = _
  rw [z16_5 cl m kr kn]
  funext F M; kernel_rfl
def T16_3 : HT := (.seq U16_3 T16_4)
def d16_3 (cl : Clh) (m : Nat) (kr : K4) (kn : K4) (t1 t2 t4 t511 : W) (M : Nm) : CW :=
  hLenS t1 fun t17 =>
  hFieldAddr 0 t2 fun t18 =>
  hLoad1 t18 M fun t19 =>
  hLenS t19 fun t20 =>
  hBin .neq t17 t20 fun t21 =>
  hIf t21 (
    hBuildO [.c .nils, .i .i64 (0), .i .i64 (0), .i .i64 (0)] [] fun t22 =>
    hStoreN 4 t4 t22 M fun _ M18 =>
    kr t511 t4 (.i .i64 (-1)) (.i .i64 (1)) M18) (
  d16_4 cl m kr kn t1 t2 t4 t511 M)
theorem z16_3 (cl : Clh) (m : Nat) (kr : K4) (kn : K4) : hK prg cl m T16_3 (Z4_5_6 kn) NO (Z4_5_6 kr) = fun F M => d16_3 cl m kr kn (F 1) (F 2) (F 4) (F 511) M := by
  show hK prg cl m U16_3 (hK prg cl m T16_4 (Z4_5_6 kn) NO (Z4_5_6 kr)) NO (Z4_5_6 kr) = _
  rw [z16_4 cl m kr kn]
  funext F M; kernel_rfl
def T16_2 : HT := (.seq U16_2 T16_3)
def d16_2 (cl : Clh) (m : Nat) (kr : K4) (kn : K4) (t1 t2 t4 t511 : W) (M : Nm) : CW :=
  hLoadN 4 t2 M fun t10 =>
  hCall cl 13 [t10] M fun t11 M19 =>
  hBin .gtr t11 (.i .i64 (0)) fun t12 =>
  hIf t12 (
    hBuildO [.c .nils, .i .i64 (0), .i .i64 (0), .i .i64 (0)] [] fun t13 =>
    hLoadN 4 t2 M19 fun t14 =>
    hCall cl 13 [t14] M19 fun t15 M20 =>
    hStoreN 4 t4 t13 M20 fun _ M21 =>
    kr t511 t4 (.i .i64 (-1)) t15 M21) (
  d16_3 cl m kr kn t1 t2 t4 t511 M19)
theorem z16_2 (cl : Clh) (m : Nat) (kr : K4) (kn : K4) : hK prg cl m T16_2 (Z4_5_6 kn) NO (Z4_5_6 kr) = fun F M => d16_2 cl m kr kn (F 1) (F 2) (F 4) (F 511) M := by
  show hK prg cl m U16_2 (hK prg cl m T16_3 (Z4_5_6 kn) NO (Z4_5_6 kr)) NO (Z4_5_6 kr) = _
  rw [z16_3 cl m kr kn]
  funext F M; kernel_rfl
def T16_1 : HT := (.seq U16_1 T16_2)
def d16_1 (cl : Clh) (m : Nat) (kr : K4) (kn : K4) (t0 t1 t511 : W) (M : Nm) : CW :=
  hBox 24 4 t0 M fun t2 M22 =>
  hNew 24 4 [.c .nils, .i .i64 (0), .i .i64 (0), .i .i64 (0)] M22 fun t4 M23 =>
  d16_2 cl m kr kn t1 t2 t4 t511 M23
theorem z16_1 (cl : Clh) (m : Nat) (kr : K4) (kn : K4) : hK prg cl m T16_1 (Z4_5_6 kn) NO (Z4_5_6 kr) = fun F M => d16_1 cl m kr kn (F 0) (F 1) (F 511) M := by
  show hK prg cl m U16_1 (hK prg cl m T16_2 (Z4_5_6 kn) NO (Z4_5_6 kr)) NO (Z4_5_6 kr) = _
  rw [z16_2 cl m kr kn]
  funext F M; kernel_rfl
def t16 : HT := T16_1
theorem z16 (cl : Clh) (m : Nat) (kr : K4) : hK prg cl m t16 (Z4_5_6 kr) NO (Z4_5_6 kr) = fun F M => d16_1 cl m kr kr (F 0) (F 1) (F 511) M := z16_1 cl m kr kr
def d16 (cl : Clh) (m : Nat) (kr : K4) (t0 t1 : W) (M : Nm) : CW :=
  d16_1 cl m kr kr t0 t1 (.tup []) M
def U17_1 : HT := (.ops [(.box 24 4 (.tmp 0), (some 2)),
    (.alloc 24 4 [.nils, .int .i64 (.int (0)), .int .i64 (.int (0)), .int .i64 (.int (0))], (some 4)),
    (.move (.const (.int .i64 (0))), (some 5)),
    (.move (.const (.bool false)), (some 6)),
    (.move (.const (.int .i64 (0))), (some 7))])
def U17_2 : HT := (.seq (.ops [(.loadN 4 (.tmp 2), (some 9)),
    (.call 12 [(.tmp 9)], (some 10)),
    (.move (.tmp 10), (some 8))]) (.seq (.ops [(.move (.tmp 8), (some 11)),
    (.bin .neq (.tmp 11) (.const (.int .i64 (0))), (some 12))]) (.cond (.tmp 12) (.seq (.ops [(.build [.nils, .int .i64 (.int (0)), .int .i64 (.int (0)), .int .i64 (.int (0))] [], (some 13)),
    (.move (.tmp 8), (some 14)),
    (.storeN 4 (.tmp 4) (.tmp 13), none),
    (.move (.const (.int .i64 (0))), (some 5)),
    (.move (.const (.bool false)), (some 6)),
    (.move (.tmp 14), (some 7))]) .ret) .skip)))
def U17_3 : HT := (.seq (.ops [(.move (.tmp 1), (some 15)),
    (.lenS (.tmp 15), (some 16)),
    (.fieldAddr 0 (.tmp 2), (some 17)),
    (.load1 (.tmp 17), (some 18)),
    (.lenS (.tmp 18), (some 19)),
    (.bin .neq (.tmp 16) (.tmp 19), (some 20))]) (.cond (.tmp 20) (.seq (.ops [(.build [.nils, .int .i64 (.int (0)), .int .i64 (.int (0)), .int .i64 (.int (0))] [], (some 21)),
    (.storeN 4 (.tmp 4) (.tmp 21), none),
    (.move (.const (.int .i64 (0))), (some 5)),
    (.move (.const (.bool false)), (some 6)),
    (.move (.const (.int .i64 (1))), (some 7))]) .ret) .skip))
def U17_4 : HT := (.ops [(.loadN 4 (.tmp 2), (some 22)),
    (.storeN 4 (.tmp 4) (.tmp 22), none)])
def U17_5 : HT := (.ops [(.fieldAddr 0 (.tmp 2), (some 23)),
    (.load1 (.tmp 23), (some 24)),
    (.call 32 [(.tmp 24)], (some 25)),
    (.call 31 [(.tmp 25)], (some 26)),
    (.fieldAddr 0 (.tmp 4), (some 27)),
    (.store1 (.tmp 27) (.tmp 26), none)])
def U17_6 : HT := (.seq (.ops [(.move (.tmp 1), (some 28)),
    (.call 34 [(.tmp 28), (.const (.bool true))], (some 29)),
    (.not (.tmp 29), (some 30))]) (.cond (.tmp 30) (.seq (.ops [(.loadN 4 (.tmp 4), (some 31)),
    (.storeN 4 (.tmp 4) (.tmp 31), none),
    (.move (.const (.int .i64 (0))), (some 5)),
    (.move (.const (.bool false)), (some 6)),
    (.move (.const (.int .i64 (0))), (some 7))]) .ret) .skip))
def U17_7 : HT := (.seq (.seq (.ops [(.fieldAddr 3 (.tmp 4), (some 64)),
    (.load1 (.tmp 64), (some 65)),
    (.bin .gtr (.tmp 65) (.const (.int .i64 (4611686018427387904))), (some 66))]) (.cond (.tmp 66) (.seq (.ops [(.build [.nils, .int .i64 (.int (0)), .int .i64 (.int (0)), .int .i64 (.int (0))] [], (some 67)),
    (.storeN 4 (.tmp 4) (.tmp 67), none),
    (.move (.const (.int .i64 (0))), (some 5)),
    (.move (.const (.bool false)), (some 6)),
    (.move (.const (.int .i64 (4))), (some 7))]) .ret) .skip)) (.seq (.ops [(.fieldAddr 2 (.tmp 4), (some 68)),
    (.load1 (.tmp 68), (some 69)),
    (.bin .sub (.tmp 69) (.const (.int .i64 (1))), (some 70)),
    (.fieldAddr 2 (.tmp 4), (some 71)),
    (.store1 (.tmp 71) (.tmp 70), none)]) (.seq (.ops [(.loadN 4 (.tmp 4), (some 72)),
    (.fieldAddr 1 (.tmp 4), (some 73)),
    (.load1 (.tmp 73), (some 74)),
    (.storeN 4 (.tmp 4) (.tmp 72), none),
    (.move (.tmp 74), (some 5)),
    (.move (.const (.bool true)), (some 6)),
    (.move (.const (.int .i64 (0))), (some 7))]) .ret)))
def U17_8 : HT := (.block 1 (.seq (.seq (.ops [(.fieldAddr 2 (.tmp 4), (some 32)),
    (.load1 (.tmp 32), (some 33)),
    (.bin .gtr (.tmp 33) (.const (.int .i64 (0))), (some 34)),
    (.move (.tmp 34), (some 35)),
    (.guard 35 true (.move (.tmp 1)), (some 36)),
    (.guard 35 true (.fieldAddr 1 (.tmp 4)), (some 37)),
    (.guard 35 true (.load1 (.tmp 37)), (some 38)),
    (.guard 35 true (.indexAddr 1 (.tmp 36) (.tmp 38)), (some 39)),
    (.guard 35 true (.load1 (.tmp 39)), (some 40)),
    (.pick (.tmp 35) (.tmp 40) (.const (.bool false)), (some 41))]) (.cond (.tmp 41) (.exit 0) .skip)) (.seq (.seq (.ops [(.fieldAddr 1 (.tmp 4), (some 42)),
    (.load1 (.tmp 42), (some 43)),
    (.bin .add (.tmp 43) (.const (.int .i64 (1))), (some 44)),
    (.fieldAddr 1 (.tmp 4), (some 45)),
    (.store1 (.tmp 45) (.tmp 44), none)]) (.seq (.ops [(.fieldAddr 1 (.tmp 4), (some 46)),
    (.load1 (.tmp 46), (some 47)),
    (.fieldAddr 0 (.tmp 4), (some 48)),
    (.load1 (.tmp 48), (some 49)),
    (.lenS (.tmp 49), (some 50)),
    (.bin .eql (.tmp 47) (.tmp 50), (some 51))]) (.cond (.tmp 51) (.seq (.ops [(.fieldAddr 1 (.tmp 4), (some 52)),
    (.store1 (.tmp 52) (.const (.int .i64 (0))), none)]) (.ops [(.fieldAddr 3 (.tmp 4), (some 53)),
    (.load1 (.tmp 53), (some 54)),
    (.bin .add (.tmp 54) (.const (.int .i64 (1))), (some 55)),
    (.fieldAddr 3 (.tmp 4), (some 56)),
    (.store1 (.tmp 56) (.tmp 55), none)])) .skip))) (.ops [(.fieldAddr 0 (.tmp 4), (some 57)),
    (.load1 (.tmp 57), (some 58)),
    (.fieldAddr 1 (.tmp 4), (some 59)),
    (.load1 (.tmp 59), (some 60)),
    (.indexAddr 1 (.tmp 58) (.tmp 60), (some 61)),
    (.load1 (.tmp 61), (some 62)),
    (.fieldAddr 2 (.tmp 4), (some 63)),
    (.store1 (.tmp 63) (.tmp 62), none)]))))
def T17_10 : HT := (.loop (.canon [1, 4, 511] U17_8))
def d17_10b (cl : Clh) (m : Nat) (kr : K5) (k0 : K2) (q : K3) (t1 t4 t511 : W) (M : Nm) : CW :=
  hFieldAddr 2 t4 fun t32 =>
  hLoad1 t32 M fun t33 =>
  hBin .gtr t33 (.i .i64 (0)) fun t34 =>
  hGuard t34 true (fun k => k t1 M) M fun t36 M1 =>
  hGuard t34 true (fun k => hFieldAddr 1 t4 fun y => k y M1) M1 fun t37 M3 =>
  hGuard t34 true (fun k => hLoad1 t37 M3 fun y => k y M3) M3 fun t38 M5 =>
  hGuard t34 true (fun k => hIndexAddr 1 t36 t38 fun y => k y M5) M5 fun t39 M7 =>
  hGuard t34 true (fun k => hLoad1 t39 M7 fun y => k y M7) M7 fun t40 M9 =>
  hPick t34 t40 (.b false) fun t41 =>
  hIf t41 (
  k0 t4 t511 M9) (
  jn (fun (j1 : K3) =>
    hFieldAddr 1 t4 fun t42 =>
    hLoad1 t42 M9 fun t43 =>
    hBin .add t43 (.i .i64 (1)) fun t44 =>
    hFieldAddr 1 t4 fun t45 =>
    hStore1 t45 t44 M9 fun _ M12 =>
    hFieldAddr 1 t4 fun t46 =>
    hLoad1 t46 M12 fun t47 =>
    hFieldAddr 0 t4 fun t48 =>
    hLoad1 t48 M12 fun t49 =>
    hLenS t49 fun t50 =>
    hBin .eql t47 t50 fun t51 =>
    hIf t51 (
      hFieldAddr 1 t4 fun t52 =>
      hStore1 t52 (.i .i64 (0)) M12 fun _ M13 =>
      hFieldAddr 3 t4 fun t53 =>
      hLoad1 t53 M13 fun t54 =>
      hBin .add t54 (.i .i64 (1)) fun t55 =>
      hFieldAddr 3 t4 fun t56 =>
      hStore1 t56 t55 M13 fun _ M14 =>
    j1 t1 t4 t511 M14) (
    j1 t1 t4 t511 M12)) (fun t1 t4 t511 M11 =>
    hFieldAddr 0 t4 fun t57 =>
    hLoad1 t57 M11 fun t58 =>
    hFieldAddr 1 t4 fun t59 =>
    hLoad1 t59 M11 fun t60 =>
    hIndexAddr 1 t58 t60 fun t61 =>
    hLoad1 t61 M11 fun t62 =>
    hFieldAddr 2 t4 fun t63 =>
    hStore1 t63 t62 M11 fun _ M15 =>
  q t1 t4 t511 M15))
def d17_10 (cl : Clh) (m : Nat) (kr : K5) (k0 : K2) : Nat → W → W → W → Nm → CW
  | 0 => fun _ _ _ _ => .no
  | n + 1 => fun t1 t4 t511 M => jn (fun (σ : List Nat) => d17_10b cl m kr k0 (d17_10 cl m kr k0 n) (ren 4 σ t1) (ren 4 σ t4) (ren 4 σ t511) ⟨canH M.H σ 0 σ, σ.length⟩) (reach M.H [t1, t4, t511])
theorem z17_10 (cl : Clh) (m : Nat) (kr : K5) (kn : K2) (k0 : K2) : hK prg cl m T17_10 (Zx_4_511 kn) (exH 0 (Zx_4_511 k0) NO) (Z4_5_6_7 kr) = fun F M => d17_10 cl m kr k0 m (F 1) (F 4) (F 511) M := by
  have key : ∀ j, loopH (fun q => hK prg cl m (.canon [1, 4, 511] U17_8) q (exH 0 (Zx_4_511 k0) NO) (Z4_5_6_7 kr)) j = fun F M => d17_10 cl m kr k0 j (F 1) (F 4) (F 511) M := by
    intro j
    induction j with
    | zero => rfl
    | succ j ih =>
      show (fun (F : FW) (N : Nm) => hK prg cl m U17_8 (loopH (fun q => hK prg cl m (.canon [1, 4, 511] U17_8) q (exH 0 (Zx_4_511 k0) NO) (Z4_5_6_7 kr)) j) (exH 0 (Zx_4_511 k0) NO) (Z4_5_6_7 kr) (canF [1, 4, 511] (reach N.H ([1, 4, 511].map F)) F) ⟨canH N.H (reach N.H ([1, 4, 511].map F)) 0 (reach N.H ([1, 4, 511].map F)), (reach N.H ([1, 4, 511].map F)).length⟩) = _
      rw [ih]
      have hb : hK prg cl m U17_8 (fun F M => d17_10 cl m kr k0 j (F 1) (F 4) (F 511) M) (exH 0 (Zx_4_511 k0) NO) (Z4_5_6_7 kr) = fun F M => d17_10b cl m kr k0 (d17_10 cl m kr k0 j) (F 1) (F 4) (F 511) M := by funext F M; kernel_rfl
      rw [hb]; funext F M; kernel_rfl
  exact key m
def T17_9 : HT := (.block 0 T17_10)
def d17_9 (cl : Clh) (m : Nat) (kr : K5) (kn : K2) (t1 t4 t511 : W) (M : Nm) : CW :=
  d17_10 cl m kr kn m t1 t4 t511 M
theorem z17_9 (cl : Clh) (m : Nat) (kr : K5) (kn : K2) : hK prg cl m T17_9 (Zx_4_511 kn) NO (Z4_5_6_7 kr) = fun F M => d17_9 cl m kr kn (F 1) (F 4) (F 511) M := by
  show hK prg cl m T17_10 (Zx_4_511 kn) (exH 0 (Zx_4_511 kn) NO) (Z4_5_6_7 kr) = _
  exact (z17_10 cl m kr kn kn).trans (by funext F M; kernel_rfl)
def T17_8 : HT := (.seq T17_9 U17_7)
def d17_8 (cl : Clh) (m : Nat) (kr : K5) (kn : K5) (t1 t4 t511 : W) (M : Nm) : CW :=
  d17_9 cl m kr (fun t4 t511 M =>
    hFieldAddr 3 t4 fun t64 =>
    hLoad1 t64 M fun t65 =>
    hBin .gtr t65 (.i .i64 (4611686018427387904)) fun t66 =>
    hIf t66 (
      hBuildO [.c .nils, .i .i64 (0), .i .i64 (0), .i .i64 (0)] [] fun t67 =>
      hStoreN 4 t4 t67 M fun _ M16 =>
      kr t511 t4 (.i .i64 (0)) (.b false) (.i .i64 (4)) M16) (
    hFieldAddr 2 t4 fun t68 =>
    hLoad1 t68 M fun t69 =>
    hBin .sub t69 (.i .i64 (1)) fun t70 =>
    hFieldAddr 2 t4 fun t71 =>
    hStore1 t71 t70 M fun _ M17 =>
    hLoadN 4 t4 M17 fun t72 =>
    hFieldAddr 1 t4 fun t73 =>
    hLoad1 t73 M17 fun t74 =>
    hStoreN 4 t4 t72 M17 fun _ M18 =>
    kr t511 t4 t74 (.b true) (.i .i64 (0)) M18)) t1 t4 t511 M
theorem z17_8 (cl : Clh) (m : Nat) (kr : K5) (kn : K5) : hK prg cl m T17_8 (Z4_5_6_7 kn) NO (Z4_5_6_7 kr) = fun F M => d17_8 cl m kr kn (F 1) (F 4) (F 511) M := by
  have hb : hK prg cl m U17_7 (Z4_5_6_7 kn) NO (Z4_5_6_7 kr) = fun F M => (fun t4 t511 M =>
    hFieldAddr 3 t4 fun t64 =>
    hLoad1 t64 M fun t65 =>
    hBin .gtr t65 (.i .i64 (4611686018427387904)) fun t66 =>
    hIf t66 (
      hBuildO [.c .nils, .i .i64 (0), .i .i64 (0), .i .i64 (0)] [] fun t67 =>
      hStoreN 4 t4 t67 M fun _ M16 =>
      kr t511 t4 (.i .i64 (0)) (.b false) (.i .i64 (4)) M16) (
    hFieldAddr 2 t4 fun t68 =>
    hLoad1 t68 M fun t69 =>
    hBin .sub t69 (.i .i64 (1)) fun t70 =>
    hFieldAddr 2 t4 fun t71 =>
    hStore1 t71 t70 M fun _ M17 =>
    hLoadN 4 t4 M17 fun t72 =>
    hFieldAddr 1 t4 fun t73 =>
    hLoad1 t73 M17 fun t74 =>
    hStoreN 4 t4 t72 M17 fun _ M18 =>
    kr t511 t4 t74 (.b true) (.i .i64 (0)) M18)) (F 4) (F 511) M := by funext F M; kernel_rfl
  show hK prg cl m T17_9 (hK prg cl m U17_7 (Z4_5_6_7 kn) NO (Z4_5_6_7 kr)) NO (Z4_5_6_7 kr) = _
  rw [hb]
  exact (z17_9 cl m kr (fun t4 t511 M =>
    hFieldAddr 3 t4 fun t64 =>
    hLoad1 t64 M fun t65 =>
    hBin .gtr t65 (.i .i64 (4611686018427387904)) fun t66 =>
    hIf t66 (
      hBuildO [.c .nils, .i .i64 (0), .i .i64 (0), .i .i64 (0)] [] fun t67 =>
      hStoreN 4 t4 t67 M fun _ M16 =>
      kr t511 t4 (.i .i64 (0)) (.b false) (.i .i64 (4)) M16) (
    hFieldAddr 2 t4 fun t68 =>
    hLoad1 t68 M fun t69 =>
    hBin .sub t69 (.i .i64 (1)) fun t70 =>
    hFieldAddr 2 t4 fun t71 =>
    hStore1 t71 t70 M fun _ M17 =>
    hLoadN 4 t4 M17 fun t72 =>
    hFieldAddr 1 t4 fun t73 =>
    hLoad1 t73 M17 fun t74 =>
    hStoreN 4 t4 t72 M17 fun _ M18 =>
    kr t511 t4 t74 (.b true) (.i .i64 (0)) M18)) ).trans (by funext F M; kernel_rfl)
def T17_7 : HT := (.seq .skip T17_8)
def d17_7 (cl : Clh) (m : Nat) (kr : K5) (kn : K5) (t1 t4 t511 : W) (M : Nm) : CW :=
  d17_8 cl m kr kn t1 t4 t511 M
theorem z17_7 (cl : Clh) (m : Nat) (kr : K5) (kn : K5) : hK prg cl m T17_7 (Z4_5_6_7 kn) NO (Z4_5_6_7 kr) = fun F M => d17_7 cl m kr kn (F 1) (F 4) (F 511) M := by
  show hK prg cl m .skip (hK prg cl m T17_8 (Z4_5_6_7 kn) NO (Z4_5_6_7 kr)) NO (Z4_5_6_7 kr) = _
  rw [z17_8 cl m kr kn]
  funext F M; kernel_rfl
def T17_6 : HT := (.seq U17_6 T17_7)
def d17_6 (cl : Clh) (m : Nat) (kr : K5) (kn : K5) (t1 t4 t511 : W) (M : Nm) : CW :=
  hCall cl 34 [t1, (.b true)] M fun t29 M19 =>
  hNot t29 fun t30 =>
  hIf t30 (
    hLoadN 4 t4 M19 fun t31 =>
    hStoreN 4 t4 t31 M19 fun _ M20 =>
    kr t511 t4 (.i .i64 (0)) (.b false) (.i .i64 (0)) M20) (
  d17_7 cl m kr kn t1 t4 t511 M19)
theorem z17_6 (cl : Clh) (m : Nat) (kr : K5) (kn : K5) : hK prg cl m T17_6 (Z4_5_6_7 kn) NO (Z4_5_6_7 kr) = fun F M => d17_6 cl m kr kn (F 1) (F 4) (F 511) M := by
  show hK prg cl m U17_6 (hK prg cl m T17_7 (Z4_5_6_7 kn) NO (Z4_5_6_7 kr)) NO (Z4_5_6_7 kr) = _
  rw [z17_7 cl m kr kn]
  funext F M; kernel_rfl
def T17_5 : HT := (.seq U17_5 T17_6)
def d17_5 (cl : Clh) (m : Nat) (kr : K5) (kn : K5) (t1 t2 t4 t511 : W) (M : Nm) : CW :=
  hFieldAddr 0 t2 fun t23 =>
  hLoad1 t23 M fun t24 =>
  hCall cl 32 [t24] M fun t25 M21 =>
  hCall cl 31 [t25] M21 fun t26 M22 =>
  hFieldAddr 0 t4 fun t27 =>
  hStore1 t27 t26 M22 fun _ M23 =>
  d17_6 cl m kr kn t1 t4 t511 M23
theorem z17_5 (cl : Clh) (m : Nat) (kr : K5) (kn : K5) : hK prg cl m T17_5 (Z4_5_6_7 kn) NO (Z4_5_6_7 kr) = fun F M => d17_5 cl m kr kn (F 1) (F 2) (F 4) (F 511) M := by
  show hK prg cl m U17_5 (hK prg cl m T17_6 (Z4_5_6_7 kn) NO (Z4_5_6_7 kr)) NO (Z4_5_6_7 kr) = _
  rw [z17_6 cl m kr kn]
  funext F M; kernel_rfl
def T17_4 : HT := (.seq U17_4 T17_5)
def d17_4 (cl : Clh) (m : Nat) (kr : K5) (kn : K5) (t1 t2 t4 t511 : W) (M : Nm) : CW :=
  hLoadN 4 t2 M fun t22 =>
  hStoreN 4 t4 t22 M fun _ M24 =>
  d17_5 cl m kr kn t1 t2 t4 t511 M24
theorem z17_4 (cl : Clh) (m : Nat) (kr : K5) (kn : K5) : hK prg cl m T17_4 (Z4_5_6_7 kn) NO (Z4_5_6_7 kr) = fun F M => d17_4 cl m kr kn (F 1) (F 2) (F 4) (F 511) M := by
  show hK prg cl m U17_4 (hK prg cl m T17_5 (Z4_5_6_7 kn) NO (Z4_5_6_7 kr)) NO (Z4_5_6_7 kr) = _
  rw [z17_5 cl m kr kn]
  funext F M; kernel_rfl
def T17_3 : HT := (.seq U17_3 T17_4)
def d17_3 (cl : Clh) (m : Nat) (kr : K5) (kn : K5) (t1 t2 t4 t511 : W) (M : Nm) : CW :=
  hLenS t1 fun t16 =>
  hFieldAddr 0 t2 fun t17 =>
  hLoad1 t17 M fun t18 =>
  hLenS t18 fun t19 =>
  hBin .neq t16 t19 fun t20 =>
  hIf t20 (
    hBuildO [.c .nils, .i .i64 (0), .i .i64 (0), .i .i64 (0)] [] fun t21 =>
    hStoreN 4 t4 t21 M fun _ M25 =>
    kr t511 t4 (.i .i64 (0)) (.b false) (.i .i64 (1)) M25) (
  d17_4 cl m kr kn t1 t2 t4 t511 M)
theorem z17_3 (cl : Clh) (m : Nat) (kr : K5) (kn : K5) : hK prg cl m T17_3 (Z4_5_6_7 kn) NO (Z4_5_6_7 kr) = fun F M => d17_3 cl m kr kn (F 1) (F 2) (F 4) (F 511) M := by
  show hK prg cl m U17_3 (hK prg cl m T17_4 (Z4_5_6_7 kn) NO (Z4_5_6_7 kr)) NO (Z4_5_6_7 kr) = _
  rw [z17_4 cl m kr kn]
  funext F M; kernel_rfl
def T17_2 : HT := (.seq U17_2 T17_3)
def d17_2 (cl : Clh) (m : Nat) (kr : K5) (kn : K5) (t1 t2 t4 t511 : W) (M : Nm) : CW :=
  hLoadN 4 t2 M fun t9 =>
  hCall cl 12 [t9] M fun t10 M26 =>
  hBin .neq t10 (.i .i64 (0)) fun t12 =>
  hIf t12 (
    hBuildO [.c .nils, .i .i64 (0), .i .i64 (0), .i .i64 (0)] [] fun t13 =>
    hStoreN 4 t4 t13 M26 fun _ M27 =>
    kr t511 t4 (.i .i64 (0)) (.b false) t10 M27) (
  d17_3 cl m kr kn t1 t2 t4 t511 M26)
theorem z17_2 (cl : Clh) (m : Nat) (kr : K5) (kn : K5) : hK prg cl m T17_2 (Z4_5_6_7 kn) NO (Z4_5_6_7 kr) = fun F M => d17_2 cl m kr kn (F 1) (F 2) (F 4) (F 511) M := by
  show hK prg cl m U17_2 (hK prg cl m T17_3 (Z4_5_6_7 kn) NO (Z4_5_6_7 kr)) NO (Z4_5_6_7 kr) = _
  rw [z17_3 cl m kr kn]
  funext F M; kernel_rfl
def T17_1 : HT := (.seq U17_1 T17_2)
def d17_1 (cl : Clh) (m : Nat) (kr : K5) (kn : K5) (t0 t1 t511 : W) (M : Nm) : CW :=
  hBox 24 4 t0 M fun t2 M28 =>
  hNew 24 4 [.c .nils, .i .i64 (0), .i .i64 (0), .i .i64 (0)] M28 fun t4 M29 =>
  d17_2 cl m kr kn t1 t2 t4 t511 M29
theorem z17_1 (cl : Clh) (m : Nat) (kr : K5) (kn : K5) : hK prg cl m T17_1 (Z4_5_6_7 kn) NO (Z4_5_6_7 kr) = fun F M => d17_1 cl m kr kn (F 0) (F 1) (F 511) M := by
  show hK prg cl m U17_1 (hK prg cl m T17_2 (Z4_5_6_7 kn) NO (Z4_5_6_7 kr)) NO (Z4_5_6_7 kr) = _
  rw [z17_2 cl m kr kn]
  funext F M; kernel_rfl
def t17 : HT := T17_1
theorem z17 (cl : Clh) (m : Nat) (kr : K5) : hK prg cl m t17 (Z4_5_6_7 kr) NO (Z4_5_6_7 kr) = fun F M => d17_1 cl m kr kr (F 0) (F 1) (F 511) M := z17_1 cl m kr kr
def d17 (cl : Clh) (m : Nat) (kr : K5) (t0 t1 : W) (M : Nm) : CW :=
  d17_1 cl m kr kr t0 t1 (.tup []) M
def U18_1 : HT := (.ops [(.box 42 4 (.tmp 0), (some 1)),
    (.alloc 24 4 [.nils, .int .i64 (.int (0)), .int .i64 (.int (0)), .int .i64 (.int (0))], (some 2))])
def U18_2 : HT := (.ops [(.alloc 24 4 [.nils, .int .i64 (.int (0)), .int .i64 (.int (0)), .int .i64 (.int (0))], (some 3))])
def U18_3 : HT := (.seq (.seq (.ops [(.fieldAddr 0 (.tmp 3), (some 29)),
    (.load1 (.tmp 29), (some 30)),
    (.lenS (.tmp 30), (some 31)),
    (.bin .eql (.tmp 31) (.const (.int .i64 (0))), (some 32))]) (.cond (.tmp 32) (.ops [(.slit 22 1 [(0, (.const (.int .i64 (1))))], (some 33)),
    (.fieldAddr 0 (.tmp 3), (some 34)),
    (.store1 (.tmp 34) (.tmp 33), none)]) .skip)) (.seq (.ops [(.fieldAddr 1 (.tmp 1), (some 35)),
    (.load1 (.tmp 35), (some 36)),
    (.conv .i64 (.tmp 36), (some 37)),
    (.fieldAddr 0 (.tmp 3), (some 38)),
    (.load1 (.tmp 38), (some 39)),
    (.lenS (.tmp 39), (some 40)),
    (.binG .rem 3 3 (.tmp 37) (.tmp 40), (some 41)),
    (.fieldAddr 1 (.tmp 3), (some 42)),
    (.store1 (.tmp 42) (.tmp 41), none)]) (.seq (.ops [(.fieldAddr 2 (.tmp 1), (some 43)),
    (.load1 (.tmp 43), (some 44)),
    (.conv .i64 (.tmp 44), (some 45)),
    (.fieldAddr 0 (.tmp 3), (some 46)),
    (.load1 (.tmp 46), (some 47)),
    (.fieldAddr 1 (.tmp 3), (some 48)),
    (.load1 (.tmp 48), (some 49)),
    (.indexAddr 1 (.tmp 47) (.tmp 49), (some 50)),
    (.load1 (.tmp 50), (some 51)),
    (.bin .add (.tmp 51) (.const (.int .i64 (1))), (some 52)),
    (.binG .rem 3 3 (.tmp 45) (.tmp 52), (some 53)),
    (.fieldAddr 2 (.tmp 3), (some 54)),
    (.store1 (.tmp 54) (.tmp 53), none)]) (.seq (.ops [(.fieldAddr 3 (.tmp 1), (some 55)),
    (.load1 (.tmp 55), (some 56)),
    (.conv .i64 (.tmp 56), (some 57)),
    (.fieldAddr 3 (.tmp 3), (some 58)),
    (.store1 (.tmp 58) (.tmp 57), none)]) (.seq (.ops [(.loadN 4 (.tmp 3), (some 59)),
    (.storeN 4 (.tmp 2) (.tmp 59), none)]) .ret)))))
def U18_4 : HT := (.ops [(.move (.const (.int .i64 (0))), (some 4))])
def U18_5 : HT := (.seq (.seq (.ops [(.move (.tmp 4), (some 5)),
    (.fieldAddr 0 (.tmp 1), (some 6)),
    (.load1 (.tmp 6), (some 7)),
    (.lenS (.tmp 7), (some 8)),
    (.bin .lss (.tmp 5) (.tmp 8), (some 9)),
    (.move (.tmp 9), (some 10)),
    (.guard 10 true (.move (.tmp 4)), (some 11)),
    (.guard 10 true (.bin .lss (.tmp 11) (.const (.int .i64 (5)))), (some 12)),
    (.pick (.tmp 10) (.tmp 12) (.const (.bool false)), (some 13))]) (.cond (.tmp 13) .skip (.exit 0))) (.seq (.block 1 (.draw [⟨.fieldAddr 0 (.tmp 3), (some 16), 0, none, false, none, true⟩,
    ⟨.load1 (.tmp 16), (some 17), 1, (some (.tmp 16)), false, none, false⟩,
    ⟨.fieldAddr 0 (.tmp 1), (some 18), 2, none, false, none, true⟩,
    ⟨.load1 (.tmp 18), (some 19), 3, none, false, none, false⟩,
    ⟨.move (.tmp 4), (some 20), 4, none, false, none, true⟩,
    ⟨.indexAddr 1 (.tmp 19) (.tmp 20), (some 21), 5, none, false, none, false⟩,
    ⟨.load1 (.tmp 21), (some 22), 6, none, false, none, false⟩,
    ⟨.binG .rem 5 5 (.tmp 22) (.const (.int .u8 (8))), (some 23), 7, none, false, none, false⟩,
    ⟨.conv .i64 (.tmp 23), (some 24), 8, none, true, (some [0, 1]), false⟩,
    ⟨.bin .add (.const (.int .i64 (1))) (.tmp 24), (some 25), 9, none, false, none, false⟩,
    ⟨.slit 22 1 [(0, (.tmp 25))], (some 26), 10, none, true, (some [0, 1]), false⟩,
    ⟨.app 22 22 (.tmp 17) (.tmp 26), (some 27), 11, none, true, none, false⟩,
    ⟨.fieldAddr 0 (.tmp 3), (some 28), 12, none, false, none, true⟩,
    ⟨.store1 (.tmp 28) (.tmp 27), none, 13, none, true, none, false⟩])) (.ops [(.move (.tmp 4), (some 14)),
    (.bin .add (.tmp 14) (.const (.int .i64 (1))), (some 15)),
    (.move (.tmp 15), (some 4))])))
def T18_6 : HT := (.loop (.canon [1, 2, 3, 4, 511] U18_5))
def d18_6b (cl : Clh) (m : Nat) (kr : K2) (k0 : K4) (q : K5) (t1 t2 t3 t4 t511 : W) (M : Nm) : CW :=
  hFieldAddr 0 t1 fun t6 =>
  hLoad1 t6 M fun t7 =>
  hLenS t7 fun t8 =>
  hBin .lss t4 t8 fun t9 =>
  hGuard t9 true (fun k => k t4 M) M fun t11 M1 =>
  hGuard t9 true (fun k => hBin .lss t11 (.i .i64 (5)) fun y => k y M1) M1 fun t12 M3 =>
  hPick t9 t12 (.b false) fun t13 =>
  hIf t13 (
  jn (fun (n1 : Nat) =>
  gate true true true <|
  hFieldAddr 0 t3 fun t16 =>
  gate (oldV n1 true t16) true true <|
  hLoad1 t16 M3 fun t17 =>
  gate true true true <|
  hFieldAddr 0 t1 fun t18 =>
  gate true true true <|
  hLoad1 t18 M3 fun t19 =>
  gate true true true <|
  gate true true true <|
  hIndexAddr 1 t19 t4 fun t21 =>
  gate true true true <|
  hLoad1 t21 M3 fun t22 =>
  gate true true true <|
  hBinG prg .rem 5 t22 (.i .u8 (8)) fun t23 =>
  gate true (adsW M3.H none [t16]) true <|
  hConv .i64 t23 fun t24 =>
  gate true true true <|
  hBin .add (.i .i64 (1)) t24 fun t25 =>
  gate true (adsW M3.H none [t16]) true <|
  hSlitO prg 22 1 [(0, t25)] M3 fun t26 M5 =>
  gate true true true <|
  hApp prg 22 22 t17 t26 M5 fun t27 M6 =>
  gate true true true <|
  hFieldAddr 0 t3 fun t28 =>
  gate true true true <|
  hStore1 t28 t27 M6 fun _ M7 =>
  hBin .add t4 (.i .i64 (1)) fun t15 =>
  q t1 t2 t3 t15 t511 M7) M3.nx) (
  k0 t1 t2 t3 t511 M3)
def d18_6 (cl : Clh) (m : Nat) (kr : K2) (k0 : K4) : Nat → W → W → W → W → W → Nm → CW
  | 0 => fun _ _ _ _ _ _ => .no
  | n + 1 => fun t1 t2 t3 t4 t511 M => jn (fun (σ : List Nat) => d18_6b cl m kr k0 (d18_6 cl m kr k0 n) (ren 4 σ t1) (ren 4 σ t2) (ren 4 σ t3) (ren 4 σ t4) (ren 4 σ t511) ⟨canH M.H σ 0 σ, σ.length⟩) (reach M.H [t1, t2, t3, t4, t511])
theorem z18_6 (cl : Clh) (m : Nat) (kr : K2) (kn : K4) (k0 : K4) : hK prg cl m T18_6 (Zx_1_2_3_511 kn) (exH 0 (Zx_1_2_3_511 k0) NO) (Z2 kr) = fun F M => d18_6 cl m kr k0 m (F 1) (F 2) (F 3) (F 4) (F 511) M := by
  have key : ∀ j, loopH (fun q => hK prg cl m (.canon [1, 2, 3, 4, 511] U18_5) q (exH 0 (Zx_1_2_3_511 k0) NO) (Z2 kr)) j = fun F M => d18_6 cl m kr k0 j (F 1) (F 2) (F 3) (F 4) (F 511) M := by
    intro j
    induction j with
    | zero => rfl
    | succ j ih =>
      show (fun (F : FW) (N : Nm) => hK prg cl m U18_5 (loopH (fun q => hK prg cl m (.canon [1, 2, 3, 4, 511] U18_5) q (exH 0 (Zx_1_2_3_511 k0) NO) (Z2 kr)) j) (exH 0 (Zx_1_2_3_511 k0) NO) (Z2 kr) (canF [1, 2, 3, 4, 511] (reach N.H ([1, 2, 3, 4, 511].map F)) F) ⟨canH N.H (reach N.H ([1, 2, 3, 4, 511].map F)) 0 (reach N.H ([1, 2, 3, 4, 511].map F)), (reach N.H ([1, 2, 3, 4, 511].map F)).length⟩) = _
      rw [ih]
      have hb : hK prg cl m U18_5 (fun F M => d18_6 cl m kr k0 j (F 1) (F 2) (F 3) (F 4) (F 511) M) (exH 0 (Zx_1_2_3_511 k0) NO) (Z2 kr) = fun F M => d18_6b cl m kr k0 (d18_6 cl m kr k0 j) (F 1) (F 2) (F 3) (F 4) (F 511) M := by funext F M; kernel_rfl
      rw [hb]; funext F M; kernel_rfl
  exact key m
def T18_5 : HT := (.block 0 T18_6)
def d18_5 (cl : Clh) (m : Nat) (kr : K2) (kn : K4) (t1 t2 t3 t4 t511 : W) (M : Nm) : CW :=
  d18_6 cl m kr kn m t1 t2 t3 t4 t511 M
theorem z18_5 (cl : Clh) (m : Nat) (kr : K2) (kn : K4) : hK prg cl m T18_5 (Zx_1_2_3_511 kn) NO (Z2 kr) = fun F M => d18_5 cl m kr kn (F 1) (F 2) (F 3) (F 4) (F 511) M := by
  show hK prg cl m T18_6 (Zx_1_2_3_511 kn) (exH 0 (Zx_1_2_3_511 kn) NO) (Z2 kr) = _
  exact (z18_6 cl m kr kn kn).trans (by funext F M; kernel_rfl)
def T18_4 : HT := (.seq U18_4 T18_5)
def d18_4 (cl : Clh) (m : Nat) (kr : K2) (kn : K4) (t1 t2 t3 t511 : W) (M : Nm) : CW :=
  d18_5 cl m kr kn t1 t2 t3 (.i .i64 (0)) t511 M
theorem z18_4 (cl : Clh) (m : Nat) (kr : K2) (kn : K4) : hK prg cl m T18_4 (Zx_1_2_3_511 kn) NO (Z2 kr) = fun F M => d18_4 cl m kr kn (F 1) (F 2) (F 3) (F 511) M := by
  show hK prg cl m U18_4 (hK prg cl m T18_5 (Zx_1_2_3_511 kn) NO (Z2 kr)) NO (Z2 kr) = _
  rw [z18_5 cl m kr kn]
  funext F M; kernel_rfl
def T18_3 : HT := (.seq T18_4 U18_3)
def d18_3 (cl : Clh) (m : Nat) (kr : K2) (kn : K2) (t1 t2 t3 t511 : W) (M : Nm) : CW :=
  d18_4 cl m kr (fun t1 t2 t3 t511 M =>
    jn (fun (j2 : K4) =>
      hFieldAddr 0 t3 fun t29 =>
      hLoad1 t29 M fun t30 =>
      hLenS t30 fun t31 =>
      hBin .eql t31 (.i .i64 (0)) fun t32 =>
      hIf t32 (
        hSlitO prg 22 1 [(0, (.i .i64 (1)))] M fun t33 M9 =>
        hFieldAddr 0 t3 fun t34 =>
        hStore1 t34 t33 M9 fun _ M10 =>
      j2 t1 t2 t3 t511 M10) (
      j2 t1 t2 t3 t511 M)) (fun t1 t2 t3 t511 M8 =>
      hFieldAddr 1 t1 fun t35 =>
      hLoad1 t35 M8 fun t36 =>
      hConv .i64 t36 fun t37 =>
      hFieldAddr 0 t3 fun t38 =>
      hLoad1 t38 M8 fun t39 =>
      hLenS t39 fun t40 =>
      hBinG prg .rem 3 t37 t40 fun t41 =>
      hFieldAddr 1 t3 fun t42 =>
      hStore1 t42 t41 M8 fun _ M11 =>
      hFieldAddr 2 t1 fun t43 =>
      hLoad1 t43 M11 fun t44 =>
      hConv .i64 t44 fun t45 =>
      hFieldAddr 0 t3 fun t46 =>
      hLoad1 t46 M11 fun t47 =>
      hFieldAddr 1 t3 fun t48 =>
      hLoad1 t48 M11 fun t49 =>
      hIndexAddr 1 t47 t49 fun t50 =>
      hLoad1 t50 M11 fun t51 =>
      hBin .add t51 (.i .i64 (1)) fun t52 =>
      hBinG prg .rem 3 t45 t52 fun t53 =>
      hFieldAddr 2 t3 fun t54 =>
      hStore1 t54 t53 M11 fun _ M12 =>
      hFieldAddr 3 t1 fun t55 =>
      hLoad1 t55 M12 fun t56 =>
      hConv .i64 t56 fun t57 =>
      hFieldAddr 3 t3 fun t58 =>
      hStore1 t58 t57 M12 fun _ M13 =>
      hLoadN 4 t3 M13 fun t59 =>
      hStoreN 4 t2 t59 M13 fun _ M14 =>
      kr t511 t2 M14)) t1 t2 t3 t511 M
theorem z18_3 (cl : Clh) (m : Nat) (kr : K2) (kn : K2) : hK prg cl m T18_3 (Z2 kn) NO (Z2 kr) = fun F M => d18_3 cl m kr kn (F 1) (F 2) (F 3) (F 511) M := by
  have hb : hK prg cl m U18_3 (Z2 kn) NO (Z2 kr) = fun F M => (fun t1 t2 t3 t511 M =>
    jn (fun (j2 : K4) =>
      hFieldAddr 0 t3 fun t29 =>
      hLoad1 t29 M fun t30 =>
      hLenS t30 fun t31 =>
      hBin .eql t31 (.i .i64 (0)) fun t32 =>
      hIf t32 (
        hSlitO prg 22 1 [(0, (.i .i64 (1)))] M fun t33 M9 =>
        hFieldAddr 0 t3 fun t34 =>
        hStore1 t34 t33 M9 fun _ M10 =>
      j2 t1 t2 t3 t511 M10) (
      j2 t1 t2 t3 t511 M)) (fun t1 t2 t3 t511 M8 =>
      hFieldAddr 1 t1 fun t35 =>
      hLoad1 t35 M8 fun t36 =>
      hConv .i64 t36 fun t37 =>
      hFieldAddr 0 t3 fun t38 =>
      hLoad1 t38 M8 fun t39 =>
      hLenS t39 fun t40 =>
      hBinG prg .rem 3 t37 t40 fun t41 =>
      hFieldAddr 1 t3 fun t42 =>
      hStore1 t42 t41 M8 fun _ M11 =>
      hFieldAddr 2 t1 fun t43 =>
      hLoad1 t43 M11 fun t44 =>
      hConv .i64 t44 fun t45 =>
      hFieldAddr 0 t3 fun t46 =>
      hLoad1 t46 M11 fun t47 =>
      hFieldAddr 1 t3 fun t48 =>
      hLoad1 t48 M11 fun t49 =>
      hIndexAddr 1 t47 t49 fun t50 =>
      hLoad1 t50 M11 fun t51 =>
      hBin .add t51 (.i .i64 (1)) fun t52 =>
      hBinG prg .rem 3 t45 t52 fun t53 =>
      hFieldAddr 2 t3 fun t54 =>
      hStore1 t54 t53 M11 fun _ M12 =>
      hFieldAddr 3 t1 fun t55 =>
      hLoad1 t55 M12 fun t56 =>
      hConv .i64 t56 fun t57 =>
      hFieldAddr 3 t3 fun t58 =>
      hStore1 t58 t57 M12 fun _ M13 =>
      hLoadN 4 t3 M13 fun t59 =>
      hStoreN 4 t2 t59 M13 fun _ M14 =>
      kr t511 t2 M14)) (F 1) (F 2) (F 3) (F 511) M := by funext F M; kernel_rfl
  show hK prg cl m T18_4 (hK prg cl m U18_3 (Z2 kn) NO (Z2 kr)) NO (Z2 kr) = _
  rw [hb]
  exact (z18_4 cl m kr (fun t1 t2 t3 t511 M =>
    jn (fun (j2 : K4) =>
      hFieldAddr 0 t3 fun t29 =>
      hLoad1 t29 M fun t30 =>
      hLenS t30 fun t31 =>
      hBin .eql t31 (.i .i64 (0)) fun t32 =>
      hIf t32 (
        hSlitO prg 22 1 [(0, (.i .i64 (1)))] M fun t33 M9 =>
        hFieldAddr 0 t3 fun t34 =>
        hStore1 t34 t33 M9 fun _ M10 =>
      j2 t1 t2 t3 t511 M10) (
      j2 t1 t2 t3 t511 M)) (fun t1 t2 t3 t511 M8 =>
      hFieldAddr 1 t1 fun t35 =>
      hLoad1 t35 M8 fun t36 =>
      hConv .i64 t36 fun t37 =>
      hFieldAddr 0 t3 fun t38 =>
      hLoad1 t38 M8 fun t39 =>
      hLenS t39 fun t40 =>
      hBinG prg .rem 3 t37 t40 fun t41 =>
      hFieldAddr 1 t3 fun t42 =>
      hStore1 t42 t41 M8 fun _ M11 =>
      hFieldAddr 2 t1 fun t43 =>
      hLoad1 t43 M11 fun t44 =>
      hConv .i64 t44 fun t45 =>
      hFieldAddr 0 t3 fun t46 =>
      hLoad1 t46 M11 fun t47 =>
      hFieldAddr 1 t3 fun t48 =>
      hLoad1 t48 M11 fun t49 =>
      hIndexAddr 1 t47 t49 fun t50 =>
      hLoad1 t50 M11 fun t51 =>
      hBin .add t51 (.i .i64 (1)) fun t52 =>
      hBinG prg .rem 3 t45 t52 fun t53 =>
      hFieldAddr 2 t3 fun t54 =>
      hStore1 t54 t53 M11 fun _ M12 =>
      hFieldAddr 3 t1 fun t55 =>
      hLoad1 t55 M12 fun t56 =>
      hConv .i64 t56 fun t57 =>
      hFieldAddr 3 t3 fun t58 =>
      hStore1 t58 t57 M12 fun _ M13 =>
      hLoadN 4 t3 M13 fun t59 =>
      hStoreN 4 t2 t59 M13 fun _ M14 =>
      kr t511 t2 M14)) ).trans (by funext F M; kernel_rfl)
def T18_2 : HT := (.seq U18_2 T18_3)
def d18_2 (cl : Clh) (m : Nat) (kr : K2) (kn : K2) (t1 t2 t511 : W) (M : Nm) : CW :=
  hNew 24 4 [.c .nils, .i .i64 (0), .i .i64 (0), .i .i64 (0)] M fun t3 M15 =>
  d18_3 cl m kr kn t1 t2 t3 t511 M15
theorem z18_2 (cl : Clh) (m : Nat) (kr : K2) (kn : K2) : hK prg cl m T18_2 (Z2 kn) NO (Z2 kr) = fun F M => d18_2 cl m kr kn (F 1) (F 2) (F 511) M := by
  show hK prg cl m U18_2 (hK prg cl m T18_3 (Z2 kn) NO (Z2 kr)) NO (Z2 kr) = _
  rw [z18_3 cl m kr kn]
  funext F M; kernel_rfl
def T18_1 : HT := (.seq U18_1 T18_2)
def d18_1 (cl : Clh) (m : Nat) (kr : K2) (kn : K2) (t0 t511 : W) (M : Nm) : CW :=
  hBox 42 4 t0 M fun t1 M16 =>
  hNew 24 4 [.c .nils, .i .i64 (0), .i .i64 (0), .i .i64 (0)] M16 fun t2 M17 =>
  d18_2 cl m kr kn t1 t2 t511 M17
theorem z18_1 (cl : Clh) (m : Nat) (kr : K2) (kn : K2) : hK prg cl m T18_1 (Z2 kn) NO (Z2 kr) = fun F M => d18_1 cl m kr kn (F 0) (F 511) M := by
  show hK prg cl m U18_1 (hK prg cl m T18_2 (Z2 kn) NO (Z2 kr)) NO (Z2 kr) = _
  rw [z18_2 cl m kr kn]
  funext F M; kernel_rfl
def t18 : HT := T18_1
theorem z18 (cl : Clh) (m : Nat) (kr : K2) : hK prg cl m t18 (Z2 kr) NO (Z2 kr) = fun F M => d18_1 cl m kr kr (F 0) (F 511) M := z18_1 cl m kr kr
def d18 (cl : Clh) (m : Nat) (kr : K2) (t0 : W) (M : Nm) : CW :=
  d18_1 cl m kr kr t0 (.tup []) M
def U19_1 : HT := (.ops [(.box 24 4 (.tmp 0), (some 2)),
    (.alloc 24 4 [.nils, .int .i64 (.int (0)), .int .i64 (.int (0)), .int .i64 (.int (0))], (some 4)),
    (.move (.const (.slice none 0 0)), (some 5)),
    (.move (.const (.int .i64 (0))), (some 6))])
def U19_2 : HT := (.seq (.ops [(.loadN 4 (.tmp 2), (some 12)),
    (.call 13 [(.tmp 12)], (some 13)),
    (.bin .gtr (.tmp 13) (.const (.int .i64 (0))), (some 14))]) (.cond (.tmp 14) (.seq (.ops [(.build [.nils, .int .i64 (.int (0)), .int .i64 (.int (0)), .int .i64 (.int (0))] [], (some 15)),
    (.loadN 4 (.tmp 2), (some 16)),
    (.call 13 [(.tmp 16)], (some 17)),
    (.storeN 4 (.tmp 4) (.tmp 15), none),
    (.move (.const (.slice none 0 0)), (some 5)),
    (.move (.tmp 17), (some 6))]) .ret) .skip))
def U19_3 : HT := (.seq (.ops [(.move (.tmp 1), (some 18)),
    (.lenS (.tmp 18), (some 19)),
    (.bin .gtr (.tmp 19) (.const (.int .i64 (4096))), (some 20))]) (.cond (.tmp 20) (.seq (.ops [(.build [.nils, .int .i64 (.int (0)), .int .i64 (.int (0)), .int .i64 (.int (0))] [], (some 21)),
    (.storeN 4 (.tmp 4) (.tmp 21), none),
    (.move (.const (.slice none 0 0)), (some 5)),
    (.move (.const (.int .i64 (3))), (some 6))]) .ret) .skip))
def U19_4 : HT := (.ops [(.move (.const (.slice none 0 0)), (some 7))])
def U19_5 : HT := (.seq (.ops [(.loadN 4 (.tmp 2), (some 47)),
    (.move (.tmp 7), (some 48)),
    (.storeN 4 (.tmp 4) (.tmp 47), none),
    (.move (.tmp 48), (some 5)),
    (.move (.const (.int .i64 (0))), (some 6))]) .ret)
def U19_6 : HT := (.ops [(.move (.const (.int .i64 (0))), (some 8))])
def U19_7 : HT := (.seq (.seq (.ops [(.move (.tmp 8), (some 22)),
    (.move (.tmp 1), (some 23)),
    (.lenS (.tmp 23), (some 24)),
    (.bin .lss (.tmp 22) (.tmp 24), (some 25))]) (.cond (.tmp 25) .skip (.exit 0))) (.seq (.block 1 (.seq (.draw [⟨.loadN 4 (.tmp 2), (some 29), 0, (some (.tmp 2)), false, none, false⟩,
    ⟨.move (.tmp 1), (some 30), 1, none, false, none, true⟩,
    ⟨.move (.tmp 8), (some 31), 2, none, false, none, true⟩,
    ⟨.indexAddr 1 (.tmp 30) (.tmp 31), (some 32), 3, none, false, none, true⟩,
    ⟨.load1 (.tmp 32), (some 33), 4, (some (.tmp 32)), false, none, false⟩,
    ⟨.call 16 [(.tmp 29), (.tmp 33)], (some 34), 5, none, true, (some [10]), false⟩,
    ⟨.move (.tmp 34), (some 28), 6, none, false, none, false⟩,
    ⟨.ext 0 (.tmp 28), (some 35), 7, none, false, none, false⟩,
    ⟨.ext 1 (.tmp 28), (some 36), 8, none, false, none, false⟩,
    ⟨.ext 2 (.tmp 28), (some 37), 9, none, false, none, false⟩,
    ⟨.alloc 24 4 [.nils, .int .i64 (.int (0)), .int .i64 (.int (0)), .int .i64 (.int (0))], (some 9), 10, none, true, none, false⟩,
    ⟨.storeN 4 (.tmp 9) (.tmp 35), none, 11, none, true, (some [8, 9]), false⟩,
    ⟨.move (.tmp 36), (some 10), 12, none, false, none, false⟩,
    ⟨.move (.tmp 37), (some 11), 13, none, false, none, false⟩]) (.seq (.seq (.ops [(.move (.tmp 11), (some 38)),
    (.bin .gtr (.tmp 38) (.const (.int .i64 (0))), (some 39))]) (.cond (.tmp 39) (.seq (.ops [(.build [.nils, .int .i64 (.int (0)), .int .i64 (.int (0)), .int .i64 (.int (0))] [], (some 40)),
    (.move (.tmp 11), (some 41)),
    (.storeN 4 (.tmp 4) (.tmp 40), none),
    (.move (.const (.slice none 0 0)), (some 5)),
    (.move (.tmp 41), (some 6))]) .ret) .skip)) (.seq (.ops [(.move (.tmp 7), (some 42)),
    (.move (.tmp 10), (some 43)),
    (.slit 22 1 [(0, (.tmp 43))], (some 44)),
    (.app 22 22 (.tmp 42) (.tmp 44), (some 45)),
    (.move (.tmp 45), (some 7))]) (.ops [(.loadN 4 (.tmp 9), (some 46)),
    (.storeN 4 (.tmp 2) (.tmp 46), none)]))))) (.ops [(.move (.tmp 8), (some 26)),
    (.bin .add (.tmp 26) (.const (.int .i64 (1))), (some 27)),
    (.move (.tmp 27), (some 8))])))
def T19_8 : HT := (.loop (.canon [1, 2, 4, 7, 8, 511] U19_7))
def d19_8b (cl : Clh) (m : Nat) (kr : K4) (k0 : K4) (q : K6) (t1 t2 t4 t7 t8 t511 : W) (M : Nm) : CW :=
  hLenS t1 fun t24 =>
  hBin .lss t8 t24 fun t25 =>
  hIf t25 (
  jn (fun (n1 : Nat) =>
  gate (oldV n1 true t2) true true <|
  hLoadN 4 t2 M fun t29 =>
  gate true true true <|
  gate true true true <|
  gate true true true <|
  hIndexAddr 1 t1 t8 fun t32 =>
  gate (oldV n1 true t32) true true <|
  hLoad1 t32 M fun t33 =>
  gate true (adsW M.H none []) true <|
  hCall cl 16 [t29, t33] M fun t34 M1 =>
  gate true true true <|
  gate true true true <|
  hExt 0 t34 fun t35 =>
  gate true true true <|
  hExt 1 t34 fun t36 =>
  gate true true true <|
  hExt 2 t34 fun t37 =>
  gate true true true <|
  hNew 24 4 [.c .nils, .i .i64 (0), .i .i64 (0), .i .i64 (0)] M1 fun t9 M2 =>
  gate true (adsW M2.H (some t9) []) true <|
  hStoreN 4 t9 t35 M2 fun _ M3 =>
  gate true true true <|
  gate true true true <|
  hBin .gtr t37 (.i .i64 (0)) fun t39 =>
  hIf t39 (
    hBuildO [.c .nils, .i .i64 (0), .i .i64 (0), .i .i64 (0)] [] fun t40 =>
    hStoreN 4 t4 t40 M3 fun _ M4 =>
    kr t511 t4 (.c .nils) t37 M4) (
  hSlitO prg 22 1 [(0, t36)] M3 fun t44 M5 =>
  hApp prg 22 22 t7 t44 M5 fun t45 M6 =>
  hLoadN 4 t9 M6 fun t46 =>
  hStoreN 4 t2 t46 M6 fun _ M7 =>
  hBin .add t8 (.i .i64 (1)) fun t27 =>
  q t1 t2 t4 t45 t27 t511 M7)) M.nx) (
  k0 t2 t4 t7 t511 M)
def d19_8 (cl : Clh) (m : Nat) (kr : K4) (k0 : K4) : Nat → W → W → W → W → W → W → Nm → CW
  | 0 => fun _ _ _ _ _ _ _ => .no
  | n + 1 => fun t1 t2 t4 t7 t8 t511 M => jn (fun (σ : List Nat) => d19_8b cl m kr k0 (d19_8 cl m kr k0 n) (ren 4 σ t1) (ren 4 σ t2) (ren 4 σ t4) (ren 4 σ t7) (ren 4 σ t8) (ren 4 σ t511) ⟨canH M.H σ 0 σ, σ.length⟩) (reach M.H [t1, t2, t4, t7, t8, t511])
theorem z19_8 (cl : Clh) (m : Nat) (kr : K4) (kn : K4) (k0 : K4) : hK prg cl m T19_8 (Zx_2_4_7_511 kn) (exH 0 (Zx_2_4_7_511 k0) NO) (Z4_5_6 kr) = fun F M => d19_8 cl m kr k0 m (F 1) (F 2) (F 4) (F 7) (F 8) (F 511) M := by
  have key : ∀ j, loopH (fun q => hK prg cl m (.canon [1, 2, 4, 7, 8, 511] U19_7) q (exH 0 (Zx_2_4_7_511 k0) NO) (Z4_5_6 kr)) j = fun F M => d19_8 cl m kr k0 j (F 1) (F 2) (F 4) (F 7) (F 8) (F 511) M := by
    intro j
    induction j with
    | zero => rfl
    | succ j ih =>
      show (fun (F : FW) (N : Nm) => hK prg cl m U19_7 (loopH (fun q => hK prg cl m (.canon [1, 2, 4, 7, 8, 511] U19_7) q (exH 0 (Zx_2_4_7_511 k0) NO) (Z4_5_6 kr)) j) (exH 0 (Zx_2_4_7_511 k0) NO) (Z4_5_6 kr) (canF [1, 2, 4, 7, 8, 511] (reach N.H ([1, 2, 4, 7, 8, 511].map F)) F) ⟨canH N.H (reach N.H ([1, 2, 4, 7, 8, 511].map F)) 0 (reach N.H ([1, 2, 4, 7, 8, 511].map F)), (reach N.H ([1, 2, 4, 7, 8, 511].map F)).length⟩) = _
      rw [ih]
      have hb : hK prg cl m U19_7 (fun F M => d19_8 cl m kr k0 j (F 1) (F 2) (F 4) (F 7) (F 8) (F 511) M) (exH 0 (Zx_2_4_7_511 k0) NO) (Z4_5_6 kr) = fun F M => d19_8b cl m kr k0 (d19_8 cl m kr k0 j) (F 1) (F 2) (F 4) (F 7) (F 8) (F 511) M := by funext F M; kernel_rfl
      rw [hb]; funext F M; kernel_rfl
  exact key m
def T19_7 : HT := (.block 0 T19_8)
def d19_7 (cl : Clh) (m : Nat) (kr : K4) (kn : K4) (t1 t2 t4 t7 t8 t511 : W) (M : Nm) : CW :=
  d19_8 cl m kr kn m t1 t2 t4 t7 t8 t511 M
theorem z19_7 (cl : Clh) (m : Nat) (kr : K4) (kn : K4) : hK prg cl m T19_7 (Zx_2_4_7_511 kn) NO (Z4_5_6 kr) = fun F M => d19_7 cl m kr kn (F 1) (F 2) (F 4) (F 7) (F 8) (F 511) M := by
  show hK prg cl m T19_8 (Zx_2_4_7_511 kn) (exH 0 (Zx_2_4_7_511 kn) NO) (Z4_5_6 kr) = _
  exact (z19_8 cl m kr kn kn).trans (by funext F M; kernel_rfl)
def T19_6 : HT := (.seq U19_6 T19_7)
def d19_6 (cl : Clh) (m : Nat) (kr : K4) (kn : K4) (t1 t2 t4 t7 t511 : W) (M : Nm) : CW :=
  d19_7 cl m kr kn t1 t2 t4 t7 (.i .i64 (0)) t511 M
theorem z19_6 (cl : Clh) (m : Nat) (kr : K4) (kn : K4) : hK prg cl m T19_6 (Zx_2_4_7_511 kn) NO (Z4_5_6 kr) = fun F M => d19_6 cl m kr kn (F 1) (F 2) (F 4) (F 7) (F 511) M := by
  show hK prg cl m U19_6 (hK prg cl m T19_7 (Zx_2_4_7_511 kn) NO (Z4_5_6 kr)) NO (Z4_5_6 kr) = _
  rw [z19_7 cl m kr kn]
  funext F M; kernel_rfl
def T19_5 : HT := (.seq T19_6 U19_5)
def d19_5 (cl : Clh) (m : Nat) (kr : K4) (kn : K4) (t1 t2 t4 t7 t511 : W) (M : Nm) : CW :=
  d19_6 cl m kr (fun t2 t4 t7 t511 M =>
    hLoadN 4 t2 M fun t47 =>
    hStoreN 4 t4 t47 M fun _ M8 =>
    kr t511 t4 t7 (.i .i64 (0)) M8) t1 t2 t4 t7 t511 M
theorem z19_5 (cl : Clh) (m : Nat) (kr : K4) (kn : K4) : hK prg cl m T19_5 (Z4_5_6 kn) NO (Z4_5_6 kr) = fun F M => d19_5 cl m kr kn (F 1) (F 2) (F 4) (F 7) (F 511) M := by
  have hb : hK prg cl m U19_5 (Z4_5_6 kn) NO (Z4_5_6 kr) = fun F M => (fun t2 t4 t7 t511 M =>
    hLoadN 4 t2 M fun t47 =>
    hStoreN 4 t4 t47 M fun _ M8 =>
    kr t511 t4 t7 (.i .i64 (0)) M8) (F 2) (F 4) (F 7) (F 511) M := by funext F M; kernel_rfl
  show hK prg cl m T19_6 (hK prg cl m U19_5 (Z4_5_6 kn) NO (Z4_5_6 kr)) NO (Z4_5_6 kr) = _
  rw [hb]
  exact (z19_6 cl m kr (fun t2 t4 t7 t511 M =>
    hLoadN 4 t2 M fun t47 =>
    hStoreN 4 t4 t47 M fun _ M8 =>
    kr t511 t4 t7 (.i .i64 (0)) M8) ).trans (by funext F M; kernel_rfl)
def T19_4 : HT := (.seq U19_4 T19_5)
def d19_4 (cl : Clh) (m : Nat) (kr : K4) (kn : K4) (t1 t2 t4 t511 : W) (M : Nm) : CW :=
  d19_5 cl m kr kn t1 t2 t4 (.c .nils) t511 M
theorem z19_4 (cl : Clh) (m : Nat) (kr : K4) (kn : K4) : hK prg cl m T19_4 (Z4_5_6 kn) NO (Z4_5_6 kr) = fun F M => d19_4 cl m kr kn (F 1) (F 2) (F 4) (F 511) M := by
  show hK prg cl m U19_4 (hK prg cl m T19_5 (Z4_5_6 kn) NO (Z4_5_6 kr)) NO (Z4_5_6 kr) = _
  rw [z19_5 cl m kr kn]
  funext F M; kernel_rfl
def T19_3 : HT := (.seq U19_3 T19_4)
def d19_3 (cl : Clh) (m : Nat) (kr : K4) (kn : K4) (t1 t2 t4 t511 : W) (M : Nm) : CW :=
  hLenS t1 fun t19 =>
  hBin .gtr t19 (.i .i64 (4096)) fun t20 =>
  hIf t20 (
    hBuildO [.c .nils, .i .i64 (0), .i .i64 (0), .i .i64 (0)] [] fun t21 =>
    hStoreN 4 t4 t21 M fun _ M9 =>
    kr t511 t4 (.c .nils) (.i .i64 (3)) M9) (
  d19_4 cl m kr kn t1 t2 t4 t511 M)
theorem z19_3 (cl : Clh) (m : Nat) (kr : K4) (kn : K4) : hK prg cl m T19_3 (Z4_5_6 kn) NO (Z4_5_6 kr) = fun F M => d19_3 cl m kr kn (F 1) (F 2) (F 4) (F 511) M := by
  show hK prg cl m U19_3 (hK prg cl m T19_4 (Z4_5_6 kn) NO (Z4_5_6 kr)) NO (Z4_5_6 kr) = _
  rw [z19_4 cl m kr kn]
  funext F M; kernel_rfl
def T19_2 : HT := (.seq U19_2 T19_3)
def d19_2 (cl : Clh) (m : Nat) (kr : K4) (kn : K4) (t1 t2 t4 t511 : W) (M : Nm) : CW :=
  hLoadN 4 t2 M fun t12 =>
  hCall cl 13 [t12] M fun t13 M10 =>
  hBin .gtr t13 (.i .i64 (0)) fun t14 =>
  hIf t14 (
    hBuildO [.c .nils, .i .i64 (0), .i .i64 (0), .i .i64 (0)] [] fun t15 =>
    hLoadN 4 t2 M10 fun t16 =>
    hCall cl 13 [t16] M10 fun t17 M11 =>
    hStoreN 4 t4 t15 M11 fun _ M12 =>
    kr t511 t4 (.c .nils) t17 M12) (
  d19_3 cl m kr kn t1 t2 t4 t511 M10)
theorem z19_2 (cl : Clh) (m : Nat) (kr : K4) (kn : K4) : hK prg cl m T19_2 (Z4_5_6 kn) NO (Z4_5_6 kr) = fun F M => d19_2 cl m kr kn (F 1) (F 2) (F 4) (F 511) M := by
  show hK prg cl m U19_2 (hK prg cl m T19_3 (Z4_5_6 kn) NO (Z4_5_6 kr)) NO (Z4_5_6 kr) = _
  rw [z19_3 cl m kr kn]
  funext F M; kernel_rfl
def T19_1 : HT := (.seq U19_1 T19_2)
def d19_1 (cl : Clh) (m : Nat) (kr : K4) (kn : K4) (t0 t1 t511 : W) (M : Nm) : CW :=
  hBox 24 4 t0 M fun t2 M13 =>
  hNew 24 4 [.c .nils, .i .i64 (0), .i .i64 (0), .i .i64 (0)] M13 fun t4 M14 =>
  d19_2 cl m kr kn t1 t2 t4 t511 M14
theorem z19_1 (cl : Clh) (m : Nat) (kr : K4) (kn : K4) : hK prg cl m T19_1 (Z4_5_6 kn) NO (Z4_5_6 kr) = fun F M => d19_1 cl m kr kn (F 0) (F 1) (F 511) M := by
  show hK prg cl m U19_1 (hK prg cl m T19_2 (Z4_5_6 kn) NO (Z4_5_6 kr)) NO (Z4_5_6 kr) = _
  rw [z19_2 cl m kr kn]
  funext F M; kernel_rfl
def t19 : HT := T19_1
theorem z19 (cl : Clh) (m : Nat) (kr : K4) : hK prg cl m t19 (Z4_5_6 kr) NO (Z4_5_6 kr) = fun F M => d19_1 cl m kr kr (F 0) (F 1) (F 511) M := z19_1 cl m kr kr
def d19 (cl : Clh) (m : Nat) (kr : K4) (t0 t1 : W) (M : Nm) : CW :=
  d19_1 cl m kr kr t0 t1 (.tup []) M
end
end Go.Proofs.Ytehbfajmileefaa.Hx
set_option maxRecDepth 100000
set_option maxHeartbeats 4000000
namespace Go.Proofs.Ytehbfajmileefaa.Hx
open Go.RowKit Go.Proofs.Ytehbfajmileefaa.Vx Go.Proofs.Ytehbfajmileefaa.Fx Go.Proofs.Ytehbfajmileefaa.Px
noncomputable section
def U20_1 : HT := (.ops [(.box 24 4 (.tmp 0), (some 2)),
    (.alloc 24 4 [.nils, .int .i64 (.int (0)), .int .i64 (.int (0)), .int .i64 (.int (0))], (some 4)),
    (.move (.const (.slice none 0 0)), (some 5)),
    (.move (.const (.int .i64 (0))), (some 6))])
def U20_2 : HT := (.seq (.ops [(.loadN 4 (.tmp 2), (some 14)),
    (.call 12 [(.tmp 14)], (some 15)),
    (.move (.tmp 15), (some 7))]) (.seq (.ops [(.move (.tmp 7), (some 16)),
    (.bin .neq (.tmp 16) (.const (.int .i64 (0))), (some 17))]) (.cond (.tmp 17) (.seq (.ops [(.build [.nils, .int .i64 (.int (0)), .int .i64 (.int (0)), .int .i64 (.int (0))] [], (some 18)),
    (.move (.tmp 7), (some 19)),
    (.storeN 4 (.tmp 4) (.tmp 18), none),
    (.move (.const (.slice none 0 0)), (some 5)),
    (.move (.tmp 19), (some 6))]) .ret) .skip)))
def U20_3 : HT := (.seq (.ops [(.move (.tmp 1), (some 20)),
    (.lenS (.tmp 20), (some 21)),
    (.bin .gtr (.tmp 21) (.const (.int .i64 (4096))), (some 22))]) (.cond (.tmp 22) (.seq (.ops [(.build [.nils, .int .i64 (.int (0)), .int .i64 (.int (0)), .int .i64 (.int (0))] [], (some 23)),
    (.storeN 4 (.tmp 4) (.tmp 23), none),
    (.move (.const (.slice none 0 0)), (some 5)),
    (.move (.const (.int .i64 (3))), (some 6))]) .ret) .skip))
def U20_4 : HT := (.ops [(.loadN 4 (.tmp 2), (some 24)),
    (.storeN 4 (.tmp 4) (.tmp 24), none)])
def U20_5 : HT := (.ops [(.fieldAddr 0 (.tmp 2), (some 25)),
    (.load1 (.tmp 25), (some 26)),
    (.call 32 [(.tmp 26)], (some 27)),
    (.call 31 [(.tmp 27)], (some 28)),
    (.fieldAddr 0 (.tmp 4), (some 29)),
    (.store1 (.tmp 29) (.tmp 28), none)])
def U20_6 : HT := (.seq (.draw [⟨.loadN 4 (.tmp 4), (some 56), 0, (some (.tmp 4)), false, none, false⟩,
    ⟨.move (.tmp 5), (some 57), 1, none, false, none, true⟩,
    ⟨.call 31 [(.tmp 57)], (some 58), 2, none, true, (some [0]), false⟩,
    ⟨.storeN 4 (.tmp 4) (.tmp 56), none, 3, none, true, none, false⟩,
    ⟨.move (.tmp 58), (some 5), 4, none, false, none, false⟩,
    ⟨.move (.const (.int .i64 (0))), (some 6), 5, none, false, none, false⟩]) .ret)
def U20_7 : HT := (.ops [(.move (.tmp 1), (some 30)),
    (.lenS (.tmp 30), (some 31)),
    (.move (.const (.int .i64 (0))), (some 32))])
def U20_8 : HT := (.seq (.ops [(.bin .lss (.tmp 32) (.tmp 31), (some 33))]) (.seq (.cond (.tmp 33) .skip (.exit 0)) (.seq (.block 1 (.seq (.ops [(.indexAddr 1 (.tmp 30) (.tmp 32), (some 34)),
    (.load1 (.tmp 34), (some 35)),
    (.move (.tmp 35), (some 9))]) (.seq (.ops [(.loadN 4 (.tmp 4), (some 37)),
    (.move (.tmp 9), (some 38)),
    (.call 17 [(.tmp 37), (.tmp 38)], (some 39)),
    (.move (.tmp 39), (some 36)),
    (.ext 0 (.tmp 36), (some 40)),
    (.ext 1 (.tmp 36), (some 41)),
    (.ext 2 (.tmp 36), (some 42)),
    (.ext 3 (.tmp 36), (some 43)),
    (.alloc 24 4 [.nils, .int .i64 (.int (0)), .int .i64 (.int (0)), .int .i64 (.int (0))], (some 10)),
    (.storeN 4 (.tmp 10) (.tmp 40), none),
    (.move (.tmp 41), (some 11)),
    (.move (.tmp 42), (some 12)),
    (.move (.tmp 43), (some 13))]) (.seq (.seq (.ops [(.move (.tmp 13), (some 44)),
    (.bin .neq (.tmp 44) (.const (.int .i64 (0))), (some 45))]) (.cond (.tmp 45) (.seq (.ops [(.build [.nils, .int .i64 (.int (0)), .int .i64 (.int (0)), .int .i64 (.int (0))] [], (some 46)),
    (.move (.tmp 13), (some 47)),
    (.storeN 4 (.tmp 4) (.tmp 46), none),
    (.move (.const (.slice none 0 0)), (some 5)),
    (.move (.tmp 47), (some 6))]) .ret) .skip)) (.seq (.seq (.ops [(.move (.tmp 12), (some 48)),
    (.not (.tmp 48), (some 49))]) (.cond (.tmp 49) (.ops [(.move (.const (.int .i64 (-1))), (some 11))]) .skip)) (.draw [⟨.loadN 4 (.tmp 10), (some 50), 0, (some (.tmp 10)), false, none, false⟩,
    ⟨.move (.tmp 5), (some 51), 1, none, false, none, true⟩,
    ⟨.move (.tmp 11), (some 52), 2, none, false, none, true⟩,
    ⟨.slit 22 1 [(0, (.tmp 52))], (some 53), 3, none, true, (some [0, 1]), false⟩,
    ⟨.app 22 22 (.tmp 51) (.tmp 53), (some 54), 4, none, true, (some [0]), false⟩,
    ⟨.storeN 4 (.tmp 4) (.tmp 50), none, 5, none, true, none, false⟩,
    ⟨.move (.tmp 54), (some 5), 6, none, false, none, false⟩])))))) (.ops [(.bin .add (.tmp 32) (.const (.int .i64 (1))), (some 55)),
    (.move (.tmp 55), (some 32))]))))
def T20_9 : HT := (.loop (.canon [4, 5, 30, 31, 32, 511] U20_8))
def d20_9b (cl : Clh) (m : Nat) (kr : K4) (k0 : K3) (q : K6) (t4 t5 t30 t31 t32 t511 : W) (M : Nm) : CW :=
  hBin .lss t32 t31 fun t33 =>
  hIf t33 (
  jn (fun (j1 : K6) =>
    hIndexAddr 1 t30 t32 fun t34 =>
    hLoad1 t34 M fun t35 =>
    hLoadN 4 t4 M fun t37 =>
    hCall cl 17 [t37, t35] M fun t39 M2 =>
    hExt 0 t39 fun t40 =>
    hExt 1 t39 fun t41 =>
    hExt 2 t39 fun t42 =>
    hExt 3 t39 fun t43 =>
    hNew 24 4 [.c .nils, .i .i64 (0), .i .i64 (0), .i .i64 (0)] M2 fun t10 M3 =>
    hStoreN 4 t10 t40 M3 fun _ M4 =>
    hBin .neq t43 (.i .i64 (0)) fun t45 =>
    hIf t45 (
      hBuildO [.c .nils, .i .i64 (0), .i .i64 (0), .i .i64 (0)] [] fun t46 =>
      hStoreN 4 t4 t46 M4 fun _ M5 =>
      kr t511 t4 (.c .nils) t43 M5) (
    jn (fun (j2 : K8) =>
      hNot t42 fun t49 =>
      hIf t49 (
      j2 t4 t5 t10 (.i .i64 (-1)) t30 t31 t32 t511 M4) (
      j2 t4 t5 t10 t41 t30 t31 t32 t511 M4)) (fun t4 t5 t10 t11 t30 t31 t32 t511 M6 =>
      jn (fun (n3 : Nat) =>
      gate (oldV n3 true t10) true true <|
      hLoadN 4 t10 M6 fun t50 =>
      gate true true true <|
      gate true true true <|
      gate true (adsW M6.H none [t10]) true <|
      hSlitO prg 22 1 [(0, t11)] M6 fun t53 M7 =>
      gate true (adsW M7.H (some t5) [t10]) true <|
      hApp prg 22 22 t5 t53 M7 fun t54 M8 =>
      gate true true true <|
      hStoreN 4 t4 t50 M8 fun _ M9 =>
      gate true true true <|
    j1 t4 t54 t30 t31 t32 t511 M9) M6.nx))) (fun t4 t5 t30 t31 t32 t511 M1 =>
    hBin .add t32 (.i .i64 (1)) fun t55 =>
  q t4 t5 t30 t31 t55 t511 M1)) (
  k0 t4 t5 t511 M)
def d20_9 (cl : Clh) (m : Nat) (kr : K4) (k0 : K3) : Nat → W → W → W → W → W → W → Nm → CW
  | 0 => fun _ _ _ _ _ _ _ => .no
  | n + 1 => fun t4 t5 t30 t31 t32 t511 M => jn (fun (σ : List Nat) => d20_9b cl m kr k0 (d20_9 cl m kr k0 n) (ren 4 σ t4) (ren 4 σ t5) (ren 4 σ t30) (ren 4 σ t31) (ren 4 σ t32) (ren 4 σ t511) ⟨canH M.H σ 0 σ, σ.length⟩) (reach M.H [t4, t5, t30, t31, t32, t511])
theorem z20_9 (cl : Clh) (m : Nat) (kr : K4) (kn : K3) (k0 : K3) : hK prg cl m T20_9 (Zx_4_5_511 kn) (exH 0 (Zx_4_5_511 k0) NO) (Z4_5_6 kr) = fun F M => d20_9 cl m kr k0 m (F 4) (F 5) (F 30) (F 31) (F 32) (F 511) M := by
  have key : ∀ j, loopH (fun q => hK prg cl m (.canon [4, 5, 30, 31, 32, 511] U20_8) q (exH 0 (Zx_4_5_511 k0) NO) (Z4_5_6 kr)) j = fun F M => d20_9 cl m kr k0 j (F 4) (F 5) (F 30) (F 31) (F 32) (F 511) M := by
    intro j
    induction j with
    | zero => rfl
    | succ j ih =>
      show (fun (F : FW) (N : Nm) => hK prg cl m U20_8 (loopH (fun q => hK prg cl m (.canon [4, 5, 30, 31, 32, 511] U20_8) q (exH 0 (Zx_4_5_511 k0) NO) (Z4_5_6 kr)) j) (exH 0 (Zx_4_5_511 k0) NO) (Z4_5_6 kr) (canF [4, 5, 30, 31, 32, 511] (reach N.H ([4, 5, 30, 31, 32, 511].map F)) F) ⟨canH N.H (reach N.H ([4, 5, 30, 31, 32, 511].map F)) 0 (reach N.H ([4, 5, 30, 31, 32, 511].map F)), (reach N.H ([4, 5, 30, 31, 32, 511].map F)).length⟩) = _
      rw [ih]
      have hb : hK prg cl m U20_8 (fun F M => d20_9 cl m kr k0 j (F 4) (F 5) (F 30) (F 31) (F 32) (F 511) M) (exH 0 (Zx_4_5_511 k0) NO) (Z4_5_6 kr) = fun F M => d20_9b cl m kr k0 (d20_9 cl m kr k0 j) (F 4) (F 5) (F 30) (F 31) (F 32) (F 511) M := by funext F M; kernel_rfl
      rw [hb]; funext F M; kernel_rfl
  exact key m
def T20_8 : HT := (.block 0 T20_9)
def d20_8 (cl : Clh) (m : Nat) (kr : K4) (kn : K3) (t4 t5 t30 t31 t32 t511 : W) (M : Nm) : CW :=
  d20_9 cl m kr kn m t4 t5 t30 t31 t32 t511 M
theorem z20_8 (cl : Clh) (m : Nat) (kr : K4) (kn : K3) : hK prg cl m T20_8 (Zx_4_5_511 kn) NO (Z4_5_6 kr) = fun F M => d20_8 cl m kr kn (F 4) (F 5) (F 30) (F 31) (F 32) (F 511) M := by
  show hK prg cl m T20_9 (Zx_4_5_511 kn) (exH 0 (Zx_4_5_511 kn) NO) (Z4_5_6 kr) = _
  exact (z20_9 cl m kr kn kn).trans (by funext F M; kernel_rfl)
def T20_7 : HT := (.seq U20_7 T20_8)
def d20_7 (cl : Clh) (m : Nat) (kr : K4) (kn : K3) (t1 t4 t5 t511 : W) (M : Nm) : CW :=
  hLenS t1 fun t31 =>
  d20_8 cl m kr kn t4 t5 t1 t31 (.i .i64 (0)) t511 M
theorem z20_7 (cl : Clh) (m : Nat) (kr : K4) (kn : K3) : hK prg cl m T20_7 (Zx_4_5_511 kn) NO (Z4_5_6 kr) = fun F M => d20_7 cl m kr kn (F 1) (F 4) (F 5) (F 511) M := by
  show hK prg cl m U20_7 (hK prg cl m T20_8 (Zx_4_5_511 kn) NO (Z4_5_6 kr)) NO (Z4_5_6 kr) = _
  rw [z20_8 cl m kr kn]
  funext F M; kernel_rfl
def T20_6 : HT := (.seq T20_7 U20_6)
def d20_6 (cl : Clh) (m : Nat) (kr : K4) (kn : K4) (t1 t4 t5 t511 : W) (M : Nm) : CW :=
  d20_7 cl m kr (fun t4 t5 t511 M =>
    jn (fun (n4 : Nat) =>
    gate (oldV n4 true t4) true true <|
    hLoadN 4 t4 M fun t56 =>
    gate true true true <|
    gate true (adsW M.H none [t4]) true <|
    hCall cl 31 [t5] M fun t58 M10 =>
    gate true true true <|
    hStoreN 4 t4 t56 M10 fun _ M11 =>
    gate true true true <|
    gate true true true <|
    kr t511 t4 t58 (.i .i64 (0)) M11) M.nx) t1 t4 t5 t511 M
theorem z20_6 (cl : Clh) (m : Nat) (kr : K4) (kn : K4) : hK prg cl m T20_6 (Z4_5_6 kn) NO (Z4_5_6 kr) = fun F M => d20_6 cl m kr kn (F 1) (F 4) (F 5) (F 511) M := by
  have hb : hK prg cl m U20_6 (Z4_5_6 kn) NO (Z4_5_6 kr) = fun F M => (fun t4 t5 t511 M =>
    jn (fun (n4 : Nat) =>
    gate (oldV n4 true t4) true true <|
    hLoadN 4 t4 M fun t56 =>
    gate true true true <|
    gate true (adsW M.H none [t4]) true <|
    hCall cl 31 [t5] M fun t58 M10 =>
    gate true true true <|
    hStoreN 4 t4 t56 M10 fun _ M11 =>
    gate true true true <|
    gate true true true <|
    kr t511 t4 t58 (.i .i64 (0)) M11) M.nx) (F 4) (F 5) (F 511) M := by funext F M; kernel_rfl
  show hK prg cl m T20_7 (hK prg cl m U20_6 (Z4_5_6 kn) NO (Z4_5_6 kr)) NO (Z4_5_6 kr) = _
  rw [hb]
  exact (z20_7 cl m kr (fun t4 t5 t511 M =>
    jn (fun (n4 : Nat) =>
    gate (oldV n4 true t4) true true <|
    hLoadN 4 t4 M fun t56 =>
    gate true true true <|
    gate true (adsW M.H none [t4]) true <|
    hCall cl 31 [t5] M fun t58 M10 =>
    gate true true true <|
    hStoreN 4 t4 t56 M10 fun _ M11 =>
    gate true true true <|
    gate true true true <|
    kr t511 t4 t58 (.i .i64 (0)) M11) M.nx) ).trans (by funext F M; kernel_rfl)
def T20_5 : HT := (.seq U20_5 T20_6)
def d20_5 (cl : Clh) (m : Nat) (kr : K4) (kn : K4) (t1 t2 t4 t5 t511 : W) (M : Nm) : CW :=
  hFieldAddr 0 t2 fun t25 =>
  hLoad1 t25 M fun t26 =>
  hCall cl 32 [t26] M fun t27 M12 =>
  hCall cl 31 [t27] M12 fun t28 M13 =>
  hFieldAddr 0 t4 fun t29 =>
  hStore1 t29 t28 M13 fun _ M14 =>
  d20_6 cl m kr kn t1 t4 t5 t511 M14
theorem z20_5 (cl : Clh) (m : Nat) (kr : K4) (kn : K4) : hK prg cl m T20_5 (Z4_5_6 kn) NO (Z4_5_6 kr) = fun F M => d20_5 cl m kr kn (F 1) (F 2) (F 4) (F 5) (F 511) M := by
  show hK prg cl m U20_5 (hK prg cl m T20_6 (Z4_5_6 kn) NO (Z4_5_6 kr)) NO (Z4_5_6 kr) = _
  rw [z20_6 cl m kr kn]
  funext F M; kernel_rfl
def T20_4 : HT := (.seq U20_4 T20_5)
def d20_4 (cl : Clh) (m : Nat) (kr : K4) (kn : K4) (t1 t2 t4 t5 t511 : W) (M : Nm) : CW :=
  hLoadN 4 t2 M fun t24 =>
  hStoreN 4 t4 t24 M fun _ M15 =>
  d20_5 cl m kr kn t1 t2 t4 t5 t511 M15
theorem z20_4 (cl : Clh) (m : Nat) (kr : K4) (kn : K4) : hK prg cl m T20_4 (Z4_5_6 kn) NO (Z4_5_6 kr) = fun F M => d20_4 cl m kr kn (F 1) (F 2) (F 4) (F 5) (F 511) M := by
  show hK prg cl m U20_4 (hK prg cl m T20_5 (Z4_5_6 kn) NO (Z4_5_6 kr)) NO (Z4_5_6 kr) = _
  rw [z20_5 cl m kr kn]
  funext F M; kernel_rfl
def T20_3 : HT := (.seq U20_3 T20_4)
def d20_3 (cl : Clh) (m : Nat) (kr : K4) (kn : K4) (t1 t2 t4 t5 t511 : W) (M : Nm) : CW :=
  hLenS t1 fun t21 =>
  hBin .gtr t21 (.i .i64 (4096)) fun t22 =>
  hIf t22 (
    hBuildO [.c .nils, .i .i64 (0), .i .i64 (0), .i .i64 (0)] [] fun t23 =>
    hStoreN 4 t4 t23 M fun _ M16 =>
    kr t511 t4 (.c .nils) (.i .i64 (3)) M16) (
  d20_4 cl m kr kn t1 t2 t4 t5 t511 M)
theorem z20_3 (cl : Clh) (m : Nat) (kr : K4) (kn : K4) : hK prg cl m T20_3 (Z4_5_6 kn) NO (Z4_5_6 kr) = fun F M => d20_3 cl m kr kn (F 1) (F 2) (F 4) (F 5) (F 511) M := by
  show hK prg cl m U20_3 (hK prg cl m T20_4 (Z4_5_6 kn) NO (Z4_5_6 kr)) NO (Z4_5_6 kr) = _
  rw [z20_4 cl m kr kn]
  funext F M; kernel_rfl
def T20_2 : HT := (.seq U20_2 T20_3)
def d20_2 (cl : Clh) (m : Nat) (kr : K4) (kn : K4) (t1 t2 t4 t5 t511 : W) (M : Nm) : CW :=
  hLoadN 4 t2 M fun t14 =>
  hCall cl 12 [t14] M fun t15 M17 =>
  hBin .neq t15 (.i .i64 (0)) fun t17 =>
  hIf t17 (
    hBuildO [.c .nils, .i .i64 (0), .i .i64 (0), .i .i64 (0)] [] fun t18 =>
    hStoreN 4 t4 t18 M17 fun _ M18 =>
    kr t511 t4 (.c .nils) t15 M18) (
  d20_3 cl m kr kn t1 t2 t4 t5 t511 M17)
theorem z20_2 (cl : Clh) (m : Nat) (kr : K4) (kn : K4) : hK prg cl m T20_2 (Z4_5_6 kn) NO (Z4_5_6 kr) = fun F M => d20_2 cl m kr kn (F 1) (F 2) (F 4) (F 5) (F 511) M := by
  show hK prg cl m U20_2 (hK prg cl m T20_3 (Z4_5_6 kn) NO (Z4_5_6 kr)) NO (Z4_5_6 kr) = _
  rw [z20_3 cl m kr kn]
  funext F M; kernel_rfl
def T20_1 : HT := (.seq U20_1 T20_2)
def d20_1 (cl : Clh) (m : Nat) (kr : K4) (kn : K4) (t0 t1 t511 : W) (M : Nm) : CW :=
  hBox 24 4 t0 M fun t2 M19 =>
  hNew 24 4 [.c .nils, .i .i64 (0), .i .i64 (0), .i .i64 (0)] M19 fun t4 M20 =>
  d20_2 cl m kr kn t1 t2 t4 (.c .nils) t511 M20
theorem z20_1 (cl : Clh) (m : Nat) (kr : K4) (kn : K4) : hK prg cl m T20_1 (Z4_5_6 kn) NO (Z4_5_6 kr) = fun F M => d20_1 cl m kr kn (F 0) (F 1) (F 511) M := by
  show hK prg cl m U20_1 (hK prg cl m T20_2 (Z4_5_6 kn) NO (Z4_5_6 kr)) NO (Z4_5_6 kr) = _
  rw [z20_2 cl m kr kn]
  funext F M; kernel_rfl
def t20 : HT := T20_1
theorem z20 (cl : Clh) (m : Nat) (kr : K4) : hK prg cl m t20 (Z4_5_6 kr) NO (Z4_5_6 kr) = fun F M => d20_1 cl m kr kr (F 0) (F 1) (F 511) M := z20_1 cl m kr kr
def d20 (cl : Clh) (m : Nat) (kr : K4) (t0 t1 : W) (M : Nm) : CW :=
  d20_1 cl m kr kr t0 t1 (.tup []) M
def U21_1 : HT := (.ops [(.move (.const (.slice none 0 0)), (some 4)),
    (.move (.const (.int .i64 (0))), (some 5))])
def U21_2 : HT := (.seq (.ops [(.move (.tmp 0), (some 9)),
    (.lenS (.tmp 9), (some 10)),
    (.bin .gtr (.tmp 10) (.const (.int .i64 (4096))), (some 11))]) (.cond (.tmp 11) (.seq (.ops [(.move (.const (.slice none 0 0)), (some 4)),
    (.move (.const (.int .i64 (3))), (some 5))]) .ret) .skip))
def U21_3 : HT := (.seq (.ops [(.move (.tmp 1), (some 12)),
    (.call 33 [(.tmp 12), (.const (.int .i64 (1))), (.const (.int .i64 (16)))], (some 13)),
    (.not (.tmp 13), (some 14))]) (.cond (.tmp 14) (.seq (.ops [(.move (.const (.slice none 0 0)), (some 4)),
    (.move (.const (.int .i64 (4))), (some 5))]) .ret) .skip))
def U21_4 : HT := (.ops [(.alloc 70 16 [.int .i64 (.int (0)), .int .i64 (.int (0)), .int .i64 (.int (0)), .int .i64 (.int (0)), .int .i64 (.int (0)), .int .i64 (.int (0)), .int .i64 (.int (0)), .int .i64 (.int (0)), .int .i64 (.int (0)), .int .i64 (.int (0)), .int .i64 (.int (0)), .int .i64 (.int (0)), .int .i64 (.int (0)), .int .i64 (.int (0)), .int .i64 (.int (0)), .int .i64 (.int (0))], (some 6))])
def U21_5 : HT := (.seq (.ops [(.move (.tmp 1), (some 34)),
    (.slice 70 (.tmp 6) none (some (.tmp 34)) none, (some 35)),
    (.call 32 [(.tmp 35)], (some 36)),
    (.call 31 [(.tmp 36)], (some 37)),
    (.move (.tmp 37), (some 4)),
    (.move (.const (.int .i64 (0))), (some 5))]) .ret)
def U21_6 : HT := (.ops [(.move (.tmp 0), (some 15)),
    (.lenS (.tmp 15), (some 16)),
    (.move (.const (.int .i64 (0))), (some 17))])
def U21_7 : HT := (.seq (.ops [(.bin .lss (.tmp 17) (.tmp 16), (some 18))]) (.seq (.cond (.tmp 18) .skip (.exit 0)) (.seq (.block 1 (.seq (.ops [(.indexAddr 1 (.tmp 15) (.tmp 17), (some 19)),
    (.load1 (.tmp 19), (some 20)),
    (.move (.tmp 20), (some 8))]) (.seq (.seq (.ops [(.move (.tmp 8), (some 21)),
    (.move (.tmp 1), (some 22)),
    (.bin .sub (.tmp 22) (.const (.int .i64 (1))), (some 23)),
    (.call 33 [(.tmp 21), (.const (.int .i64 (-1))), (.tmp 23)], (some 24)),
    (.not (.tmp 24), (some 25))]) (.cond (.tmp 25) (.seq (.ops [(.move (.const (.slice none 0 0)), (some 4)),
    (.move (.const (.int .i64 (4))), (some 5))]) .ret) .skip)) (.seq (.ops [(.move (.tmp 8), (some 26)),
    (.bin .geq (.tmp 26) (.const (.int .i64 (0))), (some 27))]) (.cond (.tmp 27) (.ops [(.move (.tmp 8), (some 28)),
    (.indexArr 16 1 (.tmp 6) (.tmp 28), (some 29)),
    (.load1 (.tmp 29), (some 30)),
    (.bin .add (.tmp 30) (.const (.int .i64 (1))), (some 31)),
    (.indexArr 16 1 (.tmp 6) (.tmp 28), (some 32)),
    (.store1 (.tmp 32) (.tmp 31), none)]) .skip))))) (.ops [(.bin .add (.tmp 17) (.const (.int .i64 (1))), (some 33)),
    (.move (.tmp 33), (some 17))]))))
def T21_8 : HT := (.loop (.canon [1, 6, 15, 16, 17, 511] U21_7))
def d21_8b (cl : Clh) (m : Nat) (kr : K3) (k0 : K3) (q : K6) (t1 t6 t15 t16 t17 t511 : W) (M : Nm) : CW :=
  hBin .lss t17 t16 fun t18 =>
  hIf t18 (
  jn (fun (j1 : K6) =>
    hIndexAddr 1 t15 t17 fun t19 =>
    hLoad1 t19 M fun t20 =>
    hBin .sub t1 (.i .i64 (1)) fun t23 =>
    hCall cl 33 [t20, (.i .i64 (-1)), t23] M fun t24 M2 =>
    hNot t24 fun t25 =>
    hIf t25 (
      kr t511 (.c .nils) (.i .i64 (4)) M2) (
    hBin .geq t20 (.i .i64 (0)) fun t27 =>
    hIf t27 (
      hIndexArr 16 1 t6 t20 fun t29 =>
      hLoad1 t29 M2 fun t30 =>
      hBin .add t30 (.i .i64 (1)) fun t31 =>
      hIndexArr 16 1 t6 t20 fun t32 =>
      hStore1 t32 t31 M2 fun _ M3 =>
    j1 t1 t6 t15 t16 t17 t511 M3) (
    j1 t1 t6 t15 t16 t17 t511 M2))) (fun t1 t6 t15 t16 t17 t511 M1 =>
    hBin .add t17 (.i .i64 (1)) fun t33 =>
  q t1 t6 t15 t16 t33 t511 M1)) (
  k0 t1 t6 t511 M)
def d21_8 (cl : Clh) (m : Nat) (kr : K3) (k0 : K3) : Nat → W → W → W → W → W → W → Nm → CW
  | 0 => fun _ _ _ _ _ _ _ => .no
  | n + 1 => fun t1 t6 t15 t16 t17 t511 M => jn (fun (σ : List Nat) => d21_8b cl m kr k0 (d21_8 cl m kr k0 n) (ren 4 σ t1) (ren 4 σ t6) (ren 4 σ t15) (ren 4 σ t16) (ren 4 σ t17) (ren 4 σ t511) ⟨canH M.H σ 0 σ, σ.length⟩) (reach M.H [t1, t6, t15, t16, t17, t511])
theorem z21_8 (cl : Clh) (m : Nat) (kr : K3) (kn : K3) (k0 : K3) : hK prg cl m T21_8 (Zx_1_6_511 kn) (exH 0 (Zx_1_6_511 k0) NO) (Z4_5 kr) = fun F M => d21_8 cl m kr k0 m (F 1) (F 6) (F 15) (F 16) (F 17) (F 511) M := by
  have key : ∀ j, loopH (fun q => hK prg cl m (.canon [1, 6, 15, 16, 17, 511] U21_7) q (exH 0 (Zx_1_6_511 k0) NO) (Z4_5 kr)) j = fun F M => d21_8 cl m kr k0 j (F 1) (F 6) (F 15) (F 16) (F 17) (F 511) M := by
    intro j
    induction j with
    | zero => rfl
    | succ j ih =>
      show (fun (F : FW) (N : Nm) => hK prg cl m U21_7 (loopH (fun q => hK prg cl m (.canon [1, 6, 15, 16, 17, 511] U21_7) q (exH 0 (Zx_1_6_511 k0) NO) (Z4_5 kr)) j) (exH 0 (Zx_1_6_511 k0) NO) (Z4_5 kr) (canF [1, 6, 15, 16, 17, 511] (reach N.H ([1, 6, 15, 16, 17, 511].map F)) F) ⟨canH N.H (reach N.H ([1, 6, 15, 16, 17, 511].map F)) 0 (reach N.H ([1, 6, 15, 16, 17, 511].map F)), (reach N.H ([1, 6, 15, 16, 17, 511].map F)).length⟩) = _
      rw [ih]
      have hb : hK prg cl m U21_7 (fun F M => d21_8 cl m kr k0 j (F 1) (F 6) (F 15) (F 16) (F 17) (F 511) M) (exH 0 (Zx_1_6_511 k0) NO) (Z4_5 kr) = fun F M => d21_8b cl m kr k0 (d21_8 cl m kr k0 j) (F 1) (F 6) (F 15) (F 16) (F 17) (F 511) M := by funext F M; kernel_rfl
      rw [hb]; funext F M; kernel_rfl
  exact key m
def T21_7 : HT := (.block 0 T21_8)
def d21_7 (cl : Clh) (m : Nat) (kr : K3) (kn : K3) (t1 t6 t15 t16 t17 t511 : W) (M : Nm) : CW :=
  d21_8 cl m kr kn m t1 t6 t15 t16 t17 t511 M
theorem z21_7 (cl : Clh) (m : Nat) (kr : K3) (kn : K3) : hK prg cl m T21_7 (Zx_1_6_511 kn) NO (Z4_5 kr) = fun F M => d21_7 cl m kr kn (F 1) (F 6) (F 15) (F 16) (F 17) (F 511) M := by
  show hK prg cl m T21_8 (Zx_1_6_511 kn) (exH 0 (Zx_1_6_511 kn) NO) (Z4_5 kr) = _
  exact (z21_8 cl m kr kn kn).trans (by funext F M; kernel_rfl)
def T21_6 : HT := (.seq U21_6 T21_7)
def d21_6 (cl : Clh) (m : Nat) (kr : K3) (kn : K3) (t0 t1 t6 t511 : W) (M : Nm) : CW :=
  hLenS t0 fun t16 =>
  d21_7 cl m kr kn t1 t6 t0 t16 (.i .i64 (0)) t511 M
theorem z21_6 (cl : Clh) (m : Nat) (kr : K3) (kn : K3) : hK prg cl m T21_6 (Zx_1_6_511 kn) NO (Z4_5 kr) = fun F M => d21_6 cl m kr kn (F 0) (F 1) (F 6) (F 511) M := by
  show hK prg cl m U21_6 (hK prg cl m T21_7 (Zx_1_6_511 kn) NO (Z4_5 kr)) NO (Z4_5 kr) = _
  rw [z21_7 cl m kr kn]
  funext F M; kernel_rfl
def T21_5 : HT := (.seq T21_6 U21_5)
def d21_5 (cl : Clh) (m : Nat) (kr : K3) (kn : K3) (t0 t1 t6 t511 : W) (M : Nm) : CW :=
  d21_6 cl m kr (fun t1 t6 t511 M =>
    hSlice prg 70 t6 none (some t1) none M fun t35 =>
    hCall cl 32 [t35] M fun t36 M4 =>
    hCall cl 31 [t36] M4 fun t37 M5 =>
    kr t511 t37 (.i .i64 (0)) M5) t0 t1 t6 t511 M
theorem z21_5 (cl : Clh) (m : Nat) (kr : K3) (kn : K3) : hK prg cl m T21_5 (Z4_5 kn) NO (Z4_5 kr) = fun F M => d21_5 cl m kr kn (F 0) (F 1) (F 6) (F 511) M := by
  have hb : hK prg cl m U21_5 (Z4_5 kn) NO (Z4_5 kr) = fun F M => (fun t1 t6 t511 M =>
    hSlice prg 70 t6 none (some t1) none M fun t35 =>
    hCall cl 32 [t35] M fun t36 M4 =>
    hCall cl 31 [t36] M4 fun t37 M5 =>
    kr t511 t37 (.i .i64 (0)) M5) (F 1) (F 6) (F 511) M := by funext F M; kernel_rfl
  show hK prg cl m T21_6 (hK prg cl m U21_5 (Z4_5 kn) NO (Z4_5 kr)) NO (Z4_5 kr) = _
  rw [hb]
  exact (z21_6 cl m kr (fun t1 t6 t511 M =>
    hSlice prg 70 t6 none (some t1) none M fun t35 =>
    hCall cl 32 [t35] M fun t36 M4 =>
    hCall cl 31 [t36] M4 fun t37 M5 =>
    kr t511 t37 (.i .i64 (0)) M5) ).trans (by funext F M; kernel_rfl)
def T21_4 : HT := (.seq U21_4 T21_5)
def d21_4 (cl : Clh) (m : Nat) (kr : K3) (kn : K3) (t0 t1 t511 : W) (M : Nm) : CW :=
  hNew 70 16 [.i .i64 (0), .i .i64 (0), .i .i64 (0), .i .i64 (0), .i .i64 (0), .i .i64 (0), .i .i64 (0), .i .i64 (0), .i .i64 (0), .i .i64 (0), .i .i64 (0), .i .i64 (0), .i .i64 (0), .i .i64 (0), .i .i64 (0), .i .i64 (0)] M fun t6 M6 =>
  d21_5 cl m kr kn t0 t1 t6 t511 M6
theorem z21_4 (cl : Clh) (m : Nat) (kr : K3) (kn : K3) : hK prg cl m T21_4 (Z4_5 kn) NO (Z4_5 kr) = fun F M => d21_4 cl m kr kn (F 0) (F 1) (F 511) M := by
  show hK prg cl m U21_4 (hK prg cl m T21_5 (Z4_5 kn) NO (Z4_5 kr)) NO (Z4_5 kr) = _
  rw [z21_5 cl m kr kn]
  funext F M; kernel_rfl
def T21_3 : HT := (.seq U21_3 T21_4)
def d21_3 (cl : Clh) (m : Nat) (kr : K3) (kn : K3) (t0 t1 t511 : W) (M : Nm) : CW :=
  hCall cl 33 [t1, (.i .i64 (1)), (.i .i64 (16))] M fun t13 M7 =>
  hNot t13 fun t14 =>
  hIf t14 (
    kr t511 (.c .nils) (.i .i64 (4)) M7) (
  d21_4 cl m kr kn t0 t1 t511 M7)
theorem z21_3 (cl : Clh) (m : Nat) (kr : K3) (kn : K3) : hK prg cl m T21_3 (Z4_5 kn) NO (Z4_5 kr) = fun F M => d21_3 cl m kr kn (F 0) (F 1) (F 511) M := by
  show hK prg cl m U21_3 (hK prg cl m T21_4 (Z4_5 kn) NO (Z4_5 kr)) NO (Z4_5 kr) = _
  rw [z21_4 cl m kr kn]
  funext F M; kernel_rfl
def T21_2 : HT := (.seq U21_2 T21_3)
def d21_2 (cl : Clh) (m : Nat) (kr : K3) (kn : K3) (t0 t1 t511 : W) (M : Nm) : CW :=
  hLenS t0 fun t10 =>
  hBin .gtr t10 (.i .i64 (4096)) fun t11 =>
  hIf t11 (
    kr t511 (.c .nils) (.i .i64 (3)) M) (
  d21_3 cl m kr kn t0 t1 t511 M)
theorem z21_2 (cl : Clh) (m : Nat) (kr : K3) (kn : K3) : hK prg cl m T21_2 (Z4_5 kn) NO (Z4_5 kr) = fun F M => d21_2 cl m kr kn (F 0) (F 1) (F 511) M := by
  show hK prg cl m U21_2 (hK prg cl m T21_3 (Z4_5 kn) NO (Z4_5 kr)) NO (Z4_5 kr) = _
  rw [z21_3 cl m kr kn]
  funext F M; kernel_rfl
def T21_1 : HT := (.seq U21_1 T21_2)
def d21_1 (cl : Clh) (m : Nat) (kr : K3) (kn : K3) (t0 t1 t511 : W) (M : Nm) : CW :=
  d21_2 cl m kr kn t0 t1 t511 M
theorem z21_1 (cl : Clh) (m : Nat) (kr : K3) (kn : K3) : hK prg cl m T21_1 (Z4_5 kn) NO (Z4_5 kr) = fun F M => d21_1 cl m kr kn (F 0) (F 1) (F 511) M := by
  show hK prg cl m U21_1 (hK prg cl m T21_2 (Z4_5 kn) NO (Z4_5 kr)) NO (Z4_5 kr) = _
  rw [z21_2 cl m kr kn]
  funext F M; kernel_rfl
def t21 : HT := T21_1
theorem z21 (cl : Clh) (m : Nat) (kr : K3) : hK prg cl m t21 (Z4_5 kr) NO (Z4_5 kr) = fun F M => d21_1 cl m kr kr (F 0) (F 1) (F 511) M := z21_1 cl m kr kr
def d21 (cl : Clh) (m : Nat) (kr : K3) (t0 t1 : W) (M : Nm) : CW :=
  d21_1 cl m kr kr t0 t1 (.tup []) M
def U22_1 : HT := (.ops [(.move (.const (.int .i64 (0))), (some 4))])
def U22_2 : HT := (.ops [(.move (.const (.int .i64 (0))), (some 5))])
def U22_3 : HT := (.seq (.ops [(.move (.tmp 5), (some 21)),
    (.move (.tmp 21), (some 4))]) .ret)
def U22_4 : HT := (.ops [(.move (.const (.int .i64 (0))), (some 6))])
def U22_5 : HT := (.seq (.seq (.ops [(.move (.tmp 6), (some 7)),
    (.move (.tmp 0), (some 8)),
    (.lenS (.tmp 8), (some 9)),
    (.bin .lss (.tmp 7) (.tmp 9), (some 10))]) (.cond (.tmp 10) .skip (.exit 0))) (.seq (.block 1 (.seq (.ops [(.move (.tmp 0), (some 13)),
    (.move (.tmp 6), (some 14)),
    (.indexAddr 1 (.tmp 13) (.tmp 14), (some 15)),
    (.load1 (.tmp 15), (some 16)),
    (.move (.tmp 1), (some 17)),
    (.bin .eql (.tmp 16) (.tmp 17), (some 18))]) (.cond (.tmp 18) (.ops [(.move (.tmp 5), (some 19)),
    (.bin .add (.tmp 19) (.const (.int .i64 (1))), (some 20)),
    (.move (.tmp 20), (some 5))]) .skip))) (.ops [(.move (.tmp 6), (some 11)),
    (.bin .add (.tmp 11) (.const (.int .i64 (1))), (some 12)),
    (.move (.tmp 12), (some 6))])))
def T22_6 : HT := (.loop (.canon [0, 1, 5, 6, 511] U22_5))
def d22_6b (cl : Clh) (m : Nat) (kr : K2) (k0 : K2) (q : K5) (t0 t1 t5 t6 t511 : W) (M : Nm) : CW :=
  hLenS t0 fun t9 =>
  hBin .lss t6 t9 fun t10 =>
  hIf t10 (
  jn (fun (j1 : K5) =>
    hIndexAddr 1 t0 t6 fun t15 =>
    hLoad1 t15 M fun t16 =>
    hBin .eql t16 t1 fun t18 =>
    hIf t18 (
      hBin .add t5 (.i .i64 (1)) fun t20 =>
    j1 t0 t1 t20 t6 t511 M) (
    j1 t0 t1 t5 t6 t511 M)) (fun t0 t1 t5 t6 t511 M1 =>
    hBin .add t6 (.i .i64 (1)) fun t12 =>
  q t0 t1 t5 t12 t511 M1)) (
  k0 t5 t511 M)
def d22_6 (cl : Clh) (m : Nat) (kr : K2) (k0 : K2) : Nat → W → W → W → W → W → Nm → CW
  | 0 => fun _ _ _ _ _ _ => .no
  | n + 1 => fun t0 t1 t5 t6 t511 M => jn (fun (σ : List Nat) => d22_6b cl m kr k0 (d22_6 cl m kr k0 n) (ren 4 σ t0) (ren 4 σ t1) (ren 4 σ t5) (ren 4 σ t6) (ren 4 σ t511) ⟨canH M.H σ 0 σ, σ.length⟩) (reach M.H [t0, t1, t5, t6, t511])
theorem z22_6 (cl : Clh) (m : Nat) (kr : K2) (kn : K2) (k0 : K2) : hK prg cl m T22_6 (Zx_5_511 kn) (exH 0 (Zx_5_511 k0) NO) (Z4 kr) = fun F M => d22_6 cl m kr k0 m (F 0) (F 1) (F 5) (F 6) (F 511) M := by
  have key : ∀ j, loopH (fun q => hK prg cl m (.canon [0, 1, 5, 6, 511] U22_5) q (exH 0 (Zx_5_511 k0) NO) (Z4 kr)) j = fun F M => d22_6 cl m kr k0 j (F 0) (F 1) (F 5) (F 6) (F 511) M := by
    intro j
    induction j with
    | zero => rfl
    | succ j ih =>
      show (fun (F : FW) (N : Nm) => hK prg cl m U22_5 (loopH (fun q => hK prg cl m (.canon [0, 1, 5, 6, 511] U22_5) q (exH 0 (Zx_5_511 k0) NO) (Z4 kr)) j) (exH 0 (Zx_5_511 k0) NO) (Z4 kr) (canF [0, 1, 5, 6, 511] (reach N.H ([0, 1, 5, 6, 511].map F)) F) ⟨canH N.H (reach N.H ([0, 1, 5, 6, 511].map F)) 0 (reach N.H ([0, 1, 5, 6, 511].map F)), (reach N.H ([0, 1, 5, 6, 511].map F)).length⟩) = _
      rw [ih]
      have hb : hK prg cl m U22_5 (fun F M => d22_6 cl m kr k0 j (F 0) (F 1) (F 5) (F 6) (F 511) M) (exH 0 (Zx_5_511 k0) NO) (Z4 kr) = fun F M => d22_6b cl m kr k0 (d22_6 cl m kr k0 j) (F 0) (F 1) (F 5) (F 6) (F 511) M := by funext F M; kernel_rfl
      rw [hb]; funext F M; kernel_rfl
  exact key m
def T22_5 : HT := (.block 0 T22_6)
def d22_5 (cl : Clh) (m : Nat) (kr : K2) (kn : K2) (t0 t1 t5 t6 t511 : W) (M : Nm) : CW :=
  d22_6 cl m kr kn m t0 t1 t5 t6 t511 M
theorem z22_5 (cl : Clh) (m : Nat) (kr : K2) (kn : K2) : hK prg cl m T22_5 (Zx_5_511 kn) NO (Z4 kr) = fun F M => d22_5 cl m kr kn (F 0) (F 1) (F 5) (F 6) (F 511) M := by
  show hK prg cl m T22_6 (Zx_5_511 kn) (exH 0 (Zx_5_511 kn) NO) (Z4 kr) = _
  exact (z22_6 cl m kr kn kn).trans (by funext F M; kernel_rfl)
def T22_4 : HT := (.seq U22_4 T22_5)
def d22_4 (cl : Clh) (m : Nat) (kr : K2) (kn : K2) (t0 t1 t5 t511 : W) (M : Nm) : CW :=
  d22_5 cl m kr kn t0 t1 t5 (.i .i64 (0)) t511 M
theorem z22_4 (cl : Clh) (m : Nat) (kr : K2) (kn : K2) : hK prg cl m T22_4 (Zx_5_511 kn) NO (Z4 kr) = fun F M => d22_4 cl m kr kn (F 0) (F 1) (F 5) (F 511) M := by
  show hK prg cl m U22_4 (hK prg cl m T22_5 (Zx_5_511 kn) NO (Z4 kr)) NO (Z4 kr) = _
  rw [z22_5 cl m kr kn]
  funext F M; kernel_rfl
def T22_3 : HT := (.seq T22_4 U22_3)
def d22_3 (cl : Clh) (m : Nat) (kr : K2) (kn : K2) (t0 t1 t5 t511 : W) (M : Nm) : CW :=
  d22_4 cl m kr (fun t5 t511 M =>
    kr t511 t5 M) t0 t1 t5 t511 M
theorem z22_3 (cl : Clh) (m : Nat) (kr : K2) (kn : K2) : hK prg cl m T22_3 (Z4 kn) NO (Z4 kr) = fun F M => d22_3 cl m kr kn (F 0) (F 1) (F 5) (F 511) M := by
  have hb : hK prg cl m U22_3 (Z4 kn) NO (Z4 kr) = fun F M => (fun t5 t511 M =>
    kr t511 t5 M) (F 5) (F 511) M := by funext F M; kernel_rfl
  show hK prg cl m T22_4 (hK prg cl m U22_3 (Z4 kn) NO (Z4 kr)) NO (Z4 kr) = _
  rw [hb]
  exact (z22_4 cl m kr (fun t5 t511 M =>
    kr t511 t5 M) ).trans (by funext F M; kernel_rfl)
def T22_2 : HT := (.seq U22_2 T22_3)
def d22_2 (cl : Clh) (m : Nat) (kr : K2) (kn : K2) (t0 t1 t511 : W) (M : Nm) : CW :=
  d22_3 cl m kr kn t0 t1 (.i .i64 (0)) t511 M
theorem z22_2 (cl : Clh) (m : Nat) (kr : K2) (kn : K2) : hK prg cl m T22_2 (Z4 kn) NO (Z4 kr) = fun F M => d22_2 cl m kr kn (F 0) (F 1) (F 511) M := by
  show hK prg cl m U22_2 (hK prg cl m T22_3 (Z4 kn) NO (Z4 kr)) NO (Z4 kr) = _
  rw [z22_3 cl m kr kn]
  funext F M; kernel_rfl
def T22_1 : HT := (.seq U22_1 T22_2)
def d22_1 (cl : Clh) (m : Nat) (kr : K2) (kn : K2) (t0 t1 t511 : W) (M : Nm) : CW :=
  d22_2 cl m kr kn t0 t1 t511 M
theorem z22_1 (cl : Clh) (m : Nat) (kr : K2) (kn : K2) : hK prg cl m T22_1 (Z4 kn) NO (Z4 kr) = fun F M => d22_1 cl m kr kn (F 0) (F 1) (F 511) M := by
  show hK prg cl m U22_1 (hK prg cl m T22_2 (Z4 kn) NO (Z4 kr)) NO (Z4 kr) = _
  rw [z22_2 cl m kr kn]
  funext F M; kernel_rfl
def t22 : HT := T22_1
theorem z22 (cl : Clh) (m : Nat) (kr : K2) : hK prg cl m t22 (Z4 kr) NO (Z4 kr) = fun F M => d22_1 cl m kr kr (F 0) (F 1) (F 511) M := z22_1 cl m kr kr
def d22 (cl : Clh) (m : Nat) (kr : K2) (t0 t1 : W) (M : Nm) : CW :=
  d22_1 cl m kr kr t0 t1 (.tup []) M
def t30 : HT := (.seq (.ops [(.move (.const (.int .i64 (0))), (some 2))]) (.seq (.seq (.ops [(.move (.tmp 0), (some 3)),
    (.lenS (.tmp 3), (some 4)),
    (.bin .gtr (.tmp 4) (.const (.int .i64 (16))), (some 5))]) (.cond (.tmp 5) (.seq (.ops [(.move (.const (.int .i64 (3))), (some 2))]) .ret) .skip)) (.seq (.seq (.ops [(.move (.tmp 0), (some 6)),
    (.lenS (.tmp 6), (some 7)),
    (.bin .eql (.tmp 7) (.const (.int .i64 (0))), (some 8)),
    (.move (.tmp 8), (some 9)),
    (.guard 9 false (.move (.tmp 0)), (some 10)),
    (.guard 9 false (.call 36 [(.tmp 10), (.func 37)]), (some 11)),
    (.pick (.tmp 9) (.const (.bool true)) (.tmp 11), (some 12))]) (.cond (.tmp 12) (.seq (.ops [(.move (.const (.int .i64 (4))), (some 2))]) .ret) .skip)) (.seq (.ops [(.move (.const (.int .i64 (0))), (some 2))]) .ret))))
def d30_1 (cl : Clh) (m : Nat) (kr : K2) (t0 t511 : W) (M : Nm) : CW :=
  hLenS t0 fun t4 =>
  hBin .gtr t4 (.i .i64 (16)) fun t5 =>
  hIf t5 (
    kr t511 (.i .i64 (3)) M) (
  hLenS t0 fun t7 =>
  hBin .eql t7 (.i .i64 (0)) fun t8 =>
  hGuard t8 false (fun k => k t0 M) M fun t10 M1 =>
  hGuard t8 false (fun k => hCall cl 36 [t10, (.fn 37 [] [])] M1 fun y M4 => k y M4) M1 fun t11 M3 =>
  hPick t8 (.b true) t11 fun t12 =>
  hIf t12 (
    kr t511 (.i .i64 (4)) M3) (
  kr t511 (.i .i64 (0)) M3))
theorem z30 (cl : Clh) (m : Nat) (kr : K2) : hK prg cl m t30 (Z2 kr) NO (Z2 kr) = fun F M => d30_1 cl m kr (F 0) (F 511) M := by funext F M; kernel_rfl
def d30 (cl : Clh) (m : Nat) (kr : K2) (t0 : W) (M : Nm) : CW :=
  d30_1 cl m kr t0 (.tup []) M
def t31 : HT := (.seq (.ops [(.move (.const (.slice none 0 0)), (some 2))]) (.seq (.ops [(.move (.tmp 0), (some 3)),
    (.move (.tmp 0), (some 4)),
    (.lenS (.tmp 4), (some 5)),
    (.move (.tmp 0), (some 6)),
    (.lenS (.tmp 6), (some 7)),
    (.slice 22 (.tmp 3) none (some (.tmp 5)) (some (.tmp 7)), (some 8)),
    (.move (.tmp 8), (some 2))]) .ret))
def d31_1 (cl : Clh) (m : Nat) (kr : K2) (t0 t511 : W) (M : Nm) : CW :=
  hLenS t0 fun t5 =>
  hLenS t0 fun t7 =>
  hSlice prg 22 t0 none (some t5) (some t7) M fun t8 =>
  kr t511 t8 M
theorem z31 (cl : Clh) (m : Nat) (kr : K2) : hK prg cl m t31 (Z2 kr) NO (Z2 kr) = fun F M => d31_1 cl m kr (F 0) (F 511) M := by funext F M; kernel_rfl
def d31 (cl : Clh) (m : Nat) (kr : K2) (t0 : W) (M : Nm) : CW :=
  d31_1 cl m kr t0 (.tup []) M
def t32 : HT := (.seq (.ops [(.move (.const (.slice none 0 0)), (some 2))]) (.seq (.seq (.ops [(.move (.tmp 0), (some 3)),
    (.binG .eql 22 22 (.tmp 3) (.const (.slice none 0 0)), (some 4))]) (.cond (.tmp 4) (.seq (.ops [(.move (.const (.slice none 0 0)), (some 2))]) .ret) .skip)) (.seq (.ops [(.slit 22 0 [], (some 5)),
    (.move (.tmp 0), (some 6)),
    (.app 22 22 (.tmp 5) (.tmp 6), (some 7)),
    (.move (.tmp 7), (some 2))]) .ret)))
def d32_1 (cl : Clh) (m : Nat) (kr : K2) (t0 t511 : W) (M : Nm) : CW :=
  hBinG prg .eql 22 t0 (.c .nils) fun t4 =>
  hIf t4 (
    kr t511 (.c .nils) M) (
  hSlitO prg 22 0 [] M fun t5 M1 =>
  hApp prg 22 22 t5 t0 M1 fun t7 M2 =>
  kr t511 t7 M2)
theorem z32 (cl : Clh) (m : Nat) (kr : K2) : hK prg cl m t32 (Z2 kr) NO (Z2 kr) = fun F M => d32_1 cl m kr (F 0) (F 511) M := by funext F M; kernel_rfl
def d32 (cl : Clh) (m : Nat) (kr : K2) (t0 : W) (M : Nm) : CW :=
  d32_1 cl m kr t0 (.tup []) M
def t33 : HT := (.seq (.ops [(.move (.const (.bool false)), (some 6))]) (.seq (.ops [(.move (.tmp 1), (some 7)),
    (.move (.tmp 0), (some 8)),
    (.bin .leq (.tmp 7) (.tmp 8), (some 9)),
    (.move (.tmp 9), (some 10)),
    (.guard 10 true (.move (.tmp 0)), (some 11)),
    (.guard 10 true (.move (.tmp 2)), (some 12)),
    (.guard 10 true (.bin .leq (.tmp 11) (.tmp 12)), (some 13)),
    (.pick (.tmp 10) (.tmp 13) (.const (.bool false)), (some 14)),
    (.move (.tmp 14), (some 6))]) .ret))
def d33_1 (cl : Clh) (m : Nat) (kr : K2) (t0 t1 t2 t511 : W) (M : Nm) : CW :=
  hBin .leq t1 t0 fun t9 =>
  hGuard t9 true (fun k => k t0 M) M fun t11 M1 =>
  hGuard t9 true (fun k => k t2 M1) M1 fun t12 M3 =>
  hGuard t9 true (fun k => hBin .leq t11 t12 fun y => k y M3) M3 fun t13 M5 =>
  hPick t9 t13 (.b false) fun t14 =>
  kr t511 t14 M5
theorem z33 (cl : Clh) (m : Nat) (kr : K2) : hK prg cl m t33 (Z6 kr) NO (Z6 kr) = fun F M => d33_1 cl m kr (F 0) (F 1) (F 2) (F 511) M := by funext F M; kernel_rfl
def d33 (cl : Clh) (m : Nat) (kr : K2) (t0 t1 t2 : W) (M : Nm) : CW :=
  d33_1 cl m kr t0 t1 t2 (.tup []) M
def t34 : HT := (.seq (.ops [(.move (.const (.bool false)), (some 4))]) (.seq (.ops [(.move (.tmp 0), (some 5)),
    (.move (.tmp 1), (some 6)),
    (.call 38 [(.tmp 5), (.tmp 6)], (some 7)),
    (.bin .geq (.tmp 7) (.const (.int .i64 (0))), (some 8)),
    (.move (.tmp 8), (some 4))]) .ret))
def d34_1 (cl : Clh) (m : Nat) (kr : K2) (t0 t1 t511 : W) (M : Nm) : CW :=
  hCall cl 38 [t0, t1] M fun t7 M1 =>
  hBin .geq t7 (.i .i64 (0)) fun t8 =>
  kr t511 t8 M1
theorem z34 (cl : Clh) (m : Nat) (kr : K2) : hK prg cl m t34 (Z4 kr) NO (Z4 kr) = fun F M => d34_1 cl m kr (F 0) (F 1) (F 511) M := by funext F M; kernel_rfl
def d34 (cl : Clh) (m : Nat) (kr : K2) (t0 t1 : W) (M : Nm) : CW :=
  d34_1 cl m kr t0 t1 (.tup []) M
def t36 : HT := (.seq (.ops [(.move (.const (.bool false)), (some 4))]) (.seq (.ops [(.move (.tmp 0), (some 5)),
    (.move (.tmp 1), (some 6)),
    (.call 39 [(.tmp 5), (.tmp 6)], (some 7)),
    (.bin .geq (.tmp 7) (.const (.int .i64 (0))), (some 8)),
    (.move (.tmp 8), (some 4))]) .ret))
def d36_1 (cl : Clh) (m : Nat) (kr : K2) (t0 t1 t511 : W) (M : Nm) : CW :=
  hCall cl 39 [t0, t1] M fun t7 M1 =>
  hBin .geq t7 (.i .i64 (0)) fun t8 =>
  kr t511 t8 M1
theorem z36 (cl : Clh) (m : Nat) (kr : K2) : hK prg cl m t36 (Z4 kr) NO (Z4 kr) = fun F M => d36_1 cl m kr (F 0) (F 1) (F 511) M := by funext F M; kernel_rfl
def d36 (cl : Clh) (m : Nat) (kr : K2) (t0 t1 : W) (M : Nm) : CW :=
  d36_1 cl m kr t0 t1 (.tup []) M
def t37 : HT := (.seq (.ops [(.move (.const (.bool false)), (some 2))]) (.seq (.ops [(.move (.tmp 0), (some 3)),
    (.call 33 [(.tmp 3), (.const (.int .i64 (1))), (.const (.int .i64 (8)))], (some 4)),
    (.not (.tmp 4), (some 5)),
    (.move (.tmp 5), (some 2))]) .ret))
def d37_1 (cl : Clh) (m : Nat) (kr : K2) (t0 t511 : W) (M : Nm) : CW :=
  hCall cl 33 [t0, (.i .i64 (1)), (.i .i64 (8))] M fun t4 M1 =>
  hNot t4 fun t5 =>
  kr t511 t5 M1
theorem z37 (cl : Clh) (m : Nat) (kr : K2) : hK prg cl m t37 (Z2 kr) NO (Z2 kr) = fun F M => d37_1 cl m kr (F 0) (F 511) M := by funext F M; kernel_rfl
def d37 (cl : Clh) (m : Nat) (kr : K2) (t0 : W) (M : Nm) : CW :=
  d37_1 cl m kr t0 (.tup []) M
def U38_1 : HT := (.ops [(.move (.const (.int .i64 (0))), (some 4))])
def U38_2 : HT := (.seq (.ops [(.move (.const (.int .i64 (-1))), (some 4))]) .ret)
def U38_3 : HT := (.ops [(.move (.tmp 0), (some 6)),
    (.lenS (.tmp 6), (some 7)),
    (.move (.const (.int .i64 (0))), (some 8))])
def U38_4 : HT := (.seq (.ops [(.bin .lss (.tmp 8) (.tmp 7), (some 9))]) (.seq (.cond (.tmp 9) .skip (.exit 0)) (.seq (.block 1 (.seq (.ops [(.move (.tmp 8), (some 10)),
    (.move (.tmp 10), (some 5))]) (.seq (.ops [(.move (.tmp 1), (some 11)),
    (.move (.tmp 0), (some 12)),
    (.move (.tmp 5), (some 13)),
    (.indexAddr 1 (.tmp 12) (.tmp 13), (some 14)),
    (.load1 (.tmp 14), (some 15)),
    (.binG .eql 4 4 (.tmp 11) (.tmp 15), (some 16))]) (.cond (.tmp 16) (.seq (.ops [(.move (.tmp 5), (some 17)),
    (.move (.tmp 17), (some 4))]) .ret) .skip)))) (.ops [(.bin .add (.tmp 8) (.const (.int .i64 (1))), (some 18)),
    (.move (.tmp 18), (some 8))]))))
def T38_5 : HT := (.loop (.canon [0, 1, 7, 8, 511] U38_4))
def d38_5b (cl : Clh) (m : Nat) (kr : K2) (k0 : K1) (q : K5) (t0 t1 t7 t8 t511 : W) (M : Nm) : CW :=
  hBin .lss t8 t7 fun t9 =>
  hIf t9 (
  hIndexAddr 1 t0 t8 fun t14 =>
  hLoad1 t14 M fun t15 =>
  hBinG prg .eql 4 t1 t15 fun t16 =>
  hIf t16 (
    kr t511 t8 M) (
  hBin .add t8 (.i .i64 (1)) fun t18 =>
  q t0 t1 t7 t18 t511 M)) (
  k0 t511 M)
def d38_5 (cl : Clh) (m : Nat) (kr : K2) (k0 : K1) : Nat → W → W → W → W → W → Nm → CW
  | 0 => fun _ _ _ _ _ _ => .no
  | n + 1 => fun t0 t1 t7 t8 t511 M => jn (fun (σ : List Nat) => d38_5b cl m kr k0 (d38_5 cl m kr k0 n) (ren 4 σ t0) (ren 4 σ t1) (ren 4 σ t7) (ren 4 σ t8) (ren 4 σ t511) ⟨canH M.H σ 0 σ, σ.length⟩) (reach M.H [t0, t1, t7, t8, t511])
theorem z38_5 (cl : Clh) (m : Nat) (kr : K2) (kn : K1) (k0 : K1) : hK prg cl m T38_5 (Z kn) (exH 0 (Z k0) NO) (Z4 kr) = fun F M => d38_5 cl m kr k0 m (F 0) (F 1) (F 7) (F 8) (F 511) M := by
  have key : ∀ j, loopH (fun q => hK prg cl m (.canon [0, 1, 7, 8, 511] U38_4) q (exH 0 (Z k0) NO) (Z4 kr)) j = fun F M => d38_5 cl m kr k0 j (F 0) (F 1) (F 7) (F 8) (F 511) M := by
    intro j
    induction j with
    | zero => rfl
    | succ j ih =>
      show (fun (F : FW) (N : Nm) => hK prg cl m U38_4 (loopH (fun q => hK prg cl m (.canon [0, 1, 7, 8, 511] U38_4) q (exH 0 (Z k0) NO) (Z4 kr)) j) (exH 0 (Z k0) NO) (Z4 kr) (canF [0, 1, 7, 8, 511] (reach N.H ([0, 1, 7, 8, 511].map F)) F) ⟨canH N.H (reach N.H ([0, 1, 7, 8, 511].map F)) 0 (reach N.H ([0, 1, 7, 8, 511].map F)), (reach N.H ([0, 1, 7, 8, 511].map F)).length⟩) = _
      rw [ih]
      have hb : hK prg cl m U38_4 (fun F M => d38_5 cl m kr k0 j (F 0) (F 1) (F 7) (F 8) (F 511) M) (exH 0 (Z k0) NO) (Z4 kr) = fun F M => d38_5b cl m kr k0 (d38_5 cl m kr k0 j) (F 0) (F 1) (F 7) (F 8) (F 511) M := by funext F M; kernel_rfl
      rw [hb]; funext F M; kernel_rfl
  exact key m
def T38_4 : HT := (.block 0 T38_5)
def d38_4 (cl : Clh) (m : Nat) (kr : K2) (kn : K1) (t0 t1 t7 t8 t511 : W) (M : Nm) : CW :=
  d38_5 cl m kr kn m t0 t1 t7 t8 t511 M
theorem z38_4 (cl : Clh) (m : Nat) (kr : K2) (kn : K1) : hK prg cl m T38_4 (Z kn) NO (Z4 kr) = fun F M => d38_4 cl m kr kn (F 0) (F 1) (F 7) (F 8) (F 511) M := by
  show hK prg cl m T38_5 (Z kn) (exH 0 (Z kn) NO) (Z4 kr) = _
  exact (z38_5 cl m kr kn kn).trans (by funext F M; kernel_rfl)
def T38_3 : HT := (.seq U38_3 T38_4)
def d38_3 (cl : Clh) (m : Nat) (kr : K2) (kn : K1) (t0 t1 t511 : W) (M : Nm) : CW :=
  hLenS t0 fun t7 =>
  d38_4 cl m kr kn t0 t1 t7 (.i .i64 (0)) t511 M
theorem z38_3 (cl : Clh) (m : Nat) (kr : K2) (kn : K1) : hK prg cl m T38_3 (Z kn) NO (Z4 kr) = fun F M => d38_3 cl m kr kn (F 0) (F 1) (F 511) M := by
  show hK prg cl m U38_3 (hK prg cl m T38_4 (Z kn) NO (Z4 kr)) NO (Z4 kr) = _
  rw [z38_4 cl m kr kn]
  funext F M; kernel_rfl
def T38_2 : HT := (.seq T38_3 U38_2)
def d38_2 (cl : Clh) (m : Nat) (kr : K2) (kn : K2) (t0 t1 t511 : W) (M : Nm) : CW :=
  d38_3 cl m kr (fun t511 M =>
    kr t511 (.i .i64 (-1)) M) t0 t1 t511 M
theorem z38_2 (cl : Clh) (m : Nat) (kr : K2) (kn : K2) : hK prg cl m T38_2 (Z4 kn) NO (Z4 kr) = fun F M => d38_2 cl m kr kn (F 0) (F 1) (F 511) M := by
  have hb : hK prg cl m U38_2 (Z4 kn) NO (Z4 kr) = fun F M => (fun t511 M =>
    kr t511 (.i .i64 (-1)) M) (F 511) M := by funext F M; kernel_rfl
  show hK prg cl m T38_3 (hK prg cl m U38_2 (Z4 kn) NO (Z4 kr)) NO (Z4 kr) = _
  rw [hb]
  exact (z38_3 cl m kr (fun t511 M =>
    kr t511 (.i .i64 (-1)) M) ).trans (by funext F M; kernel_rfl)
def T38_1 : HT := (.seq U38_1 T38_2)
def d38_1 (cl : Clh) (m : Nat) (kr : K2) (kn : K2) (t0 t1 t511 : W) (M : Nm) : CW :=
  d38_2 cl m kr kn t0 t1 t511 M
theorem z38_1 (cl : Clh) (m : Nat) (kr : K2) (kn : K2) : hK prg cl m T38_1 (Z4 kn) NO (Z4 kr) = fun F M => d38_1 cl m kr kn (F 0) (F 1) (F 511) M := by
  show hK prg cl m U38_1 (hK prg cl m T38_2 (Z4 kn) NO (Z4 kr)) NO (Z4 kr) = _
  rw [z38_2 cl m kr kn]
  funext F M; kernel_rfl
def t38 : HT := T38_1
theorem z38 (cl : Clh) (m : Nat) (kr : K2) : hK prg cl m t38 (Z4 kr) NO (Z4 kr) = fun F M => d38_1 cl m kr kr (F 0) (F 1) (F 511) M := z38_1 cl m kr kr
def d38 (cl : Clh) (m : Nat) (kr : K2) (t0 t1 : W) (M : Nm) : CW :=
  d38_1 cl m kr kr t0 t1 (.tup []) M
def U39_1 : HT := (.ops [(.move (.const (.int .i64 (0))), (some 4))])
def U39_2 : HT := (.seq (.ops [(.move (.const (.int .i64 (-1))), (some 4))]) .ret)
def U39_3 : HT := (.ops [(.move (.tmp 0), (some 6)),
    (.lenS (.tmp 6), (some 7)),
    (.move (.const (.int .i64 (0))), (some 8))])
def U39_4 : HT := (.seq (.ops [(.bin .lss (.tmp 8) (.tmp 7), (some 9))]) (.seq (.cond (.tmp 9) .skip (.exit 0)) (.seq (.block 1 (.seq (.ops [(.move (.tmp 8), (some 10)),
    (.move (.tmp 10), (some 5))]) (.seq (.ops [(.move (.tmp 1), (some 11)),
    (.move (.tmp 0), (some 12)),
    (.move (.tmp 5), (some 13)),
    (.indexAddr 1 (.tmp 12) (.tmp 13), (some 14)),
    (.load1 (.tmp 14), (some 15)),
    (.callV (.tmp 11) [(.tmp 15)], (some 16))]) (.cond (.tmp 16) (.seq (.ops [(.move (.tmp 5), (some 17)),
    (.move (.tmp 17), (some 4))]) .ret) .skip)))) (.ops [(.bin .add (.tmp 8) (.const (.int .i64 (1))), (some 18)),
    (.move (.tmp 18), (some 8))]))))
def T39_5 : HT := (.loop (.canon [0, 1, 7, 8, 511] U39_4))
def d39_5b (cl : Clh) (m : Nat) (kr : K2) (k0 : K1) (q : K5) (t0 t1 t7 t8 t511 : W) (M : Nm) : CW :=
  hBin .lss t8 t7 fun t9 =>
  hIf t9 (
  hIndexAddr 1 t0 t8 fun t14 =>
  hLoad1 t14 M fun t15 =>
  hCallV cl t1 [t15] M fun t16 M1 =>
  hIf t16 (
    kr t511 t8 M1) (
  hBin .add t8 (.i .i64 (1)) fun t18 =>
  q t0 t1 t7 t18 t511 M1)) (
  k0 t511 M)
def d39_5 (cl : Clh) (m : Nat) (kr : K2) (k0 : K1) : Nat → W → W → W → W → W → Nm → CW
  | 0 => fun _ _ _ _ _ _ => .no
  | n + 1 => fun t0 t1 t7 t8 t511 M => jn (fun (σ : List Nat) => d39_5b cl m kr k0 (d39_5 cl m kr k0 n) (ren 4 σ t0) (ren 4 σ t1) (ren 4 σ t7) (ren 4 σ t8) (ren 4 σ t511) ⟨canH M.H σ 0 σ, σ.length⟩) (reach M.H [t0, t1, t7, t8, t511])
theorem z39_5 (cl : Clh) (m : Nat) (kr : K2) (kn : K1) (k0 : K1) : hK prg cl m T39_5 (Z kn) (exH 0 (Z k0) NO) (Z4 kr) = fun F M => d39_5 cl m kr k0 m (F 0) (F 1) (F 7) (F 8) (F 511) M := by
  have key : ∀ j, loopH (fun q => hK prg cl m (.canon [0, 1, 7, 8, 511] U39_4) q (exH 0 (Z k0) NO) (Z4 kr)) j = fun F M => d39_5 cl m kr k0 j (F 0) (F 1) (F 7) (F 8) (F 511) M := by
    intro j
    induction j with
    | zero => rfl
    | succ j ih =>
      show (fun (F : FW) (N : Nm) => hK prg cl m U39_4 (loopH (fun q => hK prg cl m (.canon [0, 1, 7, 8, 511] U39_4) q (exH 0 (Z k0) NO) (Z4 kr)) j) (exH 0 (Z k0) NO) (Z4 kr) (canF [0, 1, 7, 8, 511] (reach N.H ([0, 1, 7, 8, 511].map F)) F) ⟨canH N.H (reach N.H ([0, 1, 7, 8, 511].map F)) 0 (reach N.H ([0, 1, 7, 8, 511].map F)), (reach N.H ([0, 1, 7, 8, 511].map F)).length⟩) = _
      rw [ih]
      have hb : hK prg cl m U39_4 (fun F M => d39_5 cl m kr k0 j (F 0) (F 1) (F 7) (F 8) (F 511) M) (exH 0 (Z k0) NO) (Z4 kr) = fun F M => d39_5b cl m kr k0 (d39_5 cl m kr k0 j) (F 0) (F 1) (F 7) (F 8) (F 511) M := by funext F M; kernel_rfl
      rw [hb]; funext F M; kernel_rfl
  exact key m
def T39_4 : HT := (.block 0 T39_5)
def d39_4 (cl : Clh) (m : Nat) (kr : K2) (kn : K1) (t0 t1 t7 t8 t511 : W) (M : Nm) : CW :=
  d39_5 cl m kr kn m t0 t1 t7 t8 t511 M
theorem z39_4 (cl : Clh) (m : Nat) (kr : K2) (kn : K1) : hK prg cl m T39_4 (Z kn) NO (Z4 kr) = fun F M => d39_4 cl m kr kn (F 0) (F 1) (F 7) (F 8) (F 511) M := by
  show hK prg cl m T39_5 (Z kn) (exH 0 (Z kn) NO) (Z4 kr) = _
  exact (z39_5 cl m kr kn kn).trans (by funext F M; kernel_rfl)
def T39_3 : HT := (.seq U39_3 T39_4)
def d39_3 (cl : Clh) (m : Nat) (kr : K2) (kn : K1) (t0 t1 t511 : W) (M : Nm) : CW :=
  hLenS t0 fun t7 =>
  d39_4 cl m kr kn t0 t1 t7 (.i .i64 (0)) t511 M
theorem z39_3 (cl : Clh) (m : Nat) (kr : K2) (kn : K1) : hK prg cl m T39_3 (Z kn) NO (Z4 kr) = fun F M => d39_3 cl m kr kn (F 0) (F 1) (F 511) M := by
  show hK prg cl m U39_3 (hK prg cl m T39_4 (Z kn) NO (Z4 kr)) NO (Z4 kr) = _
  rw [z39_4 cl m kr kn]
  funext F M; kernel_rfl
def T39_2 : HT := (.seq T39_3 U39_2)
def d39_2 (cl : Clh) (m : Nat) (kr : K2) (kn : K2) (t0 t1 t511 : W) (M : Nm) : CW :=
  d39_3 cl m kr (fun t511 M =>
    kr t511 (.i .i64 (-1)) M) t0 t1 t511 M
theorem z39_2 (cl : Clh) (m : Nat) (kr : K2) (kn : K2) : hK prg cl m T39_2 (Z4 kn) NO (Z4 kr) = fun F M => d39_2 cl m kr kn (F 0) (F 1) (F 511) M := by
  have hb : hK prg cl m U39_2 (Z4 kn) NO (Z4 kr) = fun F M => (fun t511 M =>
    kr t511 (.i .i64 (-1)) M) (F 511) M := by funext F M; kernel_rfl
  show hK prg cl m T39_3 (hK prg cl m U39_2 (Z4 kn) NO (Z4 kr)) NO (Z4 kr) = _
  rw [hb]
  exact (z39_3 cl m kr (fun t511 M =>
    kr t511 (.i .i64 (-1)) M) ).trans (by funext F M; kernel_rfl)
def T39_1 : HT := (.seq U39_1 T39_2)
def d39_1 (cl : Clh) (m : Nat) (kr : K2) (kn : K2) (t0 t1 t511 : W) (M : Nm) : CW :=
  d39_2 cl m kr kn t0 t1 t511 M
theorem z39_1 (cl : Clh) (m : Nat) (kr : K2) (kn : K2) : hK prg cl m T39_1 (Z4 kn) NO (Z4 kr) = fun F M => d39_1 cl m kr kn (F 0) (F 1) (F 511) M := by
  show hK prg cl m U39_1 (hK prg cl m T39_2 (Z4 kn) NO (Z4 kr)) NO (Z4 kr) = _
  rw [z39_2 cl m kr kn]
  funext F M; kernel_rfl
def t39 : HT := T39_1
theorem z39 (cl : Clh) (m : Nat) (kr : K2) : hK prg cl m t39 (Z4 kr) NO (Z4 kr) = fun F M => d39_1 cl m kr kr (F 0) (F 1) (F 511) M := z39_1 cl m kr kr
def d39 (cl : Clh) (m : Nat) (kr : K2) (t0 t1 : W) (M : Nm) : CW :=
  d39_1 cl m kr kr t0 t1 (.tup []) M
end
end Go.Proofs.Ytehbfajmileefaa.Hx
set_option maxRecDepth 100000
set_option maxHeartbeats 4000000
namespace Go.Proofs.Ytehbfajmileefaa.Hx
open Go.RowKit Go.Proofs.Ytehbfajmileefaa.Vx Go.Proofs.Ytehbfajmileefaa.Fx Go.Proofs.Ytehbfajmileefaa.Px
noncomputable section
def hf4 : HF := ⟨t4, 144, [.tmp 6]⟩
def hf11 : HF := ⟨t11, 28, [.tmp 2]⟩
def hf12 : HF := ⟨t12, 40, [.tmp 2]⟩
def hf13 : HF := ⟨t13, 46, [.tmp 2]⟩
def hf14 : HF := ⟨t14, 26, [.tmp 4]⟩
def hf15 : HF := ⟨t15, 29, [.tmp 4]⟩
def hf16 : HF := ⟨t16, 76, [.cell 4 24, .tmp 5, .tmp 6]⟩
def hf17 : HF := ⟨t17, 75, [.cell 4 24, .tmp 5, .tmp 6, .tmp 7]⟩
def hf18 : HF := ⟨t18, 60, [.cell 2 24]⟩
def hf19 : HF := ⟨t19, 49, [.cell 4 24, .tmp 5, .tmp 6]⟩
def hf20 : HF := ⟨t20, 59, [.cell 4 24, .tmp 5, .tmp 6]⟩
def hf21 : HF := ⟨t21, 38, [.tmp 4, .tmp 5]⟩
def hf22 : HF := ⟨t22, 22, [.tmp 4]⟩
def hf30 : HF := ⟨t30, 13, [.tmp 2]⟩
def hf31 : HF := ⟨t31, 9, [.tmp 2]⟩
def hf32 : HF := ⟨t32, 8, [.tmp 2]⟩
def hf33 : HF := ⟨t33, 15, [.tmp 6]⟩
def hf34 : HF := ⟨t34, 9, [.tmp 4]⟩
def hf36 : HF := ⟨t36, 9, [.tmp 4]⟩
def hf37 : HF := ⟨t37, 6, [.tmp 2]⟩
def hf38 : HF := ⟨t38, 19, [.tmp 4]⟩
def hf39 : HF := ⟨t39, 19, [.tmp 4]⟩
def tabH : HB := (.nd (.nd (.nd (.nd (.nd .lf 4 hf4 .lf) 11 hf11 .lf) 12 hf12 (.nd (.nd .lf 13 hf13 .lf) 14 hf14 .lf)) 15 hf15 (.nd (.nd (.nd .lf 16 hf16 .lf) 17 hf17 .lf) 18 hf18 (.nd (.nd .lf 19 hf19 .lf) 20 hf20 .lf))) 21 hf21 (.nd (.nd (.nd (.nd .lf 22 hf22 .lf) 30 hf30 .lf) 31 hf31 (.nd (.nd .lf 32 hf32 .lf) 33 hf33 .lf)) 34 hf34 (.nd (.nd (.nd .lf 36 hf36 .lf) 37 hf37 .lf) 38 hf38 (.nd .lf 39 hf39 .lf))))
theorem ep4 : EOkP prg funs 4 (fpOf prg hf4) := ⟨Try.f4, (Try.f4.body).getD .skip, Try.func4, by kernel_rfl, by kernel_rfl, by kernel_rfl, by kernel_rfl⟩
theorem eh4 : hf4.okF prg = true := by kernel_rfl
theorem ep11 : EOkP prg funs 11 (fpOf prg hf11) := ⟨Try.f11, (Try.f11.body).getD .skip, Try.func11, by kernel_rfl, by kernel_rfl, by kernel_rfl, by kernel_rfl⟩
theorem eh11 : hf11.okF prg = true := by kernel_rfl
theorem ep12 : EOkP prg funs 12 (fpOf prg hf12) := ⟨Try.f12, (Try.f12.body).getD .skip, Try.func12, by kernel_rfl, by kernel_rfl, by kernel_rfl, by kernel_rfl⟩
theorem eh12 : hf12.okF prg = true := by kernel_rfl
theorem ep13 : EOkP prg funs 13 (fpOf prg hf13) := ⟨Try.f13, (Try.f13.body).getD .skip, Try.func13, by kernel_rfl, by kernel_rfl, by kernel_rfl, by kernel_rfl⟩
theorem eh13 : hf13.okF prg = true := by kernel_rfl
theorem ep14 : EOkP prg funs 14 (fpOf prg hf14) := ⟨Try.f14, (Try.f14.body).getD .skip, Try.func14, by kernel_rfl, by kernel_rfl, by kernel_rfl, by kernel_rfl⟩
theorem eh14 : hf14.okF prg = true := by kernel_rfl
theorem ep15 : EOkP prg funs 15 (fpOf prg hf15) := ⟨Try.f15, (Try.f15.body).getD .skip, Try.func15, by kernel_rfl, by kernel_rfl, by kernel_rfl, by kernel_rfl⟩
theorem eh15 : hf15.okF prg = true := by kernel_rfl
theorem ep16 : EOkP prg funs 16 (fpOf prg hf16) := ⟨Try.f16, (Try.f16.body).getD .skip, Try.func16, by kernel_rfl, by kernel_rfl, by kernel_rfl, by kernel_rfl⟩
theorem eh16 : hf16.okF prg = true := by kernel_rfl
theorem ep17 : EOkP prg funs 17 (fpOf prg hf17) := ⟨Try.f17, (Try.f17.body).getD .skip, Try.func17, by kernel_rfl, by kernel_rfl, by kernel_rfl, by kernel_rfl⟩
theorem eh17 : hf17.okF prg = true := by kernel_rfl
theorem ep18 : EOkP prg funs 18 (fpOf prg hf18) := ⟨Try.f18, (Try.f18.body).getD .skip, Try.func18, by kernel_rfl, by kernel_rfl, by kernel_rfl, by kernel_rfl⟩
theorem eh18 : hf18.okF prg = true := by kernel_rfl
theorem ep19 : EOkP prg funs 19 (fpOf prg hf19) := ⟨Try.f19, (Try.f19.body).getD .skip, Try.func19, by kernel_rfl, by kernel_rfl, by kernel_rfl, by kernel_rfl⟩
theorem eh19 : hf19.okF prg = true := by kernel_rfl
theorem ep20 : EOkP prg funs 20 (fpOf prg hf20) := ⟨Try.f20, (Try.f20.body).getD .skip, Try.func20, by kernel_rfl, by kernel_rfl, by kernel_rfl, by kernel_rfl⟩
theorem eh20 : hf20.okF prg = true := by kernel_rfl
theorem ep21 : EOkP prg funs 21 (fpOf prg hf21) := ⟨Try.f21, (Try.f21.body).getD .skip, Try.func21, by kernel_rfl, by kernel_rfl, by kernel_rfl, by kernel_rfl⟩
theorem eh21 : hf21.okF prg = true := by kernel_rfl
theorem ep22 : EOkP prg funs 22 (fpOf prg hf22) := ⟨Try.f22, (Try.f22.body).getD .skip, Try.func22, by kernel_rfl, by kernel_rfl, by kernel_rfl, by kernel_rfl⟩
theorem eh22 : hf22.okF prg = true := by kernel_rfl
theorem ep30 : EOkP prg funs 30 (fpOf prg hf30) := ⟨Try.f30, (Try.f30.body).getD .skip, Try.func30, by kernel_rfl, by kernel_rfl, by kernel_rfl, by kernel_rfl⟩
theorem eh30 : hf30.okF prg = true := by kernel_rfl
theorem ep31 : EOkP prg funs 31 (fpOf prg hf31) := ⟨Try.f31, (Try.f31.body).getD .skip, Try.func31, by kernel_rfl, by kernel_rfl, by kernel_rfl, by kernel_rfl⟩
theorem eh31 : hf31.okF prg = true := by kernel_rfl
theorem ep32 : EOkP prg funs 32 (fpOf prg hf32) := ⟨Try.f32, (Try.f32.body).getD .skip, Try.func32, by kernel_rfl, by kernel_rfl, by kernel_rfl, by kernel_rfl⟩
theorem eh32 : hf32.okF prg = true := by kernel_rfl
theorem ep33 : EOkP prg funs 33 (fpOf prg hf33) := ⟨Try.f33, (Try.f33.body).getD .skip, Try.func33, by kernel_rfl, by kernel_rfl, by kernel_rfl, by kernel_rfl⟩
theorem eh33 : hf33.okF prg = true := by kernel_rfl
theorem ep34 : EOkP prg funs 34 (fpOf prg hf34) := ⟨Try.f34, (Try.f34.body).getD .skip, Try.func34, by kernel_rfl, by kernel_rfl, by kernel_rfl, by kernel_rfl⟩
theorem eh34 : hf34.okF prg = true := by kernel_rfl
theorem ep36 : EOkP prg funs 36 (fpOf prg hf36) := ⟨Try.f36, (Try.f36.body).getD .skip, Try.func36, by kernel_rfl, by kernel_rfl, by kernel_rfl, by kernel_rfl⟩
theorem eh36 : hf36.okF prg = true := by kernel_rfl
theorem ep37 : EOkP prg funs 37 (fpOf prg hf37) := ⟨Try.f37, (Try.f37.body).getD .skip, Try.func37, by kernel_rfl, by kernel_rfl, by kernel_rfl, by kernel_rfl⟩
theorem eh37 : hf37.okF prg = true := by kernel_rfl
theorem ep38 : EOkP prg funs 38 (fpOf prg hf38) := ⟨Try.f38, (Try.f38.body).getD .skip, Try.func38, by kernel_rfl, by kernel_rfl, by kernel_rfl, by kernel_rfl⟩
theorem eh38 : hf38.okF prg = true := by kernel_rfl
theorem ep39 : EOkP prg funs 39 (fpOf prg hf39) := ⟨Try.f39, (Try.f39.body).getD .skip, Try.func39, by kernel_rfl, by kernel_rfl, by kernel_rfl, by kernel_rfl⟩
theorem eh39 : hf39.okF prg = true := by kernel_rfl
theorem tabHOk : HB.Ok prg tabH := ⟨⟨⟨⟨⟨trivial, eh4, trivial⟩, eh11, trivial⟩, eh12, ⟨⟨trivial, eh13, trivial⟩, eh14, trivial⟩⟩, eh15, ⟨⟨⟨trivial, eh16, trivial⟩, eh17, trivial⟩, eh18, ⟨⟨trivial, eh19, trivial⟩, eh20, trivial⟩⟩⟩, eh21, ⟨⟨⟨⟨trivial, eh22, trivial⟩, eh30, trivial⟩, eh31, ⟨⟨trivial, eh32, trivial⟩, eh33, trivial⟩⟩, eh34, ⟨⟨⟨trivial, eh36, trivial⟩, eh37, trivial⟩, eh38, ⟨trivial, eh39, trivial⟩⟩⟩⟩
theorem tabPOk : OkP prg funs (tabH.tt prg) := ⟨⟨⟨⟨⟨trivial, ep4, trivial⟩, ep11, trivial⟩, ep12, ⟨⟨trivial, ep13, trivial⟩, ep14, trivial⟩⟩, ep15, ⟨⟨⟨trivial, ep16, trivial⟩, ep17, trivial⟩, ep18, ⟨⟨trivial, ep19, trivial⟩, ep20, trivial⟩⟩⟩, ep21, ⟨⟨⟨⟨trivial, ep22, trivial⟩, ep30, trivial⟩, ep31, ⟨⟨trivial, ep32, trivial⟩, ep33, trivial⟩⟩, ep34, ⟨⟨⟨trivial, ep36, trivial⟩, ep37, trivial⟩, ep38, ⟨trivial, ep39, trivial⟩⟩⟩⟩
theorem q4 {kn : Nat → Bool} (hk : kn 4 = false) (n m : Nat) (t0 t1 t2 : W) : callH prg tabH kn (n + 1) m 4 [t0, t1, t2] = d4 (callH prg tabH kn n m) m (fun z r0 M' => finH prg z [(.tmp 6, r0)] M') t0 t1 t2 ⟨[], 0⟩ := by
  refine (call_hk hk (hf := hf4) (by kernel_rfl) (by kernel_rfl)).trans ?_
  refine Eq.trans ?_ ((congrFun (congrFun (z4 (callH prg tabH kn n m) m (fun z r0 M' => finH prg z [(.tmp 6, r0)] M')) (fillW 0 [t0, t1, t2] fun _ => .tup [])) ⟨[], 0⟩).trans ?_)
  · kernel_rfl
  · kernel_rfl
theorem q11 {kn : Nat → Bool} (hk : kn 11 = false) (n m : Nat) (t0 : W) : callH prg tabH kn (n + 1) m 11 [t0] = d11 (callH prg tabH kn n m) m (fun z r0 M' => finH prg z [(.tmp 2, r0)] M') t0 ⟨[], 0⟩ := by
  refine (call_hk hk (hf := hf11) (by kernel_rfl) (by kernel_rfl)).trans ?_
  refine Eq.trans ?_ ((congrFun (congrFun (z11 (callH prg tabH kn n m) m (fun z r0 M' => finH prg z [(.tmp 2, r0)] M')) (fillW 0 [t0] fun _ => .tup [])) ⟨[], 0⟩).trans ?_)
  · kernel_rfl
  · kernel_rfl
theorem q12 {kn : Nat → Bool} (hk : kn 12 = false) (n m : Nat) (t0 : W) : callH prg tabH kn (n + 1) m 12 [t0] = d12 (callH prg tabH kn n m) m (fun z r0 M' => finH prg z [(.tmp 2, r0)] M') t0 ⟨[], 0⟩ := by
  refine (call_hk hk (hf := hf12) (by kernel_rfl) (by kernel_rfl)).trans ?_
  refine Eq.trans ?_ ((congrFun (congrFun (z12 (callH prg tabH kn n m) m (fun z r0 M' => finH prg z [(.tmp 2, r0)] M')) (fillW 0 [t0] fun _ => .tup [])) ⟨[], 0⟩).trans ?_)
  · kernel_rfl
  · kernel_rfl
theorem q13 {kn : Nat → Bool} (hk : kn 13 = false) (n m : Nat) (t0 : W) : callH prg tabH kn (n + 1) m 13 [t0] = d13 (callH prg tabH kn n m) m (fun z r0 M' => finH prg z [(.tmp 2, r0)] M') t0 ⟨[], 0⟩ := by
  refine (call_hk hk (hf := hf13) (by kernel_rfl) (by kernel_rfl)).trans ?_
  refine Eq.trans ?_ ((congrFun (congrFun (z13 (callH prg tabH kn n m) m (fun z r0 M' => finH prg z [(.tmp 2, r0)] M')) (fillW 0 [t0] fun _ => .tup [])) ⟨[], 0⟩).trans ?_)
  · kernel_rfl
  · kernel_rfl
theorem q14 {kn : Nat → Bool} (hk : kn 14 = false) (n m : Nat) (t0 t1 : W) : callH prg tabH kn (n + 1) m 14 [t0, t1] = d14 (callH prg tabH kn n m) m (fun z r0 M' => finH prg z [(.tmp 4, r0)] M') t0 t1 ⟨[], 0⟩ := by
  refine (call_hk hk (hf := hf14) (by kernel_rfl) (by kernel_rfl)).trans ?_
  refine Eq.trans ?_ ((congrFun (congrFun (z14 (callH prg tabH kn n m) m (fun z r0 M' => finH prg z [(.tmp 4, r0)] M')) (fillW 0 [t0, t1] fun _ => .tup [])) ⟨[], 0⟩).trans ?_)
  · kernel_rfl
  · kernel_rfl
theorem q15 {kn : Nat → Bool} (hk : kn 15 = false) (n m : Nat) (t0 t1 : W) : callH prg tabH kn (n + 1) m 15 [t0, t1] = d15 (callH prg tabH kn n m) m (fun z r0 M' => finH prg z [(.tmp 4, r0)] M') t0 t1 ⟨[], 0⟩ := by
  refine (call_hk hk (hf := hf15) (by kernel_rfl) (by kernel_rfl)).trans ?_
  refine Eq.trans ?_ ((congrFun (congrFun (z15 (callH prg tabH kn n m) m (fun z r0 M' => finH prg z [(.tmp 4, r0)] M')) (fillW 0 [t0, t1] fun _ => .tup [])) ⟨[], 0⟩).trans ?_)
  · kernel_rfl
  · kernel_rfl
theorem q16 {kn : Nat → Bool} (hk : kn 16 = false) (n m : Nat) (t0 t1 : W) : callH prg tabH kn (n + 1) m 16 [t0, t1] = d16 (callH prg tabH kn n m) m (fun z r0 r1 r2 M' => finH prg z [(.cell 4 24, r0), (.tmp 5, r1), (.tmp 6, r2)] M') t0 t1 ⟨[], 0⟩ := by
  refine (call_hk hk (hf := hf16) (by kernel_rfl) (by kernel_rfl)).trans ?_
  refine Eq.trans ?_ ((congrFun (congrFun (z16 (callH prg tabH kn n m) m (fun z r0 r1 r2 M' => finH prg z [(.cell 4 24, r0), (.tmp 5, r1), (.tmp 6, r2)] M')) (fillW 0 [t0, t1] fun _ => .tup [])) ⟨[], 0⟩).trans ?_)
  · kernel_rfl
  · kernel_rfl
theorem q17 {kn : Nat → Bool} (hk : kn 17 = false) (n m : Nat) (t0 t1 : W) : callH prg tabH kn (n + 1) m 17 [t0, t1] = d17 (callH prg tabH kn n m) m (fun z r0 r1 r2 r3 M' => finH prg z [(.cell 4 24, r0), (.tmp 5, r1), (.tmp 6, r2), (.tmp 7, r3)] M') t0 t1 ⟨[], 0⟩ := by
  refine (call_hk hk (hf := hf17) (by kernel_rfl) (by kernel_rfl)).trans ?_
  refine Eq.trans ?_ ((congrFun (congrFun (z17 (callH prg tabH kn n m) m (fun z r0 r1 r2 r3 M' => finH prg z [(.cell 4 24, r0), (.tmp 5, r1), (.tmp 6, r2), (.tmp 7, r3)] M')) (fillW 0 [t0, t1] fun _ => .tup [])) ⟨[], 0⟩).trans ?_)
  · kernel_rfl
  · kernel_rfl
theorem q18 {kn : Nat → Bool} (hk : kn 18 = false) (n m : Nat) (t0 : W) : callH prg tabH kn (n + 1) m 18 [t0] = d18 (callH prg tabH kn n m) m (fun z r0 M' => finH prg z [(.cell 2 24, r0)] M') t0 ⟨[], 0⟩ := by
  refine (call_hk hk (hf := hf18) (by kernel_rfl) (by kernel_rfl)).trans ?_
  refine Eq.trans ?_ ((congrFun (congrFun (z18 (callH prg tabH kn n m) m (fun z r0 M' => finH prg z [(.cell 2 24, r0)] M')) (fillW 0 [t0] fun _ => .tup [])) ⟨[], 0⟩).trans ?_)
  · kernel_rfl
  · kernel_rfl
theorem q19 {kn : Nat → Bool} (hk : kn 19 = false) (n m : Nat) (t0 t1 : W) : callH prg tabH kn (n + 1) m 19 [t0, t1] = d19 (callH prg tabH kn n m) m (fun z r0 r1 r2 M' => finH prg z [(.cell 4 24, r0), (.tmp 5, r1), (.tmp 6, r2)] M') t0 t1 ⟨[], 0⟩ := by
  refine (call_hk hk (hf := hf19) (by kernel_rfl) (by kernel_rfl)).trans ?_
  refine Eq.trans ?_ ((congrFun (congrFun (z19 (callH prg tabH kn n m) m (fun z r0 r1 r2 M' => finH prg z [(.cell 4 24, r0), (.tmp 5, r1), (.tmp 6, r2)] M')) (fillW 0 [t0, t1] fun _ => .tup [])) ⟨[], 0⟩).trans ?_)
  · kernel_rfl
  · kernel_rfl
theorem q20 {kn : Nat → Bool} (hk : kn 20 = false) (n m : Nat) (t0 t1 : W) : callH prg tabH kn (n + 1) m 20 [t0, t1] = d20 (callH prg tabH kn n m) m (fun z r0 r1 r2 M' => finH prg z [(.cell 4 24, r0), (.tmp 5, r1), (.tmp 6, r2)] M') t0 t1 ⟨[], 0⟩ := by
  refine (call_hk hk (hf := hf20) (by kernel_rfl) (by kernel_rfl)).trans ?_
  refine Eq.trans ?_ ((congrFun (congrFun (z20 (callH prg tabH kn n m) m (fun z r0 r1 r2 M' => finH prg z [(.cell 4 24, r0), (.tmp 5, r1), (.tmp 6, r2)] M')) (fillW 0 [t0, t1] fun _ => .tup [])) ⟨[], 0⟩).trans ?_)
  · kernel_rfl
  · kernel_rfl
theorem q21 {kn : Nat → Bool} (hk : kn 21 = false) (n m : Nat) (t0 t1 : W) : callH prg tabH kn (n + 1) m 21 [t0, t1] = d21 (callH prg tabH kn n m) m (fun z r0 r1 M' => finH prg z [(.tmp 4, r0), (.tmp 5, r1)] M') t0 t1 ⟨[], 0⟩ := by
  refine (call_hk hk (hf := hf21) (by kernel_rfl) (by kernel_rfl)).trans ?_
  refine Eq.trans ?_ ((congrFun (congrFun (z21 (callH prg tabH kn n m) m (fun z r0 r1 M' => finH prg z [(.tmp 4, r0), (.tmp 5, r1)] M')) (fillW 0 [t0, t1] fun _ => .tup [])) ⟨[], 0⟩).trans ?_)
  · kernel_rfl
  · kernel_rfl
theorem q22 {kn : Nat → Bool} (hk : kn 22 = false) (n m : Nat) (t0 t1 : W) : callH prg tabH kn (n + 1) m 22 [t0, t1] = d22 (callH prg tabH kn n m) m (fun z r0 M' => finH prg z [(.tmp 4, r0)] M') t0 t1 ⟨[], 0⟩ := by
  refine (call_hk hk (hf := hf22) (by kernel_rfl) (by kernel_rfl)).trans ?_
  refine Eq.trans ?_ ((congrFun (congrFun (z22 (callH prg tabH kn n m) m (fun z r0 M' => finH prg z [(.tmp 4, r0)] M')) (fillW 0 [t0, t1] fun _ => .tup [])) ⟨[], 0⟩).trans ?_)
  · kernel_rfl
  · kernel_rfl
theorem q30 {kn : Nat → Bool} (hk : kn 30 = false) (n m : Nat) (t0 : W) : callH prg tabH kn (n + 1) m 30 [t0] = d30 (callH prg tabH kn n m) m (fun z r0 M' => finH prg z [(.tmp 2, r0)] M') t0 ⟨[], 0⟩ := by
  refine (call_hk hk (hf := hf30) (by kernel_rfl) (by kernel_rfl)).trans ?_
  refine Eq.trans ?_ ((congrFun (congrFun (z30 (callH prg tabH kn n m) m (fun z r0 M' => finH prg z [(.tmp 2, r0)] M')) (fillW 0 [t0] fun _ => .tup [])) ⟨[], 0⟩).trans ?_)
  · kernel_rfl
  · kernel_rfl
theorem q31 {kn : Nat → Bool} (hk : kn 31 = false) (n m : Nat) (t0 : W) : callH prg tabH kn (n + 1) m 31 [t0] = d31 (callH prg tabH kn n m) m (fun z r0 M' => finH prg z [(.tmp 2, r0)] M') t0 ⟨[], 0⟩ := by
  refine (call_hk hk (hf := hf31) (by kernel_rfl) (by kernel_rfl)).trans ?_
  refine Eq.trans ?_ ((congrFun (congrFun (z31 (callH prg tabH kn n m) m (fun z r0 M' => finH prg z [(.tmp 2, r0)] M')) (fillW 0 [t0] fun _ => .tup [])) ⟨[], 0⟩).trans ?_)
  · kernel_rfl
  · kernel_rfl
theorem q32 {kn : Nat → Bool} (hk : kn 32 = false) (n m : Nat) (t0 : W) : callH prg tabH kn (n + 1) m 32 [t0] = d32 (callH prg tabH kn n m) m (fun z r0 M' => finH prg z [(.tmp 2, r0)] M') t0 ⟨[], 0⟩ := by
  refine (call_hk hk (hf := hf32) (by kernel_rfl) (by kernel_rfl)).trans ?_
  refine Eq.trans ?_ ((congrFun (congrFun (z32 (callH prg tabH kn n m) m (fun z r0 M' => finH prg z [(.tmp 2, r0)] M')) (fillW 0 [t0] fun _ => .tup [])) ⟨[], 0⟩).trans ?_)
  · kernel_rfl
  · kernel_rfl
theorem q33 {kn : Nat → Bool} (hk : kn 33 = false) (n m : Nat) (t0 t1 t2 : W) : callH prg tabH kn (n + 1) m 33 [t0, t1, t2] = d33 (callH prg tabH kn n m) m (fun z r0 M' => finH prg z [(.tmp 6, r0)] M') t0 t1 t2 ⟨[], 0⟩ := by
  refine (call_hk hk (hf := hf33) (by kernel_rfl) (by kernel_rfl)).trans ?_
  refine Eq.trans ?_ ((congrFun (congrFun (z33 (callH prg tabH kn n m) m (fun z r0 M' => finH prg z [(.tmp 6, r0)] M')) (fillW 0 [t0, t1, t2] fun _ => .tup [])) ⟨[], 0⟩).trans ?_)
  · kernel_rfl
  · kernel_rfl
theorem q34 {kn : Nat → Bool} (hk : kn 34 = false) (n m : Nat) (t0 t1 : W) : callH prg tabH kn (n + 1) m 34 [t0, t1] = d34 (callH prg tabH kn n m) m (fun z r0 M' => finH prg z [(.tmp 4, r0)] M') t0 t1 ⟨[], 0⟩ := by
  refine (call_hk hk (hf := hf34) (by kernel_rfl) (by kernel_rfl)).trans ?_
  refine Eq.trans ?_ ((congrFun (congrFun (z34 (callH prg tabH kn n m) m (fun z r0 M' => finH prg z [(.tmp 4, r0)] M')) (fillW 0 [t0, t1] fun _ => .tup [])) ⟨[], 0⟩).trans ?_)
  · kernel_rfl
  · kernel_rfl
theorem q36 {kn : Nat → Bool} (hk : kn 36 = false) (n m : Nat) (t0 t1 : W) : callH prg tabH kn (n + 1) m 36 [t0, t1] = d36 (callH prg tabH kn n m) m (fun z r0 M' => finH prg z [(.tmp 4, r0)] M') t0 t1 ⟨[], 0⟩ := by
  refine (call_hk hk (hf := hf36) (by kernel_rfl) (by kernel_rfl)).trans ?_
  refine Eq.trans ?_ ((congrFun (congrFun (z36 (callH prg tabH kn n m) m (fun z r0 M' => finH prg z [(.tmp 4, r0)] M')) (fillW 0 [t0, t1] fun _ => .tup [])) ⟨[], 0⟩).trans ?_)
  · kernel_rfl
  · kernel_rfl
theorem q37 {kn : Nat → Bool} (hk : kn 37 = false) (n m : Nat) (t0 : W) : callH prg tabH kn (n + 1) m 37 [t0] = d37 (callH prg tabH kn n m) m (fun z r0 M' => finH prg z [(.tmp 2, r0)] M') t0 ⟨[], 0⟩ := by
  refine (call_hk hk (hf := hf37) (by kernel_rfl) (by kernel_rfl)).trans ?_
  refine Eq.trans ?_ ((congrFun (congrFun (z37 (callH prg tabH kn n m) m (fun z r0 M' => finH prg z [(.tmp 2, r0)] M')) (fillW 0 [t0] fun _ => .tup [])) ⟨[], 0⟩).trans ?_)
  · kernel_rfl
  · kernel_rfl
theorem q38 {kn : Nat → Bool} (hk : kn 38 = false) (n m : Nat) (t0 t1 : W) : callH prg tabH kn (n + 1) m 38 [t0, t1] = d38 (callH prg tabH kn n m) m (fun z r0 M' => finH prg z [(.tmp 4, r0)] M') t0 t1 ⟨[], 0⟩ := by
  refine (call_hk hk (hf := hf38) (by kernel_rfl) (by kernel_rfl)).trans ?_
  refine Eq.trans ?_ ((congrFun (congrFun (z38 (callH prg tabH kn n m) m (fun z r0 M' => finH prg z [(.tmp 4, r0)] M')) (fillW 0 [t0, t1] fun _ => .tup [])) ⟨[], 0⟩).trans ?_)
  · kernel_rfl
  · kernel_rfl
theorem q39 {kn : Nat → Bool} (hk : kn 39 = false) (n m : Nat) (t0 t1 : W) : callH prg tabH kn (n + 1) m 39 [t0, t1] = d39 (callH prg tabH kn n m) m (fun z r0 M' => finH prg z [(.tmp 4, r0)] M') t0 t1 ⟨[], 0⟩ := by
  refine (call_hk hk (hf := hf39) (by kernel_rfl) (by kernel_rfl)).trans ?_
  refine Eq.trans ?_ ((congrFun (congrFun (z39 (callH prg tabH kn n m) m (fun z r0 M' => finH prg z [(.tmp 4, r0)] M')) (fillW 0 [t0, t1] fun _ => .tup [])) ⟨[], 0⟩).trans ?_)
  · kernel_rfl
  · kernel_rfl
end
end Go.Proofs.Ytehbfajmileefaa.Hx
