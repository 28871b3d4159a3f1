/-
  Slots.
-/
import Derived.Test.YtehbfajmileefaaFa
namespace Go.Proofs.Ytehbfajmileefaa.Fx
noncomputable def g0 : G := fun F => F.a.a.a
noncomputable def s0 : S := fun x F => F.u0 fun n => n.u0 fun m => m.u0 fun _ => x
noncomputable def g1 : G := fun F => F.a.a.b
noncomputable def s1 : S := fun x F => F.u0 fun n => n.u0 fun m => m.u1 fun _ => x
noncomputable def g2 : G := fun F => F.a.a.c
noncomputable def s2 : S := fun x F => F.u0 fun n => n.u0 fun m => m.u2 fun _ => x
noncomputable def g3 : G := fun F => F.a.a.d
noncomputable def s3 : S := fun x F => F.u0 fun n => n.u0 fun m => m.u3 fun _ => x
noncomputable def g4 : G := fun F => F.a.a.e
noncomputable def s4 : S := fun x F => F.u0 fun n => n.u0 fun m => m.u4 fun _ => x
noncomputable def g5 : G := fun F => F.a.a.f
noncomputable def s5 : S := fun x F => F.u0 fun n => n.u0 fun m => m.u5 fun _ => x
noncomputable def g6 : G := fun F => F.a.a.g
noncomputable def s6 : S := fun x F => F.u0 fun n => n.u0 fun m => m.u6 fun _ => x
noncomputable def g7 : G := fun F => F.a.a.h
noncomputable def s7 : S := fun x F => F.u0 fun n => n.u0 fun m => m.u7 fun _ => x
noncomputable def g8 : G := fun F => F.a.b.a
noncomputable def s8 : S := fun x F => F.u0 fun n => n.u1 fun m => m.u0 fun _ => x
noncomputable def g9 : G := fun F => F.a.b.b
noncomputable def s9 : S := fun x F => F.u0 fun n => n.u1 fun m => m.u1 fun _ => x
noncomputable def g10 : G := fun F => F.a.b.c
noncomputable def s10 : S := fun x F => F.u0 fun n => n.u1 fun m => m.u2 fun _ => x
noncomputable def g11 : G := fun F => F.a.b.d
noncomputable def s11 : S := fun x F => F.u0 fun n => n.u1 fun m => m.u3 fun _ => x
noncomputable def g12 : G := fun F => F.a.b.e
noncomputable def s12 : S := fun x F => F.u0 fun n => n.u1 fun m => m.u4 fun _ => x
noncomputable def g13 : G := fun F => F.a.b.f
noncomputable def s13 : S := fun x F => F.u0 fun n => n.u1 fun m => m.u5 fun _ => x
noncomputable def g14 : G := fun F => F.a.b.g
noncomputable def s14 : S := fun x F => F.u0 fun n => n.u1 fun m => m.u6 fun _ => x
noncomputable def g15 : G := fun F => F.a.b.h
noncomputable def s15 : S := fun x F => F.u0 fun n => n.u1 fun m => m.u7 fun _ => x
noncomputable def g16 : G := fun F => F.a.c.a
noncomputable def s16 : S := fun x F => F.u0 fun n => n.u2 fun m => m.u0 fun _ => x
noncomputable def g17 : G := fun F => F.a.c.b
noncomputable def s17 : S := fun x F => F.u0 fun n => n.u2 fun m => m.u1 fun _ => x
noncomputable def g18 : G := fun F => F.a.c.c
noncomputable def s18 : S := fun x F => F.u0 fun n => n.u2 fun m => m.u2 fun _ => x
noncomputable def g19 : G := fun F => F.a.c.d
noncomputable def s19 : S := fun x F => F.u0 fun n => n.u2 fun m => m.u3 fun _ => x
noncomputable def g20 : G := fun F => F.a.c.e
noncomputable def s20 : S := fun x F => F.u0 fun n => n.u2 fun m => m.u4 fun _ => x
noncomputable def g21 : G := fun F => F.a.c.f
noncomputable def s21 : S := fun x F => F.u0 fun n => n.u2 fun m => m.u5 fun _ => x
noncomputable def g22 : G := fun F => F.a.c.g
noncomputable def s22 : S := fun x F => F.u0 fun n => n.u2 fun m => m.u6 fun _ => x
noncomputable def g23 : G := fun F => F.a.c.h
noncomputable def s23 : S := fun x F => F.u0 fun n => n.u2 fun m => m.u7 fun _ => x
noncomputable def g24 : G := fun F => F.a.d.a
noncomputable def s24 : S := fun x F => F.u0 fun n => n.u3 fun m => m.u0 fun _ => x
noncomputable def g25 : G := fun F => F.a.d.b
noncomputable def s25 : S := fun x F => F.u0 fun n => n.u3 fun m => m.u1 fun _ => x
noncomputable def g26 : G := fun F => F.a.d.c
noncomputable def s26 : S := fun x F => F.u0 fun n => n.u3 fun m => m.u2 fun _ => x
noncomputable def g27 : G := fun F => F.a.d.d
noncomputable def s27 : S := fun x F => F.u0 fun n => n.u3 fun m => m.u3 fun _ => x
noncomputable def g28 : G := fun F => F.a.d.e
noncomputable def s28 : S := fun x F => F.u0 fun n => n.u3 fun m => m.u4 fun _ => x
noncomputable def g29 : G := fun F => F.a.d.f
noncomputable def s29 : S := fun x F => F.u0 fun n => n.u3 fun m => m.u5 fun _ => x
noncomputable def g30 : G := fun F => F.a.d.g
noncomputable def s30 : S := fun x F => F.u0 fun n => n.u3 fun m => m.u6 fun _ => x
noncomputable def g31 : G := fun F => F.a.d.h
noncomputable def s31 : S := fun x F => F.u0 fun n => n.u3 fun m => m.u7 fun _ => x
noncomputable def g32 : G := fun F => F.a.e.a
noncomputable def s32 : S := fun x F => F.u0 fun n => n.u4 fun m => m.u0 fun _ => x
noncomputable def g33 : G := fun F => F.a.e.b
noncomputable def s33 : S := fun x F => F.u0 fun n => n.u4 fun m => m.u1 fun _ => x
noncomputable def g34 : G := fun F => F.a.e.c
noncomputable def s34 : S := fun x F => F.u0 fun n => n.u4 fun m => m.u2 fun _ => x
noncomputable def g35 : G := fun F => F.a.e.d
noncomputable def s35 : S := fun x F => F.u0 fun n => n.u4 fun m => m.u3 fun _ => x
noncomputable def g36 : G := fun F => F.a.e.e
noncomputable def s36 : S := fun x F => F.u0 fun n => n.u4 fun m => m.u4 fun _ => x
noncomputable def g37 : G := fun F => F.a.e.f
noncomputable def s37 : S := fun x F => F.u0 fun n => n.u4 fun m => m.u5 fun _ => x
noncomputable def g38 : G := fun F => F.a.e.g
noncomputable def s38 : S := fun x F => F.u0 fun n => n.u4 fun m => m.u6 fun _ => x
noncomputable def g39 : G := fun F => F.a.e.h
noncomputable def s39 : S := fun x F => F.u0 fun n => n.u4 fun m => m.u7 fun _ => x
noncomputable def g40 : G := fun F => F.a.f.a
noncomputable def s40 : S := fun x F => F.u0 fun n => n.u5 fun m => m.u0 fun _ => x
noncomputable def g41 : G := fun F => F.a.f.b
noncomputable def s41 : S := fun x F => F.u0 fun n => n.u5 fun m => m.u1 fun _ => x
noncomputable def g42 : G := fun F => F.a.f.c
noncomputable def s42 : S := fun x F => F.u0 fun n => n.u5 fun m => m.u2 fun _ => x
noncomputable def g43 : G := fun F => F.a.f.d
noncomputable def s43 : S := fun x F => F.u0 fun n => n.u5 fun m => m.u3 fun _ => x
noncomputable def g44 : G := fun F => F.a.f.e
noncomputable def s44 : S := fun x F => F.u0 fun n => n.u5 fun m => m.u4 fun _ => x
noncomputable def g45 : G := fun F => F.a.f.f
noncomputable def s45 : S := fun x F => F.u0 fun n => n.u5 fun m => m.u5 fun _ => x
noncomputable def g46 : G := fun F => F.a.f.g
noncomputable def s46 : S := fun x F => F.u0 fun n => n.u5 fun m => m.u6 fun _ => x
noncomputable def g47 : G := fun F => F.a.f.h
noncomputable def s47 : S := fun x F => F.u0 fun n => n.u5 fun m => m.u7 fun _ => x
noncomputable def g48 : G := fun F => F.a.g.a
noncomputable def s48 : S := fun x F => F.u0 fun n => n.u6 fun m => m.u0 fun _ => x
noncomputable def g49 : G := fun F => F.a.g.b
noncomputable def s49 : S := fun x F => F.u0 fun n => n.u6 fun m => m.u1 fun _ => x
noncomputable def g50 : G := fun F => F.a.g.c
noncomputable def s50 : S := fun x F => F.u0 fun n => n.u6 fun m => m.u2 fun _ => x
noncomputable def g51 : G := fun F => F.a.g.d
noncomputable def s51 : S := fun x F => F.u0 fun n => n.u6 fun m => m.u3 fun _ => x
noncomputable def g52 : G := fun F => F.a.g.e
noncomputable def s52 : S := fun x F => F.u0 fun n => n.u6 fun m => m.u4 fun _ => x
noncomputable def g53 : G := fun F => F.a.g.f
noncomputable def s53 : S := fun x F => F.u0 fun n => n.u6 fun m => m.u5 fun _ => x
noncomputable def g54 : G := fun F => F.a.g.g
noncomputable def s54 : S := fun x F => F.u0 fun n => n.u6 fun m => m.u6 fun _ => x
noncomputable def g55 : G := fun F => F.a.g.h
noncomputable def s55 : S := fun x F => F.u0 fun n => n.u6 fun m => m.u7 fun _ => x
noncomputable def g56 : G := fun F => F.a.h.a
noncomputable def s56 : S := fun x F => F.u0 fun n => n.u7 fun m => m.u0 fun _ => x
noncomputable def g57 : G := fun F => F.a.h.b
noncomputable def s57 : S := fun x F => F.u0 fun n => n.u7 fun m => m.u1 fun _ => x
noncomputable def g58 : G := fun F => F.a.h.c
noncomputable def s58 : S := fun x F => F.u0 fun n => n.u7 fun m => m.u2 fun _ => x
noncomputable def g59 : G := fun F => F.a.h.d
noncomputable def s59 : S := fun x F => F.u0 fun n => n.u7 fun m => m.u3 fun _ => x
noncomputable def g60 : G := fun F => F.a.h.e
noncomputable def s60 : S := fun x F => F.u0 fun n => n.u7 fun m => m.u4 fun _ => x
noncomputable def g61 : G := fun F => F.a.h.f
noncomputable def s61 : S := fun x F => F.u0 fun n => n.u7 fun m => m.u5 fun _ => x
noncomputable def g62 : G := fun F => F.a.h.g
noncomputable def s62 : S := fun x F => F.u0 fun n => n.u7 fun m => m.u6 fun _ => x
noncomputable def g63 : G := fun F => F.a.h.h
noncomputable def s63 : S := fun x F => F.u0 fun n => n.u7 fun m => m.u7 fun _ => x
noncomputable def g64 : G := fun F => F.b.a.a
noncomputable def s64 : S := fun x F => F.u1 fun n => n.u0 fun m => m.u0 fun _ => x
noncomputable def g65 : G := fun F => F.b.a.b
noncomputable def s65 : S := fun x F => F.u1 fun n => n.u0 fun m => m.u1 fun _ => x
noncomputable def g66 : G := fun F => F.b.a.c
noncomputable def s66 : S := fun x F => F.u1 fun n => n.u0 fun m => m.u2 fun _ => x
noncomputable def g67 : G := fun F => F.b.a.d
noncomputable def s67 : S := fun x F => F.u1 fun n => n.u0 fun m => m.u3 fun _ => x
noncomputable def g68 : G := fun F => F.b.a.e
noncomputable def s68 : S := fun x F => F.u1 fun n => n.u0 fun m => m.u4 fun _ => x
noncomputable def g69 : G := fun F => F.b.a.f
noncomputable def s69 : S := fun x F => F.u1 fun n => n.u0 fun m => m.u5 fun _ => x
noncomputable def g70 : G := fun F => F.b.a.g
noncomputable def s70 : S := fun x F => F.u1 fun n => n.u0 fun m => m.u6 fun _ => x
noncomputable def g71 : G := fun F => F.b.a.h
noncomputable def s71 : S := fun x F => F.u1 fun n => n.u0 fun m => m.u7 fun _ => x
noncomputable def g72 : G := fun F => F.b.b.a
noncomputable def s72 : S := fun x F => F.u1 fun n => n.u1 fun m => m.u0 fun _ => x
noncomputable def g73 : G := fun F => F.b.b.b
noncomputable def s73 : S := fun x F => F.u1 fun n => n.u1 fun m => m.u1 fun _ => x
noncomputable def g74 : G := fun F => F.b.b.c
noncomputable def s74 : S := fun x F => F.u1 fun n => n.u1 fun m => m.u2 fun _ => x
noncomputable def g75 : G := fun F => F.b.b.d
noncomputable def s75 : S := fun x F => F.u1 fun n => n.u1 fun m => m.u3 fun _ => x
noncomputable def g76 : G := fun F => F.b.b.e
noncomputable def s76 : S := fun x F => F.u1 fun n => n.u1 fun m => m.u4 fun _ => x
noncomputable def g77 : G := fun F => F.b.b.f
noncomputable def s77 : S := fun x F => F.u1 fun n => n.u1 fun m => m.u5 fun _ => x
noncomputable def g78 : G := fun F => F.b.b.g
noncomputable def s78 : S := fun x F => F.u1 fun n => n.u1 fun m => m.u6 fun _ => x
noncomputable def g79 : G := fun F => F.b.b.h
noncomputable def s79 : S := fun x F => F.u1 fun n => n.u1 fun m => m.u7 fun _ => x
noncomputable def g80 : G := fun F => F.b.c.a
noncomputable def s80 : S := fun x F => F.u1 fun n => n.u2 fun m => m.u0 fun _ => x
noncomputable def g81 : G := fun F => F.b.c.b
noncomputable def s81 : S := fun x F => F.u1 fun n => n.u2 fun m => m.u1 fun _ => x
noncomputable def g82 : G := fun F => F.b.c.c
noncomputable def s82 : S := fun x F => F.u1 fun n => n.u2 fun m => m.u2 fun _ => x
noncomputable def g83 : G := fun F => F.b.c.d
noncomputable def s83 : S := fun x F => F.u1 fun n => n.u2 fun m => m.u3 fun _ => x
noncomputable def g84 : G := fun F => F.b.c.e
noncomputable def s84 : S := fun x F => F.u1 fun n => n.u2 fun m => m.u4 fun _ => x
noncomputable def g85 : G := fun F => F.b.c.f
noncomputable def s85 : S := fun x F => F.u1 fun n => n.u2 fun m => m.u5 fun _ => x
noncomputable def g86 : G := fun F => F.b.c.g
noncomputable def s86 : S := fun x F => F.u1 fun n => n.u2 fun m => m.u6 fun _ => x
noncomputable def g87 : G := fun F => F.b.c.h
noncomputable def s87 : S := fun x F => F.u1 fun n => n.u2 fun m => m.u7 fun _ => x
noncomputable def g88 : G := fun F => F.b.d.a
noncomputable def s88 : S := fun x F => F.u1 fun n => n.u3 fun m => m.u0 fun _ => x
noncomputable def g89 : G := fun F => F.b.d.b
noncomputable def s89 : S := fun x F => F.u1 fun n => n.u3 fun m => m.u1 fun _ => x
noncomputable def g90 : G := fun F => F.b.d.c
noncomputable def s90 : S := fun x F => F.u1 fun n => n.u3 fun m => m.u2 fun _ => x
noncomputable def g91 : G := fun F => F.b.d.d
noncomputable def s91 : S := fun x F => F.u1 fun n => n.u3 fun m => m.u3 fun _ => x
noncomputable def g92 : G := fun F => F.b.d.e
noncomputable def s92 : S := fun x F => F.u1 fun n => n.u3 fun m => m.u4 fun _ => x
noncomputable def g93 : G := fun F => F.b.d.f
noncomputable def s93 : S := fun x F => F.u1 fun n => n.u3 fun m => m.u5 fun _ => x
noncomputable def g94 : G := fun F => F.b.d.g
noncomputable def s94 : S := fun x F => F.u1 fun n => n.u3 fun m => m.u6 fun _ => x
noncomputable def g95 : G := fun F => F.b.d.h
noncomputable def s95 : S := fun x F => F.u1 fun n => n.u3 fun m => m.u7 fun _ => x
noncomputable def g96 : G := fun F => F.b.e.a
noncomputable def s96 : S := fun x F => F.u1 fun n => n.u4 fun m => m.u0 fun _ => x
noncomputable def g97 : G := fun F => F.b.e.b
noncomputable def s97 : S := fun x F => F.u1 fun n => n.u4 fun m => m.u1 fun _ => x
noncomputable def g98 : G := fun F => F.b.e.c
noncomputable def s98 : S := fun x F => F.u1 fun n => n.u4 fun m => m.u2 fun _ => x
noncomputable def g99 : G := fun F => F.b.e.d
noncomputable def s99 : S := fun x F => F.u1 fun n => n.u4 fun m => m.u3 fun _ => x
noncomputable def g100 : G := fun F => F.b.e.e
noncomputable def s100 : S := fun x F => F.u1 fun n => n.u4 fun m => m.u4 fun _ => x
noncomputable def g101 : G := fun F => F.b.e.f
noncomputable def s101 : S := fun x F => F.u1 fun n => n.u4 fun m => m.u5 fun _ => x
noncomputable def g102 : G := fun F => F.b.e.g
noncomputable def s102 : S := fun x F => F.u1 fun n => n.u4 fun m => m.u6 fun _ => x
noncomputable def g103 : G := fun F => F.b.e.h
noncomputable def s103 : S := fun x F => F.u1 fun n => n.u4 fun m => m.u7 fun _ => x
noncomputable def g104 : G := fun F => F.b.f.a
noncomputable def s104 : S := fun x F => F.u1 fun n => n.u5 fun m => m.u0 fun _ => x
noncomputable def g105 : G := fun F => F.b.f.b
noncomputable def s105 : S := fun x F => F.u1 fun n => n.u5 fun m => m.u1 fun _ => x
noncomputable def g106 : G := fun F => F.b.f.c
noncomputable def s106 : S := fun x F => F.u1 fun n => n.u5 fun m => m.u2 fun _ => x
noncomputable def g107 : G := fun F => F.b.f.d
noncomputable def s107 : S := fun x F => F.u1 fun n => n.u5 fun m => m.u3 fun _ => x
noncomputable def g108 : G := fun F => F.b.f.e
noncomputable def s108 : S := fun x F => F.u1 fun n => n.u5 fun m => m.u4 fun _ => x
noncomputable def g109 : G := fun F => F.b.f.f
noncomputable def s109 : S := fun x F => F.u1 fun n => n.u5 fun m => m.u5 fun _ => x
noncomputable def g110 : G := fun F => F.b.f.g
noncomputable def s110 : S := fun x F => F.u1 fun n => n.u5 fun m => m.u6 fun _ => x
noncomputable def g111 : G := fun F => F.b.f.h
noncomputable def s111 : S := fun x F => F.u1 fun n => n.u5 fun m => m.u7 fun _ => x
noncomputable def g112 : G := fun F => F.b.g.a
noncomputable def s112 : S := fun x F => F.u1 fun n => n.u6 fun m => m.u0 fun _ => x
noncomputable def g113 : G := fun F => F.b.g.b
noncomputable def s113 : S := fun x F => F.u1 fun n => n.u6 fun m => m.u1 fun _ => x
noncomputable def g114 : G := fun F => F.b.g.c
noncomputable def s114 : S := fun x F => F.u1 fun n => n.u6 fun m => m.u2 fun _ => x
noncomputable def g115 : G := fun F => F.b.g.d
noncomputable def s115 : S := fun x F => F.u1 fun n => n.u6 fun m => m.u3 fun _ => x
noncomputable def g116 : G := fun F => F.b.g.e
noncomputable def s116 : S := fun x F => F.u1 fun n => n.u6 fun m => m.u4 fun _ => x
noncomputable def g117 : G := fun F => F.b.g.f
noncomputable def s117 : S := fun x F => F.u1 fun n => n.u6 fun m => m.u5 fun _ => x
noncomputable def g118 : G := fun F => F.b.g.g
noncomputable def s118 : S := fun x F => F.u1 fun n => n.u6 fun m => m.u6 fun _ => x
noncomputable def g119 : G := fun F => F.b.g.h
noncomputable def s119 : S := fun x F => F.u1 fun n => n.u6 fun m => m.u7 fun _ => x
noncomputable def g120 : G := fun F => F.b.h.a
noncomputable def s120 : S := fun x F => F.u1 fun n => n.u7 fun m => m.u0 fun _ => x
noncomputable def g121 : G := fun F => F.b.h.b
noncomputable def s121 : S := fun x F => F.u1 fun n => n.u7 fun m => m.u1 fun _ => x
noncomputable def g122 : G := fun F => F.b.h.c
noncomputable def s122 : S := fun x F => F.u1 fun n => n.u7 fun m => m.u2 fun _ => x
noncomputable def g123 : G := fun F => F.b.h.d
noncomputable def s123 : S := fun x F => F.u1 fun n => n.u7 fun m => m.u3 fun _ => x
noncomputable def g124 : G := fun F => F.b.h.e
noncomputable def s124 : S := fun x F => F.u1 fun n => n.u7 fun m => m.u4 fun _ => x
noncomputable def g125 : G := fun F => F.b.h.f
noncomputable def s125 : S := fun x F => F.u1 fun n => n.u7 fun m => m.u5 fun _ => x
noncomputable def g126 : G := fun F => F.b.h.g
noncomputable def s126 : S := fun x F => F.u1 fun n => n.u7 fun m => m.u6 fun _ => x
noncomputable def g127 : G := fun F => F.b.h.h
noncomputable def s127 : S := fun x F => F.u1 fun n => n.u7 fun m => m.u7 fun _ => x
noncomputable def g128 : G := fun F => F.c.a.a
noncomputable def s128 : S := fun x F => F.u2 fun n => n.u0 fun m => m.u0 fun _ => x
noncomputable def g129 : G := fun F => F.c.a.b
noncomputable def s129 : S := fun x F => F.u2 fun n => n.u0 fun m => m.u1 fun _ => x
noncomputable def g130 : G := fun F => F.c.a.c
noncomputable def s130 : S := fun x F => F.u2 fun n => n.u0 fun m => m.u2 fun _ => x
noncomputable def g131 : G := fun F => F.c.a.d
noncomputable def s131 : S := fun x F => F.u2 fun n => n.u0 fun m => m.u3 fun _ => x
noncomputable def g132 : G := fun F => F.c.a.e
noncomputable def s132 : S := fun x F => F.u2 fun n => n.u0 fun m => m.u4 fun _ => x
noncomputable def g133 : G := fun F => F.c.a.f
noncomputable def s133 : S := fun x F => F.u2 fun n => n.u0 fun m => m.u5 fun _ => x
noncomputable def g134 : G := fun F => F.c.a.g
noncomputable def s134 : S := fun x F => F.u2 fun n => n.u0 fun m => m.u6 fun _ => x
noncomputable def g135 : G := fun F => F.c.a.h
noncomputable def s135 : S := fun x F => F.u2 fun n => n.u0 fun m => m.u7 fun _ => x
noncomputable def g136 : G := fun F => F.c.b.a
noncomputable def s136 : S := fun x F => F.u2 fun n => n.u1 fun m => m.u0 fun _ => x
noncomputable def g137 : G := fun F => F.c.b.b
noncomputable def s137 : S := fun x F => F.u2 fun n => n.u1 fun m => m.u1 fun _ => x
noncomputable def g138 : G := fun F => F.c.b.c
noncomputable def s138 : S := fun x F => F.u2 fun n => n.u1 fun m => m.u2 fun _ => x
noncomputable def g139 : G := fun F => F.c.b.d
noncomputable def s139 : S := fun x F => F.u2 fun n => n.u1 fun m => m.u3 fun _ => x
noncomputable def g140 : G := fun F => F.c.b.e
noncomputable def s140 : S := fun x F => F.u2 fun n => n.u1 fun m => m.u4 fun _ => x
noncomputable def g141 : G := fun F => F.c.b.f
noncomputable def s141 : S := fun x F => F.u2 fun n => n.u1 fun m => m.u5 fun _ => x
noncomputable def g142 : G := fun F => F.c.b.g
noncomputable def s142 : S := fun x F => F.u2 fun n => n.u1 fun m => m.u6 fun _ => x
noncomputable def g143 : G := fun F => F.c.b.h
noncomputable def s143 : S := fun x F => F.u2 fun n => n.u1 fun m => m.u7 fun _ => x
noncomputable def g144 : G := fun F => F.c.c.a
noncomputable def s144 : S := fun x F => F.u2 fun n => n.u2 fun m => m.u0 fun _ => x
noncomputable def g145 : G := fun F => F.c.c.b
noncomputable def s145 : S := fun x F => F.u2 fun n => n.u2 fun m => m.u1 fun _ => x
noncomputable def g146 : G := fun F => F.c.c.c
noncomputable def s146 : S := fun x F => F.u2 fun n => n.u2 fun m => m.u2 fun _ => x
noncomputable def g147 : G := fun F => F.c.c.d
noncomputable def s147 : S := fun x F => F.u2 fun n => n.u2 fun m => m.u3 fun _ => x
noncomputable def g148 : G := fun F => F.c.c.e
noncomputable def s148 : S := fun x F => F.u2 fun n => n.u2 fun m => m.u4 fun _ => x
noncomputable def g149 : G := fun F => F.c.c.f
noncomputable def s149 : S := fun x F => F.u2 fun n => n.u2 fun m => m.u5 fun _ => x
noncomputable def g150 : G := fun F => F.c.c.g
noncomputable def s150 : S := fun x F => F.u2 fun n => n.u2 fun m => m.u6 fun _ => x
noncomputable def g151 : G := fun F => F.c.c.h
noncomputable def s151 : S := fun x F => F.u2 fun n => n.u2 fun m => m.u7 fun _ => x
noncomputable def g152 : G := fun F => F.c.d.a
noncomputable def s152 : S := fun x F => F.u2 fun n => n.u3 fun m => m.u0 fun _ => x
noncomputable def g153 : G := fun F => F.c.d.b
noncomputable def s153 : S := fun x F => F.u2 fun n => n.u3 fun m => m.u1 fun _ => x
noncomputable def g154 : G := fun F => F.c.d.c
noncomputable def s154 : S := fun x F => F.u2 fun n => n.u3 fun m => m.u2 fun _ => x
noncomputable def g155 : G := fun F => F.c.d.d
noncomputable def s155 : S := fun x F => F.u2 fun n => n.u3 fun m => m.u3 fun _ => x
noncomputable def g156 : G := fun F => F.c.d.e
noncomputable def s156 : S := fun x F => F.u2 fun n => n.u3 fun m => m.u4 fun _ => x
noncomputable def g157 : G := fun F => F.c.d.f
noncomputable def s157 : S := fun x F => F.u2 fun n => n.u3 fun m => m.u5 fun _ => x
noncomputable def g158 : G := fun F => F.c.d.g
noncomputable def s158 : S := fun x F => F.u2 fun n => n.u3 fun m => m.u6 fun _ => x
noncomputable def g159 : G := fun F => F.c.d.h
noncomputable def s159 : S := fun x F => F.u2 fun n => n.u3 fun m => m.u7 fun _ => x
noncomputable def g160 : G := fun F => F.c.e.a
noncomputable def s160 : S := fun x F => F.u2 fun n => n.u4 fun m => m.u0 fun _ => x
noncomputable def g161 : G := fun F => F.c.e.b
noncomputable def s161 : S := fun x F => F.u2 fun n => n.u4 fun m => m.u1 fun _ => x
noncomputable def g162 : G := fun F => F.c.e.c
noncomputable def s162 : S := fun x F => F.u2 fun n => n.u4 fun m => m.u2 fun _ => x
noncomputable def g163 : G := fun F => F.c.e.d
noncomputable def s163 : S := fun x F => F.u2 fun n => n.u4 fun m => m.u3 fun _ => x
noncomputable def g164 : G := fun F => F.c.e.e
noncomputable def s164 : S := fun x F => F.u2 fun n => n.u4 fun m => m.u4 fun _ => x
noncomputable def g165 : G := fun F => F.c.e.f
noncomputable def s165 : S := fun x F => F.u2 fun n => n.u4 fun m => m.u5 fun _ => x
noncomputable def g166 : G := fun F => F.c.e.g
noncomputable def s166 : S := fun x F => F.u2 fun n => n.u4 fun m => m.u6 fun _ => x
noncomputable def g167 : G := fun F => F.c.e.h
noncomputable def s167 : S := fun x F => F.u2 fun n => n.u4 fun m => m.u7 fun _ => x
noncomputable def g168 : G := fun F => F.c.f.a
noncomputable def s168 : S := fun x F => F.u2 fun n => n.u5 fun m => m.u0 fun _ => x
noncomputable def g169 : G := fun F => F.c.f.b
noncomputable def s169 : S := fun x F => F.u2 fun n => n.u5 fun m => m.u1 fun _ => x
noncomputable def g170 : G := fun F => F.c.f.c
noncomputable def s170 : S := fun x F => F.u2 fun n => n.u5 fun m => m.u2 fun _ => x
noncomputable def g171 : G := fun F => F.c.f.d
noncomputable def s171 : S := fun x F => F.u2 fun n => n.u5 fun m => m.u3 fun _ => x
noncomputable def g172 : G := fun F => F.c.f.e
noncomputable def s172 : S := fun x F => F.u2 fun n => n.u5 fun m => m.u4 fun _ => x
noncomputable def g173 : G := fun F => F.c.f.f
noncomputable def s173 : S := fun x F => F.u2 fun n => n.u5 fun m => m.u5 fun _ => x
noncomputable def g174 : G := fun F => F.c.f.g
noncomputable def s174 : S := fun x F => F.u2 fun n => n.u5 fun m => m.u6 fun _ => x
noncomputable def g175 : G := fun F => F.c.f.h
noncomputable def s175 : S := fun x F => F.u2 fun n => n.u5 fun m => m.u7 fun _ => x
noncomputable def g176 : G := fun F => F.c.g.a
noncomputable def s176 : S := fun x F => F.u2 fun n => n.u6 fun m => m.u0 fun _ => x
noncomputable def g177 : G := fun F => F.c.g.b
noncomputable def s177 : S := fun x F => F.u2 fun n => n.u6 fun m => m.u1 fun _ => x
noncomputable def g178 : G := fun F => F.c.g.c
noncomputable def s178 : S := fun x F => F.u2 fun n => n.u6 fun m => m.u2 fun _ => x
noncomputable def g179 : G := fun F => F.c.g.d
noncomputable def s179 : S := fun x F => F.u2 fun n => n.u6 fun m => m.u3 fun _ => x
noncomputable def g180 : G := fun F => F.c.g.e
noncomputable def s180 : S := fun x F => F.u2 fun n => n.u6 fun m => m.u4 fun _ => x
noncomputable def g181 : G := fun F => F.c.g.f
noncomputable def s181 : S := fun x F => F.u2 fun n => n.u6 fun m => m.u5 fun _ => x
noncomputable def g182 : G := fun F => F.c.g.g
noncomputable def s182 : S := fun x F => F.u2 fun n => n.u6 fun m => m.u6 fun _ => x
noncomputable def g183 : G := fun F => F.c.g.h
noncomputable def s183 : S := fun x F => F.u2 fun n => n.u6 fun m => m.u7 fun _ => x
noncomputable def g184 : G := fun F => F.c.h.a
noncomputable def s184 : S := fun x F => F.u2 fun n => n.u7 fun m => m.u0 fun _ => x
noncomputable def g185 : G := fun F => F.c.h.b
noncomputable def s185 : S := fun x F => F.u2 fun n => n.u7 fun m => m.u1 fun _ => x
noncomputable def g186 : G := fun F => F.c.h.c
noncomputable def s186 : S := fun x F => F.u2 fun n => n.u7 fun m => m.u2 fun _ => x
noncomputable def g187 : G := fun F => F.c.h.d
noncomputable def s187 : S := fun x F => F.u2 fun n => n.u7 fun m => m.u3 fun _ => x
noncomputable def g188 : G := fun F => F.c.h.e
noncomputable def s188 : S := fun x F => F.u2 fun n => n.u7 fun m => m.u4 fun _ => x
noncomputable def g189 : G := fun F => F.c.h.f
noncomputable def s189 : S := fun x F => F.u2 fun n => n.u7 fun m => m.u5 fun _ => x
noncomputable def g190 : G := fun F => F.c.h.g
noncomputable def s190 : S := fun x F => F.u2 fun n => n.u7 fun m => m.u6 fun _ => x
noncomputable def g191 : G := fun F => F.c.h.h
noncomputable def s191 : S := fun x F => F.u2 fun n => n.u7 fun m => m.u7 fun _ => x
noncomputable def g192 : G := fun F => F.d.a.a
noncomputable def s192 : S := fun x F => F.u3 fun n => n.u0 fun m => m.u0 fun _ => x
noncomputable def g193 : G := fun F => F.d.a.b
noncomputable def s193 : S := fun x F => F.u3 fun n => n.u0 fun m => m.u1 fun _ => x
noncomputable def g194 : G := fun F => F.d.a.c
noncomputable def s194 : S := fun x F => F.u3 fun n => n.u0 fun m => m.u2 fun _ => x
noncomputable def g195 : G := fun F => F.d.a.d
noncomputable def s195 : S := fun x F => F.u3 fun n => n.u0 fun m => m.u3 fun _ => x
noncomputable def g196 : G := fun F => F.d.a.e
noncomputable def s196 : S := fun x F => F.u3 fun n => n.u0 fun m => m.u4 fun _ => x
noncomputable def g197 : G := fun F => F.d.a.f
noncomputable def s197 : S := fun x F => F.u3 fun n => n.u0 fun m => m.u5 fun _ => x
noncomputable def g198 : G := fun F => F.d.a.g
noncomputable def s198 : S := fun x F => F.u3 fun n => n.u0 fun m => m.u6 fun _ => x
noncomputable def g199 : G := fun F => F.d.a.h
noncomputable def s199 : S := fun x F => F.u3 fun n => n.u0 fun m => m.u7 fun _ => x
noncomputable def g200 : G := fun F => F.d.b.a
noncomputable def s200 : S := fun x F => F.u3 fun n => n.u1 fun m => m.u0 fun _ => x
noncomputable def g201 : G := fun F => F.d.b.b
noncomputable def s201 : S := fun x F => F.u3 fun n => n.u1 fun m => m.u1 fun _ => x
noncomputable def g202 : G := fun F => F.d.b.c
noncomputable def s202 : S := fun x F => F.u3 fun n => n.u1 fun m => m.u2 fun _ => x
noncomputable def g203 : G := fun F => F.d.b.d
noncomputable def s203 : S := fun x F => F.u3 fun n => n.u1 fun m => m.u3 fun _ => x
noncomputable def g204 : G := fun F => F.d.b.e
noncomputable def s204 : S := fun x F => F.u3 fun n => n.u1 fun m => m.u4 fun _ => x
noncomputable def g205 : G := fun F => F.d.b.f
noncomputable def s205 : S := fun x F => F.u3 fun n => n.u1 fun m => m.u5 fun _ => x
noncomputable def g206 : G := fun F => F.d.b.g
noncomputable def s206 : S := fun x F => F.u3 fun n => n.u1 fun m => m.u6 fun _ => x
noncomputable def g207 : G := fun F => F.d.b.h
noncomputable def s207 : S := fun x F => F.u3 fun n => n.u1 fun m => m.u7 fun _ => x
noncomputable def g208 : G := fun F => F.d.c.a
noncomputable def s208 : S := fun x F => F.u3 fun n => n.u2 fun m => m.u0 fun _ => x
noncomputable def g209 : G := fun F => F.d.c.b
noncomputable def s209 : S := fun x F => F.u3 fun n => n.u2 fun m => m.u1 fun _ => x
noncomputable def g210 : G := fun F => F.d.c.c
noncomputable def s210 : S := fun x F => F.u3 fun n => n.u2 fun m => m.u2 fun _ => x
noncomputable def g211 : G := fun F => F.d.c.d
noncomputable def s211 : S := fun x F => F.u3 fun n => n.u2 fun m => m.u3 fun _ => x
noncomputable def g212 : G := fun F => F.d.c.e
noncomputable def s212 : S := fun x F => F.u3 fun n => n.u2 fun m => m.u4 fun _ => x
noncomputable def g213 : G := fun F => F.d.c.f
noncomputable def s213 : S := fun x F => F.u3 fun n => n.u2 fun m => m.u5 fun _ => x
noncomputable def g214 : G := fun F => F.d.c.g
noncomputable def s214 : S := fun x F => F.u3 fun n => n.u2 fun m => m.u6 fun _ => x
noncomputable def g215 : G := fun F => F.d.c.h
noncomputable def s215 : S := fun x F => F.u3 fun n => n.u2 fun m => m.u7 fun _ => x
noncomputable def g216 : G := fun F => F.d.d.a
noncomputable def s216 : S := fun x F => F.u3 fun n => n.u3 fun m => m.u0 fun _ => x
noncomputable def g217 : G := fun F => F.d.d.b
noncomputable def s217 : S := fun x F => F.u3 fun n => n.u3 fun m => m.u1 fun _ => x
noncomputable def g218 : G := fun F => F.d.d.c
noncomputable def s218 : S := fun x F => F.u3 fun n => n.u3 fun m => m.u2 fun _ => x
noncomputable def g219 : G := fun F => F.d.d.d
noncomputable def s219 : S := fun x F => F.u3 fun n => n.u3 fun m => m.u3 fun _ => x
noncomputable def g220 : G := fun F => F.d.d.e
noncomputable def s220 : S := fun x F => F.u3 fun n => n.u3 fun m => m.u4 fun _ => x
noncomputable def g221 : G := fun F => F.d.d.f
noncomputable def s221 : S := fun x F => F.u3 fun n => n.u3 fun m => m.u5 fun _ => x
noncomputable def g222 : G := fun F => F.d.d.g
noncomputable def s222 : S := fun x F => F.u3 fun n => n.u3 fun m => m.u6 fun _ => x
noncomputable def g223 : G := fun F => F.d.d.h
noncomputable def s223 : S := fun x F => F.u3 fun n => n.u3 fun m => m.u7 fun _ => x
noncomputable def g224 : G := fun F => F.d.e.a
noncomputable def s224 : S := fun x F => F.u3 fun n => n.u4 fun m => m.u0 fun _ => x
noncomputable def g225 : G := fun F => F.d.e.b
noncomputable def s225 : S := fun x F => F.u3 fun n => n.u4 fun m => m.u1 fun _ => x
noncomputable def g226 : G := fun F => F.d.e.c
noncomputable def s226 : S := fun x F => F.u3 fun n => n.u4 fun m => m.u2 fun _ => x
noncomputable def g227 : G := fun F => F.d.e.d
noncomputable def s227 : S := fun x F => F.u3 fun n => n.u4 fun m => m.u3 fun _ => x
noncomputable def g228 : G := fun F => F.d.e.e
noncomputable def s228 : S := fun x F => F.u3 fun n => n.u4 fun m => m.u4 fun _ => x
noncomputable def g229 : G := fun F => F.d.e.f
noncomputable def s229 : S := fun x F => F.u3 fun n => n.u4 fun m => m.u5 fun _ => x
noncomputable def g230 : G := fun F => F.d.e.g
noncomputable def s230 : S := fun x F => F.u3 fun n => n.u4 fun m => m.u6 fun _ => x
noncomputable def g231 : G := fun F => F.d.e.h
noncomputable def s231 : S := fun x F => F.u3 fun n => n.u4 fun m => m.u7 fun _ => x
noncomputable def g232 : G := fun F => F.d.f.a
noncomputable def s232 : S := fun x F => F.u3 fun n => n.u5 fun m => m.u0 fun _ => x
noncomputable def g233 : G := fun F => F.d.f.b
noncomputable def s233 : S := fun x F => F.u3 fun n => n.u5 fun m => m.u1 fun _ => x
noncomputable def g234 : G := fun F => F.d.f.c
noncomputable def s234 : S := fun x F => F.u3 fun n => n.u5 fun m => m.u2 fun _ => x
noncomputable def g235 : G := fun F => F.d.f.d
noncomputable def s235 : S := fun x F => F.u3 fun n => n.u5 fun m => m.u3 fun _ => x
noncomputable def g236 : G := fun F => F.d.f.e
noncomputable def s236 : S := fun x F => F.u3 fun n => n.u5 fun m => m.u4 fun _ => x
noncomputable def g237 : G := fun F => F.d.f.f
noncomputable def s237 : S := fun x F => F.u3 fun n => n.u5 fun m => m.u5 fun _ => x
noncomputable def g238 : G := fun F => F.d.f.g
noncomputable def s238 : S := fun x F => F.u3 fun n => n.u5 fun m => m.u6 fun _ => x
noncomputable def g239 : G := fun F => F.d.f.h
noncomputable def s239 : S := fun x F => F.u3 fun n => n.u5 fun m => m.u7 fun _ => x
noncomputable def g240 : G := fun F => F.d.g.a
noncomputable def s240 : S := fun x F => F.u3 fun n => n.u6 fun m => m.u0 fun _ => x
noncomputable def g241 : G := fun F => F.d.g.b
noncomputable def s241 : S := fun x F => F.u3 fun n => n.u6 fun m => m.u1 fun _ => x
noncomputable def g242 : G := fun F => F.d.g.c
noncomputable def s242 : S := fun x F => F.u3 fun n => n.u6 fun m => m.u2 fun _ => x
noncomputable def g243 : G := fun F => F.d.g.d
noncomputable def s243 : S := fun x F => F.u3 fun n => n.u6 fun m => m.u3 fun _ => x
noncomputable def g244 : G := fun F => F.d.g.e
noncomputable def s244 : S := fun x F => F.u3 fun n => n.u6 fun m => m.u4 fun _ => x
noncomputable def g245 : G := fun F => F.d.g.f
noncomputable def s245 : S := fun x F => F.u3 fun n => n.u6 fun m => m.u5 fun _ => x
noncomputable def g246 : G := fun F => F.d.g.g
noncomputable def s246 : S := fun x F => F.u3 fun n => n.u6 fun m => m.u6 fun _ => x
noncomputable def g247 : G := fun F => F.d.g.h
noncomputable def s247 : S := fun x F => F.u3 fun n => n.u6 fun m => m.u7 fun _ => x
noncomputable def g248 : G := fun F => F.d.h.a
noncomputable def s248 : S := fun x F => F.u3 fun n => n.u7 fun m => m.u0 fun _ => x
noncomputable def g249 : G := fun F => F.d.h.b
noncomputable def s249 : S := fun x F => F.u3 fun n => n.u7 fun m => m.u1 fun _ => x
noncomputable def g250 : G := fun F => F.d.h.c
noncomputable def s250 : S := fun x F => F.u3 fun n => n.u7 fun m => m.u2 fun _ => x
noncomputable def g251 : G := fun F => F.d.h.d
noncomputable def s251 : S := fun x F => F.u3 fun n => n.u7 fun m => m.u3 fun _ => x
noncomputable def g252 : G := fun F => F.d.h.e
noncomputable def s252 : S := fun x F => F.u3 fun n => n.u7 fun m => m.u4 fun _ => x
noncomputable def g253 : G := fun F => F.d.h.f
noncomputable def s253 : S := fun x F => F.u3 fun n => n.u7 fun m => m.u5 fun _ => x
noncomputable def g254 : G := fun F => F.d.h.g
noncomputable def s254 : S := fun x F => F.u3 fun n => n.u7 fun m => m.u6 fun _ => x
noncomputable def g255 : G := fun F => F.d.h.h
noncomputable def s255 : S := fun x F => F.u3 fun n => n.u7 fun m => m.u7 fun _ => x
noncomputable def g256 : G := fun F => F.e.a.a
noncomputable def s256 : S := fun x F => F.u4 fun n => n.u0 fun m => m.u0 fun _ => x
noncomputable def g257 : G := fun F => F.e.a.b
noncomputable def s257 : S := fun x F => F.u4 fun n => n.u0 fun m => m.u1 fun _ => x
noncomputable def g258 : G := fun F => F.e.a.c
noncomputable def s258 : S := fun x F => F.u4 fun n => n.u0 fun m => m.u2 fun _ => x
noncomputable def g259 : G := fun F => F.e.a.d
noncomputable def s259 : S := fun x F => F.u4 fun n => n.u0 fun m => m.u3 fun _ => x
noncomputable def g260 : G := fun F => F.e.a.e
noncomputable def s260 : S := fun x F => F.u4 fun n => n.u0 fun m => m.u4 fun _ => x
noncomputable def g261 : G := fun F => F.e.a.f
noncomputable def s261 : S := fun x F => F.u4 fun n => n.u0 fun m => m.u5 fun _ => x
noncomputable def g262 : G := fun F => F.e.a.g
noncomputable def s262 : S := fun x F => F.u4 fun n => n.u0 fun m => m.u6 fun _ => x
noncomputable def g263 : G := fun F => F.e.a.h
noncomputable def s263 : S := fun x F => F.u4 fun n => n.u0 fun m => m.u7 fun _ => x
noncomputable def g264 : G := fun F => F.e.b.a
noncomputable def s264 : S := fun x F => F.u4 fun n => n.u1 fun m => m.u0 fun _ => x
noncomputable def g265 : G := fun F => F.e.b.b
noncomputable def s265 : S := fun x F => F.u4 fun n => n.u1 fun m => m.u1 fun _ => x
noncomputable def g266 : G := fun F => F.e.b.c
noncomputable def s266 : S := fun x F => F.u4 fun n => n.u1 fun m => m.u2 fun _ => x
noncomputable def g267 : G := fun F => F.e.b.d
noncomputable def s267 : S := fun x F => F.u4 fun n => n.u1 fun m => m.u3 fun _ => x
noncomputable def g268 : G := fun F => F.e.b.e
noncomputable def s268 : S := fun x F => F.u4 fun n => n.u1 fun m => m.u4 fun _ => x
noncomputable def g269 : G := fun F => F.e.b.f
noncomputable def s269 : S := fun x F => F.u4 fun n => n.u1 fun m => m.u5 fun _ => x
noncomputable def g270 : G := fun F => F.e.b.g
noncomputable def s270 : S := fun x F => F.u4 fun n => n.u1 fun m => m.u6 fun _ => x
noncomputable def g271 : G := fun F => F.e.b.h
noncomputable def s271 : S := fun x F => F.u4 fun n => n.u1 fun m => m.u7 fun _ => x
noncomputable def g272 : G := fun F => F.e.c.a
noncomputable def s272 : S := fun x F => F.u4 fun n => n.u2 fun m => m.u0 fun _ => x
noncomputable def g273 : G := fun F => F.e.c.b
noncomputable def s273 : S := fun x F => F.u4 fun n => n.u2 fun m => m.u1 fun _ => x
noncomputable def g274 : G := fun F => F.e.c.c
noncomputable def s274 : S := fun x F => F.u4 fun n => n.u2 fun m => m.u2 fun _ => x
noncomputable def g275 : G := fun F => F.e.c.d
noncomputable def s275 : S := fun x F => F.u4 fun n => n.u2 fun m => m.u3 fun _ => x
noncomputable def g276 : G := fun F => F.e.c.e
noncomputable def s276 : S := fun x F => F.u4 fun n => n.u2 fun m => m.u4 fun _ => x
noncomputable def g277 : G := fun F => F.e.c.f
noncomputable def s277 : S := fun x F => F.u4 fun n => n.u2 fun m => m.u5 fun _ => x
noncomputable def g278 : G := fun F => F.e.c.g
noncomputable def s278 : S := fun x F => F.u4 fun n => n.u2 fun m => m.u6 fun _ => x
noncomputable def g279 : G := fun F => F.e.c.h
noncomputable def s279 : S := fun x F => F.u4 fun n => n.u2 fun m => m.u7 fun _ => x
noncomputable def g280 : G := fun F => F.e.d.a
noncomputable def s280 : S := fun x F => F.u4 fun n => n.u3 fun m => m.u0 fun _ => x
noncomputable def g281 : G := fun F => F.e.d.b
noncomputable def s281 : S := fun x F => F.u4 fun n => n.u3 fun m => m.u1 fun _ => x
noncomputable def g282 : G := fun F => F.e.d.c
noncomputable def s282 : S := fun x F => F.u4 fun n => n.u3 fun m => m.u2 fun _ => x
noncomputable def g283 : G := fun F => F.e.d.d
noncomputable def s283 : S := fun x F => F.u4 fun n => n.u3 fun m => m.u3 fun _ => x
noncomputable def g284 : G := fun F => F.e.d.e
noncomputable def s284 : S := fun x F => F.u4 fun n => n.u3 fun m => m.u4 fun _ => x
noncomputable def g285 : G := fun F => F.e.d.f
noncomputable def s285 : S := fun x F => F.u4 fun n => n.u3 fun m => m.u5 fun _ => x
noncomputable def g286 : G := fun F => F.e.d.g
noncomputable def s286 : S := fun x F => F.u4 fun n => n.u3 fun m => m.u6 fun _ => x
noncomputable def g287 : G := fun F => F.e.d.h
noncomputable def s287 : S := fun x F => F.u4 fun n => n.u3 fun m => m.u7 fun _ => x
noncomputable def g288 : G := fun F => F.e.e.a
noncomputable def s288 : S := fun x F => F.u4 fun n => n.u4 fun m => m.u0 fun _ => x
noncomputable def g289 : G := fun F => F.e.e.b
noncomputable def s289 : S := fun x F => F.u4 fun n => n.u4 fun m => m.u1 fun _ => x
noncomputable def g290 : G := fun F => F.e.e.c
noncomputable def s290 : S := fun x F => F.u4 fun n => n.u4 fun m => m.u2 fun _ => x
noncomputable def g291 : G := fun F => F.e.e.d
noncomputable def s291 : S := fun x F => F.u4 fun n => n.u4 fun m => m.u3 fun _ => x
noncomputable def g292 : G := fun F => F.e.e.e
noncomputable def s292 : S := fun x F => F.u4 fun n => n.u4 fun m => m.u4 fun _ => x
noncomputable def g293 : G := fun F => F.e.e.f
noncomputable def s293 : S := fun x F => F.u4 fun n => n.u4 fun m => m.u5 fun _ => x
noncomputable def g294 : G := fun F => F.e.e.g
noncomputable def s294 : S := fun x F => F.u4 fun n => n.u4 fun m => m.u6 fun _ => x
noncomputable def g295 : G := fun F => F.e.e.h
noncomputable def s295 : S := fun x F => F.u4 fun n => n.u4 fun m => m.u7 fun _ => x
noncomputable def g296 : G := fun F => F.e.f.a
noncomputable def s296 : S := fun x F => F.u4 fun n => n.u5 fun m => m.u0 fun _ => x
noncomputable def g297 : G := fun F => F.e.f.b
noncomputable def s297 : S := fun x F => F.u4 fun n => n.u5 fun m => m.u1 fun _ => x
noncomputable def g298 : G := fun F => F.e.f.c
noncomputable def s298 : S := fun x F => F.u4 fun n => n.u5 fun m => m.u2 fun _ => x
noncomputable def g299 : G := fun F => F.e.f.d
noncomputable def s299 : S := fun x F => F.u4 fun n => n.u5 fun m => m.u3 fun _ => x
noncomputable def g300 : G := fun F => F.e.f.e
noncomputable def s300 : S := fun x F => F.u4 fun n => n.u5 fun m => m.u4 fun _ => x
noncomputable def g301 : G := fun F => F.e.f.f
noncomputable def s301 : S := fun x F => F.u4 fun n => n.u5 fun m => m.u5 fun _ => x
noncomputable def g302 : G := fun F => F.e.f.g
noncomputable def s302 : S := fun x F => F.u4 fun n => n.u5 fun m => m.u6 fun _ => x
noncomputable def g303 : G := fun F => F.e.f.h
noncomputable def s303 : S := fun x F => F.u4 fun n => n.u5 fun m => m.u7 fun _ => x
noncomputable def g304 : G := fun F => F.e.g.a
noncomputable def s304 : S := fun x F => F.u4 fun n => n.u6 fun m => m.u0 fun _ => x
noncomputable def g305 : G := fun F => F.e.g.b
noncomputable def s305 : S := fun x F => F.u4 fun n => n.u6 fun m => m.u1 fun _ => x
noncomputable def g306 : G := fun F => F.e.g.c
noncomputable def s306 : S := fun x F => F.u4 fun n => n.u6 fun m => m.u2 fun _ => x
noncomputable def g307 : G := fun F => F.e.g.d
noncomputable def s307 : S := fun x F => F.u4 fun n => n.u6 fun m => m.u3 fun _ => x
noncomputable def g308 : G := fun F => F.e.g.e
noncomputable def s308 : S := fun x F => F.u4 fun n => n.u6 fun m => m.u4 fun _ => x
noncomputable def g309 : G := fun F => F.e.g.f
noncomputable def s309 : S := fun x F => F.u4 fun n => n.u6 fun m => m.u5 fun _ => x
noncomputable def g310 : G := fun F => F.e.g.g
noncomputable def s310 : S := fun x F => F.u4 fun n => n.u6 fun m => m.u6 fun _ => x
noncomputable def g311 : G := fun F => F.e.g.h
noncomputable def s311 : S := fun x F => F.u4 fun n => n.u6 fun m => m.u7 fun _ => x
noncomputable def g312 : G := fun F => F.e.h.a
noncomputable def s312 : S := fun x F => F.u4 fun n => n.u7 fun m => m.u0 fun _ => x
noncomputable def g313 : G := fun F => F.e.h.b
noncomputable def s313 : S := fun x F => F.u4 fun n => n.u7 fun m => m.u1 fun _ => x
noncomputable def g314 : G := fun F => F.e.h.c
noncomputable def s314 : S := fun x F => F.u4 fun n => n.u7 fun m => m.u2 fun _ => x
noncomputable def g315 : G := fun F => F.e.h.d
noncomputable def s315 : S := fun x F => F.u4 fun n => n.u7 fun m => m.u3 fun _ => x
noncomputable def g316 : G := fun F => F.e.h.e
noncomputable def s316 : S := fun x F => F.u4 fun n => n.u7 fun m => m.u4 fun _ => x
noncomputable def g317 : G := fun F => F.e.h.f
noncomputable def s317 : S := fun x F => F.u4 fun n => n.u7 fun m => m.u5 fun _ => x
noncomputable def g318 : G := fun F => F.e.h.g
noncomputable def s318 : S := fun x F => F.u4 fun n => n.u7 fun m => m.u6 fun _ => x
noncomputable def g319 : G := fun F => F.e.h.h
noncomputable def s319 : S := fun x F => F.u4 fun n => n.u7 fun m => m.u7 fun _ => x
noncomputable def g511 : G := fun F => F.h.h.h
noncomputable def s511 : S := fun x F => F.u7 fun n => n.u7 fun m => m.u7 fun _ => x
noncomputable def ents : List S := [s0, s1, s2, s3, s4, s5, s6, s7, s8, s9, s10, s11, s12, s13, s14, s15, s16, s17, s18, s19, s20, s21, s22, s23]
end Go.Proofs.Ytehbfajmileefaa.Fx
