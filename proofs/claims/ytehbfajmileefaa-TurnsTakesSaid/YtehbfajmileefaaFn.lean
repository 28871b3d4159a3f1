/-
  The functions of this seat, for the symbolic executor.
-/
import Derived.Test.YtehbfajmileefaaProg
import Derived.Test.YtehbfajmileefaaVl
namespace Go.Proofs.Ytehbfajmileefaa
open Go.Proofs.Ytehbfajmileefaa.Vx
noncomputable def funs : List (FuncId × Func) := [
  (3, Try.f3),
  (4, Try.f4),
  (5, Try.f5),
  (6, Try.f6),
  (7, Try.f7),
  (8, Try.f8),
  (9, Try.f9),
  (10, Try.f10),
  (11, Try.f11),
  (12, Try.f12),
  (13, Try.f13),
  (14, Try.f14),
  (15, Try.f15),
  (16, Try.f16),
  (17, Try.f17),
  (18, Try.f18),
  (19, Try.f19),
  (20, Try.f20),
  (21, Try.f21),
  (22, Try.f22),
  (23, Try.f23),
  (24, Try.f24),
  (25, Try.f25),
  (26, Try.f26),
  (27, Try.f27),
  (28, Try.f28),
  (29, Try.f29),
  (30, Try.f30),
  (31, Try.f31),
  (32, Try.f32),
  (33, Try.f33),
  (34, Try.f34),
  (35, Try.f35),
  (36, Try.f36),
  (37, Try.f37),
  (38, Try.f38),
  (39, Try.f39)]
theorem funsOk : FunsOk Try.prog funs :=
  .cons Try.func3 (by kernel_rfl) (by kernel_rfl) <|
  .cons Try.func4 (by kernel_rfl) (by kernel_rfl) <|
  .cons Try.func5 (by kernel_rfl) (by kernel_rfl) <|
  .cons Try.func6 (by kernel_rfl) (by kernel_rfl) <|
  .cons Try.func7 (by kernel_rfl) (by kernel_rfl) <|
  .cons Try.func8 (by kernel_rfl) (by kernel_rfl) <|
  .cons Try.func9 (by kernel_rfl) (by kernel_rfl) <|
  .cons Try.func10 (by kernel_rfl) (by kernel_rfl) <|
  .cons Try.func11 (by kernel_rfl) (by kernel_rfl) <|
  .cons Try.func12 (by kernel_rfl) (by kernel_rfl) <|
  .cons Try.func13 (by kernel_rfl) (by kernel_rfl) <|
  .cons Try.func14 (by kernel_rfl) (by kernel_rfl) <|
  .cons Try.func15 (by kernel_rfl) (by kernel_rfl) <|
  .cons Try.func16 (by kernel_rfl) (by kernel_rfl) <|
  .cons Try.func17 (by kernel_rfl) (by kernel_rfl) <|
  .cons Try.func18 (by kernel_rfl) (by kernel_rfl) <|
  .cons Try.func19 (by kernel_rfl) (by kernel_rfl) <|
  .cons Try.func20 (by kernel_rfl) (by kernel_rfl) <|
  .cons Try.func21 (by kernel_rfl) (by kernel_rfl) <|
  .cons Try.func22 (by kernel_rfl) (by kernel_rfl) <|
  .cons Try.func23 (by kernel_rfl) (by kernel_rfl) <|
  .cons Try.func24 (by kernel_rfl) (by kernel_rfl) <|
  .cons Try.func25 (by kernel_rfl) (by kernel_rfl) <|
  .cons Try.func26 (by kernel_rfl) (by kernel_rfl) <|
  .cons Try.func27 (by kernel_rfl) (by kernel_rfl) <|
  .cons Try.func28 (by kernel_rfl) (by kernel_rfl) <|
  .cons Try.func29 (by kernel_rfl) (by kernel_rfl) <|
  .cons Try.func30 (by kernel_rfl) (by kernel_rfl) <|
  .cons Try.func31 (by kernel_rfl) (by kernel_rfl) <|
  .cons Try.func32 (by kernel_rfl) (by kernel_rfl) <|
  .cons Try.func33 (by kernel_rfl) (by kernel_rfl) <|
  .cons Try.func34 (by kernel_rfl) (by kernel_rfl) <|
  .cons Try.func35 (by kernel_rfl) (by kernel_rfl) <|
  .cons Try.func36 (by kernel_rfl) (by kernel_rfl) <|
  .cons Try.func37 (by kernel_rfl) (by kernel_rfl) <|
  .cons Try.func38 (by kernel_rfl) (by kernel_rfl) <|
  .cons Try.func39 (by kernel_rfl) (by kernel_rfl) <|
  .nil
theorem follows : Try.prog.follows .mixedOrders = true := by kernel_rfl
end Go.Proofs.Ytehbfajmileefaa
