/-
  The functions are what the program's text says.
-/
import Derived.Test.YtbmflenlbbgjiaaFc
import Derived.Test.YtbmflenlbbgjiaaFh
set_option maxRecDepth 100000
namespace Go.Proofs.Ytbmflenlbbgjiaa.Fx
open Go.Proofs.Ytbmflenlbbgjiaa.Vx
theorem e3 : EOk prg funs 3 ff3 := ⟨Try.f3, b3, Try.func3, by kernel_rfl, by kernel_rfl, by kernel_rfl, by kernel_rfl⟩
theorem e4 : EOk prg funs 4 ff4 := ⟨Try.f4, b4, Try.func4, by kernel_rfl, by kernel_rfl, by kernel_rfl, by kernel_rfl⟩
theorem e5 : EOk prg funs 5 ff5 := ⟨Try.f5, b5, Try.func5, by kernel_rfl, by kernel_rfl, by kernel_rfl, by kernel_rfl⟩
theorem e6 : EOk prg funs 6 ff6 := ⟨Try.f6, b6, Try.func6, by kernel_rfl, by kernel_rfl, by kernel_rfl, by kernel_rfl⟩
theorem e7 : EOk prg funs 7 ff7 := ⟨Try.f7, b7, Try.func7, by kernel_rfl, by kernel_rfl, by kernel_rfl, by kernel_rfl⟩
theorem e8 : EOk prg funs 8 ff8 := ⟨Try.f8, b8, Try.func8, by kernel_rfl, by kernel_rfl, by kernel_rfl, by kernel_rfl⟩
theorem e9 : EOk prg funs 9 ff9 := ⟨Try.f9, b9, Try.func9, by kernel_rfl, by kernel_rfl, by kernel_rfl, by kernel_rfl⟩
theorem e10 : EOk prg funs 10 ff10 := ⟨Try.f10, b10, Try.func10, by kernel_rfl, by kernel_rfl, by kernel_rfl, by kernel_rfl⟩
theorem e11 : EOk prg funs 11 ff11 := ⟨Try.f11, b11, Try.func11, by kernel_rfl, by kernel_rfl, by kernel_rfl, by kernel_rfl⟩
theorem e12 : EOk prg funs 12 ff12 := ⟨Try.f12, b12, Try.func12, by kernel_rfl, by kernel_rfl, by kernel_rfl, by kernel_rfl⟩
theorem e13 : EOk prg funs 13 ff13 := ⟨Try.f13, b13, Try.func13, by kernel_rfl, by kernel_rfl, by kernel_rfl, by kernel_rfl⟩
theorem e14 : EOk prg funs 14 ff14 := ⟨Try.f14, b14, Try.func14, by kernel_rfl, by kernel_rfl, by kernel_rfl, by kernel_rfl⟩
theorem e15 : EOk prg funs 15 ff15 := ⟨Try.f15, b15, Try.func15, by kernel_rfl, by kernel_rfl, by kernel_rfl, by kernel_rfl⟩
theorem e16 : EOk prg funs 16 ff16 := ⟨Try.f16, b16, Try.func16, by kernel_rfl, by kernel_rfl, by kernel_rfl, by kernel_rfl⟩
theorem e17 : EOk prg funs 17 ff17 := ⟨Try.f17, b17, Try.func17, by kernel_rfl, by kernel_rfl, by kernel_rfl, by kernel_rfl⟩
theorem e18 : EOk prg funs 18 ff18 := ⟨Try.f18, b18, Try.func18, by kernel_rfl, by kernel_rfl, by kernel_rfl, by kernel_rfl⟩
theorem e19 : EOk prg funs 19 ff19 := ⟨Try.f19, b19, Try.func19, by kernel_rfl, by kernel_rfl, by kernel_rfl, by kernel_rfl⟩
theorem e20 : EOk prg funs 20 ff20 := ⟨Try.f20, b20, Try.func20, by kernel_rfl, by kernel_rfl, by kernel_rfl, by kernel_rfl⟩
theorem e21 : EOk prg funs 21 ff21 := ⟨Try.f21, b21, Try.func21, by kernel_rfl, by kernel_rfl, by kernel_rfl, by kernel_rfl⟩
theorem e22 : EOk prg funs 22 ff22 := ⟨Try.f22, b22, Try.func22, by kernel_rfl, by kernel_rfl, by kernel_rfl, by kernel_rfl⟩
theorem e23 : EOk prg funs 23 ff23 := ⟨Try.f23, b23, Try.func23, by kernel_rfl, by kernel_rfl, by kernel_rfl, by kernel_rfl⟩
theorem e24 : EOk prg funs 24 ff24 := ⟨Try.f24, b24, Try.func24, by kernel_rfl, by kernel_rfl, by kernel_rfl, by kernel_rfl⟩
theorem e25 : EOk prg funs 25 ff25 := ⟨Try.f25, b25, Try.func25, by kernel_rfl, by kernel_rfl, by kernel_rfl, by kernel_rfl⟩
theorem e26 : EOk prg funs 26 ff26 := ⟨Try.f26, b26, Try.func26, by kernel_rfl, by kernel_rfl, by kernel_rfl, by kernel_rfl⟩
theorem e27 : EOk prg funs 27 ff27 := ⟨Try.f27, b27, Try.func27, by kernel_rfl, by kernel_rfl, by kernel_rfl, by kernel_rfl⟩
theorem e28 : EOk prg funs 28 ff28 := ⟨Try.f28, b28, Try.func28, by kernel_rfl, by kernel_rfl, by kernel_rfl, by kernel_rfl⟩
theorem e29 : EOk prg funs 29 ff29 := ⟨Try.f29, b29, Try.func29, by kernel_rfl, by kernel_rfl, by kernel_rfl, by kernel_rfl⟩
theorem e30 : EOk prg funs 30 ff30 := ⟨Try.f30, b30, Try.func30, by kernel_rfl, by kernel_rfl, by kernel_rfl, by kernel_rfl⟩
theorem e31 : EOk prg funs 31 ff31 := ⟨Try.f31, b31, Try.func31, by kernel_rfl, by kernel_rfl, by kernel_rfl, by kernel_rfl⟩
theorem e32 : EOk prg funs 32 ff32 := ⟨Try.f32, b32, Try.func32, by kernel_rfl, by kernel_rfl, by kernel_rfl, by kernel_rfl⟩
theorem e33 : EOk prg funs 33 ff33 := ⟨Try.f33, b33, Try.func33, by kernel_rfl, by kernel_rfl, by kernel_rfl, by kernel_rfl⟩
theorem e34 : EOk prg funs 34 ff34 := ⟨Try.f34, b34, Try.func34, by kernel_rfl, by kernel_rfl, by kernel_rfl, by kernel_rfl⟩
theorem e36 : EOk prg funs 36 ff36 := ⟨Try.f36, b36, Try.func36, by kernel_rfl, by kernel_rfl, by kernel_rfl, by kernel_rfl⟩
theorem e37 : EOk prg funs 37 ff37 := ⟨Try.f37, b37, Try.func37, by kernel_rfl, by kernel_rfl, by kernel_rfl, by kernel_rfl⟩
theorem e39 : EOk prg funs 39 ff39 := ⟨Try.f39, b39, Try.func39, by kernel_rfl, by kernel_rfl, by kernel_rfl, by kernel_rfl⟩
theorem e40 : EOk prg funs 40 ff40 := ⟨Try.f40, b40, Try.func40, by kernel_rfl, by kernel_rfl, by kernel_rfl, by kernel_rfl⟩
theorem e42 : EOk prg funs 42 ff42 := ⟨Try.f42, b42, Try.func42, by kernel_rfl, by kernel_rfl, by kernel_rfl, by kernel_rfl⟩
theorem e43 : EOk prg funs 43 ff43 := ⟨Try.f43, b43, Try.func43, by kernel_rfl, by kernel_rfl, by kernel_rfl, by kernel_rfl⟩
theorem e45 : EOk prg funs 45 ff45 := ⟨Try.f45, b45, Try.func45, by kernel_rfl, by kernel_rfl, by kernel_rfl, by kernel_rfl⟩
theorem tabOk : TT.Ok prg funs tab := ⟨⟨⟨⟨⟨⟨trivial, e3, trivial⟩, e4, trivial⟩, e5, ⟨trivial, e6, trivial⟩⟩, e7, ⟨⟨⟨trivial, e8, trivial⟩, e9, trivial⟩, e10, ⟨trivial, e11, trivial⟩⟩⟩, e12, ⟨⟨⟨⟨trivial, e13, trivial⟩, e14, trivial⟩, e15, ⟨trivial, e16, trivial⟩⟩, e17, ⟨⟨⟨trivial, e18, trivial⟩, e19, trivial⟩, e20, ⟨trivial, e21, trivial⟩⟩⟩⟩, e22, ⟨⟨⟨⟨⟨trivial, e23, trivial⟩, e24, trivial⟩, e25, ⟨trivial, e26, trivial⟩⟩, e27, ⟨⟨⟨trivial, e28, trivial⟩, e29, trivial⟩, e30, ⟨trivial, e31, trivial⟩⟩⟩, e32, ⟨⟨⟨⟨trivial, e33, trivial⟩, e34, trivial⟩, e36, ⟨trivial, e37, trivial⟩⟩, e39, ⟨⟨⟨trivial, e40, trivial⟩, e42, trivial⟩, e43, ⟨trivial, e45, trivial⟩⟩⟩⟩⟩
end Go.Proofs.Ytbmflenlbbgjiaa.Fx
