import Derived.Test.YtehbfajmileefaaZj
import Derived.Test.YtehbfajmileefaaFn
namespace Go.Proofs.Ytehbfajmileefaa.Px
open Go.RowKit Go.Proofs.Ytehbfajmileefaa.Vx Go.Proofs.Ytehbfajmileefaa.Fx
noncomputable abbrev prg : Program := Try.prog
def jn {α β : Type} (f : α → β) (k : α) : β := f k
end Go.Proofs.Ytehbfajmileefaa.Px
