import Derived.Test.YtbifmcadllilhaaRgJ
namespace Go.Proofs.Ytbifmcadllilhaa.Rg
open Go.RowKit Go.Shelf Go.Sort
open Go.Proofs.Ytbifmcadllilhaa.It
set_option linter.unusedVariables false

theorem wu_add {x : Int} (h0 : 0 ≤ x) (h : x < 18446744073709551615) : IntKind.u64.wrap (x + 1) = x + 1 := by rw [IntKind.wrap_u64]; omega
theorem wu_sub {x : Int} (h0 : 0 < x) (h : x < 18446744073709551616) : IntKind.u64.wrap (x - 1) = x - 1 := by rw [IntKind.wrap_u64]; omega

def aft1 (L : List Sg) (lo o : Int) : Bool := decide (0 < lo ∧ ow L (lo - 1) ≠ o)
def aft2 (L : List Sg) (hi o : Int) : Bool := decide (hi < 18446744073709551615 ∧ ow L (hi + 1) ≠ o)

end Go.Proofs.Ytbifmcadllilhaa.Rg
