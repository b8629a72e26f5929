import Derived.Test.YtbifmcadllilhaaRgE
import Derived.Laws.EntriesVeiled
namespace Go.Proofs.Ytbifmcadllilhaa.Rg
open Go.RowKit Go.Shelf Go.Sort
open Go.Proofs.Ytbifmcadllilhaa.It
attribute [local go_sem] Oper.semAt_some
set_option linter.unusedVariables false

theorem set_set3 {w : World} {b : Nat} {x y z x' y' : Value} {t : TypeId} (h : w.heap[b]? = some (.cells #[x, y, z] t (0, 0))) : ((w.setCell ⟨b, 0, none⟩ x').setCell ⟨b, 1, none⟩ y').heap[b]? = some (.cells #[x', y', z] t (0, 0)) := by
  rw [set3 (set3 h 0 x') 1 y']; rfl

end Go.Proofs.Ytbifmcadllilhaa.Rg
