import Derived.Test.YtmlnglillgplfaaGreatBs
import Derived.Laws.Tables
namespace Go.Proofs.YtmlnglillgplfaaGreat.Cl
open Go.RowKit
set_option linter.unusedVariables false
theorem setCells_new1 (w : World) (ty : TypeId) : ∀ (vs : List Value) (o : Nat) (c : Array Value), (w.alloc (.cells c ty)).setCells w.heap.size o vs = w.alloc (.cells (ov c o vs) ty)
  | [], o, c => rfl
  | v :: r, o, c => by
    show ((w.alloc (.cells c ty)).setCell ⟨w.heap.size, o, none⟩ v).setCells w.heap.size (o + 1) r = _
    rw [World.setCell_alloc_new, setCells_new1 w ty r (o + 1)]
    rfl
/-- a struct stored into a new variable -/
theorem setCells_new (w : World) (ty : TypeId) (zs vs : List Value) (hl : zs.length = vs.length) : (w.alloc (.cells zs.toArray ty)).setCells w.heap.size 0 vs = w.alloc (.cells vs.toArray ty) := by
  rw [setCells_new1]
  exact congrArg (fun c => w.alloc (Obj.cells c ty)) (ov_eq vs zs [] hl)
theorem there_new (w : World) (ty : TypeId) (c : Array Value) (n : Nat) (hn : n ≤ c.size) : (w.alloc (.cells c ty)).there w.heap.size 0 n := there_of (heap_new w _) 0 n (by omega)
/-- .. by the walk -/
theorem wpList_store_new {ops : Array Oper} {rest : List Oper} {op : Oper} {a : Act} {w : World} {Q : Exit → Act → World → Prop} (ty n : Nat) (x y : Operand) (hgd : op.guard = none) (ho : op.op = .store ty x y)
    (hi : (Tryz.prog.info? ty).map (·.size) = some n) (c vs : Array Value) (b : Nat) (hx : a.eval x = .pointer (some ⟨b, 0, none⟩)) (hy : a.eval y = .agg vs) (hb : b = w.heap.size)
    (hl : c.size = n) (hv : vs.size = n) (h1 : vs.all (·.oneCell') = true)
    (h : wpList Tryz.prog ops Q rest (a.put op.dst undef) (w.alloc (.cells vs ty))) : wpList Tryz.prog ops Q (op :: rest) a (w.alloc (.cells c ty)) := by
  subst hb
  refine wpList_store_mid hgd ty x y ho w.heap.size 0 vs hx hy (there_new w ty c _ (by omega)) (by rw [hv]; exact hi) h1 ?_
  have := setCells_new w ty c.toList vs.toList (by simp [hl, hv])
  simp only [Array.toArray_toList] at this
  rw [this]; exact h
end Go.Proofs.YtmlnglillgplfaaGreat.Cl
