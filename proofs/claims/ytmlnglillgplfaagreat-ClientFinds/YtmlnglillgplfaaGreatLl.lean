import Derived.Test.YtmlnglillgplfaaGreatSt
namespace Go.Proofs.YtmlnglillgplfaaGreat.Cl
open Go.RowKit
set_option linter.unusedVariables false
theorem range_of {w : World} {b : Nat} {c : Array Value} {t : TypeId} (h : w.heap[b]? = some (.cells c t (0, 0))) : w.rangeAt b 0 c.toList := fun j v hv => by
  have : c[j]? = some v := by simpa using hv
  simpa using cellAt h j this
/-- a whole struct loaded -/
theorem wpList_load_all {ops : Array Oper} {rest : List Oper} {op : Oper} {a : Act} {w : World} {Q : Exit → Act → World → Prop} (ty n : Nat) (x : Operand) (hgd : op.guard = none) (ho : op.op = .load ty x)
    (hi : (Tryz.prog.info? ty).map (·.size) = some n) (d : TypeDesc) (hu : Tryz.prog.underlying ty = some d) (hd : d.isRow = true) (b : Nat) (hx : a.eval x = .pointer (some ⟨b, 0, none⟩)) {c : Array Value} {t : TypeId} (hc : w.heap[b]? = some (.cells c t (0, 0)))
    (hl : c.size = n) (h : wpList Tryz.prog ops Q rest (a.put op.dst (.agg c)) w) : wpList Tryz.prog ops Q (op :: rest) a w := by
  refine wpList_load_mid hgd ty x ho b 0 hx c.toList d (range_of hc) hu hd (by simpa [hl] using hi) ?_
  simpa using h
theorem new2 (w : World) (o p : Obj) : ((w.alloc o).alloc p).heap[w.heap.size + 1]? = some p := by
  have := heap_new (w.alloc o) p
  rw [World.size_alloc] at this
  exact this
theorem new3 (w : World) (o p q : Obj) : (((w.alloc o).alloc p).alloc q).heap[w.heap.size + 2]? = some q := by
  have := heap_new ((w.alloc o).alloc p) q
  simp only [World.size_alloc] at this
  exact this
theorem new13 (w : World) (o p q : Obj) : (((w.alloc o).alloc p).alloc q).heap[w.heap.size]? = some o :=
  (Below.heap_alloc _ _ _ (by simp; omega)).trans ((Below.heap_alloc _ _ _ (by simp)).trans (heap_new w o))
theorem new12 (w : World) (o p : Obj) : ((w.alloc o).alloc p).heap[w.heap.size]? = some o := (Below.heap_alloc _ _ _ (by simp)).trans (heap_new w o)
end Go.Proofs.YtmlnglillgplfaaGreat.Cl
