import Derived.Test.YtmlnglillgplfaaGreatLl
import Derived.StillTailTactics
namespace Go.Proofs.YtmlnglillgplfaaGreat.Cl
open Go.RowKit
set_option linter.unusedVariables false
/-- a struct loaded in a region that draws, from a place inside a block -/
theorem wpStill_load {ops : Array Oper} {rest : List Oper} {o : Oper} {a : Act} {w : World} {Q : Act → Prop} (ty n : Nat) (x : Operand) (hgd : o.guard = none) (ho : o.op = .load ty x)
    (hi : (Tryz.prog.info? ty).map (·.size) = some n) (d : TypeDesc) (hu : Tryz.prog.underlying ty = some d) (hd : d.isRow = true) (b off : Nat) (hx : a.eval x = .pointer (some ⟨b, off, none⟩)) (cs : List Value) (hc : w.rangeAt b off cs)
    (hl : cs.length = n) (h : wpStill Tryz.prog ops w Q rest (a.put o.dst (.agg cs.toArray))) : wpStill Tryz.prog ops w Q (o :: rest) a := by
  refine wpStill_step (fun K hK => ?_)
  have hw : Region.wanted o (yielded ops a.tmps) = true := by simp [Region.wanted, hgd]
  rw [if_pos hw]
  unfold Oper.still execOp
  simp only [ho, hx, Instr.loadAt, Instr.sureAddr, Sem.run_bind, Sem.run_pure, Result.andThen_ok, run_loadVar_mid w b off ty cs d hc hu hd (by rw [hl]; exact hi), Oper.stillUpon]
  exact ⟨trivial, hK _ h⟩
theorem range_drawn {w : World} {n b o : Nat} {cs : List Value} (h : w.rangeAt b o cs) : ({ w with drawn := n } : World).rangeAt b o cs := h
/-- cells from a place inside a block -/
theorem range_mid {w : World} {b o : Nat} {c : Array Value} {t : TypeId} (h : w.heap[b]? = some (.cells c t (0, 0))) (cs : List Value) (hs : ∀ j v, cs[j]? = some v → c[o + j]? = some v) : w.rangeAt b o cs := fun j v hv => cellAt h _ (hs j v hv)
theorem size_setCells {b : Nat} : ∀ (vs : List Value) (o : Nat) (w : World), (w.setCells b o vs).heap.size = w.heap.size
  | [], o, w => rfl
  | v :: r, o, w => (size_setCells r (o + 1) _).trans (by simp [World.setCell])
/-- a struct stored into a block that is there -/
theorem wpList_store_all {ops : Array Oper} {rest : List Oper} {op : Oper} {a : Act} {w : World} {Q : Exit → Act → World → Prop} (ty n : Nat) (x y : Operand) (hgd : op.guard = none) (ho : op.op = .store ty x y)
    (hi : (Tryz.prog.info? ty).map (·.size) = some n) (b : Nat) (vs : Array Value) (hx : a.eval x = .pointer (some ⟨b, 0, none⟩)) (hy : a.eval y = .agg vs) {c : Array Value} {t : TypeId} (hc : w.heap[b]? = some (.cells c t (0, 0)))
    (hl : c.size = n) (hv : vs.size = n) (h1 : vs.all (·.oneCell') = true)
    (h : ∀ W, W.heap[b]? = some (.cells vs t (0, 0)) → Kp (fun i => i = b) w W → W.heap.size = w.heap.size → wpList Tryz.prog ops Q rest (a.put op.dst undef) W) : wpList Tryz.prog ops Q (op :: rest) a w := by
  refine wpList_store_mid hgd ty x y ho b 0 vs hx hy (there_of hc 0 _ (by omega)) (by rw [hv]; exact hi) h1 ?_
  refine h _ ?_ (kp_setCells _ 0 _) (size_setCells _ _ _)
  have := setCells_all w c.toList vs.toList (by simpa using hc) (by simp [hl, hv])
  simpa using this
end Go.Proofs.YtmlnglillgplfaaGreat.Cl
