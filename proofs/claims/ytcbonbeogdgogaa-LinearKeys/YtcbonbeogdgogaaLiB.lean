import Derived.Test.YtcbonbeogdgogaaLiA
import Derived.Deep.MidRow
import Derived.Laws.Rows
import Derived.Laws.Tables
import Derived.StillTailTactics
namespace Go.Proofs.Ytcbonbeogdgogaa.Li
open Go.RowKit
set_option linter.unusedVariables false
theorem cellAt {w : World} {b : Nat} {c : Array Value} {ty : TypeId} {v : Value} (h : w.heap[b]? = some (.cells c ty (0, 0))) (i : Nat) (hi : c[i]? = some v) : w.cell? ⟨b, i, none⟩ = some v := by simp [World.cell?, h, hi]
theorem own_base {w : World} {base base' e size n : Nat} {v : Value} {l : List Value} (h : w.ownsRow base e size v n l) (hb : base' ≤ base) : w.ownsRow base' e size v n l := by
  refine ⟨h.1, ?_⟩
  rcases h.2 with h | ⟨g, cap, cur, h1, h2, h3⟩
  · exact .inl h
  · exact .inr ⟨g, cap, cur, h1, Nat.le_trans hb h2, h3⟩
def ov (c : Array Value) : Nat → List Value → Array Value
  | _, [] => c
  | o, v :: r => ov (c.setIfInBounds o v) (o + 1) r
theorem setCells_heap {b : Nat} {ty : TypeId} : ∀ (vs : List Value) (o : Nat) (w : World) (c : Array Value), w.heap[b]? = some (.cells c ty (0, 0)) → (w.setCells b o vs).heap[b]? = some (.cells (ov c o vs) ty (0, 0))
  | [], o, w, c, h => h
  | v :: r, o, w, c, h => setCells_heap r (o + 1) _ _ (set3 h o v)
theorem kp_setCells {b : Nat} : ∀ (vs : List Value) (o : Nat) (w : World), Kp (fun i => i = b) w (w.setCells b o vs)
  | [], o, w => Kp.refl _ _
  | v :: r, o, w => (Kp.setCell w ⟨b, o, none⟩ v).trans (kp_setCells r (o + 1) _) (fun _ _ e => e)
theorem there_of {w : World} {b : Nat} {c : Array Value} {ty : TypeId} (h : w.heap[b]? = some (.cells c ty (0, 0))) (o n : Nat) (hn : o + n ≤ c.size) : w.there b o n := fun j hj => by
  refine ⟨?_, free3 h _⟩
  simp [World.cell?, h]; omega
theorem ov_eq : ∀ (vs zs pre : List Value), zs.length = vs.length → ov (pre ++ zs).toArray pre.length vs = (pre ++ vs).toArray
  | [], [], pre, _ => by simp [ov]
  | [], z :: zs, pre, h => by simp at h
  | v :: vs, [], pre, h => by simp at h
  | v :: vs, z :: zs, pre, h => by
    have ih := ov_eq vs zs (pre ++ [v]) (by simpa using h)
    unfold ov
    rw [List.setIfInBounds_toArray, List.set_append_right _ _ (Nat.le_refl _), Nat.sub_self, List.set_cons_zero]
    simpa using ih
theorem setCells_all {b : Nat} {ty : TypeId} (w : World) (zs vs : List Value) (h : w.heap[b]? = some (.cells zs.toArray ty (0, 0))) (hl : zs.length = vs.length) : (w.setCells b 0 vs).heap[b]? = some (.cells vs.toArray ty (0, 0)) := by
  have := setCells_heap vs 0 w _ h
  rw [this]
  exact congrArg (fun c => some (Obj.cells c ty (0, 0))) (ov_eq vs zs [] hl)
theorem heap_new (w : World) (o : Obj) : (w.alloc o).heap[w.heap.size]? = some o := by
  show (w.heap.push o)[w.heap.size]? = some o
  simp
theorem new_at (w : World) (o : Obj) {w2 : World} (k : Kp Nu (w.alloc o) w2) : w2.heap[w.heap.size]? = some o :=
  (k.block _ (by simp) (fun h => h)).trans (heap_new w o)
theorem results_two {fn : Func} {p u : Tmp} {ty : TypeId} (h : fn.results = #[.cell p ty, .tmp u]) (tmps : Array Value) (w : World) (a : Addr) (v x : Value) (hp : tmps.getD p undef = .pointer (some a)) (hu : tmps.getD u undef = v) (hl : (loadVar ty a).run Try.prog w = .ok x w) :
    (results fn tmps).run Try.prog w = .ok (.tuple #[x, v]) w := by
  rw [results_cell_tmp h, hp, hu]
  simp [asAddr, hl]
theorem setCells_new1 (w : World) (ty : TypeId) : ∀ (vs : List Value) (o : Nat) (c : Array Value), (w.alloc (.cells c ty)).setCells w.heap.size o vs = w.alloc (.cells (ov c o vs) ty)
  | [], o, c => rfl
  | v :: r, o, c => by
    show ((w.alloc (.cells c ty)).setCell ⟨w.heap.size, o, none⟩ v).setCells w.heap.size (o + 1) r = _
    rw [World.setCell_alloc_new, setCells_new1 w ty r (o + 1)]
    rfl
/-- a struct stored into a new variable -/
theorem setCells_new (w : World) (ty : TypeId) (zs vs : List Value) (hl : zs.length = vs.length) : (w.alloc (.cells zs.toArray ty)).setCells w.heap.size 0 vs = w.alloc (.cells vs.toArray ty) := by
  rw [setCells_new1]
  exact congrArg (fun c => w.alloc (Obj.cells c ty)) (ov_eq vs zs [] hl)
theorem there_new (w : World) (ty : TypeId) (c : Array Value) (n : Nat) (hn : n ≤ c.size) : (w.alloc (.cells c ty)).there w.heap.size 0 n := there_of (heap_new w _) 0 n (by omega)
/-- .. by the walk -/
theorem wpList_store_new {ops : Array Oper} {rest : List Oper} {op : Oper} {a : Act} {w : World} {Q : Exit → Act → World → Prop} (ty n : Nat) (x y : Operand) (hgd : op.guard = none) (ho : op.op = .store ty x y)
    (hi : (Try.prog.info? ty).map (·.size) = some n) (c vs : Array Value) (b : Nat) (hx : a.eval x = .pointer (some ⟨b, 0, none⟩)) (hy : a.eval y = .agg vs) (hb : b = w.heap.size)
    (hl : c.size = n) (hv : vs.size = n) (h1 : vs.all (·.oneCell') = true)
    (h : wpList Try.prog ops Q rest (a.put op.dst undef) (w.alloc (.cells vs ty))) : wpList Try.prog ops Q (op :: rest) a (w.alloc (.cells c ty)) := by
  subst hb
  refine wpList_store_mid hgd ty x y ho w.heap.size 0 vs hx hy (there_new w ty c _ (by omega)) (by rw [hv]; exact hi) h1 ?_
  have := setCells_new w ty c.toList vs.toList (by simp [hl, hv])
  simp only [Array.toArray_toList] at this
  rw [this]; exact h
theorem range_of {w : World} {b : Nat} {c : Array Value} {t : TypeId} (h : w.heap[b]? = some (.cells c t (0, 0))) : w.rangeAt b 0 c.toList := fun j v hv => by
  have : c[j]? = some v := by simpa using hv
  simpa using cellAt h j this
/-- a whole struct loaded -/
theorem wpList_load_all {ops : Array Oper} {rest : List Oper} {op : Oper} {a : Act} {w : World} {Q : Exit → Act → World → Prop} (ty n : Nat) (x : Operand) (hgd : op.guard = none) (ho : op.op = .load ty x)
    (hi : (Try.prog.info? ty).map (·.size) = some n) (d : TypeDesc) (hu : Try.prog.underlying ty = some d) (hd : d.isRow = true) (b : Nat) (hx : a.eval x = .pointer (some ⟨b, 0, none⟩)) {c : Array Value} {t : TypeId} (hc : w.heap[b]? = some (.cells c t (0, 0)))
    (hl : c.size = n) (h : wpList Try.prog ops Q rest (a.put op.dst (.agg c)) w) : wpList Try.prog ops Q (op :: rest) a w := by
  refine wpList_load_mid hgd ty x ho b 0 hx c.toList d (range_of hc) hu hd (by simpa [hl] using hi) ?_
  simpa using h
theorem new2 (w : World) (o p : Obj) : ((w.alloc o).alloc p).heap[w.heap.size + 1]? = some p := by
  have := heap_new (w.alloc o) p
  rw [World.size_alloc] at this
  exact this
theorem new3 (w : World) (o p q : Obj) : (((w.alloc o).alloc p).alloc q).heap[w.heap.size + 2]? = some q := by
  have := heap_new ((w.alloc o).alloc p) q
  simp only [World.size_alloc] at this
  exact this
theorem new13 (w : World) (o p q : Obj) : (((w.alloc o).alloc p).alloc q).heap[w.heap.size]? = some o :=
  (Below.heap_alloc _ _ _ (by simp; omega)).trans ((Below.heap_alloc _ _ _ (by simp)).trans (heap_new w o))
theorem new12 (w : World) (o p : Obj) : ((w.alloc o).alloc p).heap[w.heap.size]? = some o := (Below.heap_alloc _ _ _ (by simp)).trans (heap_new w o)
/-- a struct loaded in a region that draws, from a place inside a block -/
theorem wpStill_load {ops : Array Oper} {rest : List Oper} {o : Oper} {a : Act} {w : World} {Q : Act → Prop} (ty n : Nat) (x : Operand) (hgd : o.guard = none) (ho : o.op = .load ty x)
    (hi : (Try.prog.info? ty).map (·.size) = some n) (d : TypeDesc) (hu : Try.prog.underlying ty = some d) (hd : d.isRow = true) (b off : Nat) (hx : a.eval x = .pointer (some ⟨b, off, none⟩)) (cs : List Value) (hc : w.rangeAt b off cs)
    (hl : cs.length = n) (h : wpStill Try.prog ops w Q rest (a.put o.dst (.agg cs.toArray))) : wpStill Try.prog ops w Q (o :: rest) a := by
  refine wpStill_step (fun K hK => ?_)
  have hw : Region.wanted o (yielded ops a.tmps) = true := by simp [Region.wanted, hgd]
  rw [if_pos hw]
  unfold Oper.still execOp
  simp only [ho, hx, Instr.loadAt, Instr.sureAddr, Sem.run_bind, Sem.run_pure, Result.andThen_ok, run_loadVar_mid w b off ty cs d hc hu hd (by rw [hl]; exact hi), Oper.stillUpon]
  exact ⟨trivial, hK _ h⟩
theorem range_drawn {w : World} {n b o : Nat} {cs : List Value} (h : w.rangeAt b o cs) : ({ w with drawn := n } : World).rangeAt b o cs := h
/-- cells from a place inside a block -/
theorem range_mid {w : World} {b o : Nat} {c : Array Value} {t : TypeId} (h : w.heap[b]? = some (.cells c t (0, 0))) (cs : List Value) (hs : ∀ j v, cs[j]? = some v → c[o + j]? = some v) : w.rangeAt b o cs := fun j v hv => cellAt h _ (hs j v hv)
theorem size_setCells {b : Nat} : ∀ (vs : List Value) (o : Nat) (w : World), (w.setCells b o vs).heap.size = w.heap.size
  | [], o, w => rfl
  | v :: r, o, w => (size_setCells r (o + 1) _).trans (by simp [World.setCell])
/-- a struct stored into a block that is there -/
theorem wpList_store_all {ops : Array Oper} {rest : List Oper} {op : Oper} {a : Act} {w : World} {Q : Exit → Act → World → Prop} (ty n : Nat) (x y : Operand) (hgd : op.guard = none) (ho : op.op = .store ty x y)
    (hi : (Try.prog.info? ty).map (·.size) = some n) (b : Nat) (vs : Array Value) (hx : a.eval x = .pointer (some ⟨b, 0, none⟩)) (hy : a.eval y = .agg vs) {c : Array Value} {t : TypeId} (hc : w.heap[b]? = some (.cells c t (0, 0)))
    (hl : c.size = n) (hv : vs.size = n) (h1 : vs.all (·.oneCell') = true)
    (h : ∀ W, W.heap[b]? = some (.cells vs t (0, 0)) → Kp (fun i => i = b) w W → W.heap.size = w.heap.size → wpList Try.prog ops Q rest (a.put op.dst undef) W) : wpList Try.prog ops Q (op :: rest) a w := by
  refine wpList_store_mid hgd ty x y ho b 0 vs hx hy (there_of hc 0 _ (by omega)) (by rw [hv]; exact hi) h1 ?_
  refine h _ ?_ (kp_setCells _ 0 _) (size_setCells _ _ _)
  have := setCells_all w c.toList vs.toList (by simpa using hc) (by simp [hl, hv])
  simpa using this
theorem info30 : (Try.prog.info? 30).map (·.size) = some 13 := by kernel_rfl
theorem info27 : (Try.prog.info? 27).map (·.size) = some 7 := by kernel_rfl
theorem info60 : (Try.prog.info? 60).map (·.size) = some 2 := by kernel_rfl
theorem info64 : (Try.prog.info? 64).map (·.size) = some 2 := by kernel_rfl
theorem box_k {w w1 : World} {b : Nat} {c : Array Value} {ty : TypeId} (h : w.heap[b]? = some (.cells c ty (0, 0))) (k : Kp Nu w w1) : w1.heap[b]? = some (.cells c ty (0, 0)) := (k.block b (blk_lt h) (fun h => h)).trans h
theorem kp_dn (w : World) (n : Nat) : Kp Nu w (w.drewN n) := ⟨rfl, rfl, rfl, Nat.le_refl _, fun _ _ _ => rfl⟩
end Go.Proofs.Ytcbonbeogdgogaa.Li
