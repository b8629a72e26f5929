import Derived.Test.YtmlnglillgplfaaGreatKpA
import Derived.Deep.MidRow
import Derived.Laws.Rows
namespace Go.Proofs.YtmlnglillgplfaaGreat.Cl
open Go.RowKit
set_option linter.unusedVariables false
theorem cellAt {w : World} {b : Nat} {c : Array Value} {ty : TypeId} {v : Value} (h : w.heap[b]? = some (.cells c ty (0, 0))) (i : Nat) (hi : c[i]? = some v) : w.cell? ⟨b, i, none⟩ = some v := by simp [World.cell?, h, hi]
theorem own_base {w : World} {base base' e size n : Nat} {v : Value} {l : List Value} (h : w.ownsRow base e size v n l) (hb : base' ≤ base) : w.ownsRow base' e size v n l := by
  refine ⟨h.1, ?_⟩
  rcases h.2 with h | ⟨g, cap, cur, h1, h2, h3⟩
  · exact .inl h
  · exact .inr ⟨g, cap, cur, h1, Nat.le_trans hb h2, h3⟩
def ov (c : Array Value) : Nat → List Value → Array Value
  | _, [] => c
  | o, v :: r => ov (c.setIfInBounds o v) (o + 1) r
theorem setCells_heap {b : Nat} {ty : TypeId} : ∀ (vs : List Value) (o : Nat) (w : World) (c : Array Value), w.heap[b]? = some (.cells c ty (0, 0)) → (w.setCells b o vs).heap[b]? = some (.cells (ov c o vs) ty (0, 0))
  | [], o, w, c, h => h
  | v :: r, o, w, c, h => setCells_heap r (o + 1) _ _ (set3 h o v)
theorem kp_setCells {b : Nat} : ∀ (vs : List Value) (o : Nat) (w : World), Kp (fun i => i = b) w (w.setCells b o vs)
  | [], o, w => Kp.refl _ _
  | v :: r, o, w => (Kp.setCell w ⟨b, o, none⟩ v).trans (kp_setCells r (o + 1) _) (fun _ _ e => e)
theorem there_of {w : World} {b : Nat} {c : Array Value} {ty : TypeId} (h : w.heap[b]? = some (.cells c ty (0, 0))) (o n : Nat) (hn : o + n ≤ c.size) : w.there b o n := fun j hj => by
  refine ⟨?_, free3 h _⟩
  simp [World.cell?, h]; omega
theorem ov_eq : ∀ (vs zs pre : List Value), zs.length = vs.length → ov (pre ++ zs).toArray pre.length vs = (pre ++ vs).toArray
  | [], [], pre, _ => by simp [ov]
  | [], z :: zs, pre, h => by simp at h
  | v :: vs, [], pre, h => by simp at h
  | v :: vs, z :: zs, pre, h => by
    have ih := ov_eq vs zs (pre ++ [v]) (by simpa using h)
    unfold ov
    rw [List.setIfInBounds_toArray, List.set_append_right _ _ (Nat.le_refl _), Nat.sub_self, List.set_cons_zero]
    simpa using ih
theorem setCells_all {b : Nat} {ty : TypeId} (w : World) (zs vs : List Value) (h : w.heap[b]? = some (.cells zs.toArray ty (0, 0))) (hl : zs.length = vs.length) : (w.setCells b 0 vs).heap[b]? = some (.cells vs.toArray ty (0, 0)) := by
  have := setCells_heap vs 0 w _ h
  rw [this]
  exact congrArg (fun c => some (Obj.cells c ty (0, 0))) (ov_eq vs zs [] hl)
theorem heap_new (w : World) (o : Obj) : (w.alloc o).heap[w.heap.size]? = some o := by
  show (w.heap.push o)[w.heap.size]? = some o
  simp
theorem new_at (w : World) (o : Obj) {w2 : World} (k : Kp Nu (w.alloc o) w2) : w2.heap[w.heap.size]? = some o :=
  (k.block _ (by simp) (fun h => h)).trans (heap_new w o)
theorem results_two {fn : Func} {p u : Tmp} {ty : TypeId} (h : fn.results = #[.cell p ty, .tmp u]) (tmps : Array Value) (w : World) (a : Addr) (v x : Value) (hp : tmps.getD p undef = .pointer (some a)) (hu : tmps.getD u undef = v) (hl : (loadVar ty a).run Tryz.prog w = .ok x w) :
    (results fn tmps).run Tryz.prog w = .ok (.tuple #[x, v]) w := by
  rw [results_cell_tmp h, hp, hu]
  simp [asAddr, hl]
theorem info55 : (Tryz.prog.info? 55).map (·.size) = some 9 := by kernel_rfl
theorem info26 : (Tryz.prog.info? 26).map (·.size) = some 7 := by kernel_rfl
theorem info36 : (Tryz.prog.info? 36).map (·.size) = some 17 := by kernel_rfl
theorem info38 : (Tryz.prog.info? 38).map (·.size) = some 18 := by kernel_rfl
end Go.Proofs.YtmlnglillgplfaaGreat.Cl
