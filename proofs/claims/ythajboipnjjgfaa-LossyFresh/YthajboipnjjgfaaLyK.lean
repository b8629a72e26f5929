import Derived.Test.YthajboipnjjgfaaLyJ
namespace Go.Proofs.Ythajboipnjjgfaa.Ly
open Go.RowKit Go.Maps
set_option linter.unusedVariables false

/-- those that stay -/
def sift (p : Nat → Gm → Bool) : Nat → List Gm → List Gm
  | _, [] => []
  | k, g :: r => if p k g then sift p (k + 1) r else g :: sift p (k + 1) r
theorem sift_append (p : Nat → Gm → Bool) : ∀ (a : List Gm) (k : Nat) (b : List Gm), sift p k (a ++ b) = sift p k a ++ sift p (k + a.length) b
  | [], k, b => by simp [sift]
  | g :: r, k, b => by
    simp only [List.cons_append, sift, List.length_cons]
    have e : k + (r.length + 1) = k + 1 + r.length := by omega
    rw [e]
    split <;> simp [sift_append p r (k + 1) b]
theorem sift_length_le (p : Nat → Gm → Bool) : ∀ (a : List Gm) (k : Nat), (sift p k a).length ≤ a.length
  | [], k => by simp [sift]
  | g :: r, k => by
    have := sift_length_le p r (k + 1)
    simp only [sift]
    split <;> simp <;> omega
theorem sift_mem (p : Nat → Gm → Bool) : ∀ (a : List Gm) (k : Nat) (g : Gm), g ∈ sift p k a → g ∈ a
  | [], k, g, h => by simp [sift] at h
  | x :: r, k, g, h => by
    simp only [sift] at h
    split at h
    · exact List.mem_cons_of_mem _ (sift_mem p r _ g h)
    · rcases List.mem_cons.1 h with rfl | h
      · simp
      · exact List.mem_cons_of_mem _ (sift_mem p r _ g h)

/-- the list's row while it is sifted: k have been looked at, j stay -/
structure St (w : World) (r cap k j : Nat) (p : Nat → Gm → Bool) (L : List Gm) (cu : List Value) : Prop where
  row : w.heap[r]? = some (.cells cu.toArray 38 (0, 0))
  len : cu.length = cap * 3
  cnt : j = (sift p 0 (L.take k)).length
  head : cu.take (j * 3) = cells (sift p 0 (L.take k))
  rest : ∀ i g, k ≤ i → L[i]? = some g → ∀ q, q < 3 → cu[i * 3 + q]? = g.cells[q]?
theorem St.le {w : World} {r cap k j : Nat} {p : Nat → Gm → Bool} {L : List Gm} {cu : List Value} (h : St w r cap k j p L cu) : j ≤ k := by
  have := sift_length_le p (L.take k) 0
  rw [h.cnt]
  rw [List.length_take] at this
  omega
theorem St.keep {w w' : World} {r cap k j : Nat} {p : Nat → Gm → Bool} {L : List Gm} {cu : List Value} (h : St w r cap k j p L cu) (k' : Kp Nu w w') : St w' r cap k j p L cu :=
  ⟨(k'.block r (blk_lt h.row) (fun h => h)).trans h.row, h.len, h.cnt, h.head, h.rest⟩
theorem St.at {w : World} {r cap k j : Nat} {p : Nat → Gm → Bool} {L : List Gm} {cu : List Value} (h : St w r cap k j p L cu) {g : Gm} (hg : L[k]? = some g) :
    w.cell? ⟨r, k * 3, none⟩ = some (.int .u8 g.f) ∧ w.cell? ⟨r, k * 3 + 1, none⟩ = some (.int .u8 g.t) ∧ w.cell? ⟨r, k * 3 + 2, none⟩ = some g.d := by
  have key := h.rest k g (Nat.le_refl _) hg
  refine ⟨?_, ?_, ?_⟩
  · have := key 0 (by omega); simpa [World.cell?, h.row, Gm.cells] using this
  · have := key 1 (by omega); simpa [World.cell?, h.row, Gm.cells] using this
  · have := key 2 (by omega); simpa [World.cell?, h.row, Gm.cells] using this
theorem sift_step {p : Nat → Gm → Bool} {L : List Gm} {k : Nat} {g : Gm} (hg : L[k]? = some g) : sift p 0 (L.take (k + 1)) = sift p 0 (L.take k) ++ (if p k g then [] else [g]) := by
  have hk : k < L.length := (List.getElem?_eq_some_iff.1 hg).1
  rw [List.take_add_one, hg, sift_append, List.length_take, Nat.min_eq_left (by omega)]
  simp only [Option.toList, sift, Nat.zero_add]
theorem St.skip {w : World} {r cap k j : Nat} {p : Nat → Gm → Bool} {L : List Gm} {cu : List Value} (h : St w r cap k j p L cu) {g : Gm} (hg : L[k]? = some g) (hp : p k g = true) : St w r cap (k + 1) j p L cu := by
  have e := sift_step (p := p) hg
  rw [hp] at e
  simp only [if_true, List.append_nil] at e
  exact ⟨h.row, h.len, by rw [e]; exact h.cnt, by rw [e]; exact h.head, fun i g hi => h.rest i g (by omega)⟩
theorem St.add {w : World} {r cap k j : Nat} {p : Nat → Gm → Bool} {L : List Gm} {cu : List Value} (h : St w r cap k j p L cu) {g : Gm} (hg : L[k]? = some g) (hp : p k g = false) (hk : k < cap) :
    St (w.setRow r (cu.toArray.toList.take (j * 3) ++ g.cells ++ cu.toArray.toList.drop (j * 3 + g.cells.length)).toArray) r cap (k + 1) (j + 1) p L (cu.take (j * 3) ++ g.cells ++ cu.drop (j * 3 + g.cells.length)) := by
  have e := sift_step (p := p) hg
  rw [hp] at e
  simp only [Bool.false_eq_true, if_false] at e
  have hj := h.le
  have hl := h.len
  have h3 : g.cells.length = 3 := rfl
  refine ⟨?_, ?_, ?_, ?_, ?_⟩
  · exact setRow_heap w r _ _ 38 _ h.row
  · simp only [List.length_append, List.length_take, List.length_drop, h3]; omega
  · rw [e, List.length_append, ← h.cnt]; rfl
  · rw [e, cells_append, ← h.head]
    have el : (cu.take (j * 3) ++ g.cells).length = (j + 1) * 3 := by simp only [List.length_append, List.length_take, h3]; omega
    rw [← el, List.take_left]
    simp [Ly.cells]
  · intro i g' hi hg' q hq
    have := h.rest i g' (by omega) hg' q hq
    rw [← this]
    have el : (cu.take (j * 3) ++ g.cells).length = (j + 1) * 3 := by simp only [List.length_append, List.length_take, h3]; omega
    rw [List.getElem?_append_right (by rw [el]; omega), el, List.getElem?_drop]
    congr 1
    rw [h3]
    omega
theorem St.start {w : World} {r cap : Nat} {p : Nat → Gm → Bool} {L : List Gm} {cu : List Value} (hr : w.heap[r]? = some (.cells cu.toArray 38 (0, 0))) (hl : cu.length = cap * 3) (ht : cu.take (L.length * 3) = cells L) : St w r cap 0 0 p L cu := by
  refine ⟨hr, hl, by simp [sift], by simp [sift, Ly.cells], ?_⟩
  intro i g _ hg q hq
  have hi : i < L.length := (List.getElem?_eq_some_iff.1 hg).1
  have e1 := cells_at L i g hg q hq
  rw [← ht, List.getElem?_take_of_lt (by omega)] at e1
  exact e1

theorem zero38 (w : World) : (zeroValue 38).run Try.prog w = .ok (.agg #[.int .u8 0, .int .u8 0, .slice none 0 0]) w := by kernel_rfl
theorem zeros_one (n : Nat) : ∀ u ∈ (Builtin.zeroCells #[Value.int .u8 0, .int .u8 0, .slice none 0 0] n).toList, u.oneCell' = true := by
  intro u hu
  simp only [Builtin.zeroCells, Array.toList_map, List.mem_map] at hu
  obtain ⟨i, _, rfl⟩ := hu
  have hm : i % (#[Value.int .u8 0, .int .u8 0, .slice none 0 0] : Array Value).size = 0 ∨ i % (#[Value.int .u8 0, .int .u8 0, .slice none 0 0] : Array Value).size = 1 ∨ i % (#[Value.int .u8 0, .int .u8 0, .slice none 0 0] : Array Value).size = 2 := by
    have : (#[Value.int .u8 0, .int .u8 0, .slice none 0 0] : Array Value).size = 3 := rfl
    rw [this]; omega
  rcases hm with e | e | e <;> rw [e] <;> rfl

/-- clear of what stands behind those that stay -/
theorem run_clear38 {W : World} {r cap j n cp : Nat} {cu : List Value} (hr : W.heap[r]? = some (.cells cu.toArray 38 (0, 0))) (hl : cu.length = cap * 3) (hj : j + (n + 1) ≤ cap) (ty : TypeId) :
    ∃ cu' : List Value, (Builtin.clear_ #[34] ty #[.slice (some ⟨r, j * 3, none⟩) (n + 1) cp]).run Try.prog W = .ok (.tuple #[]) (W.setRow r cu'.toArray) ∧ cu'.length = cap * 3 ∧ cu'.take (j * 3) = cu.take (j * 3) := by
  have hz : (Builtin.zeroCells #[Value.int .u8 0, .int .u8 0, .slice none 0 0] (n + 1)).toList.length = (n + 1) * 3 := by
    rw [Array.length_toList, size_zeroCells]; rfl
  have hst := run_storeCells_at Try.prog r (j * 3) 38 (Builtin.zeroCells #[Value.int .u8 0, .int .u8 0, .slice none 0 0] (n + 1)).toList 0 cu.toArray W hr (by rw [hz]; simp; omega) (zeros_one _)
  refine ⟨cu.take (j * 3) ++ (Builtin.zeroCells #[Value.int .u8 0, .int .u8 0, .slice none 0 0] (n + 1)).toList ++ cu.drop (j * 3 + (Builtin.zeroCells #[Value.int .u8 0, .int .u8 0, .slice none 0 0] (n + 1)).toList.length), ?_, ?_, ?_⟩
  rotate_left
  · simp only [List.length_append, List.length_take, List.length_drop, hz]; omega
  · rw [List.append_assoc, List.take_append_of_le_length (by simp; omega), List.take_take, Nat.min_self]
  · simp only [Nat.add_zero] at hst
    simp only [Builtin.clear_, Sem.run_bind, run_underlying Try.underlying34, Result.andThen_ok, List.getElem?_toArray, List.getElem?_cons_zero, zero38, Value.cells, hst, Sem.run_pure]

/-- an append whose run is known -/
theorem wpList_append_run {P : Program} (w : World) {ops : Array Oper} {rest : List Oper} {o : Oper} {a : Act} {Q : Exit → Act → World → Prop}
    (hg : o.guard = none) (s x : Operand) (t u : TypeId) (hop : o.op = Op.call { callee := Callee.builtin Builtin.append, args := #[s, x], argTypes := #[t, u] })
    (v y : Value) (hs : a.eval s = v) (hx : a.eval x = y) (v' : Value) (w' : World) (hrun : (Builtin.append_ #[t, u] o.type #[v, y]).run P w = .ok v' w')
    (hK : wpList P ops Q rest (a.put o.dst v') w') : wpList P ops Q (o :: rest) a w := by
  refine wpList_plain hg fun K hK' => ?_
  unfold Oper.wp
  simp [execOp, hop, resolve, invoke, builtin, hs, hx, hrun, Result.andThen]
  exact hK' _ _ hK
theorem Kp.setRow (w : World) (r : Nat) (c : Array Value) : Kp (fun k => k = r) w (w.setRow r c) :=
  ⟨rfl, rfl, rfl, by simp, fun k _ hn => setRow_other w r k c hn⟩
end Go.Proofs.Ythajboipnjjgfaa.Ly
