import Derived.Deep.Strs
import Derived.Deep.Slices
import Derived.LaidLaws
import Derived.ChangeOld
namespace Go.Proofs.YtckjededijgjgaaDoor.Tab
open Go.Deep

theorem addP (R off j : Nat) : (⟨R, off, none⟩ : Addr).add j = ⟨R, off + j, none⟩ := by unfold Addr.add; split <;> simp_all

/-- rows of three integers, as a row lists a slice of structs -/
def rowData (k0 k1 k2 : IntKind) (rows : List (Int × Int × Int)) : DataW Unit := .slice (rows.map fun x => .agg [.lit (.int k0 x.1), .lit (.int k1 x.2.1), .lit (.int k2 x.2.2)]) []

theorem three_cells {P : Program} {W : World} {fuel : Nat} {e : TypeId} {f0 f1 f2 : Field} {k0 k1 k2 : IntKind} {cs : List Value} {y : DataW Unit × List MemPlace} {x : Int × Int × Int}
    (he : P.underlying e = some (.struct #[f0, f1, f2])) (ce : P.cellsOf e = 3) (o0 : f0.offset = 0) (o1 : f1.offset = 1) (o2 : f2.offset = 2)
    (c0 : P.cellsOf f0.type = 1) (c1 : P.cellsOf f1.type = 1) (c2 : P.cellsOf f2.type = 1)
    (u0 : P.underlying f0.type = some (.int k0)) (u1 : P.underlying f1.type = some (.int k1)) (u2 : P.underlying f2.type = some (.int k2))
    (h : DataW.trod (fun _ => ()) P W 0 (fun _ => true) false fuel e cs = some y) (hy : y.1 = .agg [.lit (.int k0 x.1), .lit (.int k1 x.2.1), .lit (.int k2 x.2.2)]) :
    cs = [.int k0 x.1, .int k1 x.2.1, .int k2 x.2.2] := by
  obtain ⟨y0, y1, y2, n, rfl, hl, h0, h1, h2⟩ := trod_struct3 he h
  rw [ce] at hl
  rw [o0, c0] at h0; rw [o1, c1] at h1; rw [o2, c2] at h2
  match cs, hl with
  | [v0, v1, v2], _ =>
    obtain ⟨z0, e0, rfl, _⟩ := DataW.trod_int u0 h0
    obtain ⟨z1, e1, rfl, _⟩ := DataW.trod_int u1 h1
    obtain ⟨z2, e2, rfl, _⟩ := DataW.trod_int u2 h2
    simp at e0 e1 e2
    subst e0 e1 e2
    simp only [DataW.agg.injEq, List.cons.injEq, DataW.lit.injEq, Lit.int.injEq, true_and, and_true] at hy
    obtain ⟨h0, h1, h2⟩ := hy
    rw [h0, h1, h2]

theorem rows_of {P : Program} {W : World} {fuel : Nat} {t e : TypeId} {f0 f1 f2 : Field} {k0 k1 k2 : IntKind} {cs : List Value} {p : List MemPlace} {rows : List (Int × Int × Int)} (hr : 0 < rows.length)
    (ht : P.underlying t = some (.slice e)) (he : P.underlying e = some (.struct #[f0, f1, f2])) (ce : P.cellsOf e = 3) (o0 : f0.offset = 0) (o1 : f1.offset = 1) (o2 : f2.offset = 2)
    (c0 : P.cellsOf f0.type = 1) (c1 : P.cellsOf f1.type = 1) (c2 : P.cellsOf f2.type = 1)
    (u0 : P.underlying f0.type = some (.int k0)) (u1 : P.underlying f1.type = some (.int k1)) (u2 : P.underlying f2.type = some (.int k2))
    (h : DataW.trod (fun _ => ()) P W 0 (fun _ => true) false fuel t cs = some (rowData k0 k1 k2 rows, p)) :
    ∃ R off cap, cs = [.slice (some ⟨R, off, none⟩) rows.length cap] ∧ R < W.heap.size ∧ ∀ i, i < rows.length →
      W.cell? ⟨R, off + i * 3, none⟩ = some (.int k0 (rows.getD i (0, 0, 0)).1) ∧ W.cell? ⟨R, off + i * 3 + 1, none⟩ = some (.int k1 (rows.getD i (0, 0, 0)).2.1) ∧ W.cell? ⟨R, off + i * 3 + 2, none⟩ = some (.int k2 (rows.getD i (0, 0, 0)).2.2) := by
  rcases open_slice ht h with ⟨_, hx⟩ | ⟨a, len, cap, m, n, D, Pl, rfl, _, hlc, _, hm, hx, hel⟩
  · simp [rowData] at hx
  simp only [Prod.mk.injEq, rowData, DataW.slice.injEq] at hx
  obtain ⟨⟨hx, _⟩, _⟩ := hx
  have hlen : rows.length = len := by simpa using congrArg List.length hx
  have hm' : len ≤ m := by rw [hm]; split <;> omega
  have row : ∀ i, i < len → W.cells? 0 (a.add (i * 3)) 3 = some [.int k0 (rows.getD i (0, 0, 0)).1, .int k1 (rows.getD i (0, 0, 0)).2.1, .int k2 (rows.getD i (0, 0, 0)).2.2] := by
    intro i hi
    obtain ⟨cs', h1, h2⟩ := hel i (by omega)
    rw [ce] at h1
    have hD : D i = .agg [.lit (.int k0 (rows.getD i (0, 0, 0)).1), .lit (.int k1 (rows.getD i (0, 0, 0)).2.1), .lit (.int k2 (rows.getD i (0, 0, 0)).2.2)] := by
      have := congrArg (·[i]?) hx
      simp [hi, hlen] at this
      rw [← this]
      simp [List.getD, List.getElem?_eq_getElem (show i < rows.length by omega)]
    have := three_cells he ce o0 o1 o2 c0 c1 c2 u0 u1 u2 h2 hD
    rw [h1, this]
  have h0 := row 0 (by omega)
  have hblk := World.cells?_block h0 (by omega)
  obtain ⟨R, off, spot⟩ := a
  have hspot : spot = none := by
    have := (World.cells?_some h0).2.2 0 (by omega)
    simp only [List.getElem?_cons_zero] at this
    have := World.cell?_spot this
    simpa [Addr.add] using this
  subst hspot
  refine ⟨R, off, cap, by rw [hlen], by simpa [Addr.add] using hblk, fun i hi => ?_⟩
  have hc := (World.cells?_some (row i (by omega))).2.2
  have q0 := hc 0 (by omega)
  have q1 := hc 1 (by omega)
  have q2 := hc 2 (by omega)
  refine ⟨?_, ?_, ?_⟩
  · rw [addP, addP] at q0; simpa using q0
  · rw [addP, addP] at q1; simpa using q1
  · rw [addP, addP] at q2; simpa using q2
end Go.Proofs.YtckjededijgjgaaDoor.Tab
