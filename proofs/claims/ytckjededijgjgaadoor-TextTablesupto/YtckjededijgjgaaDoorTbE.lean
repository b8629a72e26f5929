import Derived.Test.YtckjededijgjgaaDoorTbD
namespace Go.Proofs.YtckjededijgjgaaDoor.Tb
open Go.RowKit
open Go.Proofs.YtckjededijgjgaaDoor.Pc (P4 pieces)
open Go.Proofs.YtckjededijgjgaaDoor.Enc (Spans)
open Go.Proofs.YtckjededijgjgaaDoor.Wd (wS wS_range)
set_option linter.unusedVariables false

def bad (row : List ByteArray) : Bool := rf row != 0
/-- what Table answers -/
def tableG (rows : List (List ByteArray)) : List ByteArray × Int × Int :=
  if 256 < rows.length then ([], 0, 18) else match rows.findIdx? bad with
    | some i => ([], (i : Int), rf (rows.getD i []))
    | none => (rows.map (tl (cw rows)), 0, 0)
theorem tableG_many {rows : List (List ByteArray)} (h : 256 < rows.length) : tableG rows = ([], 0, 18) := by unfold tableG; rw [if_pos h]
theorem tableG_bad {rows : List (List ByteArray)} {k : Nat} (h : ¬ 256 < rows.length) (hk : k < rows.length) (hb : ∀ j (hj : j < rows.length), j < k → rf rows[j] = 0) (hx : rf rows[k] ≠ 0) : tableG rows = ([], (k : Int), rf rows[k]) := by
  have e : rows.findIdx? bad = some k := by
    rw [List.findIdx?_eq_some_iff_getElem]
    exact ⟨hk, by unfold bad; rw [bne_iff_ne]; exact hx, fun j hj => by unfold bad; rw [hb j (by omega) hj]; decide⟩
  unfold tableG
  rw [if_neg h, e]
  simp only [List.getD_eq_getElem?_getD, List.getElem?_eq_getElem hk]
  rfl
theorem tableG_good {rows : List (List ByteArray)} (h : ¬ 256 < rows.length) (hb : ∀ j (hj : j < rows.length), rf rows[j] = 0) : tableG rows = (rows.map (tl (cw rows)), 0, 0) := by
  have e : rows.findIdx? bad = none := by
    rw [List.findIdx?_eq_none_iff]
    intro x hx
    obtain ⟨j, hj, rfl⟩ := List.mem_iff_getElem.1 hx
    unfold bad; rw [hb j hj]; decide
  unfold tableG
  rw [if_neg h, e]
theorem cf_zero {c : ByteArray} (h : cf c = 0) : wS (pieces c) ≤ 400 := by
  unfold cf cfL at h
  split at h
  · cases h
  · split at h
    · cases h
    · split at h
      · cases h
      · omega
theorem rfL_zero {row : List ByteArray} (h : rfL row = 0) : ∀ c ∈ row, cf c = 0 := by
  induction row with
  | nil => intro c hc; simp at hc
  | cons x t ih =>
    rw [rfL] at h
    by_cases hx : cf x ≠ 0
    · rw [if_pos hx] at h; exact absurd h hx
    · rw [if_neg hx] at h
      intro c hc
      rcases List.mem_cons.1 hc with rfl | hc
      · simpa using hx
      · exact ih h c hc
theorem rf_zero {row : List ByteArray} (h : rf row = 0) : row.length ≤ 16 ∧ ∀ k, k < row.length → wAt row k ≤ 400 := by
  unfold rf at h
  by_cases hl : 16 < row.length
  · rw [if_pos hl] at h; cases h
  · rw [if_neg hl] at h
    refine ⟨by omega, fun k hk => ?_⟩
    rw [wAt_in hk]
    exact cf_zero (rfL_zero h _ (List.getElem_mem hk))
theorem fold_le (l : List Int) (a m : Int) (ha : a ≤ m) (h : ∀ x ∈ l, x ≤ m) : l.foldl max a ≤ m := by
  induction l generalizing a with
  | nil => exact ha
  | cons x t ih =>
    have := h x (by simp)
    exact ih (max a x) (by omega) (fun y hy => h y (by simp [hy]))
theorem fold_ge (l : List Int) (a : Int) : a ≤ l.foldl max a ∧ ∀ x ∈ l, x ≤ l.foldl max a := by
  induction l generalizing a with
  | nil => exact ⟨Int.le_refl _, fun x hx => by simp at hx⟩
  | cons y t ih =>
    have := ih (max a y)
    refine ⟨by show a ≤ t.foldl max (max a y); omega, fun x hx => ?_⟩
    rcases List.mem_cons.1 hx with rfl | hx
    · show x ≤ t.foldl max (max a x); omega
    · exact this.2 x hx
theorem fits_of {rows : List (List ByteArray)} (hz : ∀ r ∈ rows, ∀ c ∈ r, c.size ≤ 1048576) (h : ∀ r ∈ rows, rf r = 0) : ∀ r ∈ rows, Fits (cw rows) r := by
  intro r hr
  have h0 := rf_zero (h r hr)
  refine ⟨h0.1, hz r hr, fun k hk => ?_, fun k hk => ?_⟩
  · exact (fold_ge _ 0).2 _ (List.mem_map.2 ⟨r, hr, rfl⟩)
  · refine fold_le _ 0 400 (by omega) (fun x hx => ?_)
    obtain ⟨r', hr', rfl⟩ := List.mem_map.1 hx
    have h1 := rf_zero (h r' hr')
    by_cases hk' : k < r'.length
    · exact h1.2 k hk'
    · show wAt r' k ≤ 400
      rw [wAt_out (by omega)]; omega

theorem info9 : (Tryd.prog.info? 9).map (fun i => (i.zero, i.size, i.bytes)) = some (some (.string ⟨#[]⟩), 1, 16) := by kernel_rfl
/-- cells of texts -/
def sCs (l : List ByteArray) : List Value := l.map fun b => Value.string b
theorem own1_set {w : World} {base n cap g : Nat} {xs : List Value} (h : w.ownsRow base 9 1 (.slice (some ⟨g, 0, none⟩) n cap) n xs) (j : Nat) (hj : j < n) (u : Value) : (w.setCell ⟨g, j, none⟩ u).ownsRow base 9 1 (.slice (some ⟨g, 0, none⟩) n cap) n (xs.set j u) := by
  obtain ⟨hl, ho⟩ := h
  rcases ho with ⟨e, _⟩ | ⟨g', cap', cur, e, hgb, hg, h1, h2, h3, h4⟩
  · cases e
  · cases e
    refine ⟨by simpa using hl, .inr ⟨g, cap, cur.setIfInBounds j u, rfl, hgb, heap_setCell_same w g j cur 9 u hg, h1, h2, by simpa using h3, ?_⟩⟩
    rw [Array.toList_setIfInBounds, List.take_set, h4]
theorem own1_slice {w : World} {base n : Nat} {v : Value} {xs : List Value} (h : w.ownsRow base 9 1 v n xs) : (∃ g cap, v = .slice (some ⟨g, 0, none⟩) n cap ∧ base ≤ g ∧ g < w.heap.size ∧ n ≤ cap ∧ ∃ cur, w.heap[g]? = some (.cells cur 9 (0, 0)) ∧ cur.size = cap) ∨ (v = .slice none 0 0 ∧ n = 0) := by
  rcases h.2 with h | ⟨g, cap, cur, e, hgb, hg, h1, h2, h3, h4⟩
  · exact .inr h
  · exact .inl ⟨g, cap, e, hgb, (Array.getElem?_eq_some_iff.1 hg).1, h1, cur, hg, by omega⟩
theorem own1_below {w w' : World} {base n : Nat} {v : Value} {l : List Value} (h : w.ownsRow base 9 1 v n l) (hb : Below w.heap.size w w') : w'.ownsRow base 9 1 v n l := by
  obtain ⟨hl, ho⟩ := h
  refine ⟨hl, ?_⟩
  rcases ho with ho | ⟨g, cap, cur, e1, e2, hg, e3⟩
  · exact .inl ho
  · exact .inr ⟨g, cap, cur, e1, e2, (hb.block g (Array.getElem?_eq_some_iff.1 hg).1).trans hg, e3⟩
theorem own1_cell {w : World} {base n cap g j : Nat} {xs : List Value} (h : w.ownsRow base 9 1 (.slice (some ⟨g, 0, none⟩) n cap) n xs) (hj : j < n) : w.cell? ⟨g, j, none⟩ = xs[j]? ∧ w.frozen? ⟨g, j, none⟩ = false := by
  obtain ⟨hl, ho⟩ := h
  rcases ho with ⟨e, _⟩ | ⟨g', cap', cur, e, hgb, hg, h1, h2, h3, h4⟩
  · cases e
  · cases e
    refine ⟨?_, frozen_of_row w g j _ 9 hg⟩
    rw [← h4, List.getElem?_take_of_lt (by omega), Array.getElem?_toList]
    simp [World.cell?, hg]
end Go.Proofs.YtckjededijgjgaaDoor.Tb
