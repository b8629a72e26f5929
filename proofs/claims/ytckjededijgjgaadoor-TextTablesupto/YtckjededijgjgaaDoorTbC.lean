import Derived.Test.YtckjededijgjgaaDoorTbB
namespace Go.Proofs.YtckjededijgjgaaDoor.Tb
open Go.RowKit
open Go.Proofs.YtckjededijgjgaaDoor.Pc (P4 pieces)
open Go.Proofs.YtckjededijgjgaaDoor.Enc (Spans)
open Go.Proofs.YtckjededijgjgaaDoor.Wd (wS Cols refWidth_of width_any wS_range)
set_option linter.unusedVariables false

/-- rows of texts in memory -/
def Rs (w : World) (ad : Option Addr) (rows : List (List ByteArray)) : Prop := ∀ i (hi : i < rows.length), ∃ g off adr cp, ad = some ⟨g, off, none⟩ ∧ g < w.heap.size ∧ w.cell? ⟨g, off + i, none⟩ = some (.slice adr rows[i].length cp) ∧ Sv w adr rows[i]
theorem Rs.below {w w' : World} {ad : Option Addr} {rows : List (List ByteArray)} {B : Nat} (h : Rs w ad rows) (hb : Below B w w') (hB : w.heap.size ≤ B) : Rs w' ad rows := by
  intro k hk
  obtain ⟨g, off, adr, cp, h0, h1, c0, hv⟩ := h k hk
  exact ⟨g, off, adr, cp, h0, Nat.lt_of_lt_of_le h1 hb.size, (hb.cell (p := ⟨g, off + k, none⟩) (Nat.lt_of_lt_of_le h1 hB)).trans c0, hv.below hb hB⟩

/-- the columns of a cell of a row -/
def wAt (row : List ByteArray) (j : Nat) : Int := match row[j]? with
  | some c => wS (pieces c)
  | none => 0
theorem wAt_in {row : List ByteArray} {j : Nat} (h : j < row.length) : wAt row j = wS (pieces row[j]) := by unfold wAt; rw [List.getElem?_eq_getElem h]
theorem wAt_out {row : List ByteArray} {j : Nat} (h : row.length ≤ j) : wAt row j = 0 := by unfold wAt; rw [List.getElem?_eq_none h]
theorem wAt_pos (row : List ByteArray) (j : Nat) : 0 ≤ wAt row j := by
  unfold wAt
  split
  · exact (wS_range _).1
  · exact Int.le_refl _
/-- a column's width -/
def cw (rows : List (List ByteArray)) (j : Nat) : Int := (rows.map fun r => wAt r j).foldl max 0
theorem cw_snoc (rows : List (List ByteArray)) (r : List ByteArray) (j : Nat) : cw (rows ++ [r]) j = max (cw rows j) (wAt r j) := by simp [cw]
theorem cw_nil (j : Nat) : cw [] j = 0 := rfl
theorem cw_pos (rows : List (List ByteArray)) (j : Nat) : 0 ≤ cw rows j := by
  unfold cw
  have : ∀ (l : List Int) (a : Int), 0 ≤ a → 0 ≤ l.foldl max a := by
    intro l
    induction l with
    | nil => intro a h; exact h
    | cons x t ih => intro a h; exact ih _ (by omega)
  exact this _ 0 (Int.le_refl _)

/-- sixteen numbers -/
def A16 (f : Nat → Int) : Array Value := #[.int .i64 (f 0), .int .i64 (f 1), .int .i64 (f 2), .int .i64 (f 3), .int .i64 (f 4), .int .i64 (f 5), .int .i64 (f 6), .int .i64 (f 7), .int .i64 (f 8), .int .i64 (f 9), .int .i64 (f 10), .int .i64 (f 11), .int .i64 (f 12), .int .i64 (f 13), .int .i64 (f 14), .int .i64 (f 15)]
theorem lt16 {j : Nat} (h : j < 16) : j = 0 ∨ j = 1 ∨ j = 2 ∨ j = 3 ∨ j = 4 ∨ j = 5 ∨ j = 6 ∨ j = 7 ∨ j = 8 ∨ j = 9 ∨ j = 10 ∨ j = 11 ∨ j = 12 ∨ j = 13 ∨ j = 14 ∨ j = 15 := by omega
theorem A16_get (f : Nat → Int) (j : Nat) (h : j < 16) : (A16 f)[j]? = some (.int .i64 (f j)) := by
  rcases lt16 h with rfl | rfl | rfl | rfl | rfl | rfl | rfl | rfl | rfl | rfl | rfl | rfl | rfl | rfl | rfl | rfl <;> rfl
theorem A16_set (f : Nat → Int) (j : Nat) (h : j < 16) (v : Int) : (A16 f).setIfInBounds j (.int .i64 v) = A16 (fun i => if i = j then v else f i) := by
  rcases lt16 h with rfl | rfl | rfl | rfl | rfl | rfl | rfl | rfl | rfl | rfl | rfl | rfl | rfl | rfl | rfl | rfl <;> rfl
theorem A16_zero : A16 (fun _ => 0) = #[.int .i64 0, .int .i64 0, .int .i64 0, .int .i64 0, .int .i64 0, .int .i64 0, .int .i64 0, .int .i64 0, .int .i64 0, .int .i64 0, .int .i64 0, .int .i64 0, .int .i64 0, .int .i64 0, .int .i64 0, .int .i64 0] := rfl
theorem A16_congr {f g : Nat → Int} (e : ∀ j, j < 16 → f j = g j) : A16 f = A16 g := by
  unfold A16
  rw [e 0 (by omega), e 1 (by omega), e 2 (by omega), e 3 (by omega), e 4 (by omega), e 5 (by omega), e 6 (by omega), e 7 (by omega), e 8 (by omega), e 9 (by omega), e 10 (by omega), e 11 (by omega), e 12 (by omega), e 13 (by omega), e 14 (by omega), e 15 (by omega)]
/-- the block of a row of sixteen numbers -/
def Ar (w : World) (b : Nat) (f : Nat → Int) : Prop := w.heap[b]? = some (.cells (A16 f) 122 (0, 0))
theorem Ar.cell {w : World} {b : Nat} {f : Nat → Int} (h : Ar w b f) (j : Nat) (hj : j < 16) : w.cell? ⟨b, j, none⟩ = some (.int .i64 (f j)) := by
  have h' : w.heap[b]? = some (.cells (A16 f) 122 (0, 0)) := h
  simp [World.cell?, h', A16_get f j hj]
theorem Ar.frozen {w : World} {b : Nat} {f : Nat → Int} (h : Ar w b f) (j : Nat) : w.frozen? ⟨b, j, none⟩ = false := frozen_of_row w b j _ 122 h
theorem Ar.set {w : World} {b : Nat} {f : Nat → Int} (h : Ar w b f) (j : Nat) (hj : j < 16) (v : Int) : Ar (w.setCell ⟨b, j, none⟩ (.int .i64 v)) b (fun i => if i = j then v else f i) := by
  unfold Ar
  rw [heap_setCell_same w b j _ 122 _ h, A16_set f j hj]
theorem Ar.below {w w' : World} {b : Nat} {f : Nat → Int} (h : Ar w b f) (hb : Below w.heap.size w w') : Ar w' b f := (hb.block b (Array.getElem?_eq_some_iff.1 h).1).trans h
theorem Ar.lt {w : World} {b : Nat} {f : Nat → Int} (h : Ar w b f) : b < w.heap.size := (Array.getElem?_eq_some_iff.1 h).1
theorem Ar.other {w : World} {b b' : Nat} {f : Nat → Int} (h : Ar w b f) (hne : b ≠ b') (j : Nat) (v : Value) : Ar (w.setCell ⟨b', j, none⟩ v) b f := (Below.heap_setCell w ⟨b', j, none⟩ v b hne).trans h
theorem Ar.congr {w : World} {b : Nat} {f g : Nat → Int} (h : Ar w b f) (e : ∀ j, j < 16 → f j = g j) : Ar w b g := by
  unfold Ar at h ⊢
  rw [h, A16_congr e]

abbrev set16 (w : World) (b : Nat) (f : Nat → Int) : World := ((((((((((((((((w).setCell ⟨b, 0, none⟩ (.int .i64 (f 0))).setCell ⟨b, 1, none⟩ (.int .i64 (f 1))).setCell ⟨b, 2, none⟩ (.int .i64 (f 2))).setCell ⟨b, 3, none⟩ (.int .i64 (f 3))).setCell ⟨b, 4, none⟩ (.int .i64 (f 4))).setCell ⟨b, 5, none⟩ (.int .i64 (f 5))).setCell ⟨b, 6, none⟩ (.int .i64 (f 6))).setCell ⟨b, 7, none⟩ (.int .i64 (f 7))).setCell ⟨b, 8, none⟩ (.int .i64 (f 8))).setCell ⟨b, 9, none⟩ (.int .i64 (f 9))).setCell ⟨b, 10, none⟩ (.int .i64 (f 10))).setCell ⟨b, 11, none⟩ (.int .i64 (f 11))).setCell ⟨b, 12, none⟩ (.int .i64 (f 12))).setCell ⟨b, 13, none⟩ (.int .i64 (f 13))).setCell ⟨b, 14, none⟩ (.int .i64 (f 14))).setCell ⟨b, 15, none⟩ (.int .i64 (f 15))
theorem store16 {w : World} {b : Nat} {g : Nat → Int} (h : Ar w b g) (f : Nat → Int) : Ar (set16 w b f) b f := by
  have h2 := ((((((((((((((((h).set 0 (by omega) (f 0)).set 1 (by omega) (f 1)).set 2 (by omega) (f 2)).set 3 (by omega) (f 3)).set 4 (by omega) (f 4)).set 5 (by omega) (f 5)).set 6 (by omega) (f 6)).set 7 (by omega) (f 7)).set 8 (by omega) (f 8)).set 9 (by omega) (f 9)).set 10 (by omega) (f 10)).set 11 (by omega) (f 11)).set 12 (by omega) (f 12)).set 13 (by omega) (f 13)).set 14 (by omega) (f 14)).set 15 (by omega) (f 15)
  refine h2.congr (fun j hj => ?_)
  rcases lt16 hj with rfl | rfl | rfl | rfl | rfl | rfl | rfl | rfl | rfl | rfl | rfl | rfl | rfl | rfl | rfl | rfl <;> simp
theorem below16 {w0 w : World} {B b : Nat} (hb : Below B w0 w) (hB : B ≤ b) (f : Nat → Int) : Below B w0 (set16 w b f) := ((((((((((((((((hb).setCell (p := ⟨b, 0, none⟩) hB (.int .i64 (f 0))).setCell (p := ⟨b, 1, none⟩) hB (.int .i64 (f 1))).setCell (p := ⟨b, 2, none⟩) hB (.int .i64 (f 2))).setCell (p := ⟨b, 3, none⟩) hB (.int .i64 (f 3))).setCell (p := ⟨b, 4, none⟩) hB (.int .i64 (f 4))).setCell (p := ⟨b, 5, none⟩) hB (.int .i64 (f 5))).setCell (p := ⟨b, 6, none⟩) hB (.int .i64 (f 6))).setCell (p := ⟨b, 7, none⟩) hB (.int .i64 (f 7))).setCell (p := ⟨b, 8, none⟩) hB (.int .i64 (f 8))).setCell (p := ⟨b, 9, none⟩) hB (.int .i64 (f 9))).setCell (p := ⟨b, 10, none⟩) hB (.int .i64 (f 10))).setCell (p := ⟨b, 11, none⟩) hB (.int .i64 (f 11))).setCell (p := ⟨b, 12, none⟩) hB (.int .i64 (f 12))).setCell (p := ⟨b, 13, none⟩) hB (.int .i64 (f 13))).setCell (p := ⟨b, 14, none⟩) hB (.int .i64 (f 14))).setCell (p := ⟨b, 15, none⟩) hB (.int .i64 (f 15))

/-- in the midst of a row: the columns ahead of j have been looked at -/
def mid (f : Nat → Int) (row : List ByteArray) (j : Nat) : Nat → Int := fun i => if i < j then max (f i) (wAt row i) else f i

set_option maxRecDepth 100000 in
set_option maxHeartbeats 4000000 in
theorem columnWidths_any (rows : List (List ByteArray)) (hn : rows.length ≤ 256) (hr : ∀ r ∈ rows, r.length ≤ 16 ∧ ∀ c ∈ r, c.size ≤ 1048576) (w : World) (ad : Option Addr) (cap : Nat) (hV : Rs w ad rows) (R off cap' : Nat) (hS : Spans w R off cap') :
    Calls Tryd.prog 87 #[.slice ad rows.length cap] w fun e w' => e = .returned (.agg (A16 (cw rows))) ∧ Below w.heap.size w w' := by
  have HWD := hide (fun (c : ByteArray) (hc : c.size ≤ 1048576) (W : World) (hb : Below w.heap.size w W) => width_any c (by omega) W R off cap' (hS.below hb (Nat.le_refl _)))
  have HRR := hide (fun i (hi : i < rows.length) => hr rows[i] (List.getElem_mem hi))
  have HTK := hide (fun i (hi : i < rows.length) => (List.take_succ_eq_append_getElem hi : rows.take (i + 1) = _))
  have HTT : Hid (rows.take rows.length = rows) := by show _ = _; rw [List.take_length]
  have HVV := hide hV
  have hw2 := ((Below.refl w.heap.size w).alloc (Nat.le_refl _) (.cells #[.int .i64 0, .int .i64 0, .int .i64 0, .int .i64 0, .int .i64 0, .int .i64 0, .int .i64 0, .int .i64 0, .int .i64 0, .int .i64 0, .int .i64 0, .int .i64 0, .int .i64 0, .int .i64 0, .int .i64 0, .int .i64 0] 122)).alloc (by simp) (.cells #[.int .i64 0, .int .i64 0, .int .i64 0, .int .i64 0, .int .i64 0, .int .i64 0, .int .i64 0, .int .i64 0, .int .i64 0, .int .i64 0, .int .i64 0, .int .i64 0, .int .i64 0, .int .i64 0, .int .i64 0, .int .i64 0] 122)
  have ha0 : Ar ((w.alloc (.cells #[.int .i64 0, .int .i64 0, .int .i64 0, .int .i64 0, .int .i64 0, .int .i64 0, .int .i64 0, .int .i64 0, .int .i64 0, .int .i64 0, .int .i64 0, .int .i64 0, .int .i64 0, .int .i64 0, .int .i64 0, .int .i64 0] 122)).alloc (.cells #[.int .i64 0, .int .i64 0, .int .i64 0, .int .i64 0, .int .i64 0, .int .i64 0, .int .i64 0, .int .i64 0, .int .i64 0, .int .i64 0, .int .i64 0, .int .i64 0, .int .i64 0, .int .i64 0, .int .i64 0, .int .i64 0] 122)) w.heap.size (fun _ => 0) := by
    unfold Ar
    rw [A16_zero]
    have h1 := World.alloc_heap_new w (.cells #[.int .i64 0, .int .i64 0, .int .i64 0, .int .i64 0, .int .i64 0, .int .i64 0, .int .i64 0, .int .i64 0, .int .i64 0, .int .i64 0, .int .i64 0, .int .i64 0, .int .i64 0, .int .i64 0, .int .i64 0, .int .i64 0] 122)
    have h2 := (Below.refl _ (w.alloc (.cells #[.int .i64 0, .int .i64 0, .int .i64 0, .int .i64 0, .int .i64 0, .int .i64 0, .int .i64 0, .int .i64 0, .int .i64 0, .int .i64 0, .int .i64 0, .int .i64 0, .int .i64 0, .int .i64 0, .int .i64 0, .int .i64 0] 122))).alloc (Nat.le_refl _) (.cells #[.int .i64 0, .int .i64 0, .int .i64 0, .int .i64 0, .int .i64 0, .int .i64 0, .int .i64 0, .int .i64 0, .int .i64 0, .int .i64 0, .int .i64 0, .int .i64 0, .int .i64 0, .int .i64 0, .int .i64 0, .int .i64 0] 122)
    exact (h2.block w.heap.size (by simp)).trans h1
  have ha1 : Ar ((w.alloc (.cells #[.int .i64 0, .int .i64 0, .int .i64 0, .int .i64 0, .int .i64 0, .int .i64 0, .int .i64 0, .int .i64 0, .int .i64 0, .int .i64 0, .int .i64 0, .int .i64 0, .int .i64 0, .int .i64 0, .int .i64 0, .int .i64 0] 122)).alloc (.cells #[.int .i64 0, .int .i64 0, .int .i64 0, .int .i64 0, .int .i64 0, .int .i64 0, .int .i64 0, .int .i64 0, .int .i64 0, .int .i64 0, .int .i64 0, .int .i64 0, .int .i64 0, .int .i64 0, .int .i64 0, .int .i64 0] 122)) (w.heap.size + 1) (fun _ => 0) := by
    unfold Ar
    rw [A16_zero]
    have h1 := World.alloc_heap_new (w.alloc (.cells #[.int .i64 0, .int .i64 0, .int .i64 0, .int .i64 0, .int .i64 0, .int .i64 0, .int .i64 0, .int .i64 0, .int .i64 0, .int .i64 0, .int .i64 0, .int .i64 0, .int .i64 0, .int .i64 0, .int .i64 0, .int .i64 0] 122)) (.cells #[.int .i64 0, .int .i64 0, .int .i64 0, .int .i64 0, .int .i64 0, .int .i64 0, .int .i64 0, .int .i64 0, .int .i64 0, .int .i64 0, .int .i64 0, .int .i64 0, .int .i64 0, .int .i64 0, .int .i64 0, .int .i64 0] 122)
    simpa using h1
  clear hr hV hS
  obtain ⟨N, hN⟩ : ∃ N, rows.length = N := ⟨_, rfl⟩
  have HN := hide hN
  rw [hN] at hn ⊢
  clear hN
  have hNI : (N : Int) ≤ 256 := by omega
  go_enter Tryd.func87, Tryd.ntmps87
  go_wp2_with fail
  generalize (w.alloc (.cells #[.int .i64 0, .int .i64 0, .int .i64 0, .int .i64 0, .int .i64 0, .int .i64 0, .int .i64 0, .int .i64 0, .int .i64 0, .int .i64 0, .int .i64 0, .int .i64 0, .int .i64 0, .int .i64 0, .int .i64 0, .int .i64 0] 122)).alloc (.cells #[.int .i64 0, .int .i64 0, .int .i64 0, .int .i64 0, .int .i64 0, .int .i64 0, .int .i64 0, .int .i64 0, .int .i64 0, .int .i64 0, .int .i64 0, .int .i64 0, .int .i64 0, .int .i64 0, .int .i64 0, .int .i64 0] 122) = w0 at *
  go_loopw [10] (fun kv wr => ∃ (i : Nat) (f : Nat → Int), kv = .int .i64 (i : Int) ∧ i ≤ N ∧ Below w.heap.size w wr ∧ Ar wr w.heap.size (fun _ => 0) ∧ Ar wr (w.heap.size + 1) f ∧ Hid (∀ j, f j = cw (rows.take i) j)) (fun kv _ => N - (intOf kv).toNat)
  case atStart => exact ⟨0, fun _ => 0, rfl, by omega, hw2, ha0, ha1, fun j => rfl⟩
  case round =>
    obtain ⟨i, f, rfl, hi, hB, hA0, hA1, HF⟩ := hrel
    clear hw2 ha0 ha1
    by_cases hlt : i < N
    · have hil : i < rows.length := by rw [HN.out]; exact hlt
      obtain ⟨g, o, adr, cp, rfl, hg, c00, hv⟩ := HVV.out i hil
      have c0 := (hB.cell (p := ⟨g, o + i, none⟩) hg).trans c00
      clear c00
      have hltI : (i : Int) < (N : Int) := by omega
      obtain ⟨hr16, hcs⟩ := HRR.out i hil
      have HF2 : Hid (∀ j, cw (rows.take (i + 1)) j = max (f j) (wAt rows[i] j)) := by
        intro j
        rw [HTK.out i hil, cw_snoc, ← HF.out j]
      have HSV := hide hv
      generalize rows[i] = row at *
      have HCS := hide hcs
      clear hv hcs
      obtain ⟨M, hM⟩ : ∃ M, row.length = M := ⟨_, rfl⟩
      have HM := hide hM
      rw [hM] at c0 hr16
      clear hM
      have hMI : (M : Int) ≤ 16 := by omega
      go_wp2_with fail
      go_loopw [16] (fun kv wr' => ∃ (j : Nat) (f2 : Nat → Int), kv = .int .i64 (j : Int) ∧ j ≤ M ∧ Below w.heap.size w wr' ∧ Ar wr' w.heap.size (fun _ => 0) ∧ Ar wr' (w.heap.size + 1) f2 ∧ Hid (∀ q, f2 q = mid f row j q)) (fun kv _ => M - (intOf kv).toNat)
      case atStart => exact ⟨0, f, rfl, by omega, hB, hA0, hA1, fun q => by simp [mid]⟩
      case round =>
        clear hA0 hA1 hB
        obtain ⟨j, f2, rfl, hj, hB, hA0, hA1, HM2⟩ := hrel
        by_cases hjl : j < M
        · have hjr : j < row.length := by rw [HM.out]; exact hjl
          have hjI : (j : Int) < (M : Int) := by omega
          have hj16 : (j : Int) < 16 := by omega
          have hj16N : j < 16 := by omega
          obtain ⟨g2, o2, rfl, hg2, d0⟩ := (HSV.out.below hB (Nat.le_refl _)) j hjr
          have hcz := HCS.out row[j] (List.getElem_mem hjr)
          have WD := HWD.out row[j] hcz wr.drew hB.drew
          have k1 := hA1.cell j hj16N
          have z1 := hA1.frozen j
          have HM3 : Hid (∀ q, (if q = j then max (f2 j) (wAt row j) else f2 q) = mid f row (j + 1) q) := by
            intro q
            rw [HM2.out q]
            unfold mid
            by_cases e : q = j
            · subst e
              rw [if_pos rfl, if_pos (by omega), HM2.out q]
              unfold mid
              rw [if_neg (by omega)]
            · rw [if_neg e]
              by_cases h : q < j
              · rw [if_pos h, if_pos (by omega)]
              · rw [if_neg h, if_neg (by omega)]
          have hwa := wAt_in hjr
          have hwr := wS_range (pieces row[j])
          have hpl := Wd.pieces_len row[j]
          rw [hwa] at HM3
          generalize wS (pieces row[j]) = ww at *
          generalize row[j] = c at *
          have hwwb : ww ≤ 2097152 := by omega
          have hww0 := hwr.1
          clear hwr hpl hwa hcz HM2
          have hAlt := hA1.lt
          generalize hfj : f2 j = fj at *
          go_wp2_with fail
          go_region_with (go_at_call 36; refine WD.mono ?_; rintro e w2 ⟨rfl, hb2⟩; have hA2 := (show Ar wr.drew (w.heap.size + 1) f2 from hA1).below hb2; have k2 := hA2.cell j hj16N; have z2 := hA2.frozen j)
          all_goals go_wp2
          all_goals
            have hB2 := (hB.drew.trans (hb2.mono hB.size)).setCell (p := ⟨w.heap.size + 1, j, none⟩) (by simp) (.int .i64 (max fj ww))
            have hA0' := ((show Ar wr.drew w.heap.size (fun _ => 0) from hA0).below hb2).other (b' := w.heap.size + 1) (by omega) j (.int .i64 (max fj ww))
            have hA1' := hA2.set j hj16N (max fj ww)
            exact ⟨⟨j + 1, _, by go_num, by omega, hB2, hA0', hA1', HM3⟩, by simp only [intOf]; omega⟩
        · have hge : ¬ (j : Int) < (M : Int) := by omega
          have hjM : j = M := by omega
          have HF3 : Hid (∀ q, f2 q = cw (rows.take (i + 1)) q) := by
            intro q
            rw [HM2.out q, HF2.out q, hjM]
            unfold mid
            by_cases h : q < M
            · rw [if_pos h]
            · rw [if_neg h, wAt_out (by rw [HM.out]; omega)]
              have hc := cw_pos (rows.take i) q
              have e := HF.out q
              omega
          clear HM2 HF2 HSV HCS
          go_wp2
          exact ⟨⟨i + 1, f2, by go_num, by omega, hB, hA0, hA1, HF3⟩, by simp only [intOf]; omega⟩
    · have hge : ¬ (i : Int) < (N : Int) := by omega
      have hiN : i = N := by omega
      have HE : Hid (∀ q, f q = cw rows q) := by
        intro q
        rw [HF.out q, hiN, ← HN.out, HTT.out]
      have HRS : Hid (A16 f = A16 (cw rows)) := A16_congr (fun q _ => HE.out q)
      have c0 := hA1.cell 0 (by omega)
      have d0 := hA0.cell 0 (by omega)
      have z0 := hA0.frozen 0
      have c1 := hA1.cell 1 (by omega)
      have d1 := hA0.cell 1 (by omega)
      have z1 := hA0.frozen 1
      have c2 := hA1.cell 2 (by omega)
      have d2 := hA0.cell 2 (by omega)
      have z2 := hA0.frozen 2
      have c3 := hA1.cell 3 (by omega)
      have d3 := hA0.cell 3 (by omega)
      have z3 := hA0.frozen 3
      have c4 := hA1.cell 4 (by omega)
      have d4 := hA0.cell 4 (by omega)
      have z4 := hA0.frozen 4
      have c5 := hA1.cell 5 (by omega)
      have d5 := hA0.cell 5 (by omega)
      have z5 := hA0.frozen 5
      have c6 := hA1.cell 6 (by omega)
      have d6 := hA0.cell 6 (by omega)
      have z6 := hA0.frozen 6
      have c7 := hA1.cell 7 (by omega)
      have d7 := hA0.cell 7 (by omega)
      have z7 := hA0.frozen 7
      have c8 := hA1.cell 8 (by omega)
      have d8 := hA0.cell 8 (by omega)
      have z8 := hA0.frozen 8
      have c9 := hA1.cell 9 (by omega)
      have d9 := hA0.cell 9 (by omega)
      have z9 := hA0.frozen 9
      have c10 := hA1.cell 10 (by omega)
      have d10 := hA0.cell 10 (by omega)
      have z10 := hA0.frozen 10
      have c11 := hA1.cell 11 (by omega)
      have d11 := hA0.cell 11 (by omega)
      have z11 := hA0.frozen 11
      have c12 := hA1.cell 12 (by omega)
      have d12 := hA0.cell 12 (by omega)
      have z12 := hA0.frozen 12
      have c13 := hA1.cell 13 (by omega)
      have d13 := hA0.cell 13 (by omega)
      have z13 := hA0.frozen 13
      have c14 := hA1.cell 14 (by omega)
      have d14 := hA0.cell 14 (by omega)
      have z14 := hA0.frozen 14
      have c15 := hA1.cell 15 (by omega)
      have d15 := hA0.cell 15 (by omega)
      have z15 := hA0.frozen 15
      clear HF HVV HRR HTK HTT HWD HE hiN
      go_wp2
      have hAF := store16 hA0 f
      have hBF := below16 hB (Nat.le_refl _) f
      refine bodyPost_ret (v := .agg (A16 f)) ?_ rfl ⟨by rw [HRS.out], hBF⟩
      show (results _ _).run _ (set16 wr w.heap.size f) = .ok _ (set16 wr w.heap.size f)
      generalize set16 wr w.heap.size f = WF at *
      have r0 := hAF.cell 0 (by omega)
      have r1 := hAF.cell 1 (by omega)
      have r2 := hAF.cell 2 (by omega)
      have r3 := hAF.cell 3 (by omega)
      have r4 := hAF.cell 4 (by omega)
      have r5 := hAF.cell 5 (by omega)
      have r6 := hAF.cell 6 (by omega)
      have r7 := hAF.cell 7 (by omega)
      have r8 := hAF.cell 8 (by omega)
      have r9 := hAF.cell 9 (by omega)
      have r10 := hAF.cell 10 (by omega)
      have r11 := hAF.cell 11 (by omega)
      have r12 := hAF.cell 12 (by omega)
      have r13 := hAF.cell 13 (by omega)
      have r14 := hAF.cell 14 (by omega)
      have r15 := hAF.cell 15 (by omega)
      simp [results, Tryd.results87, go_sem, A16, r0, r1, r2, r3, r4, r5, r6, r7, r8, r9, r10, r11, r12, r13, r14, r15]
end Go.Proofs.YtckjededijgjgaaDoor.Tb
