import Derived.Test.YtckjededijgjgaaDoorTbC
import Derived.Test.YtckjededijgjgaaDoorWdJ
import Derived.Deep.RegionHeld
import Derived.OwnWalk
namespace Go.Proofs.YtckjededijgjgaaDoor.Tb
open Go.RowKit
open Go.Proofs.YtckjededijgjgaaDoor.Pc (P4 pieces)
open Go.Proofs.YtckjededijgjgaaDoor.Enc (Spans)
open Go.Proofs.YtckjededijgjgaaDoor.Wd (wS width_any wS_range bl bl_len bl_snoc byte_snoc new1)
open Go.Proofs.YtckjededijgjgaaDoor.Rn (bcs bcs_append conv_row info5)
set_option linter.unusedVariables false

set_option maxRecDepth 100000 in
set_option maxHeartbeats 1000000 in
theorem writeBlanks_big (B b n : Nat) (hn : n ≤ 1000) (acc : List UInt8) (hacc : acc.length ≤ 100000000) (w : World) (h : Lib.IsBuilderF 80 5 B b (Lib.byteCells acc) w) (hBw : B ≤ w.heap.size) :
    Calls Tryd.prog 74 #[.pointer (some ⟨b, 0, none⟩), .int .i64 (n : Int)] w fun e w' => e = .returned (.tuple #[]) ∧ Lib.IsBuilderF 80 5 B b (Lib.byteCells (acc ++ bl n)) w' ∧ Below B w w' := by
  have hnI : (n : Int) ≤ 1000 := by omega
  go_enter Tryd.func74, Tryd.ntmps74
  go_wp2_with fail
  go_loopw [5] (fun i wr => ∃ k : Nat, i = .int .i64 (k : Int) ∧ k ≤ n ∧ Lib.IsBuilderF 80 5 B b (Lib.byteCells (acc ++ bl k)) wr ∧ Below B w wr) (fun i _ => n - (intOf i).toNat)
  case atStart => exact ⟨0, rfl, by omega, by simpa [bl] using h, Below.refl _ _⟩
  case round =>
    obtain ⟨k, rfl, hk, hb, hB⟩ := hrel
    by_cases hlt : k < n
    · have hltI : (k : Int) < (n : Int) := by omega
      have WB := Bu.writeByte B b _ 32 wr hb (by rw [Lib.byteCells_length, List.length_append, bl_len]; omega) (Nat.le_trans hBw hB.size)
      rw [byte_snoc, List.append_assoc, ← bl_snoc] at WB
      go_wp2_with fail
      refine WB.mono ?_; rintro e w2 ⟨rfl, hb2, hB2, _⟩
      go_wp2
      exact ⟨⟨k + 1, by go_num, by omega, .inr hb2, hB.trans hB2⟩, by simp [intOf]; omega⟩
    · have hke : k = n := by omega
      subst hke
      have hge : ¬ (k : Int) < (k : Int) := by omega
      go_wp2
      go_end0
      exact ⟨rfl, hb, hB⟩
set_option maxRecDepth 100000 in
set_option maxHeartbeats 1000000 in
theorem spaces_big (n : Nat) (hn : n ≤ 1000) (w : World) :
    Calls Tryd.prog 82 #[.int .i64 (n : Int)] w fun e W' => e = .returned (.string ⟨(bl n).toArray⟩) ∧ Below w.heap.size w W' := by
  obtain ⟨i0, hi, hz0, hz1, hz2⟩ := info_parts info5
  have hnI : (n : Int) ≤ 1000 := by omega
  go_enter Tryd.func82, Tryd.ntmps82
  go_wp2_with fail
  go_loopw [3, 4] (fun b i wr => ∃ k : Nat, i = .int .i64 (k : Int) ∧ k ≤ n ∧ wr.ownsRow w.heap.size 5 1 b k (bcs (bl k)) ∧ Below w.heap.size w wr) (fun _ i _ => n - (intOf i).toNat)
  case atStart => exact ⟨0, rfl, by omega, World.ownsRow_nil _ _ _ _, Below.refl _ _⟩
  case round =>
    obtain ⟨k, rfl, hk, hrow, hB⟩ := hrel
    by_cases hlt : k < n
    · have hltI : (k : Int) < (n : Int) := by omega
      go_wp2_with (at_builtin; refine wpList_append_own _ rfl _ _ 75 rfl w.heap.size 5 i0 _ 1 1 Tryd.underlying75 hi hz0 hz1 hz2 rfl (by decide) _ _ _ rfl (hrow.alloc _) ⟨wr.heap.size, 0, none⟩ 1 1 [.int .u8 32] rfl rfl (new1 _) (by simp [Value.oneCell']) ?q1 ?q2 ?q3 ?_; rotate_left 3; intro v' w1 hown' hgrow _)
      · have hb2 : Below w.heap.size w w1 := (hB.alloc hB.size _).grown hgrow (by have := hB.size; simp; omega) (fun j ej => by
          rcases hrow.2 with ⟨rfl, _⟩ | ⟨g, cap, cur, rfl, hgb, _⟩
          · cases ej
          · cases ej; exact hgb)
        exact ⟨⟨k + 1, by go_num, by omega, by rw [bl_snoc, bcs_append]; exact hown', hb2⟩, by simp [intOf]; omega⟩
      · unfold maxLen; omega
      · omega
      · have := hB.size; simp; omega
    · have hke : k = n := by omega
      subst hke
      have kc := conv_row (acc := bl k) (by rw [bl_len]; exact hrow)
      have hge : ¬ (k : Int) < (k : Int) := by omega
      go_wp2
      go_ret
      exact ⟨rfl, hB⟩

/-- blanks behind a cell -/
def gap (f : Nat → Int) (row : List ByteArray) (k : Nat) : Nat := (f k - wAt row k + 2).toNat
/-- the first k cells of a line -/
def tlP (f : Nat → Int) (row : List ByteArray) : Nat → List UInt8
  | 0 => []
  | k + 1 => tlP f row k ++ (row.getD k ⟨#[]⟩).data.toList ++ (if k + 1 < row.length then bl (gap f row k) else [])
/-- a line -/
def tl (f : Nat → Int) (row : List ByteArray) : ByteArray := ⟨(tlP f row row.length).toArray⟩
/-- a row that may be, and widths for it -/
structure Fits (f : Nat → Int) (row : List ByteArray) : Prop where
  len : row.length ≤ 16
  cells : ∀ c ∈ row, c.size ≤ 1048576
  lo : ∀ k, k < row.length → wAt row k ≤ f k
  hi : ∀ k, k < row.length → f k ≤ 400
theorem tlP_len {f : Nat → Int} {row : List ByteArray} (h : Fits f row) : ∀ k, k ≤ row.length → (tlP f row k).length ≤ k * 1049000 := by
  intro k
  induction k with
  | zero => intro _; simp [tlP]
  | succ k ih =>
    intro hk
    have h1 := ih (by omega)
    have hg : (row.getD k ⟨#[]⟩).data.toList.length ≤ 1048576 := by
      rw [List.getD_eq_getElem?_getD, List.getElem?_eq_getElem (by omega)]
      show (row[k]).data.toList.length ≤ _
      rw [Array.length_toList]
      exact h.cells _ (List.getElem_mem _)
    have h2 := h.hi k (by omega)
    have h3 := wAt_pos row k
    have hb : (if k + 1 < row.length then bl (gap f row k) else []).length ≤ 402 := by
      split
      · rw [bl_len]; unfold gap; omega
      · simp
    rw [tlP, List.length_append, List.length_append]
    omega

set_option maxRecDepth 100000 in
set_option maxHeartbeats 4000000 in
theorem tableLine_any (f : Nat → Int) (row : List ByteArray) (hF : Fits f row) (w : World) (ad : Option Addr) (cap : Nat) (hV : Sv w ad row) (R off cap' : Nat) (hS : Spans w R off cap') :
    Calls Tryd.prog 88 #[.slice ad row.length cap, .agg (A16 f)] w fun e w' => e = .returned (.string (tl f row)) ∧ Below w.heap.size w w' := by
  have hb1 := (Below.refl w.heap.size w).alloc (Nat.le_refl _) (.cells (A16 f) 122)
  have hA : Ar (w.alloc (.cells (A16 f) 122)) w.heap.size f := World.alloc_heap_new w _
  have hb2 := hb1.alloc (by simp) (.cells #[.pointer none, .slice none 0 0] 80)
  have hA2 : Ar ((w.alloc (.cells (A16 f) 122)).alloc (.cells #[.pointer none, .slice none 0 0] 80)) w.heap.size f := hA.below ((Below.refl _ _).alloc (Nat.le_refl _) _)
  have hbl : Lib.IsBuilderF 80 5 (w.heap.size + 1) (w.heap.size + 1) (Lib.byteCells []) ((w.alloc (.cells (A16 f) 122)).alloc (.cells #[.pointer none, .slice none 0 0] 80)) := by
    have := Lib.IsBuilderF.of (Lib.fresh_isBuilder 80 5 (w.alloc (.cells (A16 f) 122)))
    simp only [World.size_alloc] at this
    exact this
  have hsz : ((w.alloc (.cells (A16 f) 122)).alloc (.cells #[.pointer none, .slice none 0 0] 80)).heap.size = w.heap.size + 2 := by simp
  have HWD := hide (fun (c : ByteArray) (hc : c.size ≤ 1048576) (W : World) (hb : Below w.heap.size w W) => width_any c (by omega) W R off cap' (hS.below hb (Nat.le_refl _)))
  have HFF := hide hF
  have HVV := hide hV
  have HTL := hide (tlP_len hF)
  have hl16 := hF.len
  clear hV hS hA hb1 hF
  unfold tl
  obtain ⟨N, hN⟩ : ∃ N, row.length = N := ⟨_, rfl⟩
  have HN := hide hN
  rw [hN] at hl16 ⊢
  clear hN
  have hNI : (N : Int) ≤ 16 := by omega
  unfold A16 at hb2 hA2 hbl hsz
  unfold A16
  go_enter Tryd.func88, Tryd.ntmps88
  go_wp2_with fail
  generalize ((w.alloc (.cells #[.int .i64 (f 0), .int .i64 (f 1), .int .i64 (f 2), .int .i64 (f 3), .int .i64 (f 4), .int .i64 (f 5), .int .i64 (f 6), .int .i64 (f 7), .int .i64 (f 8), .int .i64 (f 9), .int .i64 (f 10), .int .i64 (f 11), .int .i64 (f 12), .int .i64 (f 13), .int .i64 (f 14), .int .i64 (f 15)] 122)).alloc (.cells #[.pointer none, .slice none 0 0] 80)) = w0 at *
  have hA3 : Ar w0 w.heap.size f := hA2
  clear hA2
  go_loopw [10] (fun kv wr => ∃ (k : Nat), kv = .int .i64 (k : Int) ∧ k ≤ N ∧ Below w.heap.size w wr ∧ w.heap.size + 2 ≤ wr.heap.size ∧ Ar wr w.heap.size f ∧ Lib.IsBuilderF 80 5 (w.heap.size + 1) (w.heap.size + 1) (Lib.byteCells (tlP f row k)) wr) (fun kv _ => N - (intOf kv).toNat)
  case atStart => exact ⟨0, rfl, by omega, hb2, by omega, hA3, hbl⟩
  case round =>
    obtain ⟨k, rfl, hk, hB, hs2, hA, hbd⟩ := hrel
    clear hb2 hA3 hbl hsz
    by_cases hlt : k < N
    · have hkl : k < row.length := by rw [HN.out]; exact hlt
      have hltI : (k : Int) < (N : Int) := by omega
      obtain ⟨g, o, rfl, hg, c0⟩ := (HVV.out.below hB (Nat.le_refl _)) k hkl
      have hcz := HFF.out.cells row[k] (List.getElem_mem hkl)
      have htl := HTL.out k (by omega)
      have HT2 : Hid (tlP f row (k + 1) = tlP f row k ++ row[k].data.toList ++ (if k + 1 < N then bl (gap f row k) else [])) := by
        show _ = _
        rw [tlP, List.getD_eq_getElem?_getD, List.getElem?_eq_getElem hkl, HN.out]
        rfl
      have hlo := HFF.out.lo k hkl
      have hhi := HFF.out.hi k hkl
      have hwp := wAt_pos row k
      have hwi := wAt_in hkl
      have WS := Bu.writeString (w.heap.size + 1) (w.heap.size + 1) _ row[k] wr hbd (by rw [Lib.byteCells_length]; omega) (by omega)
      generalize hTk : tlP f row k = T at *
      have hTl : T.length + row[k].size ≤ 100000000 := by omega
      have hgap : (gap f row k : Int) = f k - wAt row k + 2 := by unfold gap; omega
      rw [hwi] at hlo hgap hwp
      have hgn : gap f row k ≤ 1000 := by omega
      generalize gap f row k = gp at *
      generalize row[k] = c at *
      have HCZ := hide hcz
      clear hTk htl hwi
      go_wp2_with fail
      refine WS.mono ?_; rintro e w2 ⟨rfl, hbd2, hb2, _⟩
      have hA2 : Ar w2 w.heap.size f := (hb2.block w.heap.size (by omega)).trans hA
      have hB2 := hB.trans (hb2.mono (by omega))
      have hs22 := hb2.size
      have hbd2' : Lib.IsBuilderF 80 5 (w.heap.size + 1) (w.heap.size + 1) (Lib.byteCells (T ++ c.data.toList)) w2 := by
        rw [Lib.byteCells_append]; exact .inr hbd2
      by_cases hl1 : k + 1 < N
      · have hl1I : (k : Int) < (N : Int) - 1 := by omega
        rw [if_pos hl1] at HT2
        have hk16 : (k : Int) < 16 := by omega
        have k0 := hA2.cell k (by omega)
        have WD := HWD.out c hcz w2.drew hB2.drew
        have hTl2 : (T ++ c.data.toList).length ≤ 100000000 := by rw [List.length_append, Array.length_toList]; exact hTl
        have WB : ∀ w3, Below w2.drew.heap.size w2.drew w3 → Calls Tryd.prog 74 #[.pointer (some ⟨w.heap.size + 1, 0, none⟩), .int .i64 (IntKind.i64.wrap (IntKind.i64.wrap (f k - wS (pieces c)) + 2))] w3 fun e w' => e = .returned (.tuple #[]) ∧ Lib.IsBuilderF 80 5 (w.heap.size + 1) (w.heap.size + 1) (Lib.byteCells (T ++ c.data.toList ++ bl gp)) w' ∧ Below (w.heap.size + 1) w3 w' := fun w3 h3 => by
          have e : IntKind.i64.wrap (IntKind.i64.wrap (f k - wS (pieces c)) + 2) = (gp : Int) := by
            rw [IntKind.wrap_i64, IntKind.wrap_i64]; omega
          rw [e]
          exact writeBlanks_big _ _ gp hgn _ hTl2 w3 (Nm.bld_below (show Lib.IsBuilderF 80 5 (w.heap.size + 1) (w.heap.size + 1) (Lib.byteCells (T ++ c.data.toList)) w2.drew from hbd2') h3) (by have := h3.size; have e2 : w2.drew.heap.size = w2.heap.size := rfl; omega)
        generalize wS (pieces c) = ww at *
        generalize f k = fk at *
        clear WS
        go_wp2_with fail
        go_region_held (fun w' => w'.cell? ⟨w.heap.size, k, none⟩ = some (.int .i64 fk)) (first | assumption | go_keep) (first | (go_at_call 36; refine WD.mono ?_; rintro e w3 ⟨rfl, hb3⟩; have hA4 := (show Ar w2.drew w.heap.size f from hA2).below hb3; have k3 := (hb3.cell (p := ⟨w.heap.size, k, none⟩) (show w.heap.size < w2.drew.heap.size from hA2.lt)).trans (show w2.drew.cell? ⟨w.heap.size, k, none⟩ = some (.int .i64 fk) from k0)) | (go_at_call 74; refine (WB _ hb3).mono ?_; rintro e w4 ⟨rfl, hbd4, hb4⟩; have k4 := (hb4.cell (p := ⟨w.heap.size, k, none⟩) (show w.heap.size < w.heap.size + 1 by omega)).trans k3))
        all_goals go_wp2
        all_goals
          have hb3s : w2.heap.size ≤ w3.heap.size := hb3.size
          have hb4s := hb4.size
          have hA5 : Ar w4 w.heap.size f := (hb4.block w.heap.size (by omega)).trans hA4
          have hB4 : Below w.heap.size w w4 := (hB2.drew.trans (hb3.mono (show w.heap.size ≤ w2.heap.size by omega))).trans (hb4.mono (by omega))
          exact ⟨⟨k + 1, by go_num, by omega, hB4, by omega, hA5, by rw [HT2.out]; exact hbd4⟩, by simp only [intOf]; omega⟩
      · have hl1I : ¬ (k : Int) < (N : Int) - 1 := by omega
        rw [if_neg hl1, List.append_nil] at HT2
        clear WS
        go_wp2
        exact ⟨⟨k + 1, by go_num, by omega, hB2, by omega, hA2, by rw [HT2.out]; exact hbd2'⟩, by simp only [intOf]; omega⟩
    · have hge : ¬ (k : Int) < (N : Int) := by omega
      have hkN : k = N := by omega
      subst hkN
      have ST := Bu.string _ _ (tlP f row k) wr hbd (by omega)
      go_wp2_with fail
      refine ST.mono ?_; rintro e w2 ⟨rfl, _, hb2, _⟩
      go_wp2
      go_ret
      exact ⟨rfl, hB.trans (hb2.mono (by omega))⟩
end Go.Proofs.YtckjededijgjgaaDoor.Tb
namespace Go.Proofs.YtckjededijgjgaaDoor.Tb
open Go.RowKit
open Go.Proofs.YtckjededijgjgaaDoor.Pc (P4 pieces)
open Go.Proofs.YtckjededijgjgaaDoor.Enc (Spans)
open Go.Proofs.YtckjededijgjgaaDoor.Wd (wS wS_range)
set_option linter.unusedVariables false

def bad (row : List ByteArray) : Bool := rf row != 0
/-- what Table answers -/
def tableG (rows : List (List ByteArray)) : List ByteArray × Int × Int :=
  if 256 < rows.length then ([], 0, 18) else match rows.findIdx? bad with
    | some i => ([], (i : Int), rf (rows.getD i []))
    | none => (rows.map (tl (cw rows)), 0, 0)
theorem tableG_many {rows : List (List ByteArray)} (h : 256 < rows.length) : tableG rows = ([], 0, 18) := by unfold tableG; rw [if_pos h]
theorem tableG_bad {rows : List (List ByteArray)} {k : Nat} (h : ¬ 256 < rows.length) (hk : k < rows.length) (hb : ∀ j (hj : j < rows.length), j < k → rf rows[j] = 0) (hx : rf rows[k] ≠ 0) : tableG rows = ([], (k : Int), rf rows[k]) := by
  have e : rows.findIdx? bad = some k := by
    rw [List.findIdx?_eq_some_iff_getElem]
    exact ⟨hk, by unfold bad; rw [bne_iff_ne]; exact hx, fun j hj => by unfold bad; rw [hb j (by omega) hj]; decide⟩
  unfold tableG
  rw [if_neg h, e]
  simp only [List.getD_eq_getElem?_getD, List.getElem?_eq_getElem hk]
  rfl
theorem tableG_good {rows : List (List ByteArray)} (h : ¬ 256 < rows.length) (hb : ∀ j (hj : j < rows.length), rf rows[j] = 0) : tableG rows = (rows.map (tl (cw rows)), 0, 0) := by
  have e : rows.findIdx? bad = none := by
    rw [List.findIdx?_eq_none_iff]
    intro x hx
    obtain ⟨j, hj, rfl⟩ := List.mem_iff_getElem.1 hx
    unfold bad; rw [hb j hj]; decide
  unfold tableG
  rw [if_neg h, e]
theorem cf_zero {c : ByteArray} (h : cf c = 0) : wS (pieces c) ≤ 400 := by
  unfold cf cfL at h
  split at h
  · cases h
  · split at h
    · cases h
    · split at h
      · cases h
      · omega
theorem rfL_zero {row : List ByteArray} (h : rfL row = 0) : ∀ c ∈ row, cf c = 0 := by
  induction row with
  | nil => intro c hc; simp at hc
  | cons x t ih =>
    rw [rfL] at h
    by_cases hx : cf x ≠ 0
    · rw [if_pos hx] at h; exact absurd h hx
    · rw [if_neg hx] at h
      intro c hc
      rcases List.mem_cons.1 hc with rfl | hc
      · simpa using hx
      · exact ih h c hc
theorem rf_zero {row : List ByteArray} (h : rf row = 0) : row.length ≤ 16 ∧ ∀ k, k < row.length → wAt row k ≤ 400 := by
  unfold rf at h
  by_cases hl : 16 < row.length
  · rw [if_pos hl] at h; cases h
  · rw [if_neg hl] at h
    refine ⟨by omega, fun k hk => ?_⟩
    rw [wAt_in hk]
    exact cf_zero (rfL_zero h _ (List.getElem_mem hk))
theorem fold_le (l : List Int) (a m : Int) (ha : a ≤ m) (h : ∀ x ∈ l, x ≤ m) : l.foldl max a ≤ m := by
  induction l generalizing a with
  | nil => exact ha
  | cons x t ih =>
    have := h x (by simp)
    exact ih (max a x) (by omega) (fun y hy => h y (by simp [hy]))
theorem fold_ge (l : List Int) (a : Int) : a ≤ l.foldl max a ∧ ∀ x ∈ l, x ≤ l.foldl max a := by
  induction l generalizing a with
  | nil => exact ⟨Int.le_refl _, fun x hx => by simp at hx⟩
  | cons y t ih =>
    have := ih (max a y)
    refine ⟨by show a ≤ t.foldl max (max a y); omega, fun x hx => ?_⟩
    rcases List.mem_cons.1 hx with rfl | hx
    · show x ≤ t.foldl max (max a x); omega
    · exact this.2 x hx
theorem fits_of {rows : List (List ByteArray)} (hz : ∀ r ∈ rows, ∀ c ∈ r, c.size ≤ 1048576) (h : ∀ r ∈ rows, rf r = 0) : ∀ r ∈ rows, Fits (cw rows) r := by
  intro r hr
  have h0 := rf_zero (h r hr)
  refine ⟨h0.1, hz r hr, fun k hk => ?_, fun k hk => ?_⟩
  · exact (fold_ge _ 0).2 _ (List.mem_map.2 ⟨r, hr, rfl⟩)
  · refine fold_le _ 0 400 (by omega) (fun x hx => ?_)
    obtain ⟨r', hr', rfl⟩ := List.mem_map.1 hx
    have h1 := rf_zero (h r' hr')
    by_cases hk' : k < r'.length
    · exact h1.2 k hk'
    · show wAt r' k ≤ 400
      rw [wAt_out (by omega)]; omega

theorem info9 : (Tryd.prog.info? 9).map (fun i => (i.zero, i.size, i.bytes)) = some (some (.string ⟨#[]⟩), 1, 16) := by kernel_rfl
/-- cells of texts -/
def sCs (l : List ByteArray) : List Value := l.map fun b => Value.string b
theorem own1_set {w : World} {base n cap g : Nat} {xs : List Value} (h : w.ownsRow base 9 1 (.slice (some ⟨g, 0, none⟩) n cap) n xs) (j : Nat) (hj : j < n) (u : Value) : (w.setCell ⟨g, j, none⟩ u).ownsRow base 9 1 (.slice (some ⟨g, 0, none⟩) n cap) n (xs.set j u) := by
  obtain ⟨hl, ho⟩ := h
  rcases ho with ⟨e, _⟩ | ⟨g', cap', cur, e, hgb, hg, h1, h2, h3, h4⟩
  · cases e
  · cases e
    refine ⟨by simpa using hl, .inr ⟨g, cap, cur.setIfInBounds j u, rfl, hgb, heap_setCell_same w g j cur 9 u hg, h1, h2, by simpa using h3, ?_⟩⟩
    rw [Array.toList_setIfInBounds, List.take_set, h4]
theorem own1_slice {w : World} {base n : Nat} {v : Value} {xs : List Value} (h : w.ownsRow base 9 1 v n xs) : (∃ g cap, v = .slice (some ⟨g, 0, none⟩) n cap ∧ base ≤ g ∧ g < w.heap.size ∧ n ≤ cap ∧ ∃ cur, w.heap[g]? = some (.cells cur 9 (0, 0)) ∧ cur.size = cap) ∨ (v = .slice none 0 0 ∧ n = 0) := by
  rcases h.2 with h | ⟨g, cap, cur, e, hgb, hg, h1, h2, h3, h4⟩
  · exact .inr h
  · exact .inl ⟨g, cap, e, hgb, (Array.getElem?_eq_some_iff.1 hg).1, h1, cur, hg, by omega⟩
theorem own1_below {w w' : World} {base n : Nat} {v : Value} {l : List Value} (h : w.ownsRow base 9 1 v n l) (hb : Below w.heap.size w w') : w'.ownsRow base 9 1 v n l := by
  obtain ⟨hl, ho⟩ := h
  refine ⟨hl, ?_⟩
  rcases ho with ho | ⟨g, cap, cur, e1, e2, hg, e3⟩
  · exact .inl ho
  · exact .inr ⟨g, cap, cur, e1, e2, (hb.block g (Array.getElem?_eq_some_iff.1 hg).1).trans hg, e3⟩
theorem own1_cell {w : World} {base n cap g j : Nat} {xs : List Value} (h : w.ownsRow base 9 1 (.slice (some ⟨g, 0, none⟩) n cap) n xs) (hj : j < n) : w.cell? ⟨g, j, none⟩ = xs[j]? ∧ w.frozen? ⟨g, j, none⟩ = false := by
  obtain ⟨hl, ho⟩ := h
  rcases ho with ⟨e, _⟩ | ⟨g', cap', cur, e, hgb, hg, h1, h2, h3, h4⟩
  · cases e
  · cases e
    refine ⟨?_, frozen_of_row w g j _ 9 hg⟩
    rw [← h4, List.getElem?_take_of_lt (by omega), Array.getElem?_toList]
    simp [World.cell?, hg]
end Go.Proofs.YtckjededijgjgaaDoor.Tb
namespace Go.Proofs.YtckjededijgjgaaDoor.Tb
open Go.RowKit
open Go.Proofs.YtckjededijgjgaaDoor.Pc (P4 pieces)
open Go.Proofs.YtckjededijgjgaaDoor.Enc (Spans)
set_option linter.unusedVariables false

/-- what Table answers, in memory -/
def TA (w : World) (R : List ByteArray × Int × Int) (e : Ending) (w' : World) : Prop :=
  ∃ v, e = .returned (.tuple #[v, .int .i64 R.2.1, .int .i64 R.2.2]) ∧ w'.ownsRow w.heap.size 9 1 v R.1.length (sCs R.1) ∧ Below w.heap.size w w'
theorem TA.none {w w' : World} {a e : Int} (hb : Below w.heap.size w w') : TA w ([], a, e) (.returned (.tuple #[.slice none 0 0, .int .i64 a, .int .i64 e])) w' :=
  ⟨_, rfl, World.ownsRow_nil _ _ _ _, hb⟩
theorem lines_eq {rows : List (List ByteArray)} {f : Nat → Int} {xs : List Value} (hl : xs.length = rows.length) (h : ∀ j (hj : j < rows.length), xs[j]? = some (.string (tl f rows[j]))) : xs = sCs (rows.map (tl f)) := by
  apply List.ext_getElem?
  intro j
  by_cases hj : j < rows.length
  · rw [h j hj]
    simp [sCs, hj]
  · rw [List.getElem?_eq_none (by omega), List.getElem?_eq_none (by simp [sCs]; omega)]

set_option maxRecDepth 100000 in
set_option maxHeartbeats 8000000 in
theorem table_any (rows : List (List ByteArray)) (hz : ∀ r ∈ rows, ∀ c ∈ r, c.size ≤ 1048576) (w : World) (ad : Option Addr) (cap : Nat) (hV : Rs w ad rows) (R off cap' : Nat) (hS : Spans w R off cap') :
    Calls Tryd.prog 46 #[.slice ad rows.length cap] w fun e w' => TA w (tableG rows) e w' := by
  obtain ⟨i0, hi0, hz0, hz1, hz2⟩ := info_parts info9
  by_cases hbig : 256 < rows.length
  · rw [tableG_many hbig]
    have hbI : (256 : Int) < (rows.length : Int) := by omega
    clear hV hz
    generalize rows.length = N at *
    go_enter Tryd.func46, Tryd.ntmps46
    go_wp2
    go_ret3
    exact TA.none (Below.refl _ _)
  have HBD := hide (fun k hk hb hx => tableG_bad (rows := rows) (k := k) hbig hk hb hx)
  have HGD := hide (fun hb => tableG_good (rows := rows) hbig hb)
  have HRF := hide (fun i (hi : i < rows.length) (W : World) (hb : Below w.heap.size w W) (adr : Option Addr) (cp : Nat) (hv : Sv W adr rows[i]) => rowFault_any rows[i] (hz _ (List.getElem_mem hi)) W adr cp hv R off cap' (hS.below hb (Nat.le_refl _)))
  have HFT := hide (fun (h : ∀ r ∈ rows, rf r = 0) => fits_of hz h)
  have HCW := hide (fun (h : ∀ r ∈ rows, Fits (cw rows) r) (W : World) (hb : Below w.heap.size w W) => columnWidths_any rows (by omega) (fun r hr => ⟨(h r hr).len, (h r hr).cells⟩) W ad cap (hV.below hb (Nat.le_refl _)) R off cap' (hS.below hb (Nat.le_refl _)))
  have HTL := hide (fun (h : ∀ r ∈ rows, Fits (cw rows) r) i (hi : i < rows.length) (W : World) (hb : Below w.heap.size w W) (adr : Option Addr) (cp : Nat) (hv : Sv W adr rows[i]) => tableLine_any (cw rows) rows[i] (h _ (List.getElem_mem hi)) W adr cp hv R off cap' (hS.below hb (Nat.le_refl _)))
  have HVV := hide hV
  have HMM : Hid (∀ i (hi : i < rows.length), rows[i] ∈ rows) := fun i hi => List.getElem_mem hi
  clear hz hV hS
  obtain ⟨J, hJ⟩ : ∃ J, tableG rows = J := ⟨_, rfl⟩
  have HJ := hide hJ
  rw [hJ]
  clear hJ
  obtain ⟨N, hN⟩ : ∃ N, rows.length = N := ⟨_, rfl⟩
  have HN := hide hN
  rw [hN] at hbig HCW ⊢
  clear hN
  have hNI : (N : Int) ≤ 256 := by omega
  have hn256 : N ≤ 256 := by omega
  clear hbig
  go_enter Tryd.func46, Tryd.ntmps46
  go_wp2_with fail
  go_loopw [17] (fun kv wr => ∃ k : Nat, kv = .int .i64 (k : Int) ∧ k ≤ N ∧ Below w.heap.size w wr ∧ Hid (∀ j (hj : j < rows.length), j < k → rf rows[j] = 0)) (fun kv _ => N - (intOf kv).toNat)
  case atStart => exact ⟨0, rfl, by omega, Below.refl _ _, fun j hj h => by omega⟩
  case round =>
    obtain ⟨k, rfl, hk, hB, HI⟩ := hrel
    by_cases hlt : k < N
    · have hkl : k < rows.length := by rw [HN.out]; exact hlt
      have hltI : (k : Int) < (N : Int) := by omega
      obtain ⟨g, o, adr, cp, rfl, hg, c00, hv⟩ := HVV.out k hkl
      have c0 := (hB.cell (p := ⟨g, o + k, none⟩) hg).trans c00
      have RF := HRF.out k hkl wr hB adr cp (hv.below hB (Nat.le_refl _))
      have HNX : Hid (rf rows[k] = 0 → ∀ j (hj : j < rows.length), j < k + 1 → rf rows[j] = 0) := by
        intro hx j hj hjk
        by_cases e : j = k
        · subst e; exact hx
        · exact HI.out j hj (by omega)
      have HBX : Hid (rf rows[k] ≠ 0 → J = ([], (k : Int), rf rows[k])) := by
        intro hx
        rw [← HJ.out]
        exact HBD.out k hkl HI.out hx
      generalize rows[k] = row at *
      generalize rf row = er at *
      generalize row.length = M at *
      clear HI HBD HGD HRF HFT HCW HTL HVV HMM c00 hv
      by_cases he : er = 0
      · have be : (er != 0) = false := by rw [he]; rfl
        have HI2 := hide (HNX.out he)
        clear HNX HBX he
        go_wp2_with fail
        refine RF.mono ?_; rintro e w2 ⟨rfl, hb2⟩
        go_wp2
        exact ⟨⟨k + 1, by go_num, by omega, hB.trans (hb2.mono hB.size), HI2⟩, by simp [intOf]; omega⟩
      · have be : (er != 0) = true := by rw [bne_iff_ne]; exact he
        have HE := hide (HBX.out he)
        clear HNX HBX he
        go_wp2_with fail
        refine RF.mono ?_; rintro e w2 ⟨rfl, hb2⟩
        go_wp2
        go_ret3
        rw [HE.out]
        exact TA.none (hB.trans (hb2.mono hB.size))
    · have hge : ¬ (k : Int) < (N : Int) := by omega
      have hall : ∀ j (hj : j < rows.length), rf rows[j] = 0 := fun j hj => HI.out j hj (by rw [HN.out] at hj; omega)
      have hft := HFT.out (fun r hr => by obtain ⟨j, hj, rfl⟩ := List.mem_iff_getElem.1 hr; exact hall j hj)
      have HE : Hid (J = (rows.map (tl (cw rows)), 0, 0)) := by
        show _ = _
        rw [← HJ.out]; exact HGD.out hall
      have CW := HCW.out hft wr hB
      have HT2 := hide (HTL.out hft)
      unfold A16 at CW
      clear HI HBD HGD HRF HFT HCW HTL hall hft HJ hlt hk
      go_wp2_with fail
      refine CW.mono ?_; rintro e w2 ⟨rfl, hb2⟩
      have hB2 := hB.trans (hb2.mono hB.size)
      have hBs2 := hB2.size
      clear CW
      have hA : Ar (w2.alloc (.cells #[.int .i64 (cw rows 0), .int .i64 (cw rows 1), .int .i64 (cw rows 2), .int .i64 (cw rows 3), .int .i64 (cw rows 4), .int .i64 (cw rows 5), .int .i64 (cw rows 6), .int .i64 (cw rows 7), .int .i64 (cw rows 8), .int .i64 (cw rows 9), .int .i64 (cw rows 10), .int .i64 (cw rows 11), .int .i64 (cw rows 12), .int .i64 (cw rows 13), .int .i64 (cw rows 14), .int .i64 (cw rows 15)] 122)) w2.heap.size (cw rows) := World.alloc_heap_new w2 _
      have hB3 := hB2.alloc hB2.size (.cells #[.int .i64 (cw rows 0), .int .i64 (cw rows 1), .int .i64 (cw rows 2), .int .i64 (cw rows 3), .int .i64 (cw rows 4), .int .i64 (cw rows 5), .int .i64 (cw rows 6), .int .i64 (cw rows 7), .int .i64 (cw rows 8), .int .i64 (cw rows 9), .int .i64 (cw rows 10), .int .i64 (cw rows 11), .int .i64 (cw rows 12), .int .i64 (cw rows 13), .int .i64 (cw rows 14), .int .i64 (cw rows 15)] 122)
      have hsz3 : (w2.alloc (.cells #[.int .i64 (cw rows 0), .int .i64 (cw rows 1), .int .i64 (cw rows 2), .int .i64 (cw rows 3), .int .i64 (cw rows 4), .int .i64 (cw rows 5), .int .i64 (cw rows 6), .int .i64 (cw rows 7), .int .i64 (cw rows 8), .int .i64 (cw rows 9), .int .i64 (cw rows 10), .int .i64 (cw rows 11), .int .i64 (cw rows 12), .int .i64 (cw rows 13), .int .i64 (cw rows 14), .int .i64 (cw rows 15)] 122)).heap.size = w2.heap.size + 1 := by simp
      generalize hf : cw rows = f at *
      go_wp2_with (at_make; refine wpList_make_full _ rfl _ _ 34 rfl w.heap.size 9 i0 _ 1 Tryd.underlying34 hi0 hz0 hz1 _ _ _ _ N rfl rfl rfl rfl (by rw [hz2]; omega) (by unfold maxLen; omega) (by omega) ?_; intro w4 hrow4 hgr4)
      have hb34 : Below w.heap.size w w4 := hB3.grown hgr4 (by omega) (fun j ej => by cases ej)
      have hA4 : Ar w4 w2.heap.size f := (hgr4.block w2.heap.size (by omega) (fun e => by cases e)).trans hA
      rw [hsz3] at hrow4
      try rw [hsz3]
      clear hgr4 hA hB3 hsz3 hf
      generalize hb8 : w2.heap.size = b8 at *
      obtain ⟨xs0, hxs0⟩ : ∃ xs, (madeCells (Value.string ⟨#[]⟩).cells (N * 1)).toList = xs := ⟨_, rfl⟩
      have hrow5 : w4.ownsRow w.heap.size 9 1 (.slice (some ⟨b8 + 1, 0, none⟩) N N) N xs0 := by rw [← hxs0]; exact hrow4
      clear hrow4 hxs0 hb8
      go_loopw [36] (fun kv wr => ∃ (k : Nat) (xs : List Value), kv = .int .i64 (k : Int) ∧ k ≤ N ∧ Below w.heap.size w wr ∧ Ar wr b8 f ∧ wr.ownsRow w.heap.size 9 1 (.slice (some ⟨b8 + 1, 0, none⟩) N N) N xs ∧ Hid (∀ j (hj : j < rows.length), j < k → xs[j]? = some (.string (tl f rows[j])))) (fun kv _ => N - (intOf kv).toNat)
      case atStart => exact ⟨0, xs0, rfl, by omega, hb34, hA4, hrow5, fun j hj h => by omega⟩
      case round =>
        clear hrow5 hA4 hb34
        obtain ⟨k, xs, rfl, hk, hB', hA', hrow, HI⟩ := hrel
        by_cases hlt : k < N
        · have hkl : k < rows.length := by rw [HN.out]; exact hlt
          have hltI : (k : Int) < (N : Int) := by omega
          obtain ⟨g, o, adr, cp, rfl, hg, c00, hv⟩ := HVV.out k hkl
          have c0 := (hB'.cell (p := ⟨g, o + k, none⟩) hg).trans c00
          have TL := HT2.out k hkl wr hB' adr cp (hv.below hB' (Nat.le_refl _))
          unfold A16 at TL
          have a0 := hA'.cell 0 (by omega)
          have a1 := hA'.cell 1 (by omega)
          have a2 := hA'.cell 2 (by omega)
          have a3 := hA'.cell 3 (by omega)
          have a4 := hA'.cell 4 (by omega)
          have a5 := hA'.cell 5 (by omega)
          have a6 := hA'.cell 6 (by omega)
          have a7 := hA'.cell 7 (by omega)
          have a8 := hA'.cell 8 (by omega)
          have a9 := hA'.cell 9 (by omega)
          have a10 := hA'.cell 10 (by omega)
          have a11 := hA'.cell 11 (by omega)
          have a12 := hA'.cell 12 (by omega)
          have a13 := hA'.cell 13 (by omega)
          have a14 := hA'.cell 14 (by omega)
          have a15 := hA'.cell 15 (by omega)
          have hxl : xs.length = N := by have := hrow.1; omega
          have HI2 : Hid (∀ j (hj : j < rows.length), j < k + 1 → (xs.set k (.string (tl f rows[k])))[j]? = some (.string (tl f rows[j]))) := by
            intro j hj hjk
            by_cases e : j = k
            · subst e
              rw [List.getElem?_set_self (by omega)]
            · rw [List.getElem?_set_ne (fun h => e h.symm)]
              exact HI.out j hj (by omega)
          generalize rows[k] = row at *
          generalize tl f row = LT at *
          generalize row.length = M at *
          have hAlt := hA'.lt
          clear HI c00 hv HVV HT2
          go_wp2_with fail
          refine TL.mono ?_; rintro e w5 ⟨rfl, hb5⟩
          have hrow6 := own1_below hrow hb5
          obtain ⟨k0, z0⟩ := own1_cell hrow6 hlt
          obtain ⟨u0, hu0⟩ : ∃ u, xs[k]? = some u := ⟨_, List.getElem?_eq_getElem (by omega)⟩
          rw [hu0] at k0
          have hB6 := (hB'.trans (hb5.mono hB'.size)).setCell (p := ⟨b8 + 1, k, none⟩) (by show w.heap.size ≤ b8 + 1; omega) (.string LT)
          have hA6 := (hA'.below hb5).other (b' := b8 + 1) (by omega) k (.string LT)
          have hrow7 := own1_set hrow6 k hlt (.string LT)
          clear TL
          go_wp2
          exact ⟨⟨k + 1, _, by go_num, by omega, hB6, hA6, hrow7, HI2⟩, by simp only [intOf]; omega⟩
        · have hge : ¬ (k : Int) < (N : Int) := by omega
          have hxl : xs.length = rows.length := by rw [HN.out]; have := hrow.1; omega
          have hxe := lines_eq (f := f) hxl (fun j hj => HI.out j hj (by rw [HN.out] at hj; omega))
          have HL : Hid ((rows.map (tl f)).length = N) := by show _ = _; rw [List.length_map]; exact HN.out
          rw [hxe] at hrow
          clear HI HVV HT2 hxe hxl
          go_wp2
          go_ret3
          rw [HE.out]
          refine ⟨_, rfl, ?_, hB'⟩
          show World.ownsRow _ _ _ _ _ (rows.map (tl f)).length _
          rw [HL.out]
          exact hrow
end Go.Proofs.YtckjededijgjgaaDoor.Tb
namespace Go.Proofs.YtckjededijgjgaaDoor.Tb
open Go.RowKit
open Go.Proofs.YtckjededijgjgaaDoor.Pc (P4 pieces)
open Go.Proofs.YtckjededijgjgaaDoor.Wd (wS Cols refWidth_of wS_range)
set_option linter.unusedVariables false

set_option maxRecDepth 100000 in
set_option maxHeartbeats 2000000 in
theorem refRowFault_of (CO : Cols) (row : List ByteArray) (hz : ∀ c ∈ row, c.size ≤ 1048576) (w : World) (ad : Option Addr) (cap : Nat) (hV : Sv w ad row) :
    Calls Tryd.prog 84 #[.slice ad row.length cap] w fun e w' => e = .returned (.int .i64 (rf row)) ∧ Below w.heap.size w w' := by
  unfold rf
  by_cases hbig : 16 < row.length
  · rw [if_pos hbig]
    have hbI : (16 : Int) < (row.length : Int) := by omega
    clear hz hV
    generalize row.length = N at *
    go_enter Tryd.func84, Tryd.ntmps84
    go_wp2
    go_ret
    exact ⟨rfl, Below.refl _ _⟩
  rw [if_neg hbig]
  have HCF := hide (fun k (hk : k < row.length) (W : World) => refCellFault_of CO row[k] (hz _ (List.getElem_mem hk)) W)
  have HRD := hide (fun k (hk : k < row.length) => rf_drop hk)
  have HRE := hide (fun k (hk : row.length ≤ k) => rf_end hk)
  have HVV := hide hV
  have HR0 : Hid (rfL (row.drop 0) = rfL row) := by show _ = _; rw [List.drop_zero]
  clear hz hV
  generalize rfL row = F at *
  obtain ⟨N, hN⟩ : ∃ N, row.length = N := ⟨_, rfl⟩
  have HN := hide hN
  rw [hN] at hbig ⊢
  clear hN
  have hNI : (N : Int) ≤ 16 := by omega
  go_enter Tryd.func84, Tryd.ntmps84
  go_wp2_with fail
  go_loopw [3] (fun kv wr => ∃ k : Nat, kv = .int .i64 (k : Int) ∧ k ≤ N ∧ Below w.heap.size w wr ∧ Hid (rfL (row.drop k) = F)) (fun kv _ => N - (intOf kv).toNat)
  case atStart => exact ⟨0, rfl, by omega, Below.refl _ _, HR0⟩
  case round =>
    obtain ⟨k, rfl, hk, hB, HI⟩ := hrel
    by_cases hlt : k < N
    · have hkl : k < row.length := by rw [HN.out]; exact hlt
      obtain ⟨g, o, rfl, hg, c0⟩ := (HVV.out.below hB (Nat.le_refl _)) k hkl
      have hltI : (k : Int) < (N : Int) := by omega
      have CF := HCF.out k hkl wr
      have HI2 : Hid (F = if cf row[k] ≠ 0 then cf row[k] else rfL (row.drop (k + 1))) := by
        show _ = _
        rw [← HI.out]; exact HRD.out k hkl
      generalize row[k] = c at *
      generalize cf c = ec at *
      clear HI HCF HRD HRE HVV HR0
      by_cases he : ec = 0
      · have be : (ec != 0) = false := by rw [he]; rfl
        have HI3 : Hid (rfL (row.drop (k + 1)) = F) := by show _ = _; rw [HI2.out, if_neg (by simp [he])]
        clear HI2 he
        go_wp2_with fail
        refine CF.mono ?_; rintro e w2 ⟨rfl, hb2⟩
        go_wp2
        exact ⟨⟨k + 1, by go_num, by omega, hB.trans (hb2.mono hB.size), HI3⟩, by simp [intOf]; omega⟩
      · have be : (ec != 0) = true := by rw [bne_iff_ne]; exact he
        have HE : Hid (F = ec) := by show _ = _; rw [HI2.out, if_pos he]
        clear HI2 he
        go_wp2_with fail
        refine CF.mono ?_; rintro e w2 ⟨rfl, hb2⟩
        go_wp2
        go_ret
        exact ⟨by rw [HE.out]; rfl, hB.trans (hb2.mono hB.size)⟩
    · have hge : ¬ (k : Int) < (N : Int) := by omega
      have HE : Hid (F = 0) := by show _ = _; rw [← HI.out]; exact HRE.out k (by rw [HN.out]; omega)
      clear HI HCF HRD HRE HVV HR0
      go_wp2
      go_ret
      exact ⟨by rw [HE.out]; rfl, hB⟩

set_option maxRecDepth 100000 in
set_option maxHeartbeats 2000000 in
theorem refColumnWidth_of (CO : Cols) (rows : List (List ByteArray)) (hn : rows.length ≤ 256) (hr : ∀ r ∈ rows, r.length ≤ 16 ∧ ∀ c ∈ r, c.size ≤ 1048576) (j : Nat) (hj : j < 16) (w : World) (ad : Option Addr) (cap : Nat) (hV : Rs w ad rows) :
    Calls Tryd.prog 85 #[.slice ad rows.length cap, .int .i64 (j : Int)] w fun e w' => e = .returned (.int .i64 (cw rows j)) ∧ Below w.heap.size w w' := by
  have HWD := hide (fun (c : ByteArray) (hc : c.size ≤ 1048576) (W : World) => refWidth_of CO c hc W)
  have HRR := hide (fun i (hi : i < rows.length) => hr rows[i] (List.getElem_mem hi))
  have HTK := hide (fun i (hi : i < rows.length) => (List.take_succ_eq_append_getElem hi : rows.take (i + 1) = _))
  have HTT : Hid (rows.take rows.length = rows) := by show _ = _; rw [List.take_length]
  have HVV := hide hV
  have HCP := hide (fun i => cw_pos (rows.take i) j)
  clear hr hV
  obtain ⟨A, hA⟩ : ∃ A, cw rows j = A := ⟨_, rfl⟩
  have HA := hide hA
  rw [hA]
  clear hA
  obtain ⟨N, hN⟩ : ∃ N, rows.length = N := ⟨_, rfl⟩
  have HN := hide hN
  rw [hN] at hn ⊢
  clear hN
  have hNI : (N : Int) ≤ 256 := by omega
  have hjI : (j : Int) < 16 := by omega
  go_enter Tryd.func85, Tryd.ntmps85
  go_wp2_with fail
  go_loopw [5, 6] (fun bv kv wr => ∃ (i : Nat) (b : Int), kv = .int .i64 (i : Int) ∧ bv = .int .i64 b ∧ i ≤ N ∧ Below w.heap.size w wr ∧ Hid (b = cw (rows.take i) j)) (fun _ kv _ => N - (intOf kv).toNat)
  case atStart => exact ⟨0, 0, rfl, rfl, by omega, Below.refl _ _, rfl⟩
  case round =>
    obtain ⟨i, b, rfl, rfl, hi, hB, HF⟩ := hrel
    by_cases hlt : i < N
    · have hil : i < rows.length := by rw [HN.out]; exact hlt
      have hltI : (i : Int) < (N : Int) := by omega
      obtain ⟨g, o, adr, cp, rfl, hg, c00, hv⟩ := HVV.out i hil
      have c0 := (hB.cell (p := ⟨g, o + i, none⟩) hg).trans c00
      obtain ⟨hr16, hcs⟩ := HRR.out i hil
      have HF2 : Hid (cw (rows.take (i + 1)) j = max b (wAt rows[i] j)) := by
        show _ = _
        rw [HTK.out i hil, cw_snoc, ← HF.out]
      have hb0 : 0 ≤ b := by rw [HF.out]; exact HCP.out i
      have HSV := hide hv
      generalize rows[i] = row at *
      have HCS := hide hcs
      clear hv hcs c00 HVV HRR HTK HF
      obtain ⟨M, hM⟩ : ∃ M, row.length = M := ⟨_, rfl⟩
      have HM := hide hM
      rw [hM] at c0 hr16
      clear hM
      have hMI : (M : Int) ≤ 16 := by omega
      by_cases hjl : j < M
      · have hjr : j < row.length := by rw [HM.out]; exact hjl
        have hjMI : (j : Int) < (M : Int) := by omega
        obtain ⟨g2, o2, rfl, hg2, d0⟩ := (HSV.out.below hB (Nat.le_refl _)) j hjr
        have WD := HWD.out row[j] (HCS.out row[j] (List.getElem_mem hjr)) wr
        rw [wAt_in hjr] at HF2
        have hwr := wS_range (pieces row[j])
        generalize wS (pieces row[j]) = ww at *
        generalize row[j] = c at *
        clear HSV HCS HWD
        by_cases hgt : ww > b
        · have hgt' : b < ww := hgt
          have HF3 : Hid (ww = cw (rows.take (i + 1)) j) := by show _ = _; rw [HF2.out]; omega
          clear HF2
          go_wp2_with fail
          refine WD.mono ?_; rintro e w2 ⟨rfl, hb2⟩
          go_wp2
          exact ⟨⟨i + 1, ww, by go_num, rfl, by omega, hB.trans (hb2.mono hB.size), HF3⟩, by simp only [intOf]; omega⟩
        · have hgt' : ¬ b < ww := hgt
          have HF3 : Hid (b = cw (rows.take (i + 1)) j) := by show _ = _; rw [HF2.out]; omega
          clear HF2
          go_wp2_with fail
          refine WD.mono ?_; rintro e w2 ⟨rfl, hb2⟩
          go_wp2
          exact ⟨⟨i + 1, b, by go_num, rfl, by omega, hB.trans (hb2.mono hB.size), HF3⟩, by simp only [intOf]; omega⟩
      · have hjMI : ¬ (j : Int) < (M : Int) := by omega
        have HF3 : Hid (b = cw (rows.take (i + 1)) j) := by
          show _ = _
          rw [HF2.out, wAt_out (by rw [HM.out]; omega)]
          omega
        clear HF2 HSV HCS HWD
        go_wp2
        exact ⟨⟨i + 1, b, by go_num, rfl, by omega, hB, HF3⟩, by simp only [intOf]; omega⟩
    · have hge : ¬ (i : Int) < (N : Int) := by omega
      have hiN : i = N := by omega
      have HE : Hid (b = A) := by
        show _ = _
        rw [HF.out, hiN, ← HN.out, HTT.out]; exact HA.out
      clear HF HVV HRR HTK HTT HWD hiN
      go_wp2
      go_ret
      exact ⟨by rw [HE.out]; rfl, hB⟩
end Go.Proofs.YtckjededijgjgaaDoor.Tb
namespace Go.Proofs.YtckjededijgjgaaDoor.Tb
open Go.RowKit
open Go.Proofs.YtckjededijgjgaaDoor.Pc (P4 pieces)
open Go.Proofs.YtckjededijgjgaaDoor.Wd (wS Cols refWidth_of wS_range bl bl_len)
set_option linter.unusedVariables false

theorem info3 : (Tryd.prog.info? 3).map (fun i => (i.zero, i.size, i.bytes)) = some (some (.int .i64 0), 1, 8) := by kernel_rfl
/-- cells of the widths -/
def wCs (f : Nat → Int) (n : Nat) : List Value := (List.range n).map fun j => Value.int .i64 (f j)
theorem wCs_snoc (f : Nat → Int) (n : Nat) : wCs f (n + 1) = wCs f n ++ [.int .i64 (f n)] := by simp [wCs, List.range_succ]
theorem newI (W : World) (z : Int) (j : Nat) (u : Value) (h : ([.int .i64 z] : List Value)[j]? = some u) : (W.alloc (.cells #[.int .i64 z] 3)).cell? ((⟨W.heap.size, 0, none⟩ : Addr).add j) = some u := by
  rw [Pc.addP, World.cell?_alloc_new, Nat.zero_add]
  simpa using h
theorem newS (W : World) (z : ByteArray) (j : Nat) (u : Value) (h : ([.string z] : List Value)[j]? = some u) : (W.alloc (.cells #[.string z] 9)).cell? ((⟨W.heap.size, 0, none⟩ : Addr).add j) = some u := by
  rw [Pc.addP, World.cell?_alloc_new, Nat.zero_add]
  simpa using h
theorem ownT_below {w w' : World} {base n : Nat} {t : TypeId} {v : Value} {l : List Value} (h : w.ownsRow base t 1 v n l) (hb : Below w.heap.size w w') : w'.ownsRow base t 1 v n l := by
  obtain ⟨hl, ho⟩ := h
  refine ⟨hl, ?_⟩
  rcases ho with ho | ⟨g, cap, cur, e1, e2, hg, e3⟩
  · exact .inl ho
  · exact .inr ⟨g, cap, cur, e1, e2, (hb.block g (Array.getElem?_eq_some_iff.1 hg).1).trans hg, e3⟩
theorem ownT_grown {w w0 w1 : World} {base n : Nat} {t : TypeId} {v : Value} {l : List Value} (hrow : w0.ownsRow base t 1 v n l) (hB : Below base w w0) (hs : base ≤ w0.heap.size) (hgrow : w0.grownBy w1 v.ownBlock) : Below base w w1 :=
  hB.grown hgrow hs (fun j ej => by
    rcases hrow.2 with ⟨hv0, _⟩ | ⟨g, cap, cur, hv0, hgb, _⟩
    · rw [hv0] at ej; cases ej
    · rw [hv0] at ej; cases ej; exact hgb)
theorem ownT_base {w : World} {base base' n : Nat} {v : Value} {l : List Value} {t : TypeId} (h : w.ownsRow base t 1 v n l) (hb : base' ≤ base) : w.ownsRow base' t 1 v n l := by
  obtain ⟨hl, ho⟩ := h
  refine ⟨hl, ?_⟩
  rcases ho with ho | ⟨g, cap, cur, e1, e2, e3⟩
  · exact .inl ho
  · exact .inr ⟨g, cap, cur, e1, Nat.le_trans hb e2, e3⟩
/-- sixteen widths, to be read -/
theorem wide_of {w : World} {base : Nat} {v : Value} {f : Nat → Int} (h : w.ownsRow base 3 1 v 16 (wCs f 16)) : ∃ g cap, v = .slice (some ⟨g, 0, none⟩) 16 cap ∧ g < w.heap.size ∧ ∀ j, j < 16 → w.cell? ⟨g, j, none⟩ = some (.int .i64 (f j)) := by
  obtain ⟨hl, ho⟩ := h
  rcases ho with ⟨_, e⟩ | ⟨g, cap, cur, e, hgb, hg, h1, h2, h3, h4⟩
  · cases e
  · refine ⟨g, cap, e, (Array.getElem?_eq_some_iff.1 hg).1, fun j hj => ?_⟩
    have : w.cell? ⟨g, j, none⟩ = (wCs f 16)[j]? := by
      rw [← h4, List.getElem?_take_of_lt (by omega), Array.getElem?_toList]
      simp [World.cell?, hg]
    rw [this]
    simp [wCs, hj]

set_option maxRecDepth 100000 in
set_option maxHeartbeats 16000000 in
theorem refTable_of (CO : Cols) (rows : List (List ByteArray)) (hz : ∀ r ∈ rows, ∀ c ∈ r, c.size ≤ 1048576) (w : World) (ad : Option Addr) (cap : Nat) (hV : Rs w ad rows) :
    Calls Tryd.prog 45 #[.slice ad rows.length cap] w fun e w' => TA w (tableG rows) e w' := by
  obtain ⟨i0, hi0, hz0, hz1, hz2⟩ := info_parts info9
  obtain ⟨j0, hj0, jz0, jz1, jz2⟩ := info_parts info3
  by_cases hbig : 256 < rows.length
  · rw [tableG_many hbig]
    have hbI : (256 : Int) < (rows.length : Int) := by omega
    clear hV hz
    generalize rows.length = N at *
    go_enter Tryd.func45, Tryd.ntmps45
    go_wp2
    go_ret3
    exact TA.none (Below.refl _ _)
  have HBD := hide (fun k hk hb hx => tableG_bad (rows := rows) (k := k) hbig hk hb hx)
  have HGD := hide (fun hb => tableG_good (rows := rows) hbig hb)
  have HRF := hide (fun i (hi : i < rows.length) (W : World) (adr : Option Addr) (cp : Nat) (hv : Sv W adr rows[i]) => refRowFault_of CO rows[i] (hz _ (List.getElem_mem hi)) W adr cp hv)
  have HFT := hide (fun (h : ∀ r ∈ rows, rf r = 0) => fits_of hz h)
  have HCW := hide (fun (h : ∀ r ∈ rows, Fits (cw rows) r) (j : Nat) (hj : j < 16) (W : World) (hb : Below w.heap.size w W) => refColumnWidth_of CO rows (by omega) (fun r hr => ⟨(h r hr).len, (h r hr).cells⟩) j hj W ad cap (hV.below hb (Nat.le_refl _)))
  have HWD := hide (fun (c : ByteArray) (hc : c.size ≤ 1048576) (W : World) => refWidth_of CO c hc W)
  have HCP := hide (fun j => cw_pos rows j)
  have HVV := hide hV
  have HMM : Hid (∀ i (hi : i < rows.length), rows[i] ∈ rows) := fun i hi => List.getElem_mem hi
  clear hz hV
  obtain ⟨J, hJ⟩ : ∃ J, tableG rows = J := ⟨_, rfl⟩
  have HJ := hide hJ
  rw [hJ]
  clear hJ
  obtain ⟨N, hN⟩ : ∃ N, rows.length = N := ⟨_, rfl⟩
  have HN := hide hN
  rw [hN] at hbig HCW ⊢
  clear hN
  have hNI : (N : Int) ≤ 256 := by omega
  have hn256 : N ≤ 256 := by omega
  clear hbig
  go_enter Tryd.func45, Tryd.ntmps45
  go_wp2_with fail
  go_loopw [5] (fun kv wr => ∃ k : Nat, kv = .int .i64 (k : Int) ∧ k ≤ N ∧ Below w.heap.size w wr ∧ Hid (∀ j (hj : j < rows.length), j < k → rf rows[j] = 0)) (fun kv _ => N - (intOf kv).toNat)
  case atStart => exact ⟨0, rfl, by omega, Below.refl _ _, fun j hj h => by omega⟩
  case round =>
    obtain ⟨k, rfl, hk, hB, HI⟩ := hrel
    by_cases hlt : k < N
    · have hkl : k < rows.length := by rw [HN.out]; exact hlt
      have hltI : (k : Int) < (N : Int) := by omega
      obtain ⟨g, o, adr, cp, rfl, hg, c00, hv⟩ := HVV.out k hkl
      have c0 := (hB.cell (p := ⟨g, o + k, none⟩) hg).trans c00
      have RF := HRF.out k hkl wr adr cp (hv.below hB (Nat.le_refl _))
      have HNX : Hid (rf rows[k] = 0 → ∀ j (hj : j < rows.length), j < k + 1 → rf rows[j] = 0) := by
        intro hx j hj hjk
        by_cases e : j = k
        · subst e; exact hx
        · exact HI.out j hj (by omega)
      have HBX : Hid (rf rows[k] ≠ 0 → J = ([], (k : Int), rf rows[k])) := by
        intro hx
        rw [← HJ.out]
        exact HBD.out k hkl HI.out hx
      generalize rows[k] = row at *
      generalize rf row = er at *
      generalize row.length = M at *
      clear HI HBD HGD HRF HFT HCW HWD HCP HVV HMM c00 hv
      by_cases he : er = 0
      · have be : (er != 0) = false := by rw [he]; rfl
        have HI2 := hide (HNX.out he)
        clear HNX HBX he
        go_wp2_with fail
        refine RF.mono ?_; rintro e w2 ⟨rfl, hb2⟩
        go_wp2
        exact ⟨⟨k + 1, by go_num, by omega, hB.trans (hb2.mono hB.size), HI2⟩, by simp [intOf]; omega⟩
      · have be : (er != 0) = true := by rw [bne_iff_ne]; exact he
        have HE := hide (HBX.out he)
        clear HNX HBX he
        go_wp2_with fail
        refine RF.mono ?_; rintro e w2 ⟨rfl, hb2⟩
        go_wp2
        go_ret3
        rw [HE.out]
        exact TA.none (hB.trans (hb2.mono hB.size))
    · have hge : ¬ (k : Int) < (N : Int) := by omega
      have hall : ∀ j (hj : j < rows.length), rf rows[j] = 0 := fun j hj => HI.out j hj (by rw [HN.out] at hj; omega)
      have hft := HFT.out (fun r hr => by obtain ⟨j, hj, rfl⟩ := List.mem_iff_getElem.1 hr; exact hall j hj)
      have HE : Hid (J = (rows.map (tl (cw rows)), 0, 0)) := by
        show _ = _
        rw [← HJ.out]; exact HGD.out hall
      have HC2 := hide (HCW.out hft)
      have HFF := hide hft
      clear HI HBD HGD HRF HFT HCW hall hft HJ hlt hk
      generalize hf : cw rows = f at *
      clear hf
      go_wp2_with fail
      go_loopw [7, 8] (fun v kv wr => ∃ (j : Nat), kv = .int .i64 (j : Int) ∧ j ≤ 16 ∧ Below w.heap.size w wr ∧ wr.ownsRow w.heap.size 3 1 v j (wCs f j)) (fun _ kv _ => 16 - (intOf kv).toNat)
      case atStart => exact ⟨0, rfl, by omega, hB, World.ownsRow_nil _ _ _ _⟩
      case round =>
        obtain ⟨j, rfl, hj, hB', hrow⟩ := hrel
        by_cases hlt : j < 16
        · have hltI : (j : Int) < 16 := by omega
          have CW := HC2.out j hlt wr hB'
          have HSN := hide (wCs_snoc f j)
          generalize hfj : f j = fj at *
          have hBs' := hB'.size
          clear HC2 HFF HVV HWD HMM HCP
          go_wp2_with fail
          refine CW.mono ?_; rintro e w2 ⟨rfl, hb2⟩
          have hrow2 := ownT_below hrow hb2
          have hB2 := hB'.trans (hb2.mono hB'.size)
          have hBs2 := hB2.size
          clear CW hfj
          go_wp2_with (at_builtin; refine wpList_append_own _ rfl _ _ 119 rfl w.heap.size 3 j0 _ 1 8 Tryd.underlying119 hj0 jz0 jz1 jz2 rfl (by decide) _ _ _ rfl (hrow2.alloc _) ⟨w2.heap.size, 0, none⟩ 1 1 [.int .i64 fj] rfl rfl (newI _ _) (by simp [Value.oneCell']) ?p1 ?p2 ?p3 ?_; rotate_left 3; intro v' w3 hown' hgrow _)
          · have hB3 := ownT_grown (hrow2.alloc _) (hB2.alloc hB2.size _) (by simp; omega) hgrow
            exact ⟨⟨j + 1, by go_num, by omega, hB3, by rw [HSN.out]; exact hown'⟩, by simp only [intOf]; omega⟩
          all_goals (try (case p1 => unfold maxLen; omega))
          all_goals (try (case p2 => omega))
          all_goals (try (case p3 => (try simp); omega))
        · have hge : ¬ (j : Int) < 16 := by omega
          have hj16 : j = 16 := by omega
          subst hj16
          obtain ⟨gw, cpw, rfl, hgw, hwc⟩ := wide_of hrow
          have HWC := hide hwc
          have hge16 : ¬ (16 : Int) < 16 := by omega
          clear hwc hrow HC2 hge hlt hj
          have hBs' := hB'.size
          go_wp2_with fail
          generalize wr = wB at *
          go_loopw [10, 11] (fun v kv wl => ∃ (i : Nat), kv = .int .i64 (i : Int) ∧ i ≤ N ∧ Below wB.heap.size wB wl ∧ wl.ownsRow wB.heap.size 9 1 v i (sCs ((rows.take i).map (tl f)))) (fun _ kv _ => N - (intOf kv).toNat)
          case atStart => exact ⟨0, rfl, by omega, Below.refl _ _, World.ownsRow_nil _ _ _ _⟩
          case round =>
            generalize wr = wl at *
            obtain ⟨i, rfl, hi, hBl, hrow⟩ := hrel
            by_cases hlt : i < N
            · have hil : i < rows.length := by rw [HN.out]; exact hlt
              have hltI : (i : Int) < (N : Int) := by omega
              obtain ⟨g, o, adr, cp, rfl, hg, c00, hv⟩ := HVV.out i hil
              have HFI := hide (HFF.out _ (List.getElem_mem hil))
              have hM16 := (HFF.out _ (List.getElem_mem hil)).len
              have HSN : Hid (sCs ((rows.take (i + 1)).map (tl f)) = sCs ((rows.take i).map (tl f)) ++ [.string (tl f rows[i])]) := by
                show _ = _
                rw [List.take_succ_eq_append_getElem hil]
                simp only [sCs, List.map_append, List.map_cons, List.map_nil]
              generalize hS2e : sCs ((rows.take (i + 1)).map (tl f)) = S2 at *
              have HS2e := hide hS2e
              clear hS2e
              generalize sCs ((rows.take i).map (tl f)) = S1 at *
              have hgr : g < wB.heap.size := Nat.lt_of_lt_of_le hg hBs'
              have c01 := (hB'.cell (p := ⟨g, o + i, none⟩) hg).trans c00
              have HSV := hide (hv.below hB' (Nat.le_refl _))
              generalize rows[i] = row at *
              obtain ⟨M, hM⟩ : ∃ M, row.length = M := ⟨_, rfl⟩
              have HM := hide hM
              rw [hM] at c01 hM16
              clear hM c00 hv HFF HVV HMM
              have hMI : (M : Int) ≤ 16 := by omega
              have hBls := hBl.size
              have hNI2 : (N : Int) ≤ 256 := hNI
              go_wp2_with fail
              go_loopw [12, 13] (fun lv kv wq => ∃ (j : Nat) (L : ByteArray), kv = .int .i64 (j : Int) ∧ lv = .string L ∧ j ≤ M ∧ Below wl.heap.size wl wq ∧ (L.size : Int) ≤ 17000000 ∧ Hid (L.data.toList = tlP f row j)) (fun _ kv _ => M - (intOf kv).toNat)
              case atStart => exact ⟨0, ⟨#[]⟩, rfl, rfl, by omega, Below.refl _ _, by decide, rfl⟩
              case round =>
                generalize wr = wq at *
                obtain ⟨j, L, rfl, rfl, hj, hBq, hLs, HL⟩ := hrel
                have hBq2 := hBl.trans (hBq.mono hBl.size)
                have c0 := (hBq2.cell (p := ⟨g, o + i, none⟩) hgr).trans c01
                by_cases hltj : j < M
                · have hjr : j < row.length := by rw [HM.out]; exact hltj
                  have hjI : (j : Int) < (M : Int) := by omega
                  obtain ⟨g2, o2, rfl, hg2, d00⟩ := HSV.out j hjr
                  have d0 := (hBq2.cell (p := ⟨g2, o2 + j, none⟩) hg2).trans d00
                  have hcz := HFI.out.cells row[j] (List.getElem_mem hjr)
                  have hczI : (row[j].size : Int) ≤ 1048576 := by omega
                  have htl := tlP_len HFI.out j (by omega)
                  have htl2 := tlP_len HFI.out (j + 1) (by omega)
                  have hlo := HFI.out.lo j hjr
                  have hhi := HFI.out.hi j hjr
                  have hwp := wAt_pos row j
                  have hwi := wAt_in hjr
                  have hgap : (gap f row j : Int) = f j - wAt row j + 2 := by unfold gap; omega
                  rw [hwi] at hlo hgap hwp
                  have hgn : gap f row j ≤ 1000 := by omega
                  have HT2 : Hid (tlP f row (j + 1) = tlP f row j ++ row[j].data.toList ++ (if j + 1 < M then bl (gap f row j) else [])) := by
                    show _ = _
                    rw [tlP, List.getD_eq_getElem?_getD, List.getElem?_eq_getElem hjr, HM.out]
                    rfl
                  have hwk := (hBq2.cell (p := ⟨gw, j, none⟩) hgw).trans (HWC.out j (by omega))
                  have WD := HWD.out row[j] hcz wq
                  generalize tlP f row j = T1 at *
                  generalize hT2e : tlP f row (j + 1) = T2 at *
                  have HT2e := hide hT2e
                  clear hT2e
                  generalize gap f row j = gp at *
                  generalize wS (pieces row[j]) = ww at *
                  generalize row[j] = c at *
                  generalize f j = fj at *
                  have hLl : L.size = T1.length := by rw [← HL.out]; simp
                  have HTB := hide (⟨htl, htl2, hLl⟩ : T1.length ≤ j * 1049000 ∧ T2.length ≤ (j + 1) * 1049000 ∧ L.size = T1.length)
                  have hLz : (L.size : Int) ≤ 16000000 := by omega
                  clear htl htl2 hLl hwi HWD HSV HFI HWC d00 hcz
                  by_cases hl1 : j + 1 < M
                  · have hl1I : (j : Int) < (M : Int) - 1 := by omega
                    have hl1J : (j : Int) + 1 < (M : Int) := by omega
                    rw [if_pos hl1] at HT2
                    have HL2 : Hid ((L ++ c ++ (⟨(bl gp).toArray⟩ : ByteArray)).data.toList = T2) := by
                      show _ = _
                      rw [HT2.out, ← HL.out]; simp
                    have hz2 : ((L ++ c ++ (⟨(bl gp).toArray⟩ : ByteArray)).size : Int) ≤ 17000000 := by
                      have : (L ++ c ++ (⟨(bl gp).toArray⟩ : ByteArray)).size = T2.length := by rw [← HL2.out, Array.length_toList]; rfl
                      have := HTB.out.2.1
                      omega
                    have hlcz : ((L ++ c).size : Int) ≤ 17100000 := by rw [ByteArray.size_append]; omega
                    have SP : ∀ W, Calls Tryd.prog 82 #[.int .i64 (fj - ww + 2)] W fun e W' => e = .returned (.string ⟨(bl gp).toArray⟩) ∧ Below W.heap.size W W' := fun W => by rw [← hgap]; exact spaces_big gp hgn W
                    have hbz : ((⟨(bl gp).toArray⟩ : ByteArray).size : Int) ≤ 1000 := by
                      have : (⟨(bl gp).toArray⟩ : ByteArray).size = gp := by show (bl gp).toArray.size = _; simp [bl_len]
                      omega
                    generalize (⟨(bl gp).toArray⟩ : ByteArray) = bb at *
                    clear HT2 HL hgap
                    go_wp2_with fail
                    refine WD.mono ?_; rintro e w2 ⟨rfl, hb2⟩
                    have hwk2 := (hb2.cell (p := ⟨gw, j, none⟩) (Nat.lt_of_lt_of_le hgw hBq2.size)).trans hwk
                    clear WD
                    go_wp2_with fail
                    refine (SP w2).mono ?_; rintro e w3 ⟨rfl, hb3⟩
                    clear SP
                    go_wp2
                    exact ⟨⟨j + 1, _, by go_num, rfl, by omega, (hBq.trans (hb2.mono hBq.size)).trans (hb3.mono (Nat.le_trans hBq.size hb2.size)), hz2, by show _ = _; rw [HT2e.out]; exact HL2.out⟩, by simp only [intOf]; omega⟩
                  · have hl1I : ¬ (j : Int) < (M : Int) - 1 := by omega
                    have hl1J : ¬ (j : Int) + 1 < (M : Int) := by omega
                    rw [if_neg hl1, List.append_nil] at HT2
                    have HL2 : Hid ((L ++ c).data.toList = T2) := by
                      show _ = _
                      rw [HT2.out, ← HL.out]; simp
                    have hz2 : ((L ++ c).size : Int) ≤ 17000000 := by
                      have : (L ++ c).size = T2.length := by rw [← HL2.out, Array.length_toList]; rfl
                      have := HTB.out.2.1
                      omega
                    clear HT2 HL hgap WD
                    go_wp2
                    exact ⟨⟨j + 1, _, by go_num, rfl, by omega, hBq, hz2, by show _ = _; rw [HT2e.out]; exact HL2.out⟩, by simp only [intOf]; omega⟩
                · have hge : ¬ (j : Int) < (M : Int) := by omega
                  have HE2 : Hid (L = tl f row) := by
                    show _ = _
                    have e : j = row.length := by rw [HM.out]; omega
                    unfold tl
                    rw [← e, ← HL.out]
                  have hrow2 := ownT_below hrow hBq
                  have hBqs := hBq.size
                  rw [← HE2.out] at HSN
                  clear HL HE2 HWD HSV HFI HWC
                  go_wp2_with (at_builtin; refine wpList_append_own _ rfl _ _ 34 rfl wB.heap.size 9 i0 _ 1 16 Tryd.underlying34 hi0 hz0 hz1 hz2 rfl (by decide) _ _ _ rfl (hrow2.alloc _) ⟨wq.heap.size, 0, none⟩ 1 1 [.string L] rfl rfl (newS _ _) (by simp [Value.oneCell']) ?r1 ?r2 ?r3 ?_; rotate_left 3; intro v' w3 hown' hgrow _)
                  · have hB3 := ownT_grown (hrow2.alloc _) (hBq2.alloc hBq2.size _) (by simp; omega) hgrow
                    exact ⟨⟨i + 1, by go_num, by omega, hB3, by rw [HS2e.out, HSN.out]; exact hown'⟩, by simp only [intOf]; omega⟩
                  all_goals (try (case r1 => unfold maxLen; omega))
                  all_goals (try (case r2 => omega))
                  all_goals (try (case r3 => (try simp); omega))
            · have hge : ¬ (i : Int) < (N : Int) := by omega
              have hiN : i = rows.length := by rw [HN.out]; omega
              have HL : Hid ((rows.map (tl f)).length = i) := by show _ = _; rw [List.length_map]; exact hiN.symm
              rw [hiN, List.take_length, ← hiN] at hrow
              have hrow2 := ownT_base hrow hB'.size
              clear HVV HFF HWD HWC HMM hiN hrow
              go_wp2
              go_ret3
              rw [HE.out]
              refine ⟨_, rfl, ?_, hB'.trans (hBl.mono hB'.size)⟩
              show World.ownsRow _ _ _ _ _ (rows.map (tl f)).length _
              rw [HL.out]
              exact hrow2
end Go.Proofs.YtckjededijgjgaaDoor.Tb
