import Derived.Test.YtckjededijgjgaaDoorTbC
import Derived.Test.YtckjededijgjgaaDoorWdJ
import Derived.Deep.RegionHeld
namespace Go.Proofs.YtckjededijgjgaaDoor.Tb
open Go.RowKit
open Go.Proofs.YtckjededijgjgaaDoor.Pc (P4 pieces)
open Go.Proofs.YtckjededijgjgaaDoor.Enc (Spans)
open Go.Proofs.YtckjededijgjgaaDoor.Wd (wS width_any wS_range bl bl_len bl_snoc byte_snoc new1)
open Go.Proofs.YtckjededijgjgaaDoor.Rn (bcs bcs_append conv_row info5)
set_option linter.unusedVariables false

set_option maxRecDepth 100000 in
set_option maxHeartbeats 1000000 in
theorem writeBlanks_big (B b n : Nat) (hn : n ≤ 1000) (acc : List UInt8) (hacc : acc.length ≤ 100000000) (w : World) (h : Lib.IsBuilderF 80 5 B b (Lib.byteCells acc) w) (hBw : B ≤ w.heap.size) :
    Calls Tryd.prog 74 #[.pointer (some ⟨b, 0, none⟩), .int .i64 (n : Int)] w fun e w' => e = .returned (.tuple #[]) ∧ Lib.IsBuilderF 80 5 B b (Lib.byteCells (acc ++ bl n)) w' ∧ Below B w w' := by
  have hnI : (n : Int) ≤ 1000 := by omega
  go_enter Tryd.func74, Tryd.ntmps74
  go_wp2_with fail
  go_loopw [5] (fun i wr => ∃ k : Nat, i = .int .i64 (k : Int) ∧ k ≤ n ∧ Lib.IsBuilderF 80 5 B b (Lib.byteCells (acc ++ bl k)) wr ∧ Below B w wr) (fun i _ => n - (intOf i).toNat)
  case atStart => exact ⟨0, rfl, by omega, by simpa [bl] using h, Below.refl _ _⟩
  case round =>
    obtain ⟨k, rfl, hk, hb, hB⟩ := hrel
    by_cases hlt : k < n
    · have hltI : (k : Int) < (n : Int) := by omega
      have WB := Bu.writeByte B b _ 32 wr hb (by rw [Lib.byteCells_length, List.length_append, bl_len]; omega) (Nat.le_trans hBw hB.size)
      rw [byte_snoc, List.append_assoc, ← bl_snoc] at WB
      go_wp2_with fail
      refine WB.mono ?_; rintro e w2 ⟨rfl, hb2, hB2, _⟩
      go_wp2
      exact ⟨⟨k + 1, by go_num, by omega, .inr hb2, hB.trans hB2⟩, by simp [intOf]; omega⟩
    · have hke : k = n := by omega
      subst hke
      have hge : ¬ (k : Int) < (k : Int) := by omega
      go_wp2
      go_end0
      exact ⟨rfl, hb, hB⟩
set_option maxRecDepth 100000 in
set_option maxHeartbeats 1000000 in
theorem spaces_big (n : Nat) (hn : n ≤ 1000) (w : World) :
    Calls Tryd.prog 82 #[.int .i64 (n : Int)] w fun e W' => e = .returned (.string ⟨(bl n).toArray⟩) ∧ Below w.heap.size w W' := by
  obtain ⟨i0, hi, hz0, hz1, hz2⟩ := info_parts info5
  have hnI : (n : Int) ≤ 1000 := by omega
  go_enter Tryd.func82, Tryd.ntmps82
  go_wp2_with fail
  go_loopw [3, 4] (fun b i wr => ∃ k : Nat, i = .int .i64 (k : Int) ∧ k ≤ n ∧ wr.ownsRow w.heap.size 5 1 b k (bcs (bl k)) ∧ Below w.heap.size w wr) (fun _ i _ => n - (intOf i).toNat)
  case atStart => exact ⟨0, rfl, by omega, World.ownsRow_nil _ _ _ _, Below.refl _ _⟩
  case round =>
    obtain ⟨k, rfl, hk, hrow, hB⟩ := hrel
    by_cases hlt : k < n
    · have hltI : (k : Int) < (n : Int) := by omega
      go_wp2_with (at_builtin; refine wpList_append_own _ rfl _ _ 75 rfl w.heap.size 5 i0 _ 1 1 Tryd.underlying75 hi hz0 hz1 hz2 rfl (by decide) _ _ _ rfl (hrow.alloc _) ⟨wr.heap.size, 0, none⟩ 1 1 [.int .u8 32] rfl rfl (new1 _) (by simp [Value.oneCell']) ?q1 ?q2 ?q3 ?_; rotate_left 3; intro v' w1 hown' hgrow _)
      · have hb2 : Below w.heap.size w w1 := (hB.alloc hB.size _).grown hgrow (by have := hB.size; simp; omega) (fun j ej => by
          rcases hrow.2 with ⟨rfl, _⟩ | ⟨g, cap, cur, rfl, hgb, _⟩
          · cases ej
          · cases ej; exact hgb)
        exact ⟨⟨k + 1, by go_num, by omega, by rw [bl_snoc, bcs_append]; exact hown', hb2⟩, by simp [intOf]; omega⟩
      · unfold maxLen; omega
      · omega
      · have := hB.size; simp; omega
    · have hke : k = n := by omega
      subst hke
      have kc := conv_row (acc := bl k) (by rw [bl_len]; exact hrow)
      have hge : ¬ (k : Int) < (k : Int) := by omega
      go_wp2
      go_ret
      exact ⟨rfl, hB⟩

/-- blanks behind a cell -/
def gap (f : Nat → Int) (row : List ByteArray) (k : Nat) : Nat := (f k - wAt row k + 2).toNat
/-- the first k cells of a line -/
def tlP (f : Nat → Int) (row : List ByteArray) : Nat → List UInt8
  | 0 => []
  | k + 1 => tlP f row k ++ (row.getD k ⟨#[]⟩).data.toList ++ (if k + 1 < row.length then bl (gap f row k) else [])
/-- a line -/
def tl (f : Nat → Int) (row : List ByteArray) : ByteArray := ⟨(tlP f row row.length).toArray⟩
/-- a row that may be, and widths for it -/
structure Fits (f : Nat → Int) (row : List ByteArray) : Prop where
  len : row.length ≤ 16
  cells : ∀ c ∈ row, c.size ≤ 1048576
  lo : ∀ k, k < row.length → wAt row k ≤ f k
  hi : ∀ k, k < row.length → f k ≤ 400
theorem tlP_len {f : Nat → Int} {row : List ByteArray} (h : Fits f row) : ∀ k, k ≤ row.length → (tlP f row k).length ≤ k * 1049000 := by
  intro k
  induction k with
  | zero => intro _; simp [tlP]
  | succ k ih =>
    intro hk
    have h1 := ih (by omega)
    have hg : (row.getD k ⟨#[]⟩).data.toList.length ≤ 1048576 := by
      rw [List.getD_eq_getElem?_getD, List.getElem?_eq_getElem (by omega)]
      show (row[k]).data.toList.length ≤ _
      rw [Array.length_toList]
      exact h.cells _ (List.getElem_mem _)
    have h2 := h.hi k (by omega)
    have h3 := wAt_pos row k
    have hb : (if k + 1 < row.length then bl (gap f row k) else []).length ≤ 402 := by
      split
      · rw [bl_len]; unfold gap; omega
      · simp
    rw [tlP, List.length_append, List.length_append]
    omega

set_option maxRecDepth 100000 in
set_option maxHeartbeats 4000000 in
theorem tableLine_any (f : Nat → Int) (row : List ByteArray) (hF : Fits f row) (w : World) (ad : Option Addr) (cap : Nat) (hV : Sv w ad row) (R off cap' : Nat) (hS : Spans w R off cap') :
    Calls Tryd.prog 88 #[.slice ad row.length cap, .agg (A16 f)] w fun e w' => e = .returned (.string (tl f row)) ∧ Below w.heap.size w w' := by
  have hb1 := (Below.refl w.heap.size w).alloc (Nat.le_refl _) (.cells (A16 f) 122)
  have hA : Ar (w.alloc (.cells (A16 f) 122)) w.heap.size f := World.alloc_heap_new w _
  have hb2 := hb1.alloc (by simp) (.cells #[.pointer none, .slice none 0 0] 80)
  have hA2 : Ar ((w.alloc (.cells (A16 f) 122)).alloc (.cells #[.pointer none, .slice none 0 0] 80)) w.heap.size f := hA.below ((Below.refl _ _).alloc (Nat.le_refl _) _)
  have hbl : Lib.IsBuilderF 80 5 (w.heap.size + 1) (w.heap.size + 1) (Lib.byteCells []) ((w.alloc (.cells (A16 f) 122)).alloc (.cells #[.pointer none, .slice none 0 0] 80)) := by
    have := Lib.IsBuilderF.of (Lib.fresh_isBuilder 80 5 (w.alloc (.cells (A16 f) 122)))
    simp only [World.size_alloc] at this
    exact this
  have hsz : ((w.alloc (.cells (A16 f) 122)).alloc (.cells #[.pointer none, .slice none 0 0] 80)).heap.size = w.heap.size + 2 := by simp
  have HWD := hide (fun (c : ByteArray) (hc : c.size ≤ 1048576) (W : World) (hb : Below w.heap.size w W) => width_any c (by omega) W R off cap' (hS.below hb (Nat.le_refl _)))
  have HFF := hide hF
  have HVV := hide hV
  have HTL := hide (tlP_len hF)
  have hl16 := hF.len
  clear hV hS hA hb1 hF
  unfold tl
  obtain ⟨N, hN⟩ : ∃ N, row.length = N := ⟨_, rfl⟩
  have HN := hide hN
  rw [hN] at hl16 ⊢
  clear hN
  have hNI : (N : Int) ≤ 16 := by omega
  unfold A16 at hb2 hA2 hbl hsz
  unfold A16
  go_enter Tryd.func88, Tryd.ntmps88
  go_wp2_with fail
  generalize ((w.alloc (.cells #[.int .i64 (f 0), .int .i64 (f 1), .int .i64 (f 2), .int .i64 (f 3), .int .i64 (f 4), .int .i64 (f 5), .int .i64 (f 6), .int .i64 (f 7), .int .i64 (f 8), .int .i64 (f 9), .int .i64 (f 10), .int .i64 (f 11), .int .i64 (f 12), .int .i64 (f 13), .int .i64 (f 14), .int .i64 (f 15)] 122)).alloc (.cells #[.pointer none, .slice none 0 0] 80)) = w0 at *
  have hA3 : Ar w0 w.heap.size f := hA2
  clear hA2
  go_loopw [10] (fun kv wr => ∃ (k : Nat), kv = .int .i64 (k : Int) ∧ k ≤ N ∧ Below w.heap.size w wr ∧ w.heap.size + 2 ≤ wr.heap.size ∧ Ar wr w.heap.size f ∧ Lib.IsBuilderF 80 5 (w.heap.size + 1) (w.heap.size + 1) (Lib.byteCells (tlP f row k)) wr) (fun kv _ => N - (intOf kv).toNat)
  case atStart => exact ⟨0, rfl, by omega, hb2, by omega, hA3, hbl⟩
  case round =>
    obtain ⟨k, rfl, hk, hB, hs2, hA, hbd⟩ := hrel
    clear hb2 hA3 hbl hsz
    by_cases hlt : k < N
    · have hkl : k < row.length := by rw [HN.out]; exact hlt
      have hltI : (k : Int) < (N : Int) := by omega
      obtain ⟨g, o, rfl, hg, c0⟩ := (HVV.out.below hB (Nat.le_refl _)) k hkl
      have hcz := HFF.out.cells row[k] (List.getElem_mem hkl)
      have htl := HTL.out k (by omega)
      have HT2 : Hid (tlP f row (k + 1) = tlP f row k ++ row[k].data.toList ++ (if k + 1 < N then bl (gap f row k) else [])) := by
        show _ = _
        rw [tlP, List.getD_eq_getElem?_getD, List.getElem?_eq_getElem hkl, HN.out]
        rfl
      have hlo := HFF.out.lo k hkl
      have hhi := HFF.out.hi k hkl
      have hwp := wAt_pos row k
      have hwi := wAt_in hkl
      have WS := Bu.writeString (w.heap.size + 1) (w.heap.size + 1) _ row[k] wr hbd (by rw [Lib.byteCells_length]; omega) (by omega)
      generalize hTk : tlP f row k = T at *
      have hTl : T.length + row[k].size ≤ 100000000 := by omega
      have hgap : (gap f row k : Int) = f k - wAt row k + 2 := by unfold gap; omega
      rw [hwi] at hlo hgap hwp
      have hgn : gap f row k ≤ 1000 := by omega
      generalize gap f row k = gp at *
      generalize row[k] = c at *
      have HCZ := hide hcz
      clear hTk htl hwi
      go_wp2_with fail
      refine WS.mono ?_; rintro e w2 ⟨rfl, hbd2, hb2, _⟩
      have hA2 : Ar w2 w.heap.size f := (hb2.block w.heap.size (by omega)).trans hA
      have hB2 := hB.trans (hb2.mono (by omega))
      have hs22 := hb2.size
      have hbd2' : Lib.IsBuilderF 80 5 (w.heap.size + 1) (w.heap.size + 1) (Lib.byteCells (T ++ c.data.toList)) w2 := by
        rw [Lib.byteCells_append]; exact .inr hbd2
      by_cases hl1 : k + 1 < N
      · have hl1I : (k : Int) < (N : Int) - 1 := by omega
        rw [if_pos hl1] at HT2
        have hk16 : (k : Int) < 16 := by omega
        have k0 := hA2.cell k (by omega)
        have WD := HWD.out c hcz w2.drew hB2.drew
        have hTl2 : (T ++ c.data.toList).length ≤ 100000000 := by rw [List.length_append, Array.length_toList]; exact hTl
        have WB : ∀ w3, Below w2.drew.heap.size w2.drew w3 → Calls Tryd.prog 74 #[.pointer (some ⟨w.heap.size + 1, 0, none⟩), .int .i64 (IntKind.i64.wrap (IntKind.i64.wrap (f k - wS (pieces c)) + 2))] w3 fun e w' => e = .returned (.tuple #[]) ∧ Lib.IsBuilderF 80 5 (w.heap.size + 1) (w.heap.size + 1) (Lib.byteCells (T ++ c.data.toList ++ bl gp)) w' ∧ Below (w.heap.size + 1) w3 w' := fun w3 h3 => by
          have e : IntKind.i64.wrap (IntKind.i64.wrap (f k - wS (pieces c)) + 2) = (gp : Int) := by
            rw [IntKind.wrap_i64, IntKind.wrap_i64]; omega
          rw [e]
          exact writeBlanks_big _ _ gp hgn _ hTl2 w3 (Nm.bld_below (show Lib.IsBuilderF 80 5 (w.heap.size + 1) (w.heap.size + 1) (Lib.byteCells (T ++ c.data.toList)) w2.drew from hbd2') h3) (by have := h3.size; have e2 : w2.drew.heap.size = w2.heap.size := rfl; omega)
        generalize wS (pieces c) = ww at *
        generalize f k = fk at *
        clear WS
        go_wp2_with fail
        go_region_held (fun w' => w'.cell? ⟨w.heap.size, k, none⟩ = some (.int .i64 fk)) (first | assumption | go_keep) (first | (go_at_call 36; refine WD.mono ?_; rintro e w3 ⟨rfl, hb3⟩; have hA4 := (show Ar w2.drew w.heap.size f from hA2).below hb3; have k3 := (hb3.cell (p := ⟨w.heap.size, k, none⟩) (show w.heap.size < w2.drew.heap.size from hA2.lt)).trans (show w2.drew.cell? ⟨w.heap.size, k, none⟩ = some (.int .i64 fk) from k0)) | (go_at_call 74; refine (WB _ hb3).mono ?_; rintro e w4 ⟨rfl, hbd4, hb4⟩; have k4 := (hb4.cell (p := ⟨w.heap.size, k, none⟩) (show w.heap.size < w.heap.size + 1 by omega)).trans k3))
        all_goals go_wp2
        all_goals
          have hb3s : w2.heap.size ≤ w3.heap.size := hb3.size
          have hb4s := hb4.size
          have hA5 : Ar w4 w.heap.size f := (hb4.block w.heap.size (by omega)).trans hA4
          have hB4 : Below w.heap.size w w4 := (hB2.drew.trans (hb3.mono (show w.heap.size ≤ w2.heap.size by omega))).trans (hb4.mono (by omega))
          exact ⟨⟨k + 1, by go_num, by omega, hB4, by omega, hA5, by rw [HT2.out]; exact hbd4⟩, by simp only [intOf]; omega⟩
      · have hl1I : ¬ (k : Int) < (N : Int) - 1 := by omega
        rw [if_neg hl1, List.append_nil] at HT2
        clear WS
        go_wp2
        exact ⟨⟨k + 1, by go_num, by omega, hB2, by omega, hA2, by rw [HT2.out]; exact hbd2'⟩, by simp only [intOf]; omega⟩
    · have hge : ¬ (k : Int) < (N : Int) := by omega
      have hkN : k = N := by omega
      subst hkN
      have ST := Bu.string _ _ (tlP f row k) wr hbd (by omega)
      go_wp2_with fail
      refine ST.mono ?_; rintro e w2 ⟨rfl, _, hb2, _⟩
      go_wp2
      go_ret
      exact ⟨rfl, hB.trans (hb2.mono (by omega))⟩
end Go.Proofs.YtckjededijgjgaaDoor.Tb
