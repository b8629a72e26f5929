import Derived.Test.YtckjededijgjgaaDoorQtC
import Derived.Test.YtckjededijgjgaaDoorRnD
namespace Go.Proofs.YtckjededijgjgaaDoor.Qt
open Go.RowKit
open Go.Proofs.YtckjededijgjgaaDoor.Pc (P4 pieces Ofs)
open Go.Proofs.YtckjededijgjgaaDoor.Rn (bcs bcs_append conv_row info5 row_at own_below strCells_is)
set_option linter.unusedVariables false

theorem from_ofs (s : ByteArray) (f : Nat) : ∀ pos, ∀ x ∈ Pc.piecesFrom s f pos, Ofs s x := by
  induction f with
  | zero => intro pos x hx; simp [Pc.piecesFrom] at hx
  | succ f ih =>
    intro pos x hx
    rw [Pc.piecesFrom] at hx
    split at hx
    · rename_i h
      rcases List.mem_cons.1 hx with rfl | hx
      · exact ⟨pos, h, rfl⟩
      · exact ih _ x hx
    · simp at hx
theorem pieces_ofs (s : ByteArray) : ∀ x ∈ pieces s, Ofs s x := from_ofs s s.size 0
theorem qS_take (s : ByteArray) (l : List P4) (k : Nat) (h : k < l.length) : qS s (l.take (k + 1)) = qS s (l.take k) ++ prn (ownB s l[k]).data.toList l[k].1 l[k].2.2.2 := by
  rw [List.take_succ_eq_append_getElem h, qS_snoc]
theorem qS_bound (s : ByteArray) (l : List P4) (h : ∀ x ∈ l, Ofs s x) : (qS s l).length ≤ 10 * l.length := by
  induction l with
  | nil => simp [qS]
  | cons y t ih =>
    obtain ⟨pos, k, h1, h2, h3, h4, h5, h6, h7⟩ := of_place (h y (by simp))
    have ho : (ownB s y).data.toList.length ≤ 4 := by rw [Array.length_toList]; exact own_len (h y (by simp))
    have h8 := prn_len (ownB s y).data.toList y.1 y.2.2.2 ho h6 h7
    have h9 := ih (fun x hx => h x (by simp [hx]))
    rw [qS, List.length_append, List.length_cons]
    omega
theorem row_new (w : World) (z : Int) : (w.alloc (.cells #[.int .u8 z] 5)).ownsRow w.heap.size 5 1 (.slice (some ⟨w.heap.size, 0, none⟩) 1 1) 1 [.int .u8 z] :=
  ⟨rfl, .inr ⟨w.heap.size, 1, #[.int .u8 z], rfl, Nat.le_refl _, World.alloc_heap_new w _, Nat.le_refl _, by unfold maxLen; omega, rfl, rfl⟩⟩

set_option maxRecDepth 100000 in
set_option maxHeartbeats 1600000 in
theorem refQuote_any (s : ByteArray) (hs : s.size ≤ 1048576) (w : World) :
    Calls Tryd.prog 26 #[.string s] w fun e W' => e = .returned (.string ⟨(quoteL s).toArray⟩) ∧ Below w.heap.size w W' := by
  obtain ⟨i0, hi, hz0, hz1, hz2⟩ := info_parts info5
  have RP := Rp.refPieces_any s hs w
  have PR := fun x (hx : Ofs s x) w => printed_any s hs x hx w
  have hofs := pieces_ofs s
  have hpl := Wd.pieces_len s
  have hq : quoteL s = 34 :: qS s (pieces s) ++ [34] := rfl
  rw [hq]
  clear hq
  generalize pieces s = PS at *
  have hqb : ∀ k, (qS s (PS.take k)).length ≤ 10485760 := fun k => by
    have h1 := qS_bound s (PS.take k) (fun x hx => hofs x (List.mem_of_mem_take hx))
    have h2 : (PS.take k).length ≤ PS.length := by rw [List.length_take]; omega
    omega
  go_enter Tryd.func26, Tryd.ntmps26
  go_wp2_with fail
  refine RP.mono ?_; rintro e w1 ⟨v, rfl, hrow, hb1⟩
  obtain ⟨ad, cap, hv⟩ : ∃ ad cap, v = .slice ad PS.length cap := by
    rcases hrow.2 with ⟨rfl, h0⟩ | ⟨g, cap, cur, rfl, _⟩
    · exact ⟨_, _, by rw [h0]⟩
    · exact ⟨_, _, rfl⟩
  have HC : Hid (∀ k (hk : k < PS.length) wr, Below w1.heap.size w1 wr → ∃ g, ad = some ⟨g, 0, none⟩ ∧ wr.cell? ⟨g, k * 4, none⟩ = some (.int .i64 PS[k].1) ∧ wr.cell? ⟨g, k * 4 + 1, none⟩ = some (.int .i64 PS[k].2.1) ∧ wr.cell? ⟨g, k * 4 + 2, none⟩ = some (.int .i64 PS[k].2.2.1) ∧ wr.cell? ⟨g, k * 4 + 3, none⟩ = some (.bool PS[k].2.2.2)) := by
    intro k hk wr hB
    obtain ⟨g', cap', hv', hg', c0, c1, c2, c3⟩ := row_at hrow hk
    rw [hv] at hv'
    cases hv'
    exact ⟨g', rfl, (hB.cell (p := ⟨g', k * 4, none⟩) hg').trans c0, (hB.cell (p := ⟨g', k * 4 + 1, none⟩) hg').trans c1, (hB.cell (p := ⟨g', k * 4 + 2, none⟩) hg').trans c2, (hB.cell (p := ⟨g', k * 4 + 3, none⟩) hg').trans c3⟩
  subst hv
  obtain ⟨N, hN⟩ : ∃ N, PS.length = N := ⟨_, rfl⟩
  have hNb : N ≤ 1048576 := by omega
  have HN := hide hN
  rw [hN]
  clear hN hrow RP
  have hr0 := row_new w1 34
  have hB0 := (Below.refl w1.heap.size w1).alloc (Nat.le_refl _) (.cells #[.int .u8 34] 5)
  go_wp2_with fail
  go_loopw [4, 5] (fun b i wr => ∃ (k : Nat), i = .int .i64 (k : Int) ∧ k ≤ N ∧ wr.ownsRow w1.heap.size 5 1 b (34 :: qS s (PS.take k)).length (bcs (34 :: qS s (PS.take k))) ∧ Below w1.heap.size w1 wr) (fun _ i _ => N - (intOf i).toNat)
  case atStart => exact ⟨0, rfl, by omega, hr0, hB0⟩
  case round =>
    obtain ⟨k, rfl, hk, hrow, hB⟩ := hrel
    by_cases hlt : k < N
    · have hkP : k < PS.length := by rw [HN.out]; exact hlt
      obtain ⟨g, rfl, c0, c1, c2, c3⟩ := HC.out k hkP wr hB
      have hx := hofs PS[k] (List.getElem_mem hkP)
      have P1 := PR PS[k] hx wr
      have HT : Hid (34 :: qS s (PS.take (k + 1)) = (34 :: qS s (PS.take k)) ++ prn (ownB s PS[k]).data.toList PS[k].1 PS[k].2.2.2) := by
        show _ = _
        rw [qS_take s PS k hkP]; rfl
      have hlA : (34 :: qS s (PS.take k)).length ≤ 10485761 := by have := hqb k; simp; omega
      have hlB : (34 :: qS s (PS.take (k + 1))).length ≤ 10485761 := by have := hqb (k + 1); simp; omega
      rw [HT.out, List.length_append] at hlB
      have hltI : (k : Int) < (N : Int) := by omega
      generalize 34 :: qS s (PS.take k) = acc at *
      generalize prn (ownB s PS[k]).data.toList PS[k].1 PS[k].2.2.2 = PN at *
      have hPz : (⟨PN.toArray⟩ : ByteArray).size = PN.length := by show PN.toArray.size = _; simp
      generalize hxe : PS[k] = x at *
      obtain ⟨r, pl, sz, br⟩ := x
      simp only at c0 c1 c2 c3 P1
      clear hxe hx HC PR hofs hqb
      go_wp2_with fail
      refine P1.mono ?_; rintro e w2 ⟨rfl, hb2⟩
      have hown2 := own_below hrow hb2
      have hB2 := hB.trans (hb2.mono hB.size)
      go_wp2_with (at_builtin; refine Lib.wpList_append_own_string _ rfl _ _ 75 9 rfl w1.heap.size 5 i0 Tryd.underlying75 Tryd.underlying9 hi hz0 hz1 hz2 _ acc.length (bcs acc) rfl hown2 ⟨PN.toArray⟩ rfl ?qa1 ?qb1 ?qc1 ?_; rotate_left 3; intro v' w5 hown' hgrow _)
      · refine ⟨⟨k + 1, by go_num, by omega, ?_, ?_⟩, by simp [intOf]; omega⟩
        · rw [HT.out, List.length_append, bcs_append]
          rw [strCells_is, hPz] at hown'
          exact hown'
        · exact hB2.grown hgrow hB2.size (fun j ej => by
            rcases hown2.2 with ⟨hv0, _⟩ | ⟨g, cap, cur, hv0, hgb, _⟩
            · rw [hv0] at ej; cases ej
            · rw [hv0] at ej; cases ej; exact hgb)
      · rw [hPz]; unfold maxLen; omega
      · rw [hPz]; omega
      · exact hB2.size
    · have hke : k = N := by omega
      subst hke
      have hta : PS.take k = PS := List.take_of_length_le (by rw [HN.out]; exact Nat.le_refl _)
      have hlA : (34 :: qS s (PS.take k)).length ≤ 10485761 := by have := hqb k; simp; omega
      rw [hta] at hrow hlA
      have HQ : Hid (34 :: (qS s PS ++ [34]) = (34 :: qS s PS) ++ [34]) := hide rfl
      generalize 34 :: qS s PS = acc at *
      have hge : ¬ (k : Int) < (k : Int) := by omega
      clear HC PR hofs hqb hta
      go_wp2_with (at_builtin; refine wpList_append_own _ rfl _ _ 75 rfl w1.heap.size 5 i0 _ 1 1 Tryd.underlying75 hi hz0 hz1 hz2 rfl (by decide) _ _ _ rfl (hrow.alloc _) ⟨wr.heap.size, 0, none⟩ 1 1 [.int .u8 34] rfl rfl (Hx.new1b _ _) (by simp [Value.oneCell']) ?qa2 ?qb2 ?qc2 ?_; rotate_left 3; intro v' w5 hown' hgrow _; have kc := conv_row (acc := acc ++ [34]) (by rw [List.length_append, bcs_append]; exact hown'))
      · have hb5 : Below w1.heap.size w1 w5 := (hB.alloc hB.size _).grown hgrow (by have := hB.size; simp; omega) (fun j ej => by
          rcases hrow.2 with ⟨hv0, _⟩ | ⟨g, cap, cur, hv0, hgb, _⟩
          · rw [hv0] at ej; cases ej
          · rw [hv0] at ej; cases ej; exact hgb)
        go_ret
        refine ⟨?_, hb1.trans (hb5.mono hb1.size)⟩
        rw [HQ.out]
        rfl
      · unfold maxLen; omega
      · omega
      · have := hB.size; simp; omega

set_option maxHeartbeats 800000 in
/-- the walk of TextQuotes -/
theorem quotes_walk (s : ByteArray) (hs : s.size ≤ 1048576) (w : World) (hT : Hx.Tabs w) (R off cap : Nat) (hS : Enc.Spans w R off cap) :
    Calls Tryd.prog 5 #[.string s] w fun e w' => e = .returned (.bool true) ∧ Below w.heap.size w w' := by
  have C1 := quote_any s hs w hT R off cap hS
  have C2 := fun w => refQuote_any s hs w
  generalize (⟨(quoteL s).toArray⟩ : ByteArray) = o at *
  have b4 : (o.toList == o.toList) = true := by simp
  go_enter Tryd.func5, Tryd.ntmps5
  go_wp2_with fail
  refine C1.mono ?_; rintro e w1 ⟨rfl, hb1⟩
  go_wp2_with fail
  refine (C2 _).mono ?_; rintro e w2 ⟨rfl, hb2⟩
  go_wp2
  go_ret
  exact ⟨rfl, hb1.trans (hb2.mono hb1.size)⟩
end Go.Proofs.YtckjededijgjgaaDoor.Qt
