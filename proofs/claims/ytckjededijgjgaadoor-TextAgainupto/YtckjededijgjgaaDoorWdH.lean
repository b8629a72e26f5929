import Derived.Test.YtckjededijgjgaaDoorWdG
import Derived.Test.YtckjededijgjgaaDoorRnD
namespace Go.Proofs.YtckjededijgjgaaDoor.Wd
open Go.RowKit
open Go.Proofs.YtckjededijgjgaaDoor.Pc (P4 pieces piecesFrom pcF)
open Go.Proofs.YtckjededijgjgaaDoor.Rp (cellsR cellsR4 refPieces_any)
open Go.Proofs.YtckjededijgjgaaDoor.Rn (row_at)
open Go.Proofs.YtckjededijgjgaaDoor.Enc (hide)
set_option linter.unusedVariables false

theorem pcF_end (s : ByteArray) (pos : Nat) : (pcF s pos).2.1 = (pos : Int) ∧ (pcF s pos).2.2.1 = ((Utf8.decode s pos).2 : Int) := by
  unfold Pc.pcF
  split
  · rename_i h; rw [h]; exact ⟨rfl, rfl⟩
  · exact ⟨rfl, rfl⟩

theorem wS_take' (l : List P4) {k : Nat} (hk : k < l.length) : wS (l.take (k + 1)) = wS (l.take k) + wF l[k] := by
  rw [List.take_add_one, List.getElem?_eq_getElem hk]
  exact wS_snoc _ _

/-- where the k-th piece begins -/
def Bg (s : ByteArray) (k pos : Nat) : Prop := ∃ f, (pieces s).drop k = piecesFrom s f pos ∧ s.size ≤ pos + f ∧ pos ≤ s.size
theorem bg_zero (s : ByteArray) : Bg s 0 0 := ⟨s.size, rfl, by omega, by omega⟩
theorem bg_step {s : ByteArray} {k pos : Nat} (h : Bg s k pos) (hk : k < (pieces s).length) : pos < s.size ∧ (pieces s)[k] = pcF s pos ∧ pos + (Utf8.decode s pos).2 ≤ s.size ∧ Bg s (k + 1) (pos + (Utf8.decode s pos).2) := by
  obtain ⟨f, hd, hf, hp⟩ := h
  rw [List.drop_eq_getElem_cons hk] at hd
  cases f with
  | zero =>
    simp [Pc.piecesFrom] at hd
    omega
  | succ f =>
    rw [Pc.piecesFrom] at hd
    split at hd
    · rename_i hlt
      simp only [List.cons.injEq] at hd
      have hw := Pc.width_le s pos hlt
      have hw1 := Lib.decode_width_pos s pos hlt
      exact ⟨hlt, hd.1, by omega, f, hd.2, by omega, by omega⟩
    · simp at hd
      omega
theorem bg_end {s : ByteArray} {k pos : Nat} (h : Bg s k pos) (hk : (pieces s).length ≤ k) : pos = s.size := by
  obtain ⟨f, hd, hf, hp⟩ := h
  rw [List.drop_of_length_le hk] at hd
  by_cases hlt : pos < s.size
  · obtain ⟨f, rfl⟩ : ∃ f', f = f' + 1 := ⟨f - 1, by omega⟩
    rw [Pc.piecesFrom, if_pos hlt] at hd
    simp at hd
  · omega

/-- the document's columns, as a contract -/
def Cols : Prop := ∀ (r at_ sz : Int) (br : Bool) (w : World), Calls Tryd.prog 83 #[.agg #[.int .i64 r, .int .i64 at_, .int .i64 sz, .bool br]] w fun e w' => e = .returned (.int .i64 (wF (r, at_, sz, br))) ∧ Below w.heap.size w w'

set_option maxRecDepth 100000 in
set_option maxHeartbeats 1000000 in
/-- the document's Clip -/
theorem refClip_of (CO : Cols) (s : ByteArray) (hs : s.size ≤ 1048576) (cols : Int) (hc1 : cols ≤ 9223372036854775807) (w : World) :
    Calls Tryd.prog 43 #[.string s, .int .i64 cols] w fun e W' => e = .returned (.string (clipR s cols)) ∧ Below w.heap.size w W' := by
  unfold clipR
  by_cases hc : cols < 0
  · rw [if_pos hc]
    go_enter Tryd.func43, Tryd.ntmps43
    go_wp2
    go_ret
    exact ⟨rfl, Below.refl _ _⟩
  rw [if_neg hc]
  have RP := refPieces_any s hs w
  have hPL := pieces_len s
  have HBG : Hid (∀ k pos (hk : k < (pieces s).length), Bg s k pos → pos < s.size ∧ (pieces s)[k].2.1 = (pos : Int) ∧ (pieces s)[k].2.2.1 = ((Utf8.decode s pos).2 : Int) ∧ pos + (Utf8.decode s pos).2 ≤ s.size ∧ Bg s (k + 1) (pos + (Utf8.decode s pos).2)) := by
    intro k pos hk hb
    obtain ⟨h1, h2, h3, h4⟩ := bg_step hb hk
    rw [h2]
    exact ⟨h1, (pcF_end s pos).1, (pcF_end s pos).2, h3, h4⟩
  have HEND : Hid (∀ pos, Bg s (pieces s).length pos → pos = s.size) := fun pos h => bg_end h (Nat.le_refl _)
  have HT : Hid (∀ p : Nat, clipG cols (pieces s) 0 = some (p : Int) → clipT s cols = s.extract 0 p) := by
    intro p hp
    unfold clipT
    rw [hp]
    simp
  have HT0 : Hid (clipG cols (pieces s) 0 = none → clipT s cols = s) := by
    intro hp
    unfold clipT
    rw [hp]
  generalize hPS : pieces s = PS at *
  generalize clipT s cols = ct at *
  clear hPS
  go_enter Tryd.func43, Tryd.ntmps43
  go_wp2_with fail
  refine RP.mono ?_; rintro e w1 ⟨v, rfl, hrow, hb1⟩
  have HC : Hid (∀ k (hk : k < PS.length) wr, Below w1.heap.size w1 wr → ∃ g cap, v = .slice (some ⟨g, 0, none⟩) PS.length cap ∧ wr.cell? ⟨g, k * 4, none⟩ = some (.int .i64 PS[k].1) ∧ wr.cell? ⟨g, k * 4 + 1, none⟩ = some (.int .i64 PS[k].2.1) ∧ wr.cell? ⟨g, k * 4 + 2, none⟩ = some (.int .i64 PS[k].2.2.1) ∧ wr.cell? ⟨g, k * 4 + 3, none⟩ = some (.bool PS[k].2.2.2)) := by
    intro k hk wr hB
    obtain ⟨g, cap, hv, hg, c0, c1, c2, c3⟩ := row_at hrow hk
    exact ⟨g, cap, hv, (hB.cell (p := ⟨g, k * 4, none⟩) hg).trans c0, (hB.cell (p := ⟨g, k * 4 + 1, none⟩) hg).trans c1, (hB.cell (p := ⟨g, k * 4 + 2, none⟩) hg).trans c2, (hB.cell (p := ⟨g, k * 4 + 3, none⟩) hg).trans c3⟩
  obtain ⟨ad, cap, hv⟩ : ∃ ad cap, v = .slice ad PS.length cap := by
    rcases hrow.2 with ⟨rfl, h0⟩ | ⟨g, cap, cur, rfl, _⟩
    · exact ⟨none, 0, by rw [h0]⟩
    · exact ⟨_, _, rfl⟩
  subst hv
  obtain ⟨N, hN⟩ : ∃ N, PS.length = N := ⟨_, rfl⟩
  have HN := hide hN
  rw [hN] at hPL ⊢
  have hNI : (N : Int) ≤ 1048576 := by omega
  have hsI : (s.size : Int) ≤ 1048576 := by omega
  clear hN hrow RP hPL hs
  go_wp2_with fail
  go_loopw [6, 7, 8] (fun en le i wr => ∃ (k pos : Nat) (left : Int), i = .int .i64 (k : Int) ∧ k ≤ N ∧ en = .int .i64 (pos : Int) ∧ le = .int .i64 left ∧ 0 ≤ left ∧ left ≤ 9223372036854775807 ∧ pos ≤ s.size ∧ Hid (Bg s k pos ∧ left = cols - wS (PS.take k) ∧ clipG cols PS 0 = clipG cols (PS.drop k) (wS (PS.take k))) ∧ Below w1.heap.size w1 wr) (fun _ _ i _ => N - (intOf i).toNat)
  case atStart => exact ⟨0, 0, cols, rfl, by omega, rfl, rfl, by omega, hc1, by omega, ⟨bg_zero s, by simp [wS], by simp [wS]⟩, Below.refl _ _⟩
  case round =>
    obtain ⟨k, pos, left, rfl, hkN, rfl, rfl, hl0, hl1, hps, HG, hB⟩ := hrel
    by_cases hlt : k < N
    · have hkP : k < PS.length := by rw [HN.out]; exact hlt
      obtain ⟨hbg, hle, hcg⟩ := HG.out
      obtain ⟨g1, g2, g3, g4, g5⟩ := HBG.out k pos hkP hbg
      obtain ⟨g, cap', hv, c0, c1, c2, c3⟩ := HC.out k hkP wr hB
      have ht := wS_take' PS hkP
      have hr2 := wF_range PS[k]
      have C : Calls Tryd.prog 83 #[.agg #[.int .i64 PS[k].1, .int .i64 (pos : Int), .int .i64 ((Utf8.decode s pos).2 : Int), .bool PS[k].2.2.2]] wr fun e w' => e = .returned (.int .i64 (wF PS[k])) ∧ Below wr.heap.size wr w' := CO _ _ _ _ _
      have HT2 := hide ht
      have hst : clipG cols PS 0 = if wS (PS.take k) + wF PS[k] > cols then some PS[k].2.1 else clipG cols (PS.drop (k + 1)) (wS (PS.take k) + wF PS[k]) := by
        rw [hcg, List.drop_eq_getElem_cons hkP]
        rfl
      simp only [Value.slice.injEq] at hv
      obtain ⟨rfl, _, rfl⟩ := hv
      rw [g2] at c1 hst
      rw [g3] at c2
      have HST := hide hst
      have HG5 := hide g5
      have HCG := hide hcg
      generalize (Utf8.decode s pos).2 = wd at *
      generalize PS[k].1 = r at *
      generalize PS[k].2.2.2 = br at *
      generalize wF PS[k] = wx at *
      have HLE := hide hle
      generalize wS (PS.take k) = wp at *
      have hltI : (k : Int) < (N : Int) := by omega
      obtain ⟨q2, q3⟩ := hr2
      have hpw : (pos : Int) + (wd : Int) ≤ (s.size : Int) := by omega
      clear HC ht g2 g3 hst g5 hcg HG hbg
      by_cases hgt : wx > left
      · have HR : Hid (ct = s.extract 0 pos) := by
          have := HST.out
          rw [if_pos (by have := HLE.out; omega)] at this
          exact HT.out pos this
        have hpI : (pos : Int) ≤ (s.size : Int) := by omega
        clear HST HG5 hle
        go_wp2_with fail
        refine C.mono ?_; rintro e w2 ⟨rfl, hb2⟩
        go_wp2
        go_ret
        rw [HR.out]
        exact ⟨rfl, hb1.trans ((hB.trans (hb2.mono hB.size)).mono hb1.size)⟩
      · have HR : Hid (clipG cols PS 0 = clipG cols (PS.drop (k + 1)) (wp + wx)) := by
          have := HST.out
          rw [if_neg (by have := HLE.out; omega)] at this
          exact this
        clear HST hle
        go_wp2_with fail
        refine C.mono ?_; rintro e w2 ⟨rfl, hb2⟩
        have hgl : g < wr.heap.size := World.block_lt_of_cell? wr _ c1
        have d1 := (hb2.cell (p := ⟨g, k * 4 + 1, none⟩) hgl).trans c1
        have d2 := (hb2.cell (p := ⟨g, k * 4 + 2, none⟩) hgl).trans c2
        have hB2 := hB.trans (hb2.mono hB.size)
        clear hgl c0 c1 c2 c3
        go_wp2
        go_region
        all_goals go_wp2
        all_goals refine ⟨⟨k + 1, pos + wd, left - wx, by go_num, by omega, by rw [Int.natCast_add], rfl, by omega, by omega, by omega, ⟨HG5.out, ?_, ?_⟩, hB2.drew⟩, by simp [intOf]; omega⟩
        all_goals rw [HT2.out]
        all_goals first | exact HR.out | (have := HLE.out; omega)
    · have hke : k = N := by omega
      subst hke
      obtain ⟨hbg, hle, hcg⟩ := HG.out
      have hend : pos = s.size := HEND.out pos (by rw [HN.out]; exact hbg)
      have HR : Hid (ct = s.extract 0 pos) := by
        rw [List.drop_of_length_le (by rw [HN.out]; exact Nat.le_refl _)] at hcg
        rw [HT0.out hcg, hend]
        exact (ByteArray.extract_zero_size).symm
      have hpI : (pos : Int) ≤ (s.size : Int) := by omega
      have hge : ¬ (k : Int) < (k : Int) := by omega
      clear HC HG hbg hle hcg hend
      go_wp2
      go_ret
      rw [HR.out]
      exact ⟨rfl, hb1.trans (hB.mono hb1.size)⟩
end Go.Proofs.YtckjededijgjgaaDoor.Wd
