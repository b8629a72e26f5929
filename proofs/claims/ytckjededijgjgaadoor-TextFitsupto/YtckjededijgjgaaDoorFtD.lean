import Derived.Test.YtckjededijgjgaaDoorFtC
namespace Go.Proofs.YtckjededijgjgaaDoor.Ft
open Go.RowKit
open Go.Proofs.YtckjededijgjgaaDoor.Pc (P4 pieces pieces_in cellsL row_cells)
open Go.Proofs.YtckjededijgjgaaDoor.Wd (wS clipR width_any clip_any pad_any pad_bad padA padT padM wS_range)
open Go.Proofs.YtckjededijgjgaaDoor.Enc (hide Spans)
set_option linter.unusedVariables false


set_option maxRecDepth 100000 in
set_option maxHeartbeats 1000000 in
theorem fits_pos (s : ByteArray) (hs : s.size ≤ 1048576) (cols side : Int) (h0 : 0 ≤ cols) (hc1 : cols ≤ 9223372036854775807) (w : World) (R off cap : Nat) (hS : Spans w R off cap) :
    Calls Tryd.prog 11 #[.string s, .int .i64 cols, .int .i64 side] w fun e w' => e = .returned (.bool true) ∧ Below w.heap.size w w' := by
  obtain ⟨n, W, hcr, hn, hseg, hWc, hnext⟩ := clip_facts s cols h0
  have C1 := clip_any s hs cols hc1 w R off cap hS
  rw [hcr] at C1
  obtain ⟨c, hc⟩ : ∃ c, s.extract 0 n = c := ⟨_, rfl⟩
  have hcs : c.size = n := by rw [← hc, ByteArray.size_extract]; omega
  rw [hc] at C1 hseg
  subst hcs
  have hW0 := hseg.nonneg
  have hwc : wS (pieces c) = W := seg_width hseg
  have hW2 : W ≤ 2097152 := by
    have h1 := (wS_range (pieces c)).2
    have h2 := Wd.pieces_len c
    omega
  have W1 := fun w1 (h : Spans w1 R off cap) => width_any c (by omega) w1 R off cap h
  simp only [hwc] at W1
  have q1 : ((s.extract 0 c.size).toList == c.toList) = true := by rw [hc]; simp
  have hcI : (c.size : Int) ≤ (s.size : Int) := by omega
  have d1 : decide ((s.size : Int) < (c.size : Int)) = false := by simp; omega
  have d2 : decide (cols < W) = false := by simp; omega
  have hsI : (s.size : Int) ≤ 1048576 := by omega
  have CC := hide hc
  clear hc hcr hwc
  -- the first piece behind what is left
  have REST : c.size < s.size → ∃ (k : Nat) (L : Nat) (V : Int), 1 ≤ k ∧ c.size + k ≤ s.size ∧ 1 ≤ L ∧ cols < W + V ∧ 0 ≤ V ∧ V ≤ 2097152 ∧
      (∀ w1, Calls Tryd.prog 34 #[.string (s.extract c.size s.size)] w1 fun e w2 => ∃ g cap, e = .returned (.slice (some ⟨g, 0, none⟩) L cap) ∧ w2.cell? ⟨g, 2, none⟩ = some (.int .i64 (k : Int)) ∧ Below w1.heap.size w1 w2) ∧
      (∀ w1, Spans w1 R off cap → Calls Tryd.prog 36 #[.string (s.extract c.size (c.size + k))] w1 fun e w2 => e = .returned (.int .i64 V) ∧ Below w1.heap.size w1 w2) := by
    intro hlt
    obtain ⟨k, x, l, h1, h2, h3, h4, h5⟩ := rest_facts s c.size hlt
    have hz : (s.extract c.size s.size).size ≤ 1048576 := by rw [ByteArray.size_extract]; omega
    have hz2 : (s.extract c.size (c.size + k)).size ≤ 1048576 := by rw [ByteArray.size_extract]; omega
    have hv := wS_range (pieces (s.extract c.size (c.size + k)))
    have hl := Wd.pieces_len (s.extract c.size (c.size + k))
    refine ⟨k, l.length + 1, wA s c.size, h1, h2, by omega, hnext hlt, by rw [← h5]; exact hv.1, by rw [← h5]; omega, fun w1 => ?_, fun w1 hS1 => ?_⟩
    · refine ((callsIn_wide (n := 4)).1 (pieces_in 4 (by omega) _ hz w1)).mono ?_
      rintro e w2 ⟨v, rfl, hown, hB⟩
      rw [h3] at hown
      rcases hown.2 with ⟨rfl, hn0⟩ | ⟨g, cap', cur, rfl, hg, hcur, hcap, hmax, hcs, ht⟩
      · simp at hn0
      · have hc2 := (row_cells hcur ht 0 x rfl).2.2.1
        rw [h4] at hc2
        exact ⟨g, cap', rfl, by simpa using hc2, hB⟩
    · have := width_any (s.extract c.size (c.size + k)) (by omega) w1 R off cap hS1
      rw [h5] at this
      exact this
  clear hnext
  by_cases hbad : side < 0 ∨ (0 ≤ side ∧ side > 2) ∨ (0 ≤ side ∧ side ≤ 2 ∧ cols > 400)
  · have P1 := fun w1 => pad_bad c cols side (by omega) w1
    have hbad' : (cols > 400) ∨ (cols ≤ 400 ∧ side < 0) ∨ (cols ≤ 400 ∧ 0 ≤ side ∧ side > 2) := by omega
    clear hbad
    by_cases hlt : c.size < s.size
    · obtain ⟨k, L, V, hk1, hk2, hL, hV, hV0, hV2, PC, WC⟩ := REST hlt
      have hltI : (c.size : Int) < (s.size : Int) := by omega
      have b0 : (0 : Int) < (L : Int) := by omega
      have b1 : ((L : Int) == 0) = false := by simp; omega
      have b2 : decide ((k : Int) < 1) = false := by simp; omega
      have b3 : decide ((s.size : Int) - (c.size : Int) < (k : Int)) = false := by simp; omega
      have b4 : (c.size : Int) + (k : Int) ≤ (s.size : Int) := by omega
      have b5 : decide (W + V ≤ cols) = false := by simp; omega
      clear REST hk1 hk2 hlt hL
      rcases hbad' with hb | ⟨hb, hb2⟩ | ⟨hb, hb2, hb3⟩
      all_goals
        go_enter Tryd.func11, Tryd.ntmps11
        go_wp2_with fail
        refine C1.mono ?_; rintro e w1 ⟨rfl, hb1⟩
        have hS1 := hS.below hb1 (Nat.le_refl _)
        go_wp2_with fail
        refine (W1 _ hS1).mono ?_; rintro e w2 ⟨rfl, hb2⟩
        have hB2 := hb1.trans (hb2.mono hb1.size)
        go_wp2_with fail
        refine (PC _).mono ?_; rintro e w3 ⟨g, cap', rfl, hc2, hb3⟩
        have hB3 := hB2.trans (hb3.mono hB2.size)
        go_wp2_with fail
        refine (WC _ (hS.below hB3 (Nat.le_refl _))).mono ?_; rintro e w4 ⟨rfl, hb4⟩
        have hB4 := hB3.trans (hb4.mono hB3.size)
        go_wp2_with fail
        refine (P1 _).mono ?_; rintro e w5 ⟨rfl, rfl⟩
        go_wp2
        go_ret
        exact ⟨rfl, hB4⟩
    · have hge : ¬ (c.size : Int) < (s.size : Int) := by omega
      clear REST hlt
      rcases hbad' with hb | ⟨hb, hb2⟩ | ⟨hb, hb2, hb3⟩
      all_goals
        go_enter Tryd.func11, Tryd.ntmps11
        go_wp2_with fail
        refine C1.mono ?_; rintro e w1 ⟨rfl, hb1⟩
        have hS1 := hS.below hb1 (Nat.le_refl _)
        go_wp2_with fail
        refine (W1 _ hS1).mono ?_; rintro e w2 ⟨rfl, hb2⟩
        have hB2 := hb1.trans (hb2.mono hb1.size)
        go_wp2_with fail
        refine (P1 _).mono ?_; rintro e w5 ⟨rfl, rfl⟩
        go_wp2
        go_ret
        exact ⟨rfl, hB2⟩
  · have hs0 : 0 ≤ side := by omega
    have hs1 : side ≤ 2 := by omega
    have h400 : cols ≤ 400 := by omega
    have PD := pd_of c W cols side hseg hWc hs0 hs1 h400
    have P1 := fun w1 h => pad_any c (by omega) cols side h0 h400 hs0 hs1 w1 R off cap h
    generalize padT c (padM c cols) side = p at PD P1
    obtain ⟨hpz, hpa, hpr, hpc, hpw⟩ := PD
    have W3 := fun w1 h => width_any p (by omega) w1 R off cap h
    simp only [hpw] at W3
    have hcase : side = 0 ∨ side = 1 ∨ side = 2 := by omega
    rcases hcase with rfl | rfl | rfl
    · by_cases hlt : c.size < s.size
      · obtain ⟨k, L, V, hk1, hk2, hL, hV, hV0, hV2, PC, WC⟩ := REST hlt
        exact fits_0r s c p hs cols W _ h0 h400 hW0 hWc w R off cap hS hcI q1 C1 W1 k L V hk1 hk2 hL hV hV0 hV2 PC WC P1 W3 hpz hpa (by simp [Wd.padA]) hpc
      · exact fits_0e s c p hs cols W _ h0 h400 hW0 hWc w R off cap hS hcI q1 C1 W1 hlt P1 W3 hpz hpa (by simp [Wd.padA]) hpc
    · by_cases hlt : c.size < s.size
      · obtain ⟨k, L, V, hk1, hk2, hL, hV, hV0, hV2, PC, WC⟩ := REST hlt
        exact fits_1r s c p hs cols W _ h0 h400 hW0 hWc w R off cap hS hcI q1 C1 W1 k L V hk1 hk2 hL hV hV0 hV2 PC WC P1 W3 hpz hpa (by simp [Wd.padA]; omega) hpc
      · exact fits_1e s c p hs cols W _ h0 h400 hW0 hWc w R off cap hS hcI q1 C1 W1 hlt P1 W3 hpz hpa (by simp [Wd.padA]; omega) hpc
    · by_cases hlt : c.size < s.size
      · obtain ⟨k, L, V, hk1, hk2, hL, hV, hV0, hV2, PC, WC⟩ := REST hlt
        exact fits_2r s c p hs cols W _ h0 h400 hW0 hWc w R off cap hS hcI q1 C1 W1 k L V hk1 hk2 hL hV hV0 hV2 PC WC P1 W3 hpz hpa (by simp [Wd.padA]; omega) hpc
      · exact fits_2e s c p hs cols W _ h0 h400 hW0 hWc w R off cap hS hcI q1 C1 W1 hlt P1 W3 hpz hpa (by simp [Wd.padA]; omega) hpc

theorem fits_walk (s : ByteArray) (hs : s.size ≤ 1048576) (cols side : Int) (hc1 : cols ≤ 9223372036854775807) (w : World) (R off cap : Nat) (hS : Spans w R off cap) :
    Calls Tryd.prog 11 #[.string s, .int .i64 cols, .int .i64 side] w fun e w' => e = .returned (.bool true) ∧ Below w.heap.size w w' := by
  by_cases h : cols < 0
  · exact fits_neg s hs cols side h w R off cap hS
  · exact fits_pos s hs cols side (by omega) hc1 w R off cap hS
end Go.Proofs.YtckjededijgjgaaDoor.Ft
