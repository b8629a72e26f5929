import Derived.Test.YtckjededijgjgaaDoorFtB
import Derived.Test.YtckjededijgjgaaDoorWdK
import Derived.Test.YtckjededijgjgaaDoorPcF
namespace Go.Proofs.YtckjededijgjgaaDoor.Ft
open Go.RowKit
open Go.Proofs.YtckjededijgjgaaDoor.Pc (P4 pieces pieces_in cellsL row_cells)
open Go.Proofs.YtckjededijgjgaaDoor.Wd (wS clipR width_any clip_any pad_any pad_bad padA padT padM wS_range)
open Go.Proofs.YtckjededijgjgaaDoor.Enc (hide Spans)
set_option linter.unusedVariables false

theorem bytes_eq (a : ByteArray) : (a.toList == a.toList) = true := by simp

set_option maxRecDepth 100000 in
set_option maxHeartbeats 1000000 in
theorem fits_neg (s : ByteArray) (hs : s.size ≤ 1048576) (cols side : Int) (h : cols < 0) (w : World) (R off cap : Nat) (hS : Spans w R off cap) :
    Calls Tryd.prog 11 #[.string s, .int .i64 cols, .int .i64 side] w fun e w' => e = .returned (.bool true) ∧ Below w.heap.size w w' := by
  have C1 := clip_any s hs cols (by omega) w R off cap hS
  have hcr : clipR s cols = ⟨#[]⟩ := by unfold Wd.clipR; rw [if_pos h]
  rw [hcr] at C1
  have W1 := fun w1 (h : Spans w1 R off cap) => width_any ⟨#[]⟩ (by decide) w1 R off cap h
  have hw0 : wS (pieces ⟨#[]⟩) = 0 := rfl
  rw [hw0] at W1
  have P1 := fun w1 => pad_bad ⟨#[]⟩ cols side (by omega) w1
  have q1 : ((s.extract 0 0).toList == []) = true := by
    rw [ByteArray.toList_eq, Lib.extract_data]; simp
  have hge : ¬ (0 ≤ cols) := by omega
  go_enter Tryd.func11, Tryd.ntmps11
  go_wp2_with fail
  refine C1.mono ?_; rintro e w1 ⟨rfl, hb1⟩
  have hS1 := hS.below hb1 (Nat.le_refl _)
  go_wp2_with fail
  refine (W1 _ hS1).mono ?_; rintro e w2 ⟨rfl, hb2⟩
  have hB2 := hb1.trans (hb2.mono hb1.size)
  go_wp2_with fail
  all_goals
    refine (P1 _).mono ?_; rintro e w3 ⟨rfl, rfl⟩
    go_wp2
    go_ret
    exact ⟨rfl, hB2⟩


/-- what is known of the padded text -/
structure Pd (c p : ByteArray) (cols W : Int) (A : Nat) : Prop where
  size : (p.size : Int) = (c.size : Int) + cols - W
  ahead : ∀ k : Nat, k < A → ∃ h : k < p.size, (p[k].toNat : Int) = 32
  room : (A : Int) ≤ cols - W
  cut : p.extract A (A + c.size) = c
  wide : wS (pieces p) = cols

theorem pd_of (c : ByteArray) (W cols side : Int) (hseg : Seg c 0 c.size W) (hW : W ≤ cols) (s0 : 0 ≤ side) (s1 : side ≤ 2) (h1 : cols ≤ 400) :
    Pd c (padT c (padM c cols) side) cols W (padA (cols - W) side).toNat := by
  have hW0 := hseg.nonneg
  have hw : wS (pieces c) = W := seg_width hseg
  have hm : padM c cols = cols - W := by unfold Wd.padM; rw [hw]; split <;> omega
  have hA : 0 ≤ padA (cols - W) side ∧ padA (cols - W) side ≤ cols - W := by
    unfold Wd.padA
    split
    · omega
    · split <;> omega
  rw [hm, padT_padB]
  generalize padA (cols - W) side = A at *
  have hz := padB_size c A.toNat (cols - W - A).toNat
  refine ⟨by omega, fun k hk => ?_, by omega, padB_cut c _ _, ?_⟩
  · have hlt : k < (padB c A.toNat (cols - W - A).toNat).size := by omega
    refine ⟨hlt, ?_⟩
    rw [← Pc.get_at _ _ hlt, padB_ahead c _ _ k hk]
    rfl
  · rw [padB_width c _ _ W hseg]; omega

theorem hq_of {p c : ByteArray} {A : Nat} (h : Hid (((p.extract A (A + c.size)).toList == c.toList) = true)) (a b : Nat) (ha : a = A) (hb : b = A + c.size) : ((p.extract a b).toList == c.toList) = true := by
  subst ha hb
  exact h.out
theorem ret_bool {a b : Bool} (h : a = b) : Ending.returned (.bool a) = .returned (.bool b) := by rw [h]

set_option maxRecDepth 100000 in
set_option maxHeartbeats 1000000 in
theorem fits_0r (s c p : ByteArray) (hs : s.size ≤ 1048576) (cols W : Int) (A : Nat) (h0 : 0 ≤ cols) (h400 : cols ≤ 400) (hW0 : 0 ≤ W) (hWc : W ≤ cols) (w : World) (R off cap : Nat) (hS : Spans w R off cap)
    (hcI : (c.size : Int) ≤ (s.size : Int)) (q1 : ((s.extract 0 c.size).toList == c.toList) = true)
    (C1 : Calls Tryd.prog 35 #[.string s, .int .i64 cols] w fun e W' => e = .returned (.string c) ∧ Below w.heap.size w W')
    (W1 : ∀ w1, Spans w1 R off cap → Calls Tryd.prog 36 #[.string c] w1 fun e W' => e = .returned (.int .i64 W) ∧ Below w1.heap.size w1 W')
    (k L : Nat) (V : Int) (hk1 : 1 ≤ k) (hk2 : c.size + k ≤ s.size) (hL : 1 ≤ L) (hV : cols < W + V) (hV0 : 0 ≤ V) (hV2 : V ≤ 2097152)
    (PC : ∀ w1, Calls Tryd.prog 34 #[.string (s.extract c.size s.size)] w1 fun e w2 => ∃ g cap, e = .returned (.slice (some ⟨g, 0, none⟩) L cap) ∧ w2.cell? ⟨g, 2, none⟩ = some (.int .i64 (k : Int)) ∧ Below w1.heap.size w1 w2)
    (WC : ∀ w1, Spans w1 R off cap → Calls Tryd.prog 36 #[.string (s.extract c.size (c.size + k))] w1 fun e w2 => e = .returned (.int .i64 V) ∧ Below w1.heap.size w1 w2)
    (P1 : ∀ w1, Spans w1 R off cap → Calls Tryd.prog 37 #[.string c, .int .i64 cols, .int .i64 0] w1 fun e W' => e = .returned (.tuple #[.string p, .int .i64 0]) ∧ Below w1.heap.size w1 W')
    (W3 : ∀ w1, Spans w1 R off cap → Calls Tryd.prog 36 #[.string p] w1 fun e W' => e = .returned (.int .i64 cols) ∧ Below w1.heap.size w1 W')
    (hpz : (p.size : Int) = (c.size : Int) + cols - W) (hpa : ∀ k : Nat, k < A → ∃ h : k < p.size, (p[k].toNat : Int) = 32) (hA : (A : Int) = 0) (hpc : p.extract A (A + c.size) = c) :
    Calls Tryd.prog 11 #[.string s, .int .i64 cols, .int .i64 0] w fun e w' => e = .returned (.bool true) ∧ Below w.heap.size w w' := by
  have d1 : decide ((s.size : Int) < (c.size : Int)) = false := by simp; omega
  have d2 : decide (cols < W) = false := by simp; omega
  have hsI : (s.size : Int) ≤ 1048576 := by omega
  have dz : ((p.size : Int) != (c.size : Int) + cols - W) = false := by simp; omega
  have HQ : Hid (((p.extract A (A + c.size)).toList == c.toList) = true) := by rw [hpc]; exact bytes_eq c
  have hAp : (A : Int) + (c.size : Int) ≤ (p.size : Int) := by omega
  have hpI : (p.size : Int) ≤ 1048976 := by omega
  clear hpc
  have hltI : (c.size : Int) < (s.size : Int) := by omega
  have b0 : (0 : Int) < (L : Int) := by omega
  have b1 : ((L : Int) == 0) = false := by simp; omega
  have b2 : decide ((k : Int) < 1) = false := by simp; omega
  have b3 : decide ((s.size : Int) - (c.size : Int) < (k : Int)) = false := by simp; omega
  have b4 : (c.size : Int) + (k : Int) ≤ (s.size : Int) := by omega
  have b5 : decide (W + V ≤ cols) = false := by simp; omega
  clear hk1 hk2 hL
  go_enter Tryd.func11, Tryd.ntmps11
  go_wp2_with fail
  refine C1.mono ?_; rintro e w1 ⟨rfl, hb1⟩
  have hS1 := hS.below hb1 (Nat.le_refl _)
  go_wp2_with fail
  refine (W1 _ hS1).mono ?_; rintro e w2 ⟨rfl, hb2⟩
  have hB2 := hb1.trans (hb2.mono hb1.size)
  go_wp2_with fail
  refine (PC _).mono ?_; rintro e w3 ⟨g, cap', rfl, hc2, hb3⟩
  have hB3 := hB2.trans (hb3.mono hB2.size)
  go_wp2_with fail
  refine (WC _ (hS.below hB3 (Nat.le_refl _))).mono ?_; rintro e w4 ⟨rfl, hb4⟩
  have hB4 := hB3.trans (hb4.mono hB3.size)
  go_wp2_with fail
  refine (P1 _ (hS.below hB4 (Nat.le_refl _))).mono ?_; rintro e w5 ⟨rfl, hb5⟩
  have hB5 := hB4.trans (hb5.mono hB4.size)
  go_wp2_with fail
  refine (W3 _ (hS.below hB5 (Nat.le_refl _))).mono ?_; rintro e w6 ⟨rfl, hb6⟩
  have hB6 := hB5.trans (hb6.mono hB5.size)
  clear C1 W1 P1 W3 PC WC
  go_wp2_with fail
  go_loop [13] (fun a => ∃ k : Nat, a = .int .i64 (k : Int) ∧ k ≤ A) (fun a => A - (intOf a).toNat)
  case atStart => exact ⟨0, rfl, by omega⟩
  case round =>
    obtain ⟨k, rfl, hk⟩ := hrel
    have hk0 : k = 0 := by omega
    subst hk0
    by_cases hm : (0 : Int) < (p.size : Int) - (c.size : Int)
    · have hp0 : (0 : Int) < (p.size : Int) := by omega
      go_wp2
      all_goals
        go_ret
        exact ⟨ret_bool (hq_of HQ _ _ (by omega) (by omega)), hB6⟩
    · go_wp2
      go_ret
      exact ⟨ret_bool (hq_of HQ _ _ (by omega) (by omega)), hB6⟩

set_option maxRecDepth 100000 in
set_option maxHeartbeats 1000000 in
theorem fits_0e (s c p : ByteArray) (hs : s.size ≤ 1048576) (cols W : Int) (A : Nat) (h0 : 0 ≤ cols) (h400 : cols ≤ 400) (hW0 : 0 ≤ W) (hWc : W ≤ cols) (w : World) (R off cap : Nat) (hS : Spans w R off cap)
    (hcI : (c.size : Int) ≤ (s.size : Int)) (q1 : ((s.extract 0 c.size).toList == c.toList) = true)
    (C1 : Calls Tryd.prog 35 #[.string s, .int .i64 cols] w fun e W' => e = .returned (.string c) ∧ Below w.heap.size w W')
    (W1 : ∀ w1, Spans w1 R off cap → Calls Tryd.prog 36 #[.string c] w1 fun e W' => e = .returned (.int .i64 W) ∧ Below w1.heap.size w1 W')
    (hlt : ¬ c.size < s.size)
    (P1 : ∀ w1, Spans w1 R off cap → Calls Tryd.prog 37 #[.string c, .int .i64 cols, .int .i64 0] w1 fun e W' => e = .returned (.tuple #[.string p, .int .i64 0]) ∧ Below w1.heap.size w1 W')
    (W3 : ∀ w1, Spans w1 R off cap → Calls Tryd.prog 36 #[.string p] w1 fun e W' => e = .returned (.int .i64 cols) ∧ Below w1.heap.size w1 W')
    (hpz : (p.size : Int) = (c.size : Int) + cols - W) (hpa : ∀ k : Nat, k < A → ∃ h : k < p.size, (p[k].toNat : Int) = 32) (hA : (A : Int) = 0) (hpc : p.extract A (A + c.size) = c) :
    Calls Tryd.prog 11 #[.string s, .int .i64 cols, .int .i64 0] w fun e w' => e = .returned (.bool true) ∧ Below w.heap.size w w' := by
  have d1 : decide ((s.size : Int) < (c.size : Int)) = false := by simp; omega
  have d2 : decide (cols < W) = false := by simp; omega
  have hsI : (s.size : Int) ≤ 1048576 := by omega
  have dz : ((p.size : Int) != (c.size : Int) + cols - W) = false := by simp; omega
  have HQ : Hid (((p.extract A (A + c.size)).toList == c.toList) = true) := by rw [hpc]; exact bytes_eq c
  have hAp : (A : Int) + (c.size : Int) ≤ (p.size : Int) := by omega
  have hpI : (p.size : Int) ≤ 1048976 := by omega
  clear hpc
  have hge : ¬ (c.size : Int) < (s.size : Int) := by omega
  clear hlt
  go_enter Tryd.func11, Tryd.ntmps11
  go_wp2_with fail
  refine C1.mono ?_; rintro e w1 ⟨rfl, hb1⟩
  have hS1 := hS.below hb1 (Nat.le_refl _)
  go_wp2_with fail
  refine (W1 _ hS1).mono ?_; rintro e w2 ⟨rfl, hb2⟩
  have hB2 := hb1.trans (hb2.mono hb1.size)
  have hB4 := hB2
  go_wp2_with fail
  refine (P1 _ (hS.below hB4 (Nat.le_refl _))).mono ?_; rintro e w5 ⟨rfl, hb5⟩
  have hB5 := hB4.trans (hb5.mono hB4.size)
  go_wp2_with fail
  refine (W3 _ (hS.below hB5 (Nat.le_refl _))).mono ?_; rintro e w6 ⟨rfl, hb6⟩
  have hB6 := hB5.trans (hb6.mono hB5.size)
  clear C1 W1 P1 W3
  go_wp2_with fail
  go_loop [13] (fun a => ∃ k : Nat, a = .int .i64 (k : Int) ∧ k ≤ A) (fun a => A - (intOf a).toNat)
  case atStart => exact ⟨0, rfl, by omega⟩
  case round =>
    obtain ⟨k, rfl, hk⟩ := hrel
    have hk0 : k = 0 := by omega
    subst hk0
    by_cases hm : (0 : Int) < (p.size : Int) - (c.size : Int)
    · have hp0 : (0 : Int) < (p.size : Int) := by omega
      go_wp2
      all_goals
        go_ret
        exact ⟨ret_bool (hq_of HQ _ _ (by omega) (by omega)), hB6⟩
    · go_wp2
      go_ret
      exact ⟨ret_bool (hq_of HQ _ _ (by omega) (by omega)), hB6⟩

set_option maxRecDepth 100000 in
set_option maxHeartbeats 1000000 in
theorem fits_1r (s c p : ByteArray) (hs : s.size ≤ 1048576) (cols W : Int) (A : Nat) (h0 : 0 ≤ cols) (h400 : cols ≤ 400) (hW0 : 0 ≤ W) (hWc : W ≤ cols) (w : World) (R off cap : Nat) (hS : Spans w R off cap)
    (hcI : (c.size : Int) ≤ (s.size : Int)) (q1 : ((s.extract 0 c.size).toList == c.toList) = true)
    (C1 : Calls Tryd.prog 35 #[.string s, .int .i64 cols] w fun e W' => e = .returned (.string c) ∧ Below w.heap.size w W')
    (W1 : ∀ w1, Spans w1 R off cap → Calls Tryd.prog 36 #[.string c] w1 fun e W' => e = .returned (.int .i64 W) ∧ Below w1.heap.size w1 W')
    (k L : Nat) (V : Int) (hk1 : 1 ≤ k) (hk2 : c.size + k ≤ s.size) (hL : 1 ≤ L) (hV : cols < W + V) (hV0 : 0 ≤ V) (hV2 : V ≤ 2097152)
    (PC : ∀ w1, Calls Tryd.prog 34 #[.string (s.extract c.size s.size)] w1 fun e w2 => ∃ g cap, e = .returned (.slice (some ⟨g, 0, none⟩) L cap) ∧ w2.cell? ⟨g, 2, none⟩ = some (.int .i64 (k : Int)) ∧ Below w1.heap.size w1 w2)
    (WC : ∀ w1, Spans w1 R off cap → Calls Tryd.prog 36 #[.string (s.extract c.size (c.size + k))] w1 fun e w2 => e = .returned (.int .i64 V) ∧ Below w1.heap.size w1 w2)
    (P1 : ∀ w1, Spans w1 R off cap → Calls Tryd.prog 37 #[.string c, .int .i64 cols, .int .i64 1] w1 fun e W' => e = .returned (.tuple #[.string p, .int .i64 0]) ∧ Below w1.heap.size w1 W')
    (W3 : ∀ w1, Spans w1 R off cap → Calls Tryd.prog 36 #[.string p] w1 fun e W' => e = .returned (.int .i64 cols) ∧ Below w1.heap.size w1 W')
    (hpz : (p.size : Int) = (c.size : Int) + cols - W) (hpa : ∀ k : Nat, k < A → ∃ h : k < p.size, (p[k].toNat : Int) = 32) (hA : (A : Int) = cols - W) (hpc : p.extract A (A + c.size) = c) :
    Calls Tryd.prog 11 #[.string s, .int .i64 cols, .int .i64 1] w fun e w' => e = .returned (.bool true) ∧ Below w.heap.size w w' := by
  have d1 : decide ((s.size : Int) < (c.size : Int)) = false := by simp; omega
  have d2 : decide (cols < W) = false := by simp; omega
  have hsI : (s.size : Int) ≤ 1048576 := by omega
  have dz : ((p.size : Int) != (c.size : Int) + cols - W) = false := by simp; omega
  have HQ : Hid (((p.extract A (A + c.size)).toList == c.toList) = true) := by rw [hpc]; exact bytes_eq c
  have hAp : (A : Int) + (c.size : Int) ≤ (p.size : Int) := by omega
  have hpI : (p.size : Int) ≤ 1048976 := by omega
  clear hpc
  have hltI : (c.size : Int) < (s.size : Int) := by omega
  have b0 : (0 : Int) < (L : Int) := by omega
  have b1 : ((L : Int) == 0) = false := by simp; omega
  have b2 : decide ((k : Int) < 1) = false := by simp; omega
  have b3 : decide ((s.size : Int) - (c.size : Int) < (k : Int)) = false := by simp; omega
  have b4 : (c.size : Int) + (k : Int) ≤ (s.size : Int) := by omega
  have b5 : decide (W + V ≤ cols) = false := by simp; omega
  clear hk1 hk2 hL
  go_enter Tryd.func11, Tryd.ntmps11
  go_wp2_with fail
  refine C1.mono ?_; rintro e w1 ⟨rfl, hb1⟩
  have hS1 := hS.below hb1 (Nat.le_refl _)
  go_wp2_with fail
  refine (W1 _ hS1).mono ?_; rintro e w2 ⟨rfl, hb2⟩
  have hB2 := hb1.trans (hb2.mono hb1.size)
  go_wp2_with fail
  refine (PC _).mono ?_; rintro e w3 ⟨g, cap', rfl, hc2, hb3⟩
  have hB3 := hB2.trans (hb3.mono hB2.size)
  go_wp2_with fail
  refine (WC _ (hS.below hB3 (Nat.le_refl _))).mono ?_; rintro e w4 ⟨rfl, hb4⟩
  have hB4 := hB3.trans (hb4.mono hB3.size)
  go_wp2_with fail
  refine (P1 _ (hS.below hB4 (Nat.le_refl _))).mono ?_; rintro e w5 ⟨rfl, hb5⟩
  have hB5 := hB4.trans (hb5.mono hB4.size)
  go_wp2_with fail
  refine (W3 _ (hS.below hB5 (Nat.le_refl _))).mono ?_; rintro e w6 ⟨rfl, hb6⟩
  have hB6 := hB5.trans (hb6.mono hB5.size)
  clear C1 W1 P1 W3 PC WC
  go_wp2_with fail
  go_loop [13] (fun a => ∃ k : Nat, a = .int .i64 (k : Int) ∧ k ≤ A) (fun a => A - (intOf a).toNat)
  case atStart => exact ⟨0, rfl, by omega⟩
  case round =>
    obtain ⟨k, rfl, hk⟩ := hrel
    by_cases hkA : k < A
    · obtain ⟨hkp, hk32⟩ := hpa k hkA
      have hkI : (k : Int) < (p.size : Int) - (c.size : Int) := by omega
      have hkP : (k : Int) < (p.size : Int) := by omega
      have hkA' : (k : Int) < (A : Int) := by omega
      have hk32b : ((p[k].toNat : Int) == 32) = true := by rw [hk32]; rfl
      go_wp2
      exact ⟨⟨k + 1, by go_num, by omega⟩, by simp [intOf]; omega⟩
    · have hke : k = A := by omega
      subst hke
      have hkI : ¬ (k : Int) < (p.size : Int) - (c.size : Int) := by omega
      go_wp2
      go_ret
      exact ⟨ret_bool (hq_of HQ _ _ (by omega) (by omega)), hB6⟩

set_option maxRecDepth 100000 in
set_option maxHeartbeats 1000000 in
theorem fits_1e (s c p : ByteArray) (hs : s.size ≤ 1048576) (cols W : Int) (A : Nat) (h0 : 0 ≤ cols) (h400 : cols ≤ 400) (hW0 : 0 ≤ W) (hWc : W ≤ cols) (w : World) (R off cap : Nat) (hS : Spans w R off cap)
    (hcI : (c.size : Int) ≤ (s.size : Int)) (q1 : ((s.extract 0 c.size).toList == c.toList) = true)
    (C1 : Calls Tryd.prog 35 #[.string s, .int .i64 cols] w fun e W' => e = .returned (.string c) ∧ Below w.heap.size w W')
    (W1 : ∀ w1, Spans w1 R off cap → Calls Tryd.prog 36 #[.string c] w1 fun e W' => e = .returned (.int .i64 W) ∧ Below w1.heap.size w1 W')
    (hlt : ¬ c.size < s.size)
    (P1 : ∀ w1, Spans w1 R off cap → Calls Tryd.prog 37 #[.string c, .int .i64 cols, .int .i64 1] w1 fun e W' => e = .returned (.tuple #[.string p, .int .i64 0]) ∧ Below w1.heap.size w1 W')
    (W3 : ∀ w1, Spans w1 R off cap → Calls Tryd.prog 36 #[.string p] w1 fun e W' => e = .returned (.int .i64 cols) ∧ Below w1.heap.size w1 W')
    (hpz : (p.size : Int) = (c.size : Int) + cols - W) (hpa : ∀ k : Nat, k < A → ∃ h : k < p.size, (p[k].toNat : Int) = 32) (hA : (A : Int) = cols - W) (hpc : p.extract A (A + c.size) = c) :
    Calls Tryd.prog 11 #[.string s, .int .i64 cols, .int .i64 1] w fun e w' => e = .returned (.bool true) ∧ Below w.heap.size w w' := by
  have d1 : decide ((s.size : Int) < (c.size : Int)) = false := by simp; omega
  have d2 : decide (cols < W) = false := by simp; omega
  have hsI : (s.size : Int) ≤ 1048576 := by omega
  have dz : ((p.size : Int) != (c.size : Int) + cols - W) = false := by simp; omega
  have HQ : Hid (((p.extract A (A + c.size)).toList == c.toList) = true) := by rw [hpc]; exact bytes_eq c
  have hAp : (A : Int) + (c.size : Int) ≤ (p.size : Int) := by omega
  have hpI : (p.size : Int) ≤ 1048976 := by omega
  clear hpc
  have hge : ¬ (c.size : Int) < (s.size : Int) := by omega
  clear hlt
  go_enter Tryd.func11, Tryd.ntmps11
  go_wp2_with fail
  refine C1.mono ?_; rintro e w1 ⟨rfl, hb1⟩
  have hS1 := hS.below hb1 (Nat.le_refl _)
  go_wp2_with fail
  refine (W1 _ hS1).mono ?_; rintro e w2 ⟨rfl, hb2⟩
  have hB2 := hb1.trans (hb2.mono hb1.size)
  have hB4 := hB2
  go_wp2_with fail
  refine (P1 _ (hS.below hB4 (Nat.le_refl _))).mono ?_; rintro e w5 ⟨rfl, hb5⟩
  have hB5 := hB4.trans (hb5.mono hB4.size)
  go_wp2_with fail
  refine (W3 _ (hS.below hB5 (Nat.le_refl _))).mono ?_; rintro e w6 ⟨rfl, hb6⟩
  have hB6 := hB5.trans (hb6.mono hB5.size)
  clear C1 W1 P1 W3
  go_wp2_with fail
  go_loop [13] (fun a => ∃ k : Nat, a = .int .i64 (k : Int) ∧ k ≤ A) (fun a => A - (intOf a).toNat)
  case atStart => exact ⟨0, rfl, by omega⟩
  case round =>
    obtain ⟨k, rfl, hk⟩ := hrel
    by_cases hkA : k < A
    · obtain ⟨hkp, hk32⟩ := hpa k hkA
      have hkI : (k : Int) < (p.size : Int) - (c.size : Int) := by omega
      have hkP : (k : Int) < (p.size : Int) := by omega
      have hkA' : (k : Int) < (A : Int) := by omega
      have hk32b : ((p[k].toNat : Int) == 32) = true := by rw [hk32]; rfl
      go_wp2
      exact ⟨⟨k + 1, by go_num, by omega⟩, by simp [intOf]; omega⟩
    · have hke : k = A := by omega
      subst hke
      have hkI : ¬ (k : Int) < (p.size : Int) - (c.size : Int) := by omega
      go_wp2
      go_ret
      exact ⟨ret_bool (hq_of HQ _ _ (by omega) (by omega)), hB6⟩

set_option maxRecDepth 100000 in
set_option maxHeartbeats 1000000 in
theorem fits_2r (s c p : ByteArray) (hs : s.size ≤ 1048576) (cols W : Int) (A : Nat) (h0 : 0 ≤ cols) (h400 : cols ≤ 400) (hW0 : 0 ≤ W) (hWc : W ≤ cols) (w : World) (R off cap : Nat) (hS : Spans w R off cap)
    (hcI : (c.size : Int) ≤ (s.size : Int)) (q1 : ((s.extract 0 c.size).toList == c.toList) = true)
    (C1 : Calls Tryd.prog 35 #[.string s, .int .i64 cols] w fun e W' => e = .returned (.string c) ∧ Below w.heap.size w W')
    (W1 : ∀ w1, Spans w1 R off cap → Calls Tryd.prog 36 #[.string c] w1 fun e W' => e = .returned (.int .i64 W) ∧ Below w1.heap.size w1 W')
    (k L : Nat) (V : Int) (hk1 : 1 ≤ k) (hk2 : c.size + k ≤ s.size) (hL : 1 ≤ L) (hV : cols < W + V) (hV0 : 0 ≤ V) (hV2 : V ≤ 2097152)
    (PC : ∀ w1, Calls Tryd.prog 34 #[.string (s.extract c.size s.size)] w1 fun e w2 => ∃ g cap, e = .returned (.slice (some ⟨g, 0, none⟩) L cap) ∧ w2.cell? ⟨g, 2, none⟩ = some (.int .i64 (k : Int)) ∧ Below w1.heap.size w1 w2)
    (WC : ∀ w1, Spans w1 R off cap → Calls Tryd.prog 36 #[.string (s.extract c.size (c.size + k))] w1 fun e w2 => e = .returned (.int .i64 V) ∧ Below w1.heap.size w1 w2)
    (P1 : ∀ w1, Spans w1 R off cap → Calls Tryd.prog 37 #[.string c, .int .i64 cols, .int .i64 2] w1 fun e W' => e = .returned (.tuple #[.string p, .int .i64 0]) ∧ Below w1.heap.size w1 W')
    (W3 : ∀ w1, Spans w1 R off cap → Calls Tryd.prog 36 #[.string p] w1 fun e W' => e = .returned (.int .i64 cols) ∧ Below w1.heap.size w1 W')
    (hpz : (p.size : Int) = (c.size : Int) + cols - W) (hpa : ∀ k : Nat, k < A → ∃ h : k < p.size, (p[k].toNat : Int) = 32) (hA : (A : Int) = (cols - W) / 2) (hpc : p.extract A (A + c.size) = c) :
    Calls Tryd.prog 11 #[.string s, .int .i64 cols, .int .i64 2] w fun e w' => e = .returned (.bool true) ∧ Below w.heap.size w w' := by
  have d1 : decide ((s.size : Int) < (c.size : Int)) = false := by simp; omega
  have d2 : decide (cols < W) = false := by simp; omega
  have hsI : (s.size : Int) ≤ 1048576 := by omega
  have dz : ((p.size : Int) != (c.size : Int) + cols - W) = false := by simp; omega
  have HQ : Hid (((p.extract A (A + c.size)).toList == c.toList) = true) := by rw [hpc]; exact bytes_eq c
  have hAp : (A : Int) + (c.size : Int) ≤ (p.size : Int) := by omega
  have hpI : (p.size : Int) ≤ 1048976 := by omega
  clear hpc
  have hltI : (c.size : Int) < (s.size : Int) := by omega
  have b0 : (0 : Int) < (L : Int) := by omega
  have b1 : ((L : Int) == 0) = false := by simp; omega
  have b2 : decide ((k : Int) < 1) = false := by simp; omega
  have b3 : decide ((s.size : Int) - (c.size : Int) < (k : Int)) = false := by simp; omega
  have b4 : (c.size : Int) + (k : Int) ≤ (s.size : Int) := by omega
  have b5 : decide (W + V ≤ cols) = false := by simp; omega
  clear hk1 hk2 hL
  go_enter Tryd.func11, Tryd.ntmps11
  go_wp2_with fail
  refine C1.mono ?_; rintro e w1 ⟨rfl, hb1⟩
  have hS1 := hS.below hb1 (Nat.le_refl _)
  go_wp2_with fail
  refine (W1 _ hS1).mono ?_; rintro e w2 ⟨rfl, hb2⟩
  have hB2 := hb1.trans (hb2.mono hb1.size)
  go_wp2_with fail
  refine (PC _).mono ?_; rintro e w3 ⟨g, cap', rfl, hc2, hb3⟩
  have hB3 := hB2.trans (hb3.mono hB2.size)
  go_wp2_with fail
  refine (WC _ (hS.below hB3 (Nat.le_refl _))).mono ?_; rintro e w4 ⟨rfl, hb4⟩
  have hB4 := hB3.trans (hb4.mono hB3.size)
  go_wp2_with fail
  refine (P1 _ (hS.below hB4 (Nat.le_refl _))).mono ?_; rintro e w5 ⟨rfl, hb5⟩
  have hB5 := hB4.trans (hb5.mono hB4.size)
  go_wp2_with fail
  refine (W3 _ (hS.below hB5 (Nat.le_refl _))).mono ?_; rintro e w6 ⟨rfl, hb6⟩
  have hB6 := hB5.trans (hb6.mono hB5.size)
  clear C1 W1 P1 W3 PC WC
  go_wp2_with fail
  go_loop [13] (fun a => ∃ k : Nat, a = .int .i64 (k : Int) ∧ k ≤ A) (fun a => A - (intOf a).toNat)
  case atStart => exact ⟨0, rfl, by omega⟩
  case round =>
    obtain ⟨k, rfl, hk⟩ := hrel
    by_cases hkA : k < A
    · obtain ⟨hkp, hk32⟩ := hpa k hkA
      have hkI : (k : Int) < (p.size : Int) - (c.size : Int) := by omega
      have hkP : (k : Int) < (p.size : Int) := by omega
      have hkA' : (k : Int) < (A : Int) := by omega
      have hk32b : ((p[k].toNat : Int) == 32) = true := by rw [hk32]; rfl
      have hkM : (k : Int) < (cols - W) / 2 := by omega
      go_wp2
      exact ⟨⟨k + 1, by go_num, by omega⟩, by simp [intOf]; omega⟩
    · have hke : k = A := by omega
      subst hke
      have hkM : ¬ (k : Int) < (cols - W) / 2 := by omega
      by_cases hm : (k : Int) < (p.size : Int) - (c.size : Int)
      · have hkP : (k : Int) < (p.size : Int) := by omega
        go_wp2
        all_goals
          go_ret
          exact ⟨ret_bool (hq_of HQ _ _ (by omega) (by omega)), hB6⟩
      · go_wp2
        go_ret
        exact ⟨ret_bool (hq_of HQ _ _ (by omega) (by omega)), hB6⟩

set_option maxRecDepth 100000 in
set_option maxHeartbeats 1000000 in
theorem fits_2e (s c p : ByteArray) (hs : s.size ≤ 1048576) (cols W : Int) (A : Nat) (h0 : 0 ≤ cols) (h400 : cols ≤ 400) (hW0 : 0 ≤ W) (hWc : W ≤ cols) (w : World) (R off cap : Nat) (hS : Spans w R off cap)
    (hcI : (c.size : Int) ≤ (s.size : Int)) (q1 : ((s.extract 0 c.size).toList == c.toList) = true)
    (C1 : Calls Tryd.prog 35 #[.string s, .int .i64 cols] w fun e W' => e = .returned (.string c) ∧ Below w.heap.size w W')
    (W1 : ∀ w1, Spans w1 R off cap → Calls Tryd.prog 36 #[.string c] w1 fun e W' => e = .returned (.int .i64 W) ∧ Below w1.heap.size w1 W')
    (hlt : ¬ c.size < s.size)
    (P1 : ∀ w1, Spans w1 R off cap → Calls Tryd.prog 37 #[.string c, .int .i64 cols, .int .i64 2] w1 fun e W' => e = .returned (.tuple #[.string p, .int .i64 0]) ∧ Below w1.heap.size w1 W')
    (W3 : ∀ w1, Spans w1 R off cap → Calls Tryd.prog 36 #[.string p] w1 fun e W' => e = .returned (.int .i64 cols) ∧ Below w1.heap.size w1 W')
    (hpz : (p.size : Int) = (c.size : Int) + cols - W) (hpa : ∀ k : Nat, k < A → ∃ h : k < p.size, (p[k].toNat : Int) = 32) (hA : (A : Int) = (cols - W) / 2) (hpc : p.extract A (A + c.size) = c) :
    Calls Tryd.prog 11 #[.string s, .int .i64 cols, .int .i64 2] w fun e w' => e = .returned (.bool true) ∧ Below w.heap.size w w' := by
  have d1 : decide ((s.size : Int) < (c.size : Int)) = false := by simp; omega
  have d2 : decide (cols < W) = false := by simp; omega
  have hsI : (s.size : Int) ≤ 1048576 := by omega
  have dz : ((p.size : Int) != (c.size : Int) + cols - W) = false := by simp; omega
  have HQ : Hid (((p.extract A (A + c.size)).toList == c.toList) = true) := by rw [hpc]; exact bytes_eq c
  have hAp : (A : Int) + (c.size : Int) ≤ (p.size : Int) := by omega
  have hpI : (p.size : Int) ≤ 1048976 := by omega
  clear hpc
  have hge : ¬ (c.size : Int) < (s.size : Int) := by omega
  clear hlt
  go_enter Tryd.func11, Tryd.ntmps11
  go_wp2_with fail
  refine C1.mono ?_; rintro e w1 ⟨rfl, hb1⟩
  have hS1 := hS.below hb1 (Nat.le_refl _)
  go_wp2_with fail
  refine (W1 _ hS1).mono ?_; rintro e w2 ⟨rfl, hb2⟩
  have hB2 := hb1.trans (hb2.mono hb1.size)
  have hB4 := hB2
  go_wp2_with fail
  refine (P1 _ (hS.below hB4 (Nat.le_refl _))).mono ?_; rintro e w5 ⟨rfl, hb5⟩
  have hB5 := hB4.trans (hb5.mono hB4.size)
  go_wp2_with fail
  refine (W3 _ (hS.below hB5 (Nat.le_refl _))).mono ?_; rintro e w6 ⟨rfl, hb6⟩
  have hB6 := hB5.trans (hb6.mono hB5.size)
  clear C1 W1 P1 W3
  go_wp2_with fail
  go_loop [13] (fun a => ∃ k : Nat, a = .int .i64 (k : Int) ∧ k ≤ A) (fun a => A - (intOf a).toNat)
  case atStart => exact ⟨0, rfl, by omega⟩
  case round =>
    obtain ⟨k, rfl, hk⟩ := hrel
    by_cases hkA : k < A
    · obtain ⟨hkp, hk32⟩ := hpa k hkA
      have hkI : (k : Int) < (p.size : Int) - (c.size : Int) := by omega
      have hkP : (k : Int) < (p.size : Int) := by omega
      have hkA' : (k : Int) < (A : Int) := by omega
      have hk32b : ((p[k].toNat : Int) == 32) = true := by rw [hk32]; rfl
      have hkM : (k : Int) < (cols - W) / 2 := by omega
      go_wp2
      exact ⟨⟨k + 1, by go_num, by omega⟩, by simp [intOf]; omega⟩
    · have hke : k = A := by omega
      subst hke
      have hkM : ¬ (k : Int) < (cols - W) / 2 := by omega
      by_cases hm : (k : Int) < (p.size : Int) - (c.size : Int)
      · have hkP : (k : Int) < (p.size : Int) := by omega
        go_wp2
        all_goals
          go_ret
          exact ⟨ret_bool (hq_of HQ _ _ (by omega) (by omega)), hB6⟩
      · go_wp2
        go_ret
        exact ⟨ret_bool (hq_of HQ _ _ (by omega) (by omega)), hB6⟩
end Go.Proofs.YtckjededijgjgaaDoor.Ft
