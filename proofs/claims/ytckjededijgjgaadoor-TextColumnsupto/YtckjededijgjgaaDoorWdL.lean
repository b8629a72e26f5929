import Derived.Test.YtckjededijgjgaaDoorWdK
import Derived.Test.YtckjededijgjgaaDoorRnE
namespace Go.Proofs.YtckjededijgjgaaDoor.Wd
open Go.RowKit
open Go.Proofs.YtckjededijgjgaaDoor.Pc (P4 pieces)
open Go.Proofs.YtckjededijgjgaaDoor.Enc (hide Spans)
set_option linter.unusedVariables false

set_option maxRecDepth 100000 in
set_option maxHeartbeats 1000000 in
theorem columns_walk (CO : Cols) (s : ByteArray) (hs : s.size ≤ 1048576) (cols side : Int) (hc1 : cols ≤ 9223372036854775807) (w : World) (R off cap : Nat) (hS : Spans w R off cap) :
    Calls Tryd.prog 16 #[.string s, .int .i64 cols, .int .i64 side] w fun e w' => e = .returned (.bool true) ∧ Below w.heap.size w w' := by
  obtain ⟨o, e0, P1, P2⟩ := pads CO s hs cols side
  have W1 := width_any s (by omega) w R off cap hS
  have C1 := fun w1 (h : Spans w1 R off cap) => clip_any s hs cols hc1 w1 R off cap h
  have C2 := fun w1 => refClip_of CO s hs cols hc1 w1
  have W2 := fun w1 => refWidth_of CO s hs w1
  have nm := fun n w => Rn.num_any n w
  generalize clipR s cols = c at *
  generalize wS (pieces s) = z at *
  have b1 : (z == z) = true := by simp
  have b2 : (e0 == e0) = true := by simp
  have b3 : (c.toList == c.toList) = true := by simp
  have b4 : (o.toList == o.toList) = true := by simp
  go_enter Tryd.func16, Tryd.ntmps16
  go_wp2_with fail
  refine W1.mono ?_; rintro e w1 ⟨rfl, hb1⟩
  have hS1 := hS.below hb1 (Nat.le_refl _)
  go_wp2_with fail
  refine (C1 _ hS1).mono ?_; rintro e w2 ⟨rfl, hb2⟩
  have hS2 := hS1.below hb2 (Nat.le_refl _)
  go_wp2_with fail
  refine (P1 _ _ _ _ hS2).mono ?_; rintro e w3 ⟨rfl, hb3⟩
  go_wp2_with fail
  refine (P2 _).mono ?_; rintro e w4 ⟨rfl, hb4⟩
  go_wp2_with fail
  refine (C2 _).mono ?_; rintro e w5 ⟨rfl, hb5⟩
  have hB5 : Below w.heap.size w w5 := hb1.trans ((hb2.trans ((hb3.trans ((hb4.trans (hb5.mono hb4.size)).mono hb3.size)).mono hb2.size)).mono hb1.size)
  go_wp2_with fail
  refine (W2 _).mono ?_; rintro e w6 ⟨rfl, hb6⟩
  go_wp2_with fail
  refine (nm _ _).mono ?_; rintro e w7 ⟨rfl, rfl⟩
  go_wp2
  go_ret
  exact ⟨rfl, hB5.trans (hb6.mono hB5.size)⟩
end Go.Proofs.YtckjededijgjgaaDoor.Wd
