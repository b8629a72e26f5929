import Derived.Test.YtckjededijgjgaaDoorWdD
import Derived.Test.YtckjededijgjgaaDoorWdE
import Derived.Test.YtckjededijgjgaaDoorEncC
import Derived.Test.YtckjededijgjgaaDoorWdH
namespace Go.Proofs.YtckjededijgjgaaDoor.Wd
open Go.RowKit
open Go.Proofs.YtckjededijgjgaaDoor.Pc (P4 pieces)
open Go.Proofs.YtckjededijgjgaaDoor.Rp (cellsR cellsR4 refPieces_any)
open Go.Proofs.YtckjededijgjgaaDoor.Rn (row_at)
open Go.Proofs.YtckjededijgjgaaDoor.Enc (hidB hidden_any hide kindF)
set_option linter.unusedVariables false

theorem wF_col (r at_ sz : Int) : wF (r, at_, sz, false) = colF r := by
  rw [col_is]
  unfold wF
  rw [if_neg (by simp)]

set_option maxHeartbeats 400000 in
/-- the document's columns -/
theorem columns_any (r at_ sz : Int) (br : Bool) (w : World) :
    Calls Tryd.prog 83 #[.agg #[.int .i64 r, .int .i64 at_, .int .i64 sz, .bool br]] w fun e w' => e = .returned (.int .i64 (wF (r, at_, sz, br))) ∧ Below w.heap.size w w' := by
  have hB := (Below.refl w.heap.size w).alloc (Nat.le_refl _) (.cells #[.int .i64 r, .int .i64 at_, .int .i64 sz, .bool br] 97)
  cases br
  · rw [wF_col]
    have H := fun w => hidden_any r w
    have M := fun w => mark_any r w
    have B := fun w => broad_any r w
    have hcol : colF r = if hidB r = true ∨ markP r then 0 else if broadP r then 2 else 1 := rfl
    rw [hcol]
    by_cases h1 : hidB r = true
    · rw [if_pos (.inl h1)]
      rw [h1] at H
      generalize decide (markP r) = m at *
      generalize decide (broadP r) = b at *
      clear hcol
      go_enter Tryd.func83, Tryd.ntmps83
      go_wp2_with fail
      refine (H _).mono ?_; rintro e w' ⟨rfl, rfl⟩
      go_wp2_with fail
      refine (M _).mono ?_; rintro e w' ⟨rfl, rfl⟩
      go_wp2_with fail
      refine (B _).mono ?_; rintro e w' ⟨rfl, rfl⟩
      go_wp2
      go_ret
      exact ⟨rfl, hB⟩
    have h1' : hidB r = false := by simpa using h1
    rw [h1'] at H
    by_cases h2 : markP r
    · rw [if_pos (.inr h2)]
      rw [decide_eq_true h2] at M
      generalize decide (broadP r) = b at *
      clear hcol
      go_enter Tryd.func83, Tryd.ntmps83
      go_wp2_with fail
      refine (H _).mono ?_; rintro e w' ⟨rfl, rfl⟩
      go_wp2_with fail
      refine (M _).mono ?_; rintro e w' ⟨rfl, rfl⟩
      go_wp2_with fail
      refine (B _).mono ?_; rintro e w' ⟨rfl, rfl⟩
      go_wp2
      go_ret
      exact ⟨rfl, hB⟩
    rw [if_neg (fun h => h.elim h1 h2)]
    rw [decide_eq_false h2] at M
    by_cases h3 : broadP r
    · rw [if_pos h3]
      rw [decide_eq_true h3] at B
      clear hcol
      go_enter Tryd.func83, Tryd.ntmps83
      go_wp2_with fail
      refine (H _).mono ?_; rintro e w' ⟨rfl, rfl⟩
      go_wp2_with fail
      refine (M _).mono ?_; rintro e w' ⟨rfl, rfl⟩
      go_wp2_with fail
      refine (B _).mono ?_; rintro e w' ⟨rfl, rfl⟩
      go_wp2
      go_ret
      exact ⟨rfl, hB⟩
    · rw [if_neg h3]
      rw [decide_eq_false h3] at B
      clear hcol
      go_enter Tryd.func83, Tryd.ntmps83
      go_wp2_with fail
      refine (H _).mono ?_; rintro e w' ⟨rfl, rfl⟩
      go_wp2_with fail
      refine (M _).mono ?_; rintro e w' ⟨rfl, rfl⟩
      go_wp2_with fail
      refine (B _).mono ?_; rintro e w' ⟨rfl, rfl⟩
      go_wp2
      go_ret
      exact ⟨rfl, hB⟩
  · rw [show wF (r, at_, sz, true) = 1 from rfl]
    go_enter Tryd.func83, Tryd.ntmps83
    go_wp2
    go_ret
    exact ⟨rfl, hB⟩

theorem cols : Cols := columns_any
end Go.Proofs.YtckjededijgjgaaDoor.Wd
