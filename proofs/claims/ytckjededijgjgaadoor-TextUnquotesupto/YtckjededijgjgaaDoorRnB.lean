import Derived.Test.YtckjededijgjgaaDoorRnA
namespace Go.Proofs.YtckjededijgjgaaDoor.Rn
open Go.RowKit Nm

instance (r : Int) : Decidable (bigP r) := by unfold bigP; infer_instance
/-- a letter made small -/
def foldF (r : Int) : Int := if bigP r then r + 32 else if r = 962 then 963 else r

set_option maxHeartbeats 2000000 in
theorem fold_any (r : Int) (w : World) (_h0 : 0 ≤ r) (_h1 : r ≤ 1114111) :
    Calls Tryd.prog 59 #[.int .i64 r] w fun e w' => e = .returned (.int .i64 (foldF r)) ∧ w' = w := by
  by_cases hb : bigP r
  · have E := Nm.hide (show foldF r = r + 32 by unfold foldF; rw [if_pos hb])
    unfold bigP at hb
    rcases hb with ⟨h1, h2⟩ | ⟨h1, h2, h3⟩ | ⟨h1, h2, h3⟩ | ⟨h1, h2⟩
    all_goals
      go_enter Tryd.func59, Tryd.ntmps59
      go_wp2
      all_goals first | omega | (go_ret; rw [E.out]; exact ⟨rfl, rfl⟩)
  · by_cases h2 : r = 962
    · subst h2
      go_enter Tryd.func59, Tryd.ntmps59
      go_wp2
      go_ret
      exact ⟨rfl, rfl⟩
    · have h2' : (r == 962) = false := beq_eq_false_iff_ne.2 h2
      have E := Nm.hide (show foldF r = r by unfold foldF; rw [if_neg hb, if_neg h2])
      have HB := Nm.hide hb
      clear hb
      go_enter Tryd.func59, Tryd.ntmps59
      go_wp2
      all_goals first | (go_ret; rw [E.out]; exact ⟨rfl, rfl⟩) | (exfalso; exact HB.out (by unfold bigP; omega)) | (go_ret; refine ⟨?_, rfl⟩; simp [foldF, bigP])
end Go.Proofs.YtckjededijgjgaaDoor.Rn
