import Derived.Test.YtckjededijgjgaaDoorWdC
namespace Go.Proofs.YtckjededijgjgaaDoor.Wd
open Go.RowKit
set_option linter.unusedVariables false

set_option maxHeartbeats 16000000 in
theorem broad_any (r : Int) (w : World) : Calls Tryd.prog 108 #[.int .i64 r] w fun e w' => e = .returned (.bool (decide (broadP r))) ∧ w' = w := by
  have hc : r < 4352 ∨ (4352 ≤ r ∧ r ≤ 4447) ∨ (4447 < r ∧ r < 11904) ∨ (11904 ≤ r ∧ r ≤ 12350) ∨ (12350 < r ∧ r < 12353) ∨ (12353 ≤ r ∧ r ≤ 19903) ∨ (19903 < r ∧ r < 19968) ∨ (19968 ≤ r ∧ r ≤ 42191) ∨ (42191 < r ∧ r < 44032) ∨ (44032 ≤ r ∧ r ≤ 55203) ∨ (55203 < r ∧ r < 63744) ∨ (63744 ≤ r ∧ r ≤ 64255) ∨ (64255 < r ∧ r < 65072) ∨ (65072 ≤ r ∧ r ≤ 65135) ∨ (65135 < r ∧ r < 65281) ∨ (65281 ≤ r ∧ r ≤ 65376) ∨ (65376 < r ∧ r < 65504) ∨ (65504 ≤ r ∧ r ≤ 65510) ∨ (65510 < r ∧ r < 127744) ∨ (127744 ≤ r ∧ r ≤ 128591) ∨ (128591 < r ∧ r < 129280) ∨ (129280 ≤ r ∧ r ≤ 129535) ∨ (129535 < r ∧ r < 131072) ∨ (131072 ≤ r ∧ r ≤ 262141) ∨ 262141 < r := by omega
  rcases hc with h1 | ⟨h1, h2⟩ | ⟨h1, h2⟩ | ⟨h1, h2⟩ | ⟨h1, h2⟩ | ⟨h1, h2⟩ | ⟨h1, h2⟩ | ⟨h1, h2⟩ | ⟨h1, h2⟩ | ⟨h1, h2⟩ | ⟨h1, h2⟩ | ⟨h1, h2⟩ | ⟨h1, h2⟩ | ⟨h1, h2⟩ | ⟨h1, h2⟩ | ⟨h1, h2⟩ | ⟨h1, h2⟩ | ⟨h1, h2⟩ | ⟨h1, h2⟩ | ⟨h1, h2⟩ | ⟨h1, h2⟩ | ⟨h1, h2⟩ | ⟨h1, h2⟩ | ⟨h1, h2⟩ | h1
  · have E := Enc.hide (show decide (broadP r) = false from decide_eq_false (by unfold broadP; omega))
    go_enter Tryd.func108, Tryd.ntmps108
    go_wp2
    go_ret
    rw [E.out]
    refine ⟨?_, rfl⟩
    first | rfl | (simp; done) | (simp; omega)
  · have E := Enc.hide (show decide (broadP r) = true from decide_eq_true (by unfold broadP; omega))
    go_enter Tryd.func108, Tryd.ntmps108
    go_wp2
    go_ret
    rw [E.out]
    refine ⟨?_, rfl⟩
    first | rfl | (simp; done) | (simp; omega)
  · have E := Enc.hide (show decide (broadP r) = false from decide_eq_false (by unfold broadP; omega))
    go_enter Tryd.func108, Tryd.ntmps108
    go_wp2
    go_ret
    rw [E.out]
    refine ⟨?_, rfl⟩
    first | rfl | (simp; done) | (simp; omega)
  · have E := Enc.hide (show decide (broadP r) = true from decide_eq_true (by unfold broadP; omega))
    go_enter Tryd.func108, Tryd.ntmps108
    go_wp2
    go_ret
    rw [E.out]
    refine ⟨?_, rfl⟩
    first | rfl | (simp; done) | (simp; omega)
  · have E := Enc.hide (show decide (broadP r) = false from decide_eq_false (by unfold broadP; omega))
    go_enter Tryd.func108, Tryd.ntmps108
    go_wp2
    go_ret
    rw [E.out]
    refine ⟨?_, rfl⟩
    first | rfl | (simp; done) | (simp; omega)
  · have E := Enc.hide (show decide (broadP r) = true from decide_eq_true (by unfold broadP; omega))
    go_enter Tryd.func108, Tryd.ntmps108
    go_wp2
    go_ret
    rw [E.out]
    refine ⟨?_, rfl⟩
    first | rfl | (simp; done) | (simp; omega)
  · have E := Enc.hide (show decide (broadP r) = false from decide_eq_false (by unfold broadP; omega))
    go_enter Tryd.func108, Tryd.ntmps108
    go_wp2
    go_ret
    rw [E.out]
    refine ⟨?_, rfl⟩
    first | rfl | (simp; done) | (simp; omega)
  · have E := Enc.hide (show decide (broadP r) = true from decide_eq_true (by unfold broadP; omega))
    go_enter Tryd.func108, Tryd.ntmps108
    go_wp2
    go_ret
    rw [E.out]
    refine ⟨?_, rfl⟩
    first | rfl | (simp; done) | (simp; omega)
  · have E := Enc.hide (show decide (broadP r) = false from decide_eq_false (by unfold broadP; omega))
    go_enter Tryd.func108, Tryd.ntmps108
    go_wp2
    go_ret
    rw [E.out]
    refine ⟨?_, rfl⟩
    first | rfl | (simp; done) | (simp; omega)
  · have E := Enc.hide (show decide (broadP r) = true from decide_eq_true (by unfold broadP; omega))
    go_enter Tryd.func108, Tryd.ntmps108
    go_wp2
    go_ret
    rw [E.out]
    refine ⟨?_, rfl⟩
    first | rfl | (simp; done) | (simp; omega)
  · have E := Enc.hide (show decide (broadP r) = false from decide_eq_false (by unfold broadP; omega))
    go_enter Tryd.func108, Tryd.ntmps108
    go_wp2
    go_ret
    rw [E.out]
    refine ⟨?_, rfl⟩
    first | rfl | (simp; done) | (simp; omega)
  · have E := Enc.hide (show decide (broadP r) = true from decide_eq_true (by unfold broadP; omega))
    go_enter Tryd.func108, Tryd.ntmps108
    go_wp2
    go_ret
    rw [E.out]
    refine ⟨?_, rfl⟩
    first | rfl | (simp; done) | (simp; omega)
  · have E := Enc.hide (show decide (broadP r) = false from decide_eq_false (by unfold broadP; omega))
    go_enter Tryd.func108, Tryd.ntmps108
    go_wp2
    go_ret
    rw [E.out]
    refine ⟨?_, rfl⟩
    first | rfl | (simp; done) | (simp; omega)
  · have E := Enc.hide (show decide (broadP r) = true from decide_eq_true (by unfold broadP; omega))
    go_enter Tryd.func108, Tryd.ntmps108
    go_wp2
    go_ret
    rw [E.out]
    refine ⟨?_, rfl⟩
    first | rfl | (simp; done) | (simp; omega)
  · have E := Enc.hide (show decide (broadP r) = false from decide_eq_false (by unfold broadP; omega))
    go_enter Tryd.func108, Tryd.ntmps108
    go_wp2
    go_ret
    rw [E.out]
    refine ⟨?_, rfl⟩
    first | rfl | (simp; done) | (simp; omega)
  · have E := Enc.hide (show decide (broadP r) = true from decide_eq_true (by unfold broadP; omega))
    go_enter Tryd.func108, Tryd.ntmps108
    go_wp2
    go_ret
    rw [E.out]
    refine ⟨?_, rfl⟩
    first | rfl | (simp; done) | (simp; omega)
  · have E := Enc.hide (show decide (broadP r) = false from decide_eq_false (by unfold broadP; omega))
    go_enter Tryd.func108, Tryd.ntmps108
    go_wp2
    go_ret
    rw [E.out]
    refine ⟨?_, rfl⟩
    first | rfl | (simp; done) | (simp; omega)
  · have E := Enc.hide (show decide (broadP r) = true from decide_eq_true (by unfold broadP; omega))
    go_enter Tryd.func108, Tryd.ntmps108
    go_wp2
    go_ret
    rw [E.out]
    refine ⟨?_, rfl⟩
    first | rfl | (simp; done) | (simp; omega)
  · have E := Enc.hide (show decide (broadP r) = false from decide_eq_false (by unfold broadP; omega))
    go_enter Tryd.func108, Tryd.ntmps108
    go_wp2
    go_ret
    rw [E.out]
    refine ⟨?_, rfl⟩
    first | rfl | (simp; done) | (simp; omega)
  · have E := Enc.hide (show decide (broadP r) = true from decide_eq_true (by unfold broadP; omega))
    go_enter Tryd.func108, Tryd.ntmps108
    go_wp2
    go_ret
    rw [E.out]
    refine ⟨?_, rfl⟩
    first | rfl | (simp; done) | (simp; omega)
  · have E := Enc.hide (show decide (broadP r) = false from decide_eq_false (by unfold broadP; omega))
    go_enter Tryd.func108, Tryd.ntmps108
    go_wp2
    go_ret
    rw [E.out]
    refine ⟨?_, rfl⟩
    first | rfl | (simp; done) | (simp; omega)
  · have E := Enc.hide (show decide (broadP r) = true from decide_eq_true (by unfold broadP; omega))
    go_enter Tryd.func108, Tryd.ntmps108
    go_wp2
    go_ret
    rw [E.out]
    refine ⟨?_, rfl⟩
    first | rfl | (simp; done) | (simp; omega)
  · have E := Enc.hide (show decide (broadP r) = false from decide_eq_false (by unfold broadP; omega))
    go_enter Tryd.func108, Tryd.ntmps108
    go_wp2
    go_ret
    rw [E.out]
    refine ⟨?_, rfl⟩
    first | rfl | (simp; done) | (simp; omega)
  · have E := Enc.hide (show decide (broadP r) = true from decide_eq_true (by unfold broadP; omega))
    go_enter Tryd.func108, Tryd.ntmps108
    go_wp2
    go_ret
    rw [E.out]
    refine ⟨?_, rfl⟩
    first | rfl | (simp; done) | (simp; omega)
  · have E := Enc.hide (show decide (broadP r) = false from decide_eq_false (by unfold broadP; omega))
    go_enter Tryd.func108, Tryd.ntmps108
    go_wp2
    go_ret
    rw [E.out]
    refine ⟨?_, rfl⟩
    first | rfl | (simp; done) | (simp; omega)
end Go.Proofs.YtckjededijgjgaaDoor.Wd
