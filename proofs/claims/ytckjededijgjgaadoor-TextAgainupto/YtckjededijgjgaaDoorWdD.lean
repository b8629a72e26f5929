import Derived.Test.YtckjededijgjgaaDoorWdC
namespace Go.Proofs.YtckjededijgjgaaDoor.Wd
open Go.RowKit
set_option linter.unusedVariables false

set_option maxHeartbeats 2000000 in
theorem mark_any (r : Int) (w : World) : Calls Tryd.prog 107 #[.int .i64 r] w fun e w' => e = .returned (.bool (decide (markP r))) ∧ w' = w := by
  have hc : r < 768 ∨ (768 ≤ r ∧ r ≤ 879) ∨ (879 < r ∧ r < 1155) ∨ (1155 ≤ r ∧ r ≤ 1161) ∨ (1161 < r ∧ r < 1425) ∨ (1425 ≤ r ∧ r ≤ 1469) ∨ (1469 < r ∧ r < 1611) ∨ (1611 ≤ r ∧ r ≤ 1631) ∨ (1631 < r ∧ r < 6832) ∨ (6832 ≤ r ∧ r ≤ 6911) ∨ (6911 < r ∧ r < 7616) ∨ (7616 ≤ r ∧ r ≤ 7679) ∨ (7679 < r ∧ r < 8400) ∨ (8400 ≤ r ∧ r ≤ 8447) ∨ (8447 < r ∧ r < 65024) ∨ (65024 ≤ r ∧ r ≤ 65039) ∨ (65039 < r ∧ r < 65056) ∨ (65056 ≤ r ∧ r ≤ 65071) ∨ 65071 < r := by omega
  rcases hc with h1 | ⟨h1, h2⟩ | ⟨h1, h2⟩ | ⟨h1, h2⟩ | ⟨h1, h2⟩ | ⟨h1, h2⟩ | ⟨h1, h2⟩ | ⟨h1, h2⟩ | ⟨h1, h2⟩ | ⟨h1, h2⟩ | ⟨h1, h2⟩ | ⟨h1, h2⟩ | ⟨h1, h2⟩ | ⟨h1, h2⟩ | ⟨h1, h2⟩ | ⟨h1, h2⟩ | ⟨h1, h2⟩ | ⟨h1, h2⟩ | h1
  · have E := Enc.hide (show decide (markP r) = false from decide_eq_false (by unfold markP; omega))
    go_enter Tryd.func107, Tryd.ntmps107
    go_wp2
    go_ret
    rw [E.out]
    refine ⟨?_, rfl⟩
    first | rfl | (simp; done) | (simp; omega)
  · have E := Enc.hide (show decide (markP r) = true from decide_eq_true (by unfold markP; omega))
    go_enter Tryd.func107, Tryd.ntmps107
    go_wp2
    go_ret
    rw [E.out]
    refine ⟨?_, rfl⟩
    first | rfl | (simp; done) | (simp; omega)
  · have E := Enc.hide (show decide (markP r) = false from decide_eq_false (by unfold markP; omega))
    go_enter Tryd.func107, Tryd.ntmps107
    go_wp2
    go_ret
    rw [E.out]
    refine ⟨?_, rfl⟩
    first | rfl | (simp; done) | (simp; omega)
  · have E := Enc.hide (show decide (markP r) = true from decide_eq_true (by unfold markP; omega))
    go_enter Tryd.func107, Tryd.ntmps107
    go_wp2
    go_ret
    rw [E.out]
    refine ⟨?_, rfl⟩
    first | rfl | (simp; done) | (simp; omega)
  · have E := Enc.hide (show decide (markP r) = false from decide_eq_false (by unfold markP; omega))
    go_enter Tryd.func107, Tryd.ntmps107
    go_wp2
    go_ret
    rw [E.out]
    refine ⟨?_, rfl⟩
    first | rfl | (simp; done) | (simp; omega)
  · have E := Enc.hide (show decide (markP r) = true from decide_eq_true (by unfold markP; omega))
    go_enter Tryd.func107, Tryd.ntmps107
    go_wp2
    go_ret
    rw [E.out]
    refine ⟨?_, rfl⟩
    first | rfl | (simp; done) | (simp; omega)
  · have E := Enc.hide (show decide (markP r) = false from decide_eq_false (by unfold markP; omega))
    go_enter Tryd.func107, Tryd.ntmps107
    go_wp2
    go_ret
    rw [E.out]
    refine ⟨?_, rfl⟩
    first | rfl | (simp; done) | (simp; omega)
  · have E := Enc.hide (show decide (markP r) = true from decide_eq_true (by unfold markP; omega))
    go_enter Tryd.func107, Tryd.ntmps107
    go_wp2
    go_ret
    rw [E.out]
    refine ⟨?_, rfl⟩
    first | rfl | (simp; done) | (simp; omega)
  · have E := Enc.hide (show decide (markP r) = false from decide_eq_false (by unfold markP; omega))
    go_enter Tryd.func107, Tryd.ntmps107
    go_wp2
    go_ret
    rw [E.out]
    refine ⟨?_, rfl⟩
    first | rfl | (simp; done) | (simp; omega)
  · have E := Enc.hide (show decide (markP r) = true from decide_eq_true (by unfold markP; omega))
    go_enter Tryd.func107, Tryd.ntmps107
    go_wp2
    go_ret
    rw [E.out]
    refine ⟨?_, rfl⟩
    first | rfl | (simp; done) | (simp; omega)
  · have E := Enc.hide (show decide (markP r) = false from decide_eq_false (by unfold markP; omega))
    go_enter Tryd.func107, Tryd.ntmps107
    go_wp2
    go_ret
    rw [E.out]
    refine ⟨?_, rfl⟩
    first | rfl | (simp; done) | (simp; omega)
  · have E := Enc.hide (show decide (markP r) = true from decide_eq_true (by unfold markP; omega))
    go_enter Tryd.func107, Tryd.ntmps107
    go_wp2
    go_ret
    rw [E.out]
    refine ⟨?_, rfl⟩
    first | rfl | (simp; done) | (simp; omega)
  · have E := Enc.hide (show decide (markP r) = false from decide_eq_false (by unfold markP; omega))
    go_enter Tryd.func107, Tryd.ntmps107
    go_wp2
    go_ret
    rw [E.out]
    refine ⟨?_, rfl⟩
    first | rfl | (simp; done) | (simp; omega)
  · have E := Enc.hide (show decide (markP r) = true from decide_eq_true (by unfold markP; omega))
    go_enter Tryd.func107, Tryd.ntmps107
    go_wp2
    go_ret
    rw [E.out]
    refine ⟨?_, rfl⟩
    first | rfl | (simp; done) | (simp; omega)
  · have E := Enc.hide (show decide (markP r) = false from decide_eq_false (by unfold markP; omega))
    go_enter Tryd.func107, Tryd.ntmps107
    go_wp2
    go_ret
    rw [E.out]
    refine ⟨?_, rfl⟩
    first | rfl | (simp; done) | (simp; omega)
  · have E := Enc.hide (show decide (markP r) = true from decide_eq_true (by unfold markP; omega))
    go_enter Tryd.func107, Tryd.ntmps107
    go_wp2
    go_ret
    rw [E.out]
    refine ⟨?_, rfl⟩
    first | rfl | (simp; done) | (simp; omega)
  · have E := Enc.hide (show decide (markP r) = false from decide_eq_false (by unfold markP; omega))
    go_enter Tryd.func107, Tryd.ntmps107
    go_wp2
    go_ret
    rw [E.out]
    refine ⟨?_, rfl⟩
    first | rfl | (simp; done) | (simp; omega)
  · have E := Enc.hide (show decide (markP r) = true from decide_eq_true (by unfold markP; omega))
    go_enter Tryd.func107, Tryd.ntmps107
    go_wp2
    go_ret
    rw [E.out]
    refine ⟨?_, rfl⟩
    first | rfl | (simp; done) | (simp; omega)
  · have E := Enc.hide (show decide (markP r) = false from decide_eq_false (by unfold markP; omega))
    go_enter Tryd.func107, Tryd.ntmps107
    go_wp2
    go_ret
    rw [E.out]
    refine ⟨?_, rfl⟩
    first | rfl | (simp; done) | (simp; omega)
end Go.Proofs.YtckjededijgjgaaDoor.Wd
