import Derived.Test.YtchealdgncgjoaaNdDU
import Derived.Deep.LoopGhost
namespace Go.Proofs.Ytchealdgncgjoaa.StU
open Go.RowKit Go.Proofs.Ytchealdgncgjoaa.St
set_option linter.unusedVariables false

set_option maxHeartbeats 400000 in
theorem compare_any (x y : Int) (w : World) : Calls Try.prog 164 #[.int .u64 (x), .int .u64 (y)] w fun e w' => e = .returned (.int .i64 (cmpI x y)) ∧ w' = w := by
  rcases Int.lt_trichotomy x y with h | h | h
  · have e : cmpI x y = -1 := by simp [cmpI, h]
    rw [e]
    have h2 : ¬ y < x := by omega
    clear e
    go_enter Try.func164, Try.ntmps164
    go_wp2
    go_ret
    exact ⟨rfl, rfl⟩
  · have e : cmpI x y = 0 := by simp [cmpI, h]
    rw [e]
    subst h
    clear e
    go_enter Try.func164, Try.ntmps164
    go_wp2
    go_ret
    exact ⟨rfl, rfl⟩
  · have e : cmpI x y = 1 := by simp [cmpI, h, show ¬ x < y by omega]
    rw [e]
    have h2 : ¬ x < y := by omega
    clear e
    go_enter Try.func164, Try.ntmps164
    go_wp2
    go_ret
    exact ⟨rfl, rfl⟩
end Go.Proofs.Ytchealdgncgjoaa.StU
