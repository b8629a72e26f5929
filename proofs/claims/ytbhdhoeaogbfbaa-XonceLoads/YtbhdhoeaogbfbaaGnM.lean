import Derived.Test.YtbhdhoeaogbfbaaGnL
namespace Go.Proofs.Ytbhdhoeaogbfbaa.Xo
open Go.RowKit
set_option linter.unusedVariables false
set_option maxHeartbeats 1000000 in
theorem long_any (ad : Option Addr) (cap : Nat) (ys : List Int) (w : World) : Calls Try.prog 103 #[.slice ad ys.length cap] w fun e w' => e = .returned (.bool (unf ys)) ∧ w' = w := by
  unfold unf
  generalize ys.length = n
  by_cases h1 : (n : Int) = 0
  · have h1b : ((n : Int) == 0) = true := by simp [h1]
    clear h1
    go_enter Try.func103, Try.ntmps103
    go_wp2
    go_ret
    refine ⟨?_, rfl⟩
    have : (n : Int) = 0 := by simpa using h1b
    show Ending.returned (.bool true) = _
    simp [this]
  · have h1b : ((n : Int) == 0) = false := beq_eq_false_iff_ne.2 h1
    by_cases h2 : (n : Int) > 3072
    · have HH := hide h1
      clear h1
      go_enter Try.func103, Try.ntmps103
      go_wp2
      go_ret
      refine ⟨?_, rfl⟩
      show Ending.returned (.bool true) = _
      simp [h2]
    · have HH := hide (And.intro h1 h2)
      clear h1
      go_enter Try.func103, Try.ntmps103
      go_wp2
      go_ret
      refine ⟨?_, rfl⟩
      show Ending.returned (.bool false) = _
      have h3 := HH.out.1
      have h4 := HH.out.2
      have e1 : decide ((n : Int) < 1) = false := by simp; omega
      have e2 : decide ((n : Int) > 3072) = false := by simp; omega
      rw [e1, e2]
      rfl
/-- a state is zero -/
def zeroS (s a m d : Int) (nq ne : Nat) : Bool := decide (s = 0) && (decide (a = 0) && (decide (m = 0) && (decide (d = 0) && (decide (nq = 0) && decide (ne = 0)))))
set_option maxHeartbeats 2000000 in
theorem isZero_gen (s a m d : Int) (aq ae : Option Addr) (nq ne cq ce : Nat) (w : World) : Calls Try.prog 62 #[.agg #[.int .u64 s, .int .u64 a, .slice aq nq cq, .int .u64 m, .int .u64 d, .slice ae ne ce]] w fun e w' => e = .returned (.bool (zeroS s a m d nq ne)) ∧ Kp Nu w w' := by
  unfold zeroS
  go_enter Try.func62, Try.ntmps62
  go_wp2
  all_goals go_ret
  all_goals refine ⟨?_, (Kp.refl _ _).andAlloc _⟩
  all_goals (first | (by_cases hz : ne = 0 <;> simp_all) | simp_all)
set_option maxHeartbeats 2000000 in
theorem zero_gen (s a m d : Int) (aq ae : Option Addr) (nq ne cq ce : Nat) (w : World) : Calls Try.prog 74 #[.agg #[.int .u64 s, .int .u64 a, .slice aq nq cq, .int .u64 m, .int .u64 d, .slice ae ne ce]] w fun e w' => e = .returned (.bool (zeroS s a m d nq ne)) ∧ Kp Nu w w' := by
  unfold zeroS
  go_enter Try.func74, Try.ntmps74
  go_wp2
  all_goals go_ret
  all_goals refine ⟨?_, (Kp.refl _ _).andAlloc _⟩
  all_goals (first | (by_cases hz : ne = 0 <;> simp_all) | simp_all)
end Go.Proofs.Ytbhdhoeaogbfbaa.Xo
