import Derived.Test.YtbhdhoeaogbfbaaEnQ
namespace Go.Proofs.Ytbhdhoeaogbfbaa.Xo
open Go.RowKit
set_option linter.unusedVariables false
set_option maxRecDepth 100000 in
set_option maxHeartbeats 4000000 in
theorem spent_walk (w : World) (hosts window left : Int) (u : Value) (ys : List Int) (hu : Rd w u ys) : Calls Try.prog 5 #[.int .i64 hosts, .int .i64 window, .int .i64 left, u] w fun e w' => e = .returned (.bool true) ∧ Kp Nu w w' := by
  obtain ⟨adu, cpu, hue⟩ := hu.slice
  obtain ⟨N, hN⟩ : ∃ N, ys.length = N := ⟨_, rfl⟩
  by_cases h1 : hosts < 3
  · rw [hN] at hue
    subst hue
    clear hu hN
    go_enter Try.func5, Try.ntmps5
    go_wp2
    go_ret
    exact ⟨rfl, Kp.refl _ _⟩
  by_cases h2 : hosts > 16
  · rw [hN] at hue
    subst hue
    clear hu hN
    go_enter Try.func5, Try.ntmps5
    go_wp2
    go_ret
    exact ⟨rfl, Kp.refl _ _⟩
  by_cases h3 : window < 1
  · rw [hN] at hue
    subst hue
    clear hu hN
    go_enter Try.func5, Try.ntmps5
    go_wp2
    go_ret
    exact ⟨rfl, Kp.refl _ _⟩
  by_cases h4 : window > 16
  · rw [hN] at hue
    subst hue
    clear hu hN
    go_enter Try.func5, Try.ntmps5
    go_wp2
    go_ret
    exact ⟨rfl, Kp.refl _ _⟩
  by_cases h5 : left < 0
  · rw [hN] at hue
    subst hue
    clear hu hN
    go_enter Try.func5, Try.ntmps5
    go_wp2
    go_ret
    exact ⟨rfl, Kp.refl _ _⟩
  by_cases h6 : left > 40
  · rw [hN] at hue
    subst hue
    clear hu hN
    go_enter Try.func5, Try.ntmps5
    go_wp2
    go_ret
    exact ⟨rfl, Kp.refl _ _⟩
  by_cases h7 : (N : Int) = 0
  · rw [hN] at hue
    subst hue
    clear hu hN
    have h7b : ((N : Int) == 0) = true := by simp; omega
    clear h7
    go_enter Try.func5, Try.ntmps5
    go_wp2
    go_ret
    exact ⟨rfl, Kp.refl _ _⟩
  by_cases h8 : (N : Int) > 3072
  · rw [hN] at hue
    subst hue
    clear hu hN
    have h7b : ((N : Int) == 0) = false := beq_eq_false_iff_ne.2 h7
    clear h7
    go_enter Try.func5, Try.ntmps5
    go_wp2
    go_ret
    exact ⟨rfl, Kp.refl _ _⟩
  obtain ⟨n, rfl⟩ : ∃ n : Nat, hosts = (n : Int) := ⟨hosts.toNat, by omega⟩
  obtain ⟨lf, rfl⟩ : ∃ lf : Nat, left = (lf : Int) := ⟨left.toNat, by omega⟩
  exact spent_good w n lf window (by omega) (by omega) (by omega) (by omega) (by omega) u ys hu (by omega) (by omega)
end Go.Proofs.Ytbhdhoeaogbfbaa.Xo
