import Derived.Test.YtobhepaagpdhmaaDoorA
namespace Go.Proofs.YtobhepaagpdhmaaDoor.Wi
open Go.RowKit
set_option linter.unusedVariables false

set_option maxHeartbeats 1000000 in
theorem refAllowed_any (x y k : Int) (w : World) : Calls Tryd.prog 8 #[.int .i64 x, .int .i64 y, .int .i64 k] w fun e w' => e = .returned (.bool (al x y k)) ∧ w' = w := by
  have R1 := fun w => refRole_any x w
  have R2 := fun w => refRole_any y w
  rcases role4 x with hx | hx | hx | hx <;> rcases role4 y with hy | hy | hy | hy
  · rw [hx] at R1
    rw [hy] at R2
    have e : al x y k = (x != y && (k == 10 || k == 11)) := by simp [al, hx, hy]
    rw [e]
    clear e hx hy
    by_cases h0 : x = y
    · subst h0
      have h2 : (x != x) = false := by simp
      rw [h2]
      go_enter Tryd.func8, Tryd.ntmps8
      go_wp2_with fail
      refine (R1 _).mono ?_; rintro e w' ⟨rfl, rfl⟩
      go_wp2_with fail
      refine (R2 _).mono ?_; rintro e w' ⟨rfl, rfl⟩
      go_wp2
      go_ret
      exact ⟨rfl, rfl⟩
    · have h2 : (x != y) = true := by simpa using h0
      rw [h2]
      by_cases h1 : k = 10
      · subst h1
        go_enter Tryd.func8, Tryd.ntmps8
        go_wp2_with fail
        refine (R1 _).mono ?_; rintro e w' ⟨rfl, rfl⟩
        go_wp2_with fail
        refine (R2 _).mono ?_; rintro e w' ⟨rfl, rfl⟩
        go_wp2
        go_ret
        exact ⟨rfl, rfl⟩
      · have h3 : (k == 10) = false := by simpa using h1
        rw [h3]
        go_enter Tryd.func8, Tryd.ntmps8
        go_wp2_with fail
        refine (R1 _).mono ?_; rintro e w' ⟨rfl, rfl⟩
        go_wp2_with fail
        refine (R2 _).mono ?_; rintro e w' ⟨rfl, rfl⟩
        go_wp2
        go_ret
        exact ⟨rfl, rfl⟩
  · rw [hx] at R1
    rw [hy] at R2
    have e : al x y k = (k == 6 || k == 7) := by simp [al, hx, hy]
    rw [e]
    clear e hx hy
    by_cases h1 : k = 6
    · subst h1
      go_enter Tryd.func8, Tryd.ntmps8
      go_wp2_with fail
      refine (R1 _).mono ?_; rintro e w' ⟨rfl, rfl⟩
      go_wp2_with fail
      refine (R2 _).mono ?_; rintro e w' ⟨rfl, rfl⟩
      go_wp2
      go_ret
      exact ⟨rfl, rfl⟩
    · have h2 : (k == 6) = false := by simpa using h1
      rw [h2]
      go_enter Tryd.func8, Tryd.ntmps8
      go_wp2_with fail
      refine (R1 _).mono ?_; rintro e w' ⟨rfl, rfl⟩
      go_wp2_with fail
      refine (R2 _).mono ?_; rintro e w' ⟨rfl, rfl⟩
      go_wp2
      go_ret
      exact ⟨rfl, rfl⟩
  · rw [hx] at R1
    rw [hy] at R2
    have e : al x y k = (k == 9) := by simp [al, hx, hy]
    rw [e]
    clear e hx hy
    go_enter Tryd.func8, Tryd.ntmps8
    go_wp2_with fail
    refine (R1 _).mono ?_; rintro e w' ⟨rfl, rfl⟩
    go_wp2_with fail
    refine (R2 _).mono ?_; rintro e w' ⟨rfl, rfl⟩
    go_wp2
    go_ret
    exact ⟨rfl, rfl⟩
  · rw [hx] at R1
    rw [hy] at R2
    have e : al x y k = false := by simp [al, hx, hy]
    rw [e]
    clear e hx hy
    go_enter Tryd.func8, Tryd.ntmps8
    go_wp2_with fail
    refine (R1 _).mono ?_; rintro e w' ⟨rfl, rfl⟩
    go_wp2_with fail
    refine (R2 _).mono ?_; rintro e w' ⟨rfl, rfl⟩
    go_wp2
    go_ret
    exact ⟨rfl, rfl⟩
  · rw [hx] at R1
    rw [hy] at R2
    have e : al x y k = (decide (1 ≤ k) && decide (k ≤ 5)) := by simp [al, hx, hy]
    rw [e]
    clear e hx hy
    by_cases h1 : 1 ≤ k
    · simp only [h1, decide_true, Bool.true_and]
      go_enter Tryd.func8, Tryd.ntmps8
      go_wp2_with fail
      refine (R1 _).mono ?_; rintro e w' ⟨rfl, rfl⟩
      go_wp2_with fail
      refine (R2 _).mono ?_; rintro e w' ⟨rfl, rfl⟩
      go_wp2
      go_ret
      exact ⟨rfl, rfl⟩
    · simp only [h1, decide_false, Bool.false_and]
      go_enter Tryd.func8, Tryd.ntmps8
      go_wp2_with fail
      refine (R1 _).mono ?_; rintro e w' ⟨rfl, rfl⟩
      go_wp2_with fail
      refine (R2 _).mono ?_; rintro e w' ⟨rfl, rfl⟩
      go_wp2
      go_ret
      exact ⟨rfl, rfl⟩
  · rw [hx] at R1
    rw [hy] at R2
    have e : al x y k = false := by simp [al, hx, hy]
    rw [e]
    clear e hx hy
    go_enter Tryd.func8, Tryd.ntmps8
    go_wp2_with fail
    refine (R1 _).mono ?_; rintro e w' ⟨rfl, rfl⟩
    go_wp2_with fail
    refine (R2 _).mono ?_; rintro e w' ⟨rfl, rfl⟩
    go_wp2
    go_ret
    exact ⟨rfl, rfl⟩
  · rw [hx] at R1
    rw [hy] at R2
    have e : al x y k = false := by simp [al, hx, hy]
    rw [e]
    clear e hx hy
    go_enter Tryd.func8, Tryd.ntmps8
    go_wp2_with fail
    refine (R1 _).mono ?_; rintro e w' ⟨rfl, rfl⟩
    go_wp2_with fail
    refine (R2 _).mono ?_; rintro e w' ⟨rfl, rfl⟩
    go_wp2
    go_ret
    exact ⟨rfl, rfl⟩
  · rw [hx] at R1
    rw [hy] at R2
    have e : al x y k = false := by simp [al, hx, hy]
    rw [e]
    clear e hx hy
    go_enter Tryd.func8, Tryd.ntmps8
    go_wp2_with fail
    refine (R1 _).mono ?_; rintro e w' ⟨rfl, rfl⟩
    go_wp2_with fail
    refine (R2 _).mono ?_; rintro e w' ⟨rfl, rfl⟩
    go_wp2
    go_ret
    exact ⟨rfl, rfl⟩
  · rw [hx] at R1
    rw [hy] at R2
    have e : al x y k = (k == 8) := by simp [al, hx, hy]
    rw [e]
    clear e hx hy
    go_enter Tryd.func8, Tryd.ntmps8
    go_wp2_with fail
    refine (R1 _).mono ?_; rintro e w' ⟨rfl, rfl⟩
    go_wp2_with fail
    refine (R2 _).mono ?_; rintro e w' ⟨rfl, rfl⟩
    go_wp2
    go_ret
    exact ⟨rfl, rfl⟩
  · rw [hx] at R1
    rw [hy] at R2
    have e : al x y k = false := by simp [al, hx, hy]
    rw [e]
    clear e hx hy
    go_enter Tryd.func8, Tryd.ntmps8
    go_wp2_with fail
    refine (R1 _).mono ?_; rintro e w' ⟨rfl, rfl⟩
    go_wp2_with fail
    refine (R2 _).mono ?_; rintro e w' ⟨rfl, rfl⟩
    go_wp2
    go_ret
    exact ⟨rfl, rfl⟩
  · rw [hx] at R1
    rw [hy] at R2
    have e : al x y k = false := by simp [al, hx, hy]
    rw [e]
    clear e hx hy
    go_enter Tryd.func8, Tryd.ntmps8
    go_wp2_with fail
    refine (R1 _).mono ?_; rintro e w' ⟨rfl, rfl⟩
    go_wp2_with fail
    refine (R2 _).mono ?_; rintro e w' ⟨rfl, rfl⟩
    go_wp2
    go_ret
    exact ⟨rfl, rfl⟩
  · rw [hx] at R1
    rw [hy] at R2
    have e : al x y k = false := by simp [al, hx, hy]
    rw [e]
    clear e hx hy
    go_enter Tryd.func8, Tryd.ntmps8
    go_wp2_with fail
    refine (R1 _).mono ?_; rintro e w' ⟨rfl, rfl⟩
    go_wp2_with fail
    refine (R2 _).mono ?_; rintro e w' ⟨rfl, rfl⟩
    go_wp2
    go_ret
    exact ⟨rfl, rfl⟩
  · rw [hx] at R1
    rw [hy] at R2
    have e : al x y k = false := by simp [al, hx, hy]
    rw [e]
    clear e hx hy
    go_enter Tryd.func8, Tryd.ntmps8
    go_wp2_with fail
    refine (R1 _).mono ?_; rintro e w' ⟨rfl, rfl⟩
    go_wp2_with fail
    refine (R2 _).mono ?_; rintro e w' ⟨rfl, rfl⟩
    go_wp2
    go_ret
    exact ⟨rfl, rfl⟩
  · rw [hx] at R1
    rw [hy] at R2
    have e : al x y k = false := by simp [al, hx, hy]
    rw [e]
    clear e hx hy
    go_enter Tryd.func8, Tryd.ntmps8
    go_wp2_with fail
    refine (R1 _).mono ?_; rintro e w' ⟨rfl, rfl⟩
    go_wp2_with fail
    refine (R2 _).mono ?_; rintro e w' ⟨rfl, rfl⟩
    go_wp2
    go_ret
    exact ⟨rfl, rfl⟩
  · rw [hx] at R1
    rw [hy] at R2
    have e : al x y k = false := by simp [al, hx, hy]
    rw [e]
    clear e hx hy
    go_enter Tryd.func8, Tryd.ntmps8
    go_wp2_with fail
    refine (R1 _).mono ?_; rintro e w' ⟨rfl, rfl⟩
    go_wp2_with fail
    refine (R2 _).mono ?_; rintro e w' ⟨rfl, rfl⟩
    go_wp2
    go_ret
    exact ⟨rfl, rfl⟩
  · rw [hx] at R1
    rw [hy] at R2
    have e : al x y k = false := by simp [al, hx, hy]
    rw [e]
    clear e hx hy
    go_enter Tryd.func8, Tryd.ntmps8
    go_wp2_with fail
    refine (R1 _).mono ?_; rintro e w' ⟨rfl, rfl⟩
    go_wp2_with fail
    refine (R2 _).mono ?_; rintro e w' ⟨rfl, rfl⟩
    go_wp2
    go_ret
    exact ⟨rfl, rfl⟩
end Go.Proofs.YtobhepaagpdhmaaDoor.Wi
