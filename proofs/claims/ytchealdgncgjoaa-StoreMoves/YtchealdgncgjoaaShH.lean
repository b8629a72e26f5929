import Derived.Test.YtchealdgncgjoaaShG
namespace Go.Proofs.Ytchealdgncgjoaa.StU
open Go.RowKit Go.Proofs.Ytchealdgncgjoaa.St Go.Shelf Go.Sort Go.Proofs.Ytchealdgncgjoaa.It
set_option linter.unusedVariables false
section
variable {w : World} {sb mb : Nat} {most : Int} {t : T (Int × Sv)} {M : List KV}
set_option maxRecDepth 100000 in
set_option maxHeartbeats 1000000 in
/-- Scan: the first pairs of a range -/
theorem scan_any (h : Sh w sb mb most t M) (lo hi lim : Int) (K : Nat) (hK : K = min (rg lo hi M).length lim.toNat) :
    Calls Try.prog 49 #[.pointer (some ⟨sb, 0, none⟩), .int .u64 lo, .int .u64 hi, .int .i64 lim] w fun e w' => ∃ gk L, e = .returned (.tuple #[.slice (some ⟨gk, 0, none⟩) K K, .bool (decide (K < (rg lo hi M).length))]) ∧ Cd w' w.heap.size gk K L ((rg lo hi M).take K) ∧ Kp Nu w w' := by
  have CA := count_any54 h lo hi
  have CP : ∀ W (X : Int), Kp Nu w W → X = (K : Int) → Calls Try.prog 121 #[.pointer (some ⟨sb, 0, none⟩), .int .u64 lo, .int .u64 hi, .int .i64 X] W fun e w' => ∃ gk L, e = .returned (.slice (some ⟨gk, 0, none⟩) K K) ∧ Cd w' w.heap.size gk K L ((rg lo hi M).take K) ∧ Kp Nu w w' := fun W X q eX => by
    rw [eX]
    refine (copies_any (h.nu q) lo hi K (by omega)).mono ?_
    rintro e w' ⟨gk, L, e1, e2, e3⟩
    exact ⟨gk, L, e1, ⟨own_base e2.own q.size, e2.f, fun p hp g hg => Nat.le_trans q.size (e2.lo p hp g hg), e2.ap⟩, q.andNu e3⟩
  generalize (rg lo hi M).take K = A at *
  generalize (rg lo hi M).length = C at *
  have hc : ∃ X : Int, X = (K : Int) ∧ ((lim < 0 ∧ (C : Int) ≤ 0 ∧ X = (C : Int)) ∨ (lim < 0 ∧ ¬ (C : Int) ≤ 0 ∧ X = 0) ∨ (¬ lim < 0 ∧ (C : Int) ≤ lim ∧ X = (C : Int)) ∨ (¬ lim < 0 ∧ ¬ (C : Int) ≤ lim ∧ X = lim)) := by
    refine ⟨(K : Int), rfl, ?_⟩
    omega
  obtain ⟨X, eX, hc⟩ := hc
  have hd : decide (X < (C : Int)) = decide (K < C) := by rw [eX]; simp
  have HM := hide (And.intro eX hd)
  clear h hK hd eX
  rcases hc with ⟨h1, h2, rfl⟩ | ⟨h1, h2, rfl⟩ | ⟨h1, h2, rfl⟩ | ⟨h1, h2, rfl⟩
  all_goals go_enter Try.func49, Try.ntmps49
  all_goals go_wp2_with (first
    | (go_at_call 54; refine CA.mono ?_; rintro e w1 ⟨rfl, k1⟩)
    | (go_at_call 121; refine (CP _ _ k1 HM.out.1).mono ?_; rintro e w2 ⟨gk, L, rfl, z2, k2⟩))
  all_goals go_ret2
  all_goals refine ⟨gk, L, ?_, z2, k2⟩
  all_goals have e1 := HM.out.1
  all_goals first
    | (have h9 : K < C := by omega
       rw [decide_eq_true h9]; rfl)
    | (have h9 : ¬ K < C := by omega
       rw [decide_eq_false h9]; rfl)
    | (have h9 : K = 0 := by omega
       rw [h9]; rfl)
end
end Go.Proofs.Ytchealdgncgjoaa.StU
