import Derived.Test.YtbifmcadllilhaaPtP
import Derived.StillTailTactics
namespace Go.Proofs.Ytbifmcadllilhaa.Pn
open Go.RowKit
set_option linter.unusedVariables false
def cmpI (x y : Int) : Int := if x < y then -1 else if x > y then 1 else 0
set_option maxHeartbeats 1000000 in
theorem nan100 (x : Int) (w : World) : Calls Try.prog 100 #[.int .i64 x] w fun e w' => e = .returned (.bool false) ∧ w' = w := by
  have hx : (x != x) = false := by simp
  go_enter Try.func100, Try.ntmps100
  go_wp2
  go_ret
  exact ⟨by simp, rfl⟩
set_option maxHeartbeats 1000000 in
theorem compare81 (x y : Int) (w : World) : Calls Try.prog 81 #[.int .i64 x, .int .i64 y] w fun e w' => e = .returned (.int .i64 (cmpI x y)) ∧ w' = w := by
  have n1 := nan100 x w
  have n2 := nan100 y w
  unfold cmpI
  by_cases h1 : x < y
  · rw [if_pos h1]
    go_enter Try.func81, Try.ntmps81
    go_wp2_with fail
    refine n1.mono ?_; rintro e w2 ⟨rfl, hw⟩; obtain rfl := hw.symm; clear n1 hw
    go_wp2_with fail
    refine n2.mono ?_; rintro e w2 ⟨rfl, hw⟩; obtain rfl := hw.symm; clear n2 hw
    go_wp2
    go_ret
    exact ⟨rfl, rfl⟩
  · rw [if_neg h1]
    by_cases h2 : x > y
    · rw [if_pos h2]
      go_enter Try.func81, Try.ntmps81
      go_wp2_with fail
      refine n1.mono ?_; rintro e w2 ⟨rfl, hw⟩; obtain rfl := hw.symm; clear n1 hw
      go_wp2_with fail
      refine n2.mono ?_; rintro e w2 ⟨rfl, hw⟩; obtain rfl := hw.symm; clear n2 hw
      go_wp2
      go_ret
      exact ⟨rfl, rfl⟩
    · rw [if_neg h2]
      go_enter Try.func81, Try.ntmps81
      go_wp2_with fail
      refine n1.mono ?_; rintro e w2 ⟨rfl, hw⟩; obtain rfl := hw.symm; clear n1 hw
      go_wp2_with fail
      refine n2.mono ?_; rintro e w2 ⟨rfl, hw⟩; obtain rfl := hw.symm; clear n2 hw
      go_wp2
      go_ret
      exact ⟨rfl, rfl⟩
def orI (a b : Int) : Int := if a = 0 then b else a
set_option maxHeartbeats 1000000 in
theorem or80 (a b : Int) (g : Nat) (w : World) (c0 : w.cell? ⟨g, 0, none⟩ = some (.int .i64 a)) (c1 : w.cell? ⟨g, 1, none⟩ = some (.int .i64 b)) : Calls Try.prog 80 #[.slice (some ⟨g, 0, none⟩) 2 2] w fun e w' => e = .returned (.int .i64 (orI a b)) ∧ w' = w := by
  have HC := hide (And.intro c0 c1)
  clear c0 c1
  go_enter Try.func80, Try.ntmps80
  go_wp2
  go_loopw [8] (fun iv wr => ∃ i : Nat, iv = .int .i64 (i : Int) ∧ i ≤ 2 ∧ wr = w ∧ Hid ((1 ≤ i → a = 0) ∧ (2 ≤ i → b = 0))) (fun iv _ => 2 - (intOf iv).toNat)
  case atStart => exact ⟨0, rfl, by omega, rfl, hide ⟨fun h => by omega, fun h => by omega⟩⟩
  case round =>
    obtain ⟨i, rfl, hi, hw, hI⟩ := hrel
    obtain rfl := hw
    have hcase : i = 0 ∨ i = 1 ∨ i = 2 := by omega
    rcases hcase with h | h | h
    · subst h
      have c0 := HC.out.1
      by_cases ha : a = 0
      · have e0 : (a != 0) = false := by simpa using ha
        have HA := hide ha
        clear ha
        go_wp2
        exact ⟨⟨1, rfl, by omega, trivial, hide ⟨fun _ => HA.out, fun h => by omega⟩⟩, by simp [intOf]⟩
      · have e0 : (a != 0) = true := by simpa using ha
        have HA := hide ha
        clear ha
        go_wp2
        go_ret
        exact ⟨by unfold orI; rw [if_neg HA.out]; rfl, rfl⟩
    · subst h
      have c1 := HC.out.2
      have HA := hide (hI.out.1 (by omega))
      by_cases ha : b = 0
      · have e0 : (b != 0) = false := by simpa using ha
        have HB := hide ha
        clear ha
        go_wp2
        exact ⟨⟨2, rfl, by omega, trivial, hide ⟨fun _ => HA.out, fun h => HB.out⟩⟩, by simp [intOf]⟩
      · have e0 : (b != 0) = true := by simpa using ha
        clear ha
        go_wp2
        go_ret
        exact ⟨by unfold orI; rw [if_pos HA.out]; rfl, rfl⟩
    · subst h
      have HA := hide (And.intro (hI.out.1 (by omega)) (hI.out.2 (by omega)))
      go_wp2
      go_ret
      exact ⟨by unfold orI; rw [if_pos HA.out.1, HA.out.2]; rfl, rfl⟩
set_option maxRecDepth 100000 in
set_option maxHeartbeats 1000000 in
theorem less79 (x y : Nat) (p q : Int) (bx : Nat) (b : Addr) (N cap : Nat) (w : World) (hx : x < N) (hy : y < N) (cb : w.cell? ⟨bx, 0, none⟩ = some (.slice (some b) N cap)) (cx : w.cell? (b.add x) = some (.int .i64 p)) (cy : w.cell? (b.add y) = some (.int .i64 q)) :
    Calls Try.prog 79 #[.int .i64 (x : Int), .int .i64 (y : Int), .pointer (some ⟨bx, 0, none⟩)] w fun e w' => e = .returned (.int .i64 (orI (cmpI q p) (cmpI (x : Int) (y : Int)))) ∧ w' = (w.alloc (.cells #[.int .i64 (cmpI q p), .int .i64 (cmpI (x : Int) (y : Int))] 3)).drew := by
  have mixed : Try.prog.follows .mixedOrders = true := by kernel_rfl
  have C1 := compare81 q p w.drew
  have C2 := compare81 (x : Int) (y : Int) w.drew
  have hx0 : (0 : Int) ≤ (x : Int) := by omega
  have hy0 : (0 : Int) ≤ (y : Int) := by omega
  have hxN : (x : Int) < (N : Int) := by omega
  have hyN : (y : Int) < (N : Int) := by omega
  have etx : (x : Int).toNat = x := by omega
  have ety : (y : Int).toNat = y := by omega
  generalize cmpI q p = A at *
  generalize cmpI (x : Int) (y : Int) = B at *
  have OR := or80 A B w.heap.size (w.alloc (.cells #[.int .i64 A, .int .i64 B] 3)).drew (cellAt (heap_new w _) 0 rfl) (cellAt (heap_new w _) 1 rfl)
  go_enter Try.func79, Try.ntmps79
  go_wp2_with fail
  refine wp_region_still_tail 12 mixed (by kernel_rfl) ?_
  simp only [List.take_succ_cons, List.take_zero, List.drop_succ_cons, List.drop_zero]
  still_step
  still_step
  still_step
  still_step
  still_step
  still_step
  still_step
  still_step
  still_call C1
  still_step
  still_step
  still_call C2
  refine wpStill_nil ?_
  go_wp2_with fail
  refine OR.mono ?_; rintro e w2 ⟨rfl, hw⟩
  obtain rfl := hw
  clear OR C1 C2
  go_wp2
  go_ret
  exact ⟨rfl, rfl⟩
end Go.Proofs.Ytbifmcadllilhaa.Pn
