import Derived.Test.YtbhdhoeaogbfbaaXgH
import Derived.BigQuiet
import Derived.Deep.QuietTactic
namespace Go.Proofs.Ytbhdhoeaogbfbaa.Xo
open Go.RowKit
set_option linter.unusedVariables false
set_option linter.unusedSimpArgs false
set_option maxRecDepth 100000 in
set_option maxHeartbeats 8000000 in
/-- the document's right, refused for its numbers -/
theorem right_no (w : World) (db : Nat) (s a m dl qn wn dd : Int) (aq ae : Option Addr) (nq cq ne ce : Nat) (c3 : w.cell? ⟨db, 3, none⟩ = some (.int .i64 qn)) (c4 : w.cell? ⟨db, 4, none⟩ = some (.int .i64 wn)) (e0 : IntKind.u64.wrap (s - a) = dd) (h0 : 0 ≤ m) (hm : m ≤ 18446744073709551615) (hnq : nq ≤ 140737488351232) (hno : okN s a m qn dd nq = false) :
    Calls Try.prog 75 #[.pointer (some ⟨db, 0, none⟩), .agg #[.int .u64 s, .int .u64 a, .slice aq nq cq, .int .u64 m, .int .u64 dl, .slice ae ne ce]] w fun e w' => e = .returned (.bool false) ∧ Kp Nu w w' := by
  have mixed : Try.prog.follows .mixedOrders = true := by kernel_rfl
  have TM := fun W => tooMuch_any a m s dd h0 hm e0 W
  have ec : IntKind.u64.wrap (nq : Int) = (nq : Int) := by rw [IntKind.wrap_u64]; omega
  have CX : ∀ W, Kp Nu (w.alloc (.cells #[.int .u64 s, .int .u64 a, .slice aq nq cq, .int .u64 m, .int .u64 dl, .slice ae ne ce] 66)) W → W.cell? ⟨w.heap.size, 0, none⟩ = some (.int .u64 s) ∧ W.cell? ⟨w.heap.size, 1, none⟩ = some (.int .u64 a) ∧ W.cell? ⟨w.heap.size, 2, none⟩ = some (.slice aq nq cq) ∧ W.cell? ⟨w.heap.size, 3, none⟩ = some (.int .u64 m) ∧ W.cell? ⟨w.heap.size, 4, none⟩ = some (.int .u64 dl) ∧ W.cell? ⟨w.heap.size, 5, none⟩ = some (.slice ae ne ce) ∧ W.cell? ⟨db, 3, none⟩ = some (.int .i64 qn) ∧ W.cell? ⟨db, 4, none⟩ = some (.int .i64 wn) := fun W kW => by
    obtain ⟨q0, q1, q2, q3, q4, q5⟩ := cell6 (new_at w _ kW)
    have kw := ((Kp.refl Nu w).andAlloc _).andNu kW
    exact ⟨q0, q1, q2, q3, q4, q5, cell_nuX c3 kw, cell_nuX c4 kw⟩
  have KW := ((Kp.refl Nu w).andAlloc (.cells #[.int .u64 s, .int .u64 a, .slice aq nq cq, .int .u64 m, .int .u64 dl, .slice ae ne ce] 66))
  have HKW := hide KW
  unfold okN at hno
  have hc : s < a ∨ (¬ s < a ∧ dd ≠ (nq : Int)) ∨ (¬ s < a ∧ dd = (nq : Int) ∧ qn < (nq : Int)) ∨ (¬ s < a ∧ dd = (nq : Int) ∧ ¬ qn < (nq : Int) ∧ inM m dd = false) := by
    by_cases g1 : s < a
    · exact .inl g1
    · by_cases g2 : dd = (nq : Int)
      · by_cases g3 : qn < (nq : Int)
        · exact .inr (.inr (.inl ⟨g1, g2, g3⟩))
        · refine .inr (.inr (.inr ⟨g1, g2, g3, ?_⟩))
          have b1 : (dd != (nq : Int)) = false := by simp [g2]
          rw [b1] at hno
          simpa [g1, g3] using hno
      · exact .inr (.inl ⟨g1, g2⟩)
  obtain ⟨z0, z1, z2, z3, z4, z5, z6, z7⟩ := CX _ (Kp.refl _ _)
  clear hno c3 c4 h0 hm KW
  rcases hc with h1 | ⟨h1, h2⟩ | ⟨h1, h2, h3⟩ | ⟨h1, h2, h3, h4⟩
  · have g1 : decide (s < a) = true := decide_eq_true h1
    go_enter Try.func75, Try.ntmps75
    go_wp2_with fail
    go_quiet (fail)
    go_wp2
    go_ret
    exact ⟨rfl, HKW.out.andNu (kp_drewN _ _)⟩
  · have g1 : decide (s < a) = false := decide_eq_false h1
    have g2 : (dd != (nq : Int)) = true := by simp [h2]
    have h1' : ¬ a > s := h1
    go_enter Try.func75, Try.ntmps75
    go_wp2_with fail
    go_quiet (fail)
    go_wp2
    go_ret
    exact ⟨rfl, HKW.out.andNu (kp_drewN _ _)⟩
  · have g1 : decide (s < a) = false := decide_eq_false h1
    have g2 : (dd != (nq : Int)) = false := by simp [h2]
    have g3 : decide (qn < (nq : Int)) = true := decide_eq_true h3
    clear h2
    go_enter Try.func75, Try.ntmps75
    go_wp2_with fail
    go_quiet (fail)
    go_wp2
    go_ret
    exact ⟨rfl, HKW.out.andNu (kp_drewN _ _)⟩
  · have g1 : decide (s < a) = false := decide_eq_false h1
    have g2 : (dd != (nq : Int)) = false := by simp [h2]
    have g3 : decide (qn < (nq : Int)) = false := decide_eq_false h3
    rw [h4] at TM
    clear h2 h4
    go_enter Try.func75, Try.ntmps75
    go_wp2_with fail
    go_region_held3 (fun W => W.cell? ⟨w.heap.size, 0, none⟩ = some (.int .u64 s) ∧ W.cell? ⟨w.heap.size, 1, none⟩ = some (.int .u64 a) ∧ W.cell? ⟨w.heap.size, 2, none⟩ = some (.slice aq nq cq) ∧ W.cell? ⟨w.heap.size, 3, none⟩ = some (.int .u64 m) ∧ W.cell? ⟨w.heap.size, 4, none⟩ = some (.int .u64 dl) ∧ W.cell? ⟨w.heap.size, 5, none⟩ = some (.slice ae ne ce) ∧ W.cell? ⟨db, 3, none⟩ = some (.int .i64 qn) ∧ W.cell? ⟨db, 4, none⟩ = some (.int .i64 wn)) (first | (refine CX _ ?_; first | assumption | exact Kp.drew (Kp.refl _ _)))
      (first | (go_at_call 102; refine (TM _).mono ?_; rintro e w2 ⟨rfl, k2⟩; have k2 := (Kp.drew (Kp.refl Nu (w.alloc (.cells #[.int .u64 s, .int .u64 a, .slice aq nq cq, .int .u64 m, .int .u64 dl, .slice ae ne ce] 66)))).andNu k2))
    go_wp2
    go_ret
    exact ⟨rfl, HKW.out.andNu k2⟩
end Go.Proofs.Ytbhdhoeaogbfbaa.Xo
