import Derived.Test.YtmlnglillgplfaaGreatCrC
namespace Go.Proofs.YtmlnglillgplfaaGreat.Cl
open Go.RowKit Go.Maps
set_option linter.unusedVariables false
theorem clone_nil (w : World) : Calls Tryz.prog 60 #[.slice none 0 0] w fun e w' => e = .returned (.slice none 0 0) ∧ w' = w := by
  have nn := isNil24
  go_enter Tryz.func60, Tryz.ntmps60
  go_wp2
  go_ret
  exact ⟨rfl, rfl⟩
theorem copyPairs_nil (w : World) : Calls Tryz.prog 61 #[.slice none 0 0] w fun e w' => e = .returned (.slice none 0 0) ∧ w' = w := by
  go_enter Tryz.func61, Tryz.ntmps61
  go_wp2
  go_loopw [3, 8] (fun l i wr => l = .slice none 0 0 ∧ i = .int .i64 0 ∧ wr = w) (fun _ _ _ => 0)
  case atStart => exact ⟨rfl, rfl, rfl⟩
  case round =>
    obtain ⟨rfl, rfl, rfl⟩ := hrel
    go_wp2
    go_ret
    exact ⟨rfl, rfl⟩
/-- Tick: nothing is under way -/
theorem tick_idle {w : World} {b : Nat} {s : Cs} (h : CB w b s) (hp : ¬ s.ph = 1) : Calls Tryz.prog 18 #[.pointer (some ⟨b, 0, none⟩)] w fun e w' => e = .returned (.slice none 0 0) ∧ w' = w := by
  have WA := waits_no h hp
  clear h hp
  go_enter Tryz.func18, Tryz.ntmps18
  go_wp2_with fail
  refine WA.mono ?_; rintro e w' ⟨rfl, hw⟩
  obtain rfl := hw.symm
  clear WA hw
  go_wp2
  go_ret
  exact ⟨rfl, rfl⟩
/-- GiveUp: nothing is under way -/
theorem giveUp_idle {w : World} {b : Nat} {s : Cs} (h : CB w b s) (hp : ¬ s.ph = 1) : Calls Tryz.prog 21 #[.pointer (some ⟨b, 0, none⟩)] w fun e w' => e = .returned (.int .i64 121) ∧ w' = w := by
  have MA := made_any h
  have WA := waits_no h hp
  clear h hp
  go_enter Tryz.func21, Tryz.ntmps21
  go_wp2_with fail
  refine MA.mono ?_; rintro e w' ⟨rfl, hw⟩
  obtain rfl := hw.symm
  clear MA hw
  go_wp2_with fail
  refine WA.mono ?_; rintro e w' ⟨rfl, hw⟩
  obtain rfl := hw.symm
  clear WA hw
  go_wp2
  go_ret
  exact ⟨rfl, rfl⟩
def Cs.outc (s : Cs) : Array Value := #[.int .u8 s.ph, .int .u64 s.seq, .int .u8 s.st, .slice none 0 0, .slice none 0 0, .int .u64 s.ohi, .int .u8 s.host, .int .i64 s.sent, .int .i64 s.hops]
set_option maxRecDepth 100000 in
set_option maxHeartbeats 1000000 in
/-- Outcome: no value, no pairs yet -/
theorem outcome_ok {w : World} {b : Nat} {s : Cs} (h : CB w b s) (hv : s.ov = Sl.nil) (ho : s.op = Sl.nil) : Calls Tryz.prog 23 #[.pointer (some ⟨b, 0, none⟩)] w fun e w' => e = .returned (.agg s.outc) ∧ Kp Nu w w' := by
  have MA := fun o => made_any (h.nu (Kp.alloc w o Nu))
  have CN := clone_nil
  have CP := copyPairs_nil
  have c0 := fun o => (h.nu (Kp.alloc w o Nu)).c_ph
  have c1 := fun o => (h.nu (Kp.alloc w o Nu)).c_seq
  have c2 := fun o => (h.nu (Kp.alloc w o Nu)).c_st
  have c3 := fun o => (h.nu (Kp.alloc w o Nu)).c_ov
  have c4 := fun o => (h.nu (Kp.alloc w o Nu)).c_op
  have c5 := fun o => (h.nu (Kp.alloc w o Nu)).c_ohi
  have c6 := fun o => (h.nu (Kp.alloc w o Nu)).c_host
  have c7 := fun o => (h.nu (Kp.alloc w o Nu)).c_sent
  have c8 := fun o => (h.nu (Kp.alloc w o Nu)).c_hops
  rw [hv] at c3
  rw [ho] at c4
  simp only [Sl.nil] at c3 c4
  clear h hv ho
  go_enter Tryz.func23, Tryz.ntmps23
  go_wp2_with fail
  refine (MA _).mono ?_; rintro e w' ⟨rfl, hw⟩
  subst hw
  clear MA
  go_wp2_with fail
  refine (CN _).mono ?_; rintro e w' ⟨rfl, hw⟩
  subst hw
  clear CN
  go_wp2_with fail
  refine (CP _).mono ?_; rintro e w' ⟨rfl, hw⟩
  subst hw
  clear CP
  go_wp2
  refine bodyPost_ret (results_cell_row rfl _ _ w.heap.size 55 _ _ _ rfl (new12 w _ _) Tryz.underlying55 rfl info55) rfl ?_
  exact ⟨rfl, (Kp.alloc w _ Nu).andAlloc _⟩
end Go.Proofs.YtmlnglillgplfaaGreat.Cl
