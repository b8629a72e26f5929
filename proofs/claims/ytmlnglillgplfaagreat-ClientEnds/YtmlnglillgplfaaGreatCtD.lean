import Derived.Test.YtmlnglillgplfaaGreatCtC
import Derived.BigQuiet
import Derived.Deep.QuietTactic
namespace Go.Proofs.YtmlnglillgplfaaGreat.Cl
open Go.RowKit Go.Maps
set_option linter.unusedVariables false
theorem made_any {w : World} {b : Nat} {s : Cs} (h : CB w b s) : Calls Tryz.prog 50 #[.pointer (some ⟨b, 0, none⟩)] w fun e w' => e = .returned (.bool true) ∧ w' = w := by
  have c_hb := h.c_hb
  clear h
  go_enter Tryz.func50, Tryz.ntmps50
  go_wp2
  go_ret
  exact ⟨rfl, rfl⟩
theorem waits_yes {w : World} {b : Nat} {s : Cs} (h : CB w b s) (hp : s.ph = 1) : Calls Tryz.prog 48 #[.pointer (some ⟨b, 0, none⟩)] w fun e w' => e = .returned (.bool true) ∧ w' = w := by
  have MA := made_any h
  have c_ph := h.c_ph
  rw [hp] at c_ph
  clear h hp
  go_enter Tryz.func48, Tryz.ntmps48
  go_wp2_with fail
  refine MA.mono ?_; rintro e w' ⟨rfl, hw⟩
  obtain rfl := hw.symm
  clear MA
  go_wp2
  go_ret
  exact ⟨rfl, rfl⟩
theorem waits_no {w : World} {b : Nat} {s : Cs} (h : CB w b s) (hp : ¬ s.ph = 1) : Calls Tryz.prog 48 #[.pointer (some ⟨b, 0, none⟩)] w fun e w' => e = .returned (.bool false) ∧ w' = w := by
  have MA := made_any h
  have c_ph := h.c_ph
  have hq : (s.ph == 1) = false := by simpa using hp
  clear h hp
  go_enter Tryz.func48, Tryz.ntmps48
  go_wp2_with fail
  refine MA.mono ?_; rintro e w' ⟨rfl, hw⟩
  obtain rfl := hw.symm
  clear MA
  go_wp2
  go_ret
  exact ⟨rfl, rfl⟩
/-- the host behind -/
def nxt (h n : Int) : Int := if h + 1 = n then 0 else h + 1
theorem nxt_range {h n : Int} (h0 : 0 ≤ h) (h1 : h < n) : 0 ≤ nxt h n ∧ nxt h n < n := by unfold nxt; split <;> omega
theorem nxt_mod {h n : Int} (h0 : 0 ≤ h) (h1 : h < n) : (h + 1).tmod n = nxt h n := by
  unfold nxt
  split
  · rename_i e; rw [e]; exact Int.tmod_self
  · exact Int.tmod_eq_of_lt (by omega) (by omega)
theorem wrap64 {x : Int} (h0 : -1000000 ≤ x) (h1 : x ≤ 1000000) : IntKind.i64.wrap x = x := by
  simp only [IntKind.wrap, IntKind.signed, IntKind.bits]
  first | omega | (simp; omega)
theorem wrap8' {x : Int} (h0 : 0 ≤ x) (h1 : x < 256) : IntKind.u8.wrap x = x := by
  simp only [IntKind.wrap, IntKind.signed, IntKind.bits]
  first | omega | (simp; omega)
theorem behind_any {w : World} {b : Nat} {s : Cs} (h : CB w b s) (t : Int) (t0 : 0 ≤ t) (t1 : t < s.hosts) (hh : s.hosts ≤ 16) : Calls Tryz.prog 86 #[.pointer (some ⟨b, 0, none⟩), .int .u8 t] w fun e w' => e = .returned (.int .u8 (nxt t s.hosts)) ∧ w' = w := by
  have c_hosts := h.c_hosts
  have e1 := wrap64 (x := t) (by omega) (by omega)
  have e2 := wrap64 (x := t + 1) (by omega) (by omega)
  have e3 := nxt_mod t0 t1
  obtain ⟨r0, r1⟩ := nxt_range t0 t1
  have e4 := wrap8' r0 (by omega)
  have e5 := wrap64 (x := nxt t s.hosts) (by omega) (by omega)
  have hz : ¬ s.hosts = 0 := by omega
  have hm : ¬ s.hosts = -1 := by omega
  clear h t0 t1 hh r0 r1
  generalize nxt t s.hosts = n at *
  go_enter Tryz.func86, Tryz.ntmps86
  go_wp2
  go_ret
  exact ⟨rfl, rfl⟩
set_option maxRecDepth 100000 in
set_option maxHeartbeats 1000000 in
theorem timeOut_end {w : World} {b : Nat} {s : Cs} (h : CB w b s) (he : s.sent - s.hops = s.tries) (r0 : -1000 ≤ s.sent - s.hops) (r1 : s.sent - s.hops ≤ 1000) : Calls Tryz.prog 49 #[.pointer (some ⟨b, 0, none⟩)] w fun e w' => e = .returned (.slice none 0 0) ∧ CB w' b { s with ph := 3 } ∧ Kp (fun i => i = b) w w' := by
  have mixed : Tryz.prog.follows .mixedOrders = true := by kernel_rfl
  have c_sent := h.c_sent
  have c_hops := h.c_hops
  have c_tries := h.c_tries
  have c_ph := h.c_ph
  have f_ph := h.free 11
  have e1 := wrap64 (x := s.sent - s.hops) (by omega) (by omega)
  rw [← he] at c_tries
  have HC := hide h
  clear h he r0 r1
  go_enter Tryz.func49, Tryz.ntmps49
  go_wp2
  go_quiet (fail)
  go_wp2
  go_ret
  exact ⟨rfl, CB.s_ph (CB.nu HC.out (⟨rfl, rfl, rfl, Nat.le_refl _, fun _ _ _ => rfl⟩ : Kp Nu w (w.drewN nq))) 3, ((Kp.refl (fun i => i = b) w).trans (⟨rfl, rfl, rfl, Nat.le_refl _, fun _ _ _ => rfl⟩ : Kp Nu w (w.drewN nq)) (fun _ _ h => h.elim)).andSet ⟨b, 11, none⟩ _ (.inr rfl)⟩
end Go.Proofs.YtmlnglillgplfaaGreat.Cl
