import Derived.Test.YtmlnglillgplfaaGreatCrC
import Derived.Test.YtmlnglillgplfaaGreatCtI
namespace Go.Proofs.YtmlnglillgplfaaGreat.Cl
open Go.RowKit Go.Maps
set_option linter.unusedVariables false
theorem clone_nil (w : World) : Calls Tryz.prog 60 #[.slice none 0 0] w fun e w' => e = .returned (.slice none 0 0) ∧ w' = w := by
  have nn := isNil24
  go_enter Tryz.func60, Tryz.ntmps60
  go_wp2
  go_ret
  exact ⟨rfl, rfl⟩
theorem copyPairs_nil (w : World) : Calls Tryz.prog 61 #[.slice none 0 0] w fun e w' => e = .returned (.slice none 0 0) ∧ w' = w := by
  go_enter Tryz.func61, Tryz.ntmps61
  go_wp2
  go_loopw [3, 8] (fun l i wr => l = .slice none 0 0 ∧ i = .int .i64 0 ∧ wr = w) (fun _ _ _ => 0)
  case atStart => exact ⟨rfl, rfl, rfl⟩
  case round =>
    obtain ⟨rfl, rfl, rfl⟩ := hrel
    go_wp2
    go_ret
    exact ⟨rfl, rfl⟩
/-- Tick: nothing is under way -/
theorem tick_idle {w : World} {b : Nat} {s : Cs} (h : CB w b s) (hp : ¬ s.ph = 1) : Calls Tryz.prog 18 #[.pointer (some ⟨b, 0, none⟩)] w fun e w' => e = .returned (.slice none 0 0) ∧ w' = w := by
  have WA := waits_no h hp
  clear h hp
  go_enter Tryz.func18, Tryz.ntmps18
  go_wp2_with fail
  refine WA.mono ?_; rintro e w' ⟨rfl, hw⟩
  obtain rfl := hw.symm
  clear WA hw
  go_wp2
  go_ret
  exact ⟨rfl, rfl⟩
/-- GiveUp: nothing is under way -/
theorem giveUp_idle {w : World} {b : Nat} {s : Cs} (h : CB w b s) (hp : ¬ s.ph = 1) : Calls Tryz.prog 21 #[.pointer (some ⟨b, 0, none⟩)] w fun e w' => e = .returned (.int .i64 121) ∧ w' = w := by
  have MA := made_any h
  have WA := waits_no h hp
  clear h hp
  go_enter Tryz.func21, Tryz.ntmps21
  go_wp2_with fail
  refine MA.mono ?_; rintro e w' ⟨rfl, hw⟩
  obtain rfl := hw.symm
  clear MA hw
  go_wp2_with fail
  refine WA.mono ?_; rintro e w' ⟨rfl, hw⟩
  obtain rfl := hw.symm
  clear WA hw
  go_wp2
  go_ret
  exact ⟨rfl, rfl⟩
def Cs.outc (s : Cs) : Array Value := #[.int .u8 s.ph, .int .u64 s.seq, .int .u8 s.st, .slice none 0 0, .slice none 0 0, .int .u64 s.ohi, .int .u8 s.host, .int .i64 s.sent, .int .i64 s.hops]
set_option maxRecDepth 100000 in
set_option maxHeartbeats 1000000 in
/-- Outcome: no value, no pairs yet -/
theorem outcome_ok {w : World} {b : Nat} {s : Cs} (h : CB w b s) (hv : s.ov = Sl.nil) (ho : s.op = Sl.nil) : Calls Tryz.prog 23 #[.pointer (some ⟨b, 0, none⟩)] w fun e w' => e = .returned (.agg s.outc) ∧ Kp Nu w w' := by
  have MA := fun o => made_any (h.nu (Kp.alloc w o Nu))
  have CN := clone_nil
  have CP := copyPairs_nil
  have c0 := fun o => (h.nu (Kp.alloc w o Nu)).c_ph
  have c1 := fun o => (h.nu (Kp.alloc w o Nu)).c_seq
  have c2 := fun o => (h.nu (Kp.alloc w o Nu)).c_st
  have c3 := fun o => (h.nu (Kp.alloc w o Nu)).c_ov
  have c4 := fun o => (h.nu (Kp.alloc w o Nu)).c_op
  have c5 := fun o => (h.nu (Kp.alloc w o Nu)).c_ohi
  have c6 := fun o => (h.nu (Kp.alloc w o Nu)).c_host
  have c7 := fun o => (h.nu (Kp.alloc w o Nu)).c_sent
  have c8 := fun o => (h.nu (Kp.alloc w o Nu)).c_hops
  rw [hv] at c3
  rw [ho] at c4
  simp only [Sl.nil] at c3 c4
  clear h hv ho
  go_enter Tryz.func23, Tryz.ntmps23
  go_wp2_with fail
  refine (MA _).mono ?_; rintro e w' ⟨rfl, hw⟩
  subst hw
  clear MA
  go_wp2_with fail
  refine (CN _).mono ?_; rintro e w' ⟨rfl, hw⟩
  subst hw
  clear CN
  go_wp2_with fail
  refine (CP _).mono ?_; rintro e w' ⟨rfl, hw⟩
  subst hw
  clear CP
  go_wp2
  refine bodyPost_ret (results_cell_row rfl _ _ w.heap.size 55 _ _ _ rfl (new12 w _ _) Tryz.underlying55 rfl info55) rfl ?_
  exact ⟨rfl, (Kp.alloc w _ Nu).andAlloc _⟩
end Go.Proofs.YtmlnglillgplfaaGreat.Cl
namespace Go.Proofs.YtmlnglillgplfaaGreat.Cl
open Go.RowKit Go.Maps
set_option linter.unusedVariables false
theorem en_arith {i m t pat tries : Int} (p0 : 1 ≤ pat) (t0 : 0 ≤ t) (t1 : t < pat) (m1 : 1 ≤ m) (m2 : m ≤ tries) (e : i = (m - 1) * pat + t + 1) :
    1 ≤ i ∧ i ≤ pat * tries ∧ (m < tries → i < pat * tries) ∧ (t + 1 < pat → i < pat * tries) ∧ (t + 1 = pat → m = tries → i = pat * tries) := by
  have h1 : m * pat ≤ tries * pat := Int.mul_le_mul_of_nonneg_right m2 (by omega)
  have e1 : (m - 1) * pat = m * pat - pat := by rw [Int.sub_mul, Int.one_mul]
  have e2 : pat * tries = tries * pat := Int.mul_comm _ _
  have h0 : 0 ≤ (m - 1) * pat := Int.mul_nonneg (by omega) (by omega)
  refine ⟨by omega, by omega, fun h => ?_, fun h => by omega, fun h h' => ?_⟩
  · have h2 : (m + 1) * pat ≤ tries * pat := Int.mul_le_mul_of_nonneg_right (by omega) (by omega)
    have e3 : (m + 1) * pat = m * pat + pat := by rw [Int.add_mul, Int.one_mul]
    omega
  · subst h'
    omega
theorem en_rem {i m t pat : Int} (p0 : 1 ≤ pat) (t0 : 0 ≤ t) (m1 : 1 ≤ m) (h : t + 1 < pat) (e : i = (m - 1) * pat + t + 1) : i.tmod pat = t + 1 := by
  have h0 : 0 ≤ (m - 1) * pat := Int.mul_nonneg (by omega) (by omega)
  rw [Int.tmod_eq_emod_of_nonneg (by omega), e, show (m - 1) * pat + t + 1 = (t + 1) + pat * (m - 1) by rw [Int.mul_comm pat]; omega, Int.add_mul_emod_self_left]
  exact Int.emod_eq_of_lt (by omega) (by omega)
theorem en_quo {i m t pat : Int} (p0 : 1 ≤ pat) (h : t + 1 = pat) (e : i = (m - 1) * pat + t + 1) : i.tmod pat = 0 ∧ i.tdiv pat = m := by
  have e1 : (m - 1) * pat = m * pat - pat := by rw [Int.sub_mul, Int.one_mul]
  have e2 : i = pat * m := by rw [Int.mul_comm]; omega
  rw [e2]
  exact ⟨Int.mul_tmod_right _ _, Int.mul_tdiv_cancel_left _ (by omega)⟩
/-- the client under way -/
def Cs.en (hosts pat tries : Int) (hb mb : Nat) (k key hi : Int) (v o : Sl) (has : Bool) (lim : Int) (host tmo m t ph : Int) : Cs := ⟨hosts, pat, tries, hb, k, key, hi, v, o, has, lim, ph, 1, 0, Sl.nil, Sl.nil, 0, host, m, 0, mb, t, tmo⟩
section
variable {w : World} {b nb : Nat} {D : DataW Unit} {V O : List Int} {hosts pat tries : Int} {hb mb : Nat} {k key hi : Int} {v o : Sl} {has : Bool} {lim host tmo m t : Int}
theorem en_less (h : Cl w b (Cs.en hosts pat tries hb mb k key hi v o has lim host tmo m t 1) nb D V O) (t0 : 0 ≤ t) (p1 : pat ≤ 64) (ht : t + 1 < pat) :
    Calls Tryz.prog 18 #[.pointer (some ⟨b, 0, none⟩)] w fun e w' => e = .returned (.slice none 0 0) ∧ Cl w' b (Cs.en hosts pat tries hb mb k key hi v o has lim host tmo m (t + 1) 1) nb D V O ∧ Kp (fun j => j = b) w w' :=
  tick_less h rfl t0 (by show t ≤ 1000; omega) ht
theorem en_end (h : Cl w b (Cs.en hosts pat tries hb mb k key hi v o has lim host tmo m t 1) nb D V O) (t0 : 0 ≤ t) (p1 : pat ≤ 64) (ht : t + 1 = pat) (hm : m = tries) (m0 : 1 ≤ m) (m1 : m ≤ 64) :
    Calls Tryz.prog 18 #[.pointer (some ⟨b, 0, none⟩)] w fun e w' => e = .returned (.slice none 0 0) ∧ Cl w' b (Cs.en hosts pat tries hb mb k key hi v o has lim host tmo m (t + 1) 3) nb D V O ∧ Kp (fun j => j = b) w w' :=
  tick_end h rfl t0 (by show t ≤ 1000; omega) (by show ¬ t + 1 < pat; omega) (by show m - 0 = tries; omega) (by show -1000 ≤ m - 0; omega) (by show m - 0 ≤ 1000; omega)
theorem en_again (h : Cl w b (Cs.en hosts pat tries hb mb k key hi v o has lim host tmo m t 1) nb D V O) (t0 : 0 ≤ t) (p1 : pat ≤ 64) (ht : t + 1 = pat) (hm : m < tries) (m0 : 1 ≤ m) (m1 : m ≤ 64) (h0 : 0 ≤ host) (h1 : host < hosts) (hh : hosts ≤ 16) (q0 : 0 ≤ tmo) (q1 : tmo ≤ 1) :
    Calls Tryz.prog 18 #[.pointer (some ⟨b, 0, none⟩)] w fun e w' => ∃ g v1 o1 host' tmo', e = .returned (.slice (some ⟨g, 0, none⟩) 1 1) ∧ w'.heap[g]? = some (.cells (outC host' (Cs.en hosts pat tries hb mb k key hi v o has lim host tmo m t 1) v1 o1) 38 (0, 0)) ∧ Bt w' v1 V ∧ Bt w' o1 O ∧ w.heap.size ≤ g ∧ (0 ≤ host' ∧ host' < hosts) ∧ (0 ≤ tmo' ∧ tmo' ≤ 1) ∧ (∃ nb' D', Cl w' b (Cs.en hosts pat tries hb mb k key hi v o has lim host' tmo' (m + 1) 0 1) nb' D' V O) ∧ Kp (fun j => j = b ∨ j = mb) w w' := by
  refine (tick_again h rfl t0 (by show t ≤ 1000; omega) (by show ¬ t + 1 < pat; omega) (by show ¬ m - 0 = tries; omega) (by show 0 ≤ m; omega) (by show m ≤ 1000; omega) (by show (0 : Int) ≤ 0; omega) (by show (0 : Int) ≤ 1000; omega) h0 h1 hh q0 q1).mono ?_
  rintro e w' ⟨g, rfl, hsn, hgl, hcl, hk⟩
  obtain ⟨g', v1, o1, eg, hg, hv1, ho1⟩ := hsn.out
  simp only [Value.slice.injEq, Option.some.injEq, Addr.mk.injEq, and_true] at eg
  obtain rfl := eg
  refine ⟨g, v1, o1, _, _, rfl, hg, hv1, ho1, hgl, ?_, ?_, ⟨_, _, hcl⟩, hk⟩
  · show 0 ≤ (if tmo = 1 then nxt host hosts else host) ∧ (if tmo = 1 then nxt host hosts else host) < hosts
    split
    · exact nxt_range h0 h1
    · exact ⟨h0, h1⟩
  · show 0 ≤ (if tmo = 1 then (0 : Int) else 1) ∧ (if tmo = 1 then (0 : Int) else 1) ≤ 1
    split <;> omega
end
end Go.Proofs.YtmlnglillgplfaaGreat.Cl
