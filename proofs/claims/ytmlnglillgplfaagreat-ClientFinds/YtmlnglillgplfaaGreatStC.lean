import Derived.Test.YtmlnglillgplfaaGreatCtR
import Derived.Test.YtmlnglillgplfaaGreatRgO
import Derived.Test.YtmlnglillgplfaaGreatCeA
import Derived.BigQuiet
import Derived.Deep.QuietTactic
import Derived.Test.YtmlnglillgplfaaGreatRcE
import Derived.Deep.RegionHeld3
namespace Go.Proofs.YtmlnglillgplfaaGreat.Cl
open Go.RowKit Go.Maps
set_option linter.unusedVariables false
theorem kpS {S : Nat → Prop} {w w' : World} (h : Rg.Kp S w w') : Kp S w w' := ⟨h.os, h.tape, h.output, h.size, h.block⟩
/-- the table behind an Assign -/
def Hnt (B : Nat) (w : World) (hb : Nat) (L : List Rg.Sg) (lo hi to : Int) : Prop := ∃ tv L', Rg.Tb B w hb 64 tv L' ∧ ((L.length : Int) + Rg.costB L lo hi to ≤ 64 → L' = Rg.asg L lo hi to)
theorem assign_some {B b : Nat} {w : World} {v : Value} {L : List Rg.Sg} (h : Rg.Tb B w b 64 v L) (hBw : B ≤ w.heap.size) (lo hi o : Int) (k0 : 0 ≤ lo) (hlh : lo ≤ hi) (k1 : hi < 18446744073709551616) (o0 : 0 ≤ o) (ho : o < 16) :
    Calls Tryz.prog 119 #[.pointer (some ⟨b, 0, none⟩), .int .u64 lo, .int .u64 hi, .int .u8 o] w fun e w' => ∃ c, e = .returned (.int .i64 c) ∧ Hnt B w' b L lo hi o ∧ Kp (fun k => k = b) w w' := by
  by_cases hfit : (L.length : Int) + Rg.costB L lo hi o ≤ 64
  · refine (Rg.assign_ok h lo hi o k0 hlh k1 o0 ho hfit hBw).mono ?_
    rintro e w' ⟨rfl, v', hT, hk⟩
    exact ⟨0, rfl, ⟨v', _, hT, fun _ => rfl⟩, kpS hk⟩
  · refine (Rg.assign_full h lo hi o k0 hlh k1 ho (by omega)).mono ?_
    rintro e w' ⟨rfl, hk⟩
    exact ⟨61, rfl, ⟨v, L, h.nu hk, fun hf => absurd hf hfit⟩, (kpR hk).mono (fun _ _ h => h.elim)⟩
theorem isHost_any {w : World} {b : Nat} {s : Cs} (h : CB w b s) (a : Int) (a0 : 0 ≤ a) (a1 : a < 256) : Calls Tryz.prog 58 #[.pointer (some ⟨b, 0, none⟩), .int .u8 a] w fun e w' => e = .returned (.bool (decide (a < s.hosts))) ∧ w' = w := by
  have c := h.c_hosts
  have hw : IntKind.i64.wrap a = a := by
    simp only [IntKind.wrap, IntKind.signed, IntKind.bits]
    first | omega | (simp; omega)
  clear h
  go_enter Tryz.func58, Tryz.ntmps58
  go_wp2
  go_ret
  exact ⟨rfl, rfl⟩
set_option maxHeartbeats 1000000 in
theorem taker7 (w : World) : Calls Tryz.prog 57 #[.int .u8 7] w fun e w' => e = .returned (.func (.func 94) #[] #[]) ∧ Kp Nu w w' := by
  go_enter Tryz.func57, Tryz.ntmps57
  go_wp2
  go_ret
  exact ⟨rfl, (Kp.alloc w _ Nu)⟩
theorem unit193 (w : World) : (zeroValue 193).run Tryz.prog w = .ok (.agg #[]) w := by kernel_rfl
theorem Am.look {w : World} {mb nb : Nat} {D : DataW Unit} (h : Am w mb nb D) {to : Int} (t0 : 0 ≤ to) (t1 : to < 256) :
    (Instr.lookup 120 (.map (some mb)) (.int .u8 to) true).run Tryz.prog w = .ok (.tuple #[.agg #[], .bool (Maps.has D (Lit.int .u8 to))]) w := by
  obtain ⟨v, ps, hrun, hv⟩ := World.ownsMap.look_ok h hostKeyed Tryz.underlying120 (unit193 w) unitElem_mk (key_to t0 t1)
  obtain ⟨rfl, _⟩ := unitElem_inv hv
  exact hrun
/-- the client stands where its table has turned -/
theorem Cl.tb {w w' : World} {b nb B : Nat} {s : Cs} {D : DataW Unit} {V O : List Int} {tv : Value} {L : List Rg.Sg} (h : Cl w b s nb D V O) (hT : Rg.Tb B w s.hb 64 tv L) (k : Kp (fun i => i = s.hb) w w') : Cl w' b s nb D V O := by
  have nb5 : ∀ i, i = s.hb → ∀ c, w.heap[i]? ≠ some (.cells c 5 (0, 0)) := fun i hi c hx => by
    rw [hi, hT.blk] at hx
    simp only [Option.some.injEq, Obj.cells.injEq] at hx
    exact absurd hx.2.1 (by decide)
  exact ⟨h.cb.kp k (fun e => tb_ne hT h.cb (by decide) (show b = s.hb from e).symm), h.am.keep (k.block _ h.am.lt (fun e => tb_nem hT h.am (show s.mb = s.hb from e).symm)), h.v.kp k nb5, h.o.kp k nb5, h.lv, h.lo⟩
theorem Hnt.nu {B : Nat} {w w' : World} {hb : Nat} {L : List Rg.Sg} {lo hi to : Int} (h : Hnt B w hb L lo hi to) (k : Kp Nu w w') : Hnt B w' hb L lo hi to := by
  obtain ⟨tv, L', hT, hf⟩ := h
  exact ⟨tv, L', hT.nu (kpR' k), hf⟩
theorem Hnt.cl {B b nb : Nat} {w w' : World} {s : Cs} {D : DataW Unit} {hb : Nat} {L : List Rg.Sg} {lo hi to : Int} (h : Hnt B w hb L lo hi to) (hc : CB w b s) (hm : Am w s.mb nb D) (k : Kp (fun i => i = b ∨ i = s.mb) w w') : Hnt B w' hb L lo hi to := by
  obtain ⟨tv, L', hT, hf⟩ := h
  exact ⟨tv, L', tb_cl hT hc hm k, hf⟩
end Go.Proofs.YtmlnglillgplfaaGreat.Cl
namespace Go.Proofs.YtmlnglillgplfaaGreat.Cl
open Go.RowKit Go.Maps
set_option linter.unusedVariables false
set_option maxHeartbeats 1000000 in
theorem giveUp_wait {w : World} {b nb : Nat} {s : Cs} {D : DataW Unit} {V O : List Int} (h : Cl w b s nb D V O) (hp : s.ph = 1) : Calls Tryz.prog 21 #[.pointer (some ⟨b, 0, none⟩)] w fun e w' => e = .returned (.int .i64 0) ∧ Cl w' b { s with ph := 3 } nb D V O ∧ Kp (fun i => i = b) w w' := by
  have MA := made_any h.cb
  have WA := waits_yes h.cb hp
  have c11 := h.cb.c_ph
  have f11 := h.cb.free 11
  have HH := hide h
  clear h hp
  go_enter Tryz.func21, Tryz.ntmps21
  go_wp2_with fail
  refine MA.mono ?_; rintro e w' ⟨rfl, hw⟩
  obtain rfl := hw.symm
  clear MA hw
  go_wp2_with fail
  refine WA.mono ?_; rintro e w' ⟨rfl, hw⟩
  obtain rfl := hw.symm
  clear WA hw
  go_wp2
  go_ret
  exact ⟨rfl, HH.out.turn (Kp.setCell _ ⟨b, 11, none⟩ _) (HH.out.cb.s_ph 3) rfl rfl rfl, Kp.setCell _ ⟨b, 11, none⟩ _⟩
/-- what is done with a kind of message -/
def tkr (k : Int) : Value := if k = 6 then .func (.func 93) #[] #[] else if k = 7 then .func (.func 94) #[] #[] else .nilFunc
set_option maxHeartbeats 2000000 in
theorem taker_any (w : World) (k : Int) (k0 : 0 ≤ k) (k1 : k < 256) : Calls Tryz.prog 57 #[.int .u8 k] w fun e w' => e = .returned (tkr k) ∧ Kp Nu w w' := by
  by_cases h8 : k < 8
  · have hc : k = 0 ∨ k = 1 ∨ k = 2 ∨ k = 3 ∨ k = 4 ∨ k = 5 ∨ k = 6 ∨ k = 7 := by omega
    clear k0 k1 h8
    rcases hc with rfl | rfl | rfl | rfl | rfl | rfl | rfl | rfl <;>
    · go_enter Tryz.func57, Tryz.ntmps57
      go_wp2
      go_ret
      exact ⟨rfl, (Kp.alloc w _ Nu)⟩
  · have g8 : k ≥ 8 := by omega
    have hd : decide (k ≥ 8) = true := by simpa using g8
    have ew : IntKind.i64.wrap k = k := by
      simp only [IntKind.wrap, IntKind.signed, IntKind.bits]
      first | omega | (simp; omega)
    have n6 : ¬ k = 6 := by omega
    have n7 : ¬ k = 7 := by omega
    have e : tkr k = .nilFunc := by unfold tkr; rw [if_neg n6, if_neg n7]
    rw [e]
    clear e n6 n7 h8
    go_enter Tryz.func57, Tryz.ntmps57
    go_wp2
    go_ret
    exact ⟨rfl, (Kp.alloc w _ Nu)⟩
theorem fneq93 (w : World) : (binOp .eql 128 (.func (.func 93) #[] #[]) .nilFunc).run Tryz.prog w = .ok (.bool false) w := by kernel_rfl
theorem fneq94' (w : World) : (binOp .eql 128 (.func (.func 94) #[] #[]) .nilFunc).run Tryz.prog w = .ok (.bool false) w := by kernel_rfl
theorem feq (w : World) : (binOp .eql 128 .nilFunc .nilFunc).run Tryz.prog w = .ok (.bool true) w := by kernel_rfl
set_option maxRecDepth 100000 in
set_option maxHeartbeats 2000000 in
theorem stray_kind {w : World} {b : Nat} {s : Cs} (h : CB w b s) (m : Mg) (a : Int) (a0 : 0 ≤ a) (a1 : a < 256) (k0 : 0 ≤ m.k) (k1 : m.k < 256) (n6 : ¬ m.k = 6) (n7 : ¬ m.k = 7) :
    Calls Tryz.prog 20 #[.pointer (some ⟨b, 0, none⟩), .int .u8 a, .agg m.cells] w fun e w' => e = .returned (.tuple #[.slice none 0 0, .int .i64 123]) ∧ Kp Nu w w' := by
  have mixed : Tryz.prog.follows .mixedOrders = true := by kernel_rfl
  have q1 := fneq93
  have q2 := fneq94'
  have q3 := feq
  have TK := fun W => taker_any W m.k k0 k1
  obtain ⟨k, seq, key, hi, ⟨va, vn, vc⟩, ⟨oa, on, oc⟩, has, of, st, host, gr, bo, ma, li, ⟨paa, pan, pac⟩, ⟨sea, sen, sec⟩, ⟨pya, pyn, pyc⟩⟩ := m
  simp only [Mg.cells, Sl.val] at *
  obtain ⟨wa, hwa⟩ : ∃ wa, w.alloc (.cells #[.int .u8 k, .int .u64 seq, .int .u64 key, .int .u64 hi, .slice va vn vc, .slice oa on oc, .bool has, .int .u8 of, .int .u8 st, .int .u8 host, .int .u32 gr, .int .u32 bo, .int .u64 ma, .int .u8 li, .slice paa pan pac, .slice sea sen sec, .slice pya pyn pyc] 36) = wa := ⟨_, rfl⟩
  have ka : Kp Nu w wa := by rw [← hwa]; exact Kp.alloc _ _ _
  have hbx : wa.heap[w.heap.size]? = some (.cells #[.int .u8 k, .int .u64 seq, .int .u64 key, .int .u64 hi, .slice va vn vc, .slice oa on oc, .bool has, .int .u8 of, .int .u8 st, .int .u8 host, .int .u32 gr, .int .u32 bo, .int .u64 ma, .int .u8 li, .slice paa pan pac, .slice sea sen sec, .slice pya pyn pyc] 36 (0, 0)) := by rw [← hwa]; exact heap_new w _
  have MA := made_any (h.nu ka)
  have x0 := cellAt hbx 0 (v := .int .u8 k) rfl
  have et : tkr k = .nilFunc := by unfold tkr; rw [if_neg n6, if_neg n7]
  rw [et] at TK
  have HA := hide (And.intro ka (And.intro hbx h))
  clear ka hbx n6 n7 et h k0 k1
  go_enter Tryz.func20, Tryz.ntmps20
  go_wp2_with fail
  refine MA.mono ?_; rintro e w' ⟨rfl, hw⟩
  obtain rfl := hw.symm
  clear MA hw
  go_wp2_with fail
  refine (TK _).mono ?_; rintro e wb ⟨rfl, kb⟩
  clear TK x0
  have HK := hide (HA.out.1.andNu kb)
  clear kb HA
  go_wp2_with fail
  go_quiet (fail)
  go_wp2
  go_ret2
  exact ⟨rfl, HK.out.andNu (kp_drewN _ _)⟩
set_option maxRecDepth 100000 in
set_option maxHeartbeats 2000000 in
theorem stray_idle6 {w : World} {b : Nat} {s : Cs} (h : CB w b s) (m : Mg) (a : Int) (a0 : 0 ≤ a) (a1 : a < 256) (k0 : 0 ≤ m.k) (k1 : m.k < 256) (hk : m.k = 6) (hp : ¬ s.ph = 1) :
    Calls Tryz.prog 20 #[.pointer (some ⟨b, 0, none⟩), .int .u8 a, .agg m.cells] w fun e w' => e = .returned (.tuple #[.slice none 0 0, .int .i64 123]) ∧ Kp Nu w w' := by
  have mixed : Tryz.prog.follows .mixedOrders = true := by kernel_rfl
  have q1 := fneq93
  have q2 := fneq94'
  have q3 := feq
  have TK := fun W => taker_any W m.k k0 k1
  obtain ⟨k, seq, key, hi, ⟨va, vn, vc⟩, ⟨oa, on, oc⟩, has, of, st, host, gr, bo, ma, li, ⟨paa, pan, pac⟩, ⟨sea, sen, sec⟩, ⟨pya, pyn, pyc⟩⟩ := m
  simp only [Mg.cells, Sl.val] at *
  obtain ⟨wa, hwa⟩ : ∃ wa, w.alloc (.cells #[.int .u8 k, .int .u64 seq, .int .u64 key, .int .u64 hi, .slice va vn vc, .slice oa on oc, .bool has, .int .u8 of, .int .u8 st, .int .u8 host, .int .u32 gr, .int .u32 bo, .int .u64 ma, .int .u8 li, .slice paa pan pac, .slice sea sen sec, .slice pya pyn pyc] 36) = wa := ⟨_, rfl⟩
  have ka : Kp Nu w wa := by rw [← hwa]; exact Kp.alloc _ _ _
  have hbx : wa.heap[w.heap.size]? = some (.cells #[.int .u8 k, .int .u64 seq, .int .u64 key, .int .u64 hi, .slice va vn vc, .slice oa on oc, .bool has, .int .u8 of, .int .u8 st, .int .u8 host, .int .u32 gr, .int .u32 bo, .int .u64 ma, .int .u8 li, .slice paa pan pac, .slice sea sen sec, .slice pya pyn pyc] 36 (0, 0)) := by rw [← hwa]; exact heap_new w _
  have MA := made_any (h.nu ka)
  have x0 := cellAt hbx 0 (v := .int .u8 k) rfl
  obtain rfl : k = 6 := hk
  rw [show tkr 6 = .func (.func 93) #[] #[] from rfl] at TK
  have HA := hide (And.intro ka (And.intro hbx h))
  clear ka hbx h k0 k1
  go_enter Tryz.func20, Tryz.ntmps20
  go_wp2_with fail
  refine MA.mono ?_; rintro e w' ⟨rfl, hw⟩
  obtain rfl := hw.symm
  clear MA hw
  go_wp2_with fail
  refine (TK _).mono ?_; rintro e wb ⟨rfl, kb⟩
  clear TK x0
  have WA := fun n => waits_no ((HA.out.2.2.nu HA.out.1).nu (kb.andNu (kp_drewN wb n))) hp
  have HK := hide (HA.out.1.andNu kb)
  clear kb HA
  go_wp2_with fail
  go_quiet ((first | (go_at_call 48; exact Calls.quiet_of_same (WA _))))
  go_wp2
  go_ret2
  exact ⟨rfl, HK.out.andNu (kp_drewN _ _)⟩
set_option maxRecDepth 100000 in
set_option maxHeartbeats 2000000 in
theorem stray_host6 {w : World} {b : Nat} {s : Cs} (h : CB w b s) (m : Mg) (a : Int) (a0 : 0 ≤ a) (a1 : a < 256) (k0 : 0 ≤ m.k) (k1 : m.k < 256) (hk : m.k = 6) (hp : s.ph = 1) (hh : ¬ a < s.hosts) :
    Calls Tryz.prog 20 #[.pointer (some ⟨b, 0, none⟩), .int .u8 a, .agg m.cells] w fun e w' => e = .returned (.tuple #[.slice none 0 0, .int .i64 123]) ∧ Kp Nu w w' := by
  have mixed : Tryz.prog.follows .mixedOrders = true := by kernel_rfl
  have q1 := fneq93
  have q2 := fneq94'
  have q3 := feq
  have TK := fun W => taker_any W m.k k0 k1
  obtain ⟨k, seq, key, hi, ⟨va, vn, vc⟩, ⟨oa, on, oc⟩, has, of, st, host, gr, bo, ma, li, ⟨paa, pan, pac⟩, ⟨sea, sen, sec⟩, ⟨pya, pyn, pyc⟩⟩ := m
  simp only [Mg.cells, Sl.val] at *
  obtain ⟨wa, hwa⟩ : ∃ wa, w.alloc (.cells #[.int .u8 k, .int .u64 seq, .int .u64 key, .int .u64 hi, .slice va vn vc, .slice oa on oc, .bool has, .int .u8 of, .int .u8 st, .int .u8 host, .int .u32 gr, .int .u32 bo, .int .u64 ma, .int .u8 li, .slice paa pan pac, .slice sea sen sec, .slice pya pyn pyc] 36) = wa := ⟨_, rfl⟩
  have ka : Kp Nu w wa := by rw [← hwa]; exact Kp.alloc _ _ _
  have hbx : wa.heap[w.heap.size]? = some (.cells #[.int .u8 k, .int .u64 seq, .int .u64 key, .int .u64 hi, .slice va vn vc, .slice oa on oc, .bool has, .int .u8 of, .int .u8 st, .int .u8 host, .int .u32 gr, .int .u32 bo, .int .u64 ma, .int .u8 li, .slice paa pan pac, .slice sea sen sec, .slice pya pyn pyc] 36 (0, 0)) := by rw [← hwa]; exact heap_new w _
  have MA := made_any (h.nu ka)
  have x0 := cellAt hbx 0 (v := .int .u8 k) rfl
  obtain rfl : k = 6 := hk
  rw [show tkr 6 = .func (.func 93) #[] #[] from rfl] at TK
  have HA := hide (And.intro ka (And.intro hbx h))
  clear ka hbx h k0 k1
  go_enter Tryz.func20, Tryz.ntmps20
  go_wp2_with fail
  refine MA.mono ?_; rintro e w' ⟨rfl, hw⟩
  obtain rfl := hw.symm
  clear MA hw
  go_wp2_with fail
  refine (TK _).mono ?_; rintro e wb ⟨rfl, kb⟩
  clear TK x0
  have WA := fun n => waits_yes ((HA.out.2.2.nu HA.out.1).nu (kb.andNu (kp_drewN wb n))) hp
  have IH := fun n => isHost_any ((HA.out.2.2.nu HA.out.1).nu (kb.andNu (kp_drewN wb n))) a a0 a1
  have hd : decide (a < s.hosts) = false := by simpa using hh
  rw [hd] at IH
  clear hd hh hp
  have HK := hide (HA.out.1.andNu kb)
  clear kb HA
  go_wp2_with fail
  go_quiet ((first | (go_at_call 48; exact Calls.quiet_of_same (WA _)) | (go_at_call 58; exact Calls.quiet_of_same (IH _))))
  go_wp2
  go_ret2
  exact ⟨rfl, HK.out.andNu (kp_drewN _ _)⟩
set_option maxRecDepth 100000 in
set_option maxHeartbeats 2000000 in
theorem stray_seq6 {w : World} {b : Nat} {s : Cs} (h : CB w b s) (m : Mg) (a : Int) (a0 : 0 ≤ a) (a1 : a < 256) (k0 : 0 ≤ m.k) (k1 : m.k < 256) (hk : m.k = 6) (hp : s.ph = 1) (hh : a < s.hosts) (hs : ¬ m.seq = s.seq) :
    Calls Tryz.prog 20 #[.pointer (some ⟨b, 0, none⟩), .int .u8 a, .agg m.cells] w fun e w' => e = .returned (.tuple #[.slice none 0 0, .int .i64 123]) ∧ Kp Nu w w' := by
  have mixed : Tryz.prog.follows .mixedOrders = true := by kernel_rfl
  have q1 := fneq93
  have q2 := fneq94'
  have q3 := feq
  have TK := fun W => taker_any W m.k k0 k1
  obtain ⟨k, seq, key, hi, ⟨va, vn, vc⟩, ⟨oa, on, oc⟩, has, of, st, host, gr, bo, ma, li, ⟨paa, pan, pac⟩, ⟨sea, sen, sec⟩, ⟨pya, pyn, pyc⟩⟩ := m
  simp only [Mg.cells, Sl.val] at *
  obtain ⟨wa, hwa⟩ : ∃ wa, w.alloc (.cells #[.int .u8 k, .int .u64 seq, .int .u64 key, .int .u64 hi, .slice va vn vc, .slice oa on oc, .bool has, .int .u8 of, .int .u8 st, .int .u8 host, .int .u32 gr, .int .u32 bo, .int .u64 ma, .int .u8 li, .slice paa pan pac, .slice sea sen sec, .slice pya pyn pyc] 36) = wa := ⟨_, rfl⟩
  have ka : Kp Nu w wa := by rw [← hwa]; exact Kp.alloc _ _ _
  have hbx : wa.heap[w.heap.size]? = some (.cells #[.int .u8 k, .int .u64 seq, .int .u64 key, .int .u64 hi, .slice va vn vc, .slice oa on oc, .bool has, .int .u8 of, .int .u8 st, .int .u8 host, .int .u32 gr, .int .u32 bo, .int .u64 ma, .int .u8 li, .slice paa pan pac, .slice sea sen sec, .slice pya pyn pyc] 36 (0, 0)) := by rw [← hwa]; exact heap_new w _
  have MA := made_any (h.nu ka)
  have x0 := cellAt hbx 0 (v := .int .u8 k) rfl
  obtain rfl : k = 6 := hk
  rw [show tkr 6 = .func (.func 93) #[] #[] from rfl] at TK
  have HA := hide (And.intro ka (And.intro hbx h))
  clear ka hbx h k0 k1
  go_enter Tryz.func20, Tryz.ntmps20
  go_wp2_with fail
  refine MA.mono ?_; rintro e w' ⟨rfl, hw⟩
  obtain rfl := hw.symm
  clear MA hw
  go_wp2_with fail
  refine (TK _).mono ?_; rintro e wb ⟨rfl, kb⟩
  clear TK x0
  have WA := fun n => waits_yes ((HA.out.2.2.nu HA.out.1).nu (kb.andNu (kp_drewN wb n))) hp
  have IH := fun n => isHost_any ((HA.out.2.2.nu HA.out.1).nu (kb.andNu (kp_drewN wb n))) a a0 a1
  have hd : decide (a < s.hosts) = true := by simpa using hh
  rw [hd] at IH
  have c12 := ((HA.out.2.2.nu HA.out.1).nu kb).c_seq
  have x1 := cellAt (box_k HA.out.2.1 kb) 1 (v := .int .u64 seq) rfl
  have hq : (seq == s.seq) = false := by simpa using hs
  have hq2 : decide (seq = s.seq) = false := by simpa using hs
  have hq3 : (seq != s.seq) = true := by simpa using hs
  clear hd hh hp
  have HK := hide (HA.out.1.andNu kb)
  clear kb HA
  go_wp2_with fail
  go_quiet ((first | (go_at_call 48; exact Calls.quiet_of_same (WA _)) | (go_at_call 58; exact Calls.quiet_of_same (IH _))))
  go_wp2
  go_ret2
  exact ⟨rfl, HK.out.andNu (kp_drewN _ _)⟩
set_option maxRecDepth 100000 in
set_option maxHeartbeats 2000000 in
theorem stray_idle7 {w : World} {b : Nat} {s : Cs} (h : CB w b s) (m : Mg) (a : Int) (a0 : 0 ≤ a) (a1 : a < 256) (k0 : 0 ≤ m.k) (k1 : m.k < 256) (hk : m.k = 7) (hp : ¬ s.ph = 1) :
    Calls Tryz.prog 20 #[.pointer (some ⟨b, 0, none⟩), .int .u8 a, .agg m.cells] w fun e w' => e = .returned (.tuple #[.slice none 0 0, .int .i64 123]) ∧ Kp Nu w w' := by
  have mixed : Tryz.prog.follows .mixedOrders = true := by kernel_rfl
  have q1 := fneq93
  have q2 := fneq94'
  have q3 := feq
  have TK := fun W => taker_any W m.k k0 k1
  obtain ⟨k, seq, key, hi, ⟨va, vn, vc⟩, ⟨oa, on, oc⟩, has, of, st, host, gr, bo, ma, li, ⟨paa, pan, pac⟩, ⟨sea, sen, sec⟩, ⟨pya, pyn, pyc⟩⟩ := m
  simp only [Mg.cells, Sl.val] at *
  obtain ⟨wa, hwa⟩ : ∃ wa, w.alloc (.cells #[.int .u8 k, .int .u64 seq, .int .u64 key, .int .u64 hi, .slice va vn vc, .slice oa on oc, .bool has, .int .u8 of, .int .u8 st, .int .u8 host, .int .u32 gr, .int .u32 bo, .int .u64 ma, .int .u8 li, .slice paa pan pac, .slice sea sen sec, .slice pya pyn pyc] 36) = wa := ⟨_, rfl⟩
  have ka : Kp Nu w wa := by rw [← hwa]; exact Kp.alloc _ _ _
  have hbx : wa.heap[w.heap.size]? = some (.cells #[.int .u8 k, .int .u64 seq, .int .u64 key, .int .u64 hi, .slice va vn vc, .slice oa on oc, .bool has, .int .u8 of, .int .u8 st, .int .u8 host, .int .u32 gr, .int .u32 bo, .int .u64 ma, .int .u8 li, .slice paa pan pac, .slice sea sen sec, .slice pya pyn pyc] 36 (0, 0)) := by rw [← hwa]; exact heap_new w _
  have MA := made_any (h.nu ka)
  have x0 := cellAt hbx 0 (v := .int .u8 k) rfl
  obtain rfl : k = 7 := hk
  rw [show tkr 7 = .func (.func 94) #[] #[] from rfl] at TK
  have HA := hide (And.intro ka (And.intro hbx h))
  clear ka hbx h k0 k1
  go_enter Tryz.func20, Tryz.ntmps20
  go_wp2_with fail
  refine MA.mono ?_; rintro e w' ⟨rfl, hw⟩
  obtain rfl := hw.symm
  clear MA hw
  go_wp2_with fail
  refine (TK _).mono ?_; rintro e wb ⟨rfl, kb⟩
  clear TK x0
  have WA := fun n => waits_no ((HA.out.2.2.nu HA.out.1).nu (kb.andNu (kp_drewN wb n))) hp
  have HK := hide (HA.out.1.andNu kb)
  clear kb HA
  go_wp2_with fail
  go_quiet ((first | (go_at_call 48; exact Calls.quiet_of_same (WA _))))
  go_wp2
  go_ret2
  exact ⟨rfl, HK.out.andNu (kp_drewN _ _)⟩
set_option maxRecDepth 100000 in
set_option maxHeartbeats 2000000 in
theorem stray_host7 {w : World} {b : Nat} {s : Cs} (h : CB w b s) (m : Mg) (a : Int) (a0 : 0 ≤ a) (a1 : a < 256) (k0 : 0 ≤ m.k) (k1 : m.k < 256) (hk : m.k = 7) (hp : s.ph = 1) (hh : ¬ a < s.hosts) :
    Calls Tryz.prog 20 #[.pointer (some ⟨b, 0, none⟩), .int .u8 a, .agg m.cells] w fun e w' => e = .returned (.tuple #[.slice none 0 0, .int .i64 123]) ∧ Kp Nu w w' := by
  have mixed : Tryz.prog.follows .mixedOrders = true := by kernel_rfl
  have q1 := fneq93
  have q2 := fneq94'
  have q3 := feq
  have TK := fun W => taker_any W m.k k0 k1
  obtain ⟨k, seq, key, hi, ⟨va, vn, vc⟩, ⟨oa, on, oc⟩, has, of, st, host, gr, bo, ma, li, ⟨paa, pan, pac⟩, ⟨sea, sen, sec⟩, ⟨pya, pyn, pyc⟩⟩ := m
  simp only [Mg.cells, Sl.val] at *
  obtain ⟨wa, hwa⟩ : ∃ wa, w.alloc (.cells #[.int .u8 k, .int .u64 seq, .int .u64 key, .int .u64 hi, .slice va vn vc, .slice oa on oc, .bool has, .int .u8 of, .int .u8 st, .int .u8 host, .int .u32 gr, .int .u32 bo, .int .u64 ma, .int .u8 li, .slice paa pan pac, .slice sea sen sec, .slice pya pyn pyc] 36) = wa := ⟨_, rfl⟩
  have ka : Kp Nu w wa := by rw [← hwa]; exact Kp.alloc _ _ _
  have hbx : wa.heap[w.heap.size]? = some (.cells #[.int .u8 k, .int .u64 seq, .int .u64 key, .int .u64 hi, .slice va vn vc, .slice oa on oc, .bool has, .int .u8 of, .int .u8 st, .int .u8 host, .int .u32 gr, .int .u32 bo, .int .u64 ma, .int .u8 li, .slice paa pan pac, .slice sea sen sec, .slice pya pyn pyc] 36 (0, 0)) := by rw [← hwa]; exact heap_new w _
  have MA := made_any (h.nu ka)
  have x0 := cellAt hbx 0 (v := .int .u8 k) rfl
  obtain rfl : k = 7 := hk
  rw [show tkr 7 = .func (.func 94) #[] #[] from rfl] at TK
  have HA := hide (And.intro ka (And.intro hbx h))
  clear ka hbx h k0 k1
  go_enter Tryz.func20, Tryz.ntmps20
  go_wp2_with fail
  refine MA.mono ?_; rintro e w' ⟨rfl, hw⟩
  obtain rfl := hw.symm
  clear MA hw
  go_wp2_with fail
  refine (TK _).mono ?_; rintro e wb ⟨rfl, kb⟩
  clear TK x0
  have WA := fun n => waits_yes ((HA.out.2.2.nu HA.out.1).nu (kb.andNu (kp_drewN wb n))) hp
  have IH := fun n => isHost_any ((HA.out.2.2.nu HA.out.1).nu (kb.andNu (kp_drewN wb n))) a a0 a1
  have hd : decide (a < s.hosts) = false := by simpa using hh
  rw [hd] at IH
  clear hd hh hp
  have HK := hide (HA.out.1.andNu kb)
  clear kb HA
  go_wp2_with fail
  go_quiet ((first | (go_at_call 48; exact Calls.quiet_of_same (WA _)) | (go_at_call 58; exact Calls.quiet_of_same (IH _))))
  go_wp2
  go_ret2
  exact ⟨rfl, HK.out.andNu (kp_drewN _ _)⟩
set_option maxRecDepth 100000 in
set_option maxHeartbeats 2000000 in
theorem stray_seq7 {w : World} {b : Nat} {s : Cs} (h : CB w b s) (m : Mg) (a : Int) (a0 : 0 ≤ a) (a1 : a < 256) (k0 : 0 ≤ m.k) (k1 : m.k < 256) (hk : m.k = 7) (hp : s.ph = 1) (hh : a < s.hosts) (hs : ¬ m.seq = s.seq) :
    Calls Tryz.prog 20 #[.pointer (some ⟨b, 0, none⟩), .int .u8 a, .agg m.cells] w fun e w' => e = .returned (.tuple #[.slice none 0 0, .int .i64 123]) ∧ Kp Nu w w' := by
  have mixed : Tryz.prog.follows .mixedOrders = true := by kernel_rfl
  have q1 := fneq93
  have q2 := fneq94'
  have q3 := feq
  have TK := fun W => taker_any W m.k k0 k1
  obtain ⟨k, seq, key, hi, ⟨va, vn, vc⟩, ⟨oa, on, oc⟩, has, of, st, host, gr, bo, ma, li, ⟨paa, pan, pac⟩, ⟨sea, sen, sec⟩, ⟨pya, pyn, pyc⟩⟩ := m
  simp only [Mg.cells, Sl.val] at *
  obtain ⟨wa, hwa⟩ : ∃ wa, w.alloc (.cells #[.int .u8 k, .int .u64 seq, .int .u64 key, .int .u64 hi, .slice va vn vc, .slice oa on oc, .bool has, .int .u8 of, .int .u8 st, .int .u8 host, .int .u32 gr, .int .u32 bo, .int .u64 ma, .int .u8 li, .slice paa pan pac, .slice sea sen sec, .slice pya pyn pyc] 36) = wa := ⟨_, rfl⟩
  have ka : Kp Nu w wa := by rw [← hwa]; exact Kp.alloc _ _ _
  have hbx : wa.heap[w.heap.size]? = some (.cells #[.int .u8 k, .int .u64 seq, .int .u64 key, .int .u64 hi, .slice va vn vc, .slice oa on oc, .bool has, .int .u8 of, .int .u8 st, .int .u8 host, .int .u32 gr, .int .u32 bo, .int .u64 ma, .int .u8 li, .slice paa pan pac, .slice sea sen sec, .slice pya pyn pyc] 36 (0, 0)) := by rw [← hwa]; exact heap_new w _
  have MA := made_any (h.nu ka)
  have x0 := cellAt hbx 0 (v := .int .u8 k) rfl
  obtain rfl : k = 7 := hk
  rw [show tkr 7 = .func (.func 94) #[] #[] from rfl] at TK
  have HA := hide (And.intro ka (And.intro hbx h))
  clear ka hbx h k0 k1
  go_enter Tryz.func20, Tryz.ntmps20
  go_wp2_with fail
  refine MA.mono ?_; rintro e w' ⟨rfl, hw⟩
  obtain rfl := hw.symm
  clear MA hw
  go_wp2_with fail
  refine (TK _).mono ?_; rintro e wb ⟨rfl, kb⟩
  clear TK x0
  have WA := fun n => waits_yes ((HA.out.2.2.nu HA.out.1).nu (kb.andNu (kp_drewN wb n))) hp
  have IH := fun n => isHost_any ((HA.out.2.2.nu HA.out.1).nu (kb.andNu (kp_drewN wb n))) a a0 a1
  have hd : decide (a < s.hosts) = true := by simpa using hh
  rw [hd] at IH
  have c12 := ((HA.out.2.2.nu HA.out.1).nu kb).c_seq
  have x1 := cellAt (box_k HA.out.2.1 kb) 1 (v := .int .u64 seq) rfl
  have hq : (seq == s.seq) = false := by simpa using hs
  have hq2 : decide (seq = s.seq) = false := by simpa using hs
  have hq3 : (seq != s.seq) = true := by simpa using hs
  clear hd hh hp
  have HK := hide (HA.out.1.andNu kb)
  clear kb HA
  go_wp2_with fail
  go_quiet ((first | (go_at_call 48; exact Calls.quiet_of_same (WA _)) | (go_at_call 58; exact Calls.quiet_of_same (IH _))))
  go_wp2
  go_ret2
  exact ⟨rfl, HK.out.andNu (kp_drewN _ _)⟩
/-- a message that answers nothing that is under way -/
theorem take_stray {w : World} {b : Nat} {s : Cs} (h : CB w b s) (m : Mg) (a : Int) (a0 : 0 ≤ a) (a1 : a < 256) (k0 : 0 ≤ m.k) (k1 : m.k < 256) (hs : (¬ m.k = 6 ∧ ¬ m.k = 7) ∨ ¬ s.ph = 1 ∨ ¬ a < s.hosts ∨ ¬ m.seq = s.seq) :
    Calls Tryz.prog 20 #[.pointer (some ⟨b, 0, none⟩), .int .u8 a, .agg m.cells] w fun e w' => e = .returned (.tuple #[.slice none 0 0, .int .i64 123]) ∧ Kp Nu w w' := by
  by_cases h6 : m.k = 6
  · by_cases hp : s.ph = 1
    · by_cases hh : a < s.hosts
      · exact stray_seq6 h m a a0 a1 k0 k1 h6 hp hh (hs.elim (fun q => absurd h6 q.1) (fun q => q.elim (fun q => absurd hp q) (fun q => q.elim (fun q => absurd hh q) id)))
      · exact stray_host6 h m a a0 a1 k0 k1 h6 hp hh
    · exact stray_idle6 h m a a0 a1 k0 k1 h6 hp
  · by_cases h7 : m.k = 7
    · by_cases hp : s.ph = 1
      · by_cases hh : a < s.hosts
        · exact stray_seq7 h m a a0 a1 k0 k1 h7 hp hh (hs.elim (fun q => absurd h7 q.2) (fun q => q.elim (fun q => absurd hp q) (fun q => q.elim (fun q => absurd hh q) id)))
        · exact stray_host7 h m a a0 a1 k0 k1 h7 hp hh
      · exact stray_idle7 h m a a0 a1 k0 k1 h7 hp
    · exact stray_kind h m a a0 a1 k0 k1 h6 h7
end Go.Proofs.YtmlnglillgplfaaGreat.Cl
namespace Go.Proofs.YtmlnglillgplfaaGreat.Cl
open Go.RowKit Go.Maps
set_option linter.unusedVariables false
theorem index_none (w : World) (f : Value) (n : Nat) (fs : Fn) (cap : Array Value) (hf : f = .func fs #[] cap) : Calls Tryz.prog 139 #[.slice none 0 0, f] w fun e w' => e = .returned (.int .i64 (-1)) ∧ w' = w := by
  subst hf
  go_enter Tryz.func139, Tryz.ntmps139
  go_wp2
  go_loopw [8] (fun i wr => i = .int .i64 0 ∧ wr = w) (fun _ _ => 0)
  case atStart => exact ⟨rfl, rfl⟩
  case round =>
    obtain ⟨rfl, rfl⟩ := hrel
    go_wp2
    go_ret
    exact ⟨rfl, rfl⟩
theorem contains_none (w : World) (fs : Fn) (cap : Array Value) : Calls Tryz.prog 128 #[.slice none 0 0, .func fs #[] cap] w fun e w' => e = .returned (.bool false) ∧ w' = w := by
  have IN := index_none w _ 0 fs cap rfl
  go_enter Tryz.func128, Tryz.ntmps128
  go_wp2_with fail
  refine IN.mono ?_; rintro e w' ⟨rfl, hw⟩
  obtain rfl := hw.symm
  clear IN hw
  go_wp2
  go_ret
  exact ⟨rfl, rfl⟩
set_option maxRecDepth 100000 in
set_option maxHeartbeats 2000000 in
theorem answersScan_ok (w : World) (k key hi lim seq yh of st : Int) (va oa : Option Addr) (vn vc on oc : Nat) (has : Bool) (h1 : key ≤ yh) (h2 : yh ≤ hi) (l0 : 0 ≤ lim) (l1 : lim < 256) :
    Calls Tryz.prog 118 #[.agg #[.int .u8 k, .int .u64 key, .int .u64 hi, .slice va vn vc, .slice oa on oc, .bool has, .int .u8 lim], .agg #[.int .u8 6, .int .u64 seq, .int .u64 0, .int .u64 yh, .slice none 0 0, .slice none 0 0, .bool false, .int .u8 of, .int .u8 st, .int .u8 0, .int .u32 0, .int .u32 0, .int .u64 0, .int .u8 0, .slice none 0 0, .slice none 0 0, .slice none 0 0]] w fun e w' => e = .returned (.bool true) ∧ Kp Nu w w' := by
  have CN := contains_none
  have n1 : ¬ yh < key := by omega
  have n2 : ¬ yh > hi := by omega
  have n3 : ¬ (0 : Int) > lim := by omega
  have ew : IntKind.i64.wrap lim = lim := by
    simp only [IntKind.wrap, IntKind.signed, IntKind.bits]
    first | omega | (simp; omega)
  clear h1 h2 l0 l1
  go_enter Tryz.func118, Tryz.ntmps118
  go_wp2_with fail
  refine (CN _ _ _).mono ?_; rintro e w' ⟨rfl, hw⟩
  obtain rfl := hw.symm
  clear CN hw
  go_wp2
  go_ret
  exact ⟨rfl, (Kp.alloc _ _ _).andAlloc _⟩
theorem CB.s_st {w : World} {b : Nat} {s : Cs} (h : CB w b s) (x : Int) : CB (w.setCell ⟨b, 13, none⟩ (.int .u8 x)) b { s with st := x } := (set3 h 13 _).trans rfl
theorem CB.s_ov {w : World} {b : Nat} {s : Cs} (h : CB w b s) : CB (w.setCell ⟨b, 14, none⟩ (.slice none 0 0)) b { s with ov := Sl.nil } := (set3 h 14 _).trans rfl
theorem CB.s_op {w : World} {b : Nat} {s : Cs} (h : CB w b s) : CB (w.setCell ⟨b, 15, none⟩ (.slice none 0 0)) b { s with op := Sl.nil } := (set3 h 15 _).trans rfl
theorem CB.s_ohi {w : World} {b : Nat} {s : Cs} (h : CB w b s) (x : Int) : CB (w.setCell ⟨b, 16, none⟩ (.int .u64 x)) b { s with ohi := x } := (set3 h 16 _).trans rfl
/-- the client that is answered -/
def Cs.don (s : Cs) (fr st yh : Int) : Cs := { s with ph := 2, host := fr, st := st, ov := Sl.nil, op := Sl.nil, ohi := yh }
set_option maxRecDepth 100000 in
set_option maxHeartbeats 4000000 in
/-- what takeReply writes -/
theorem reply_tail {w : World} {b : Nat} {s : Cs} (h : CB w b s) (fr st yh : Int) : CB ((((((w.setCell ⟨b, 11, none⟩ (.int .u8 2)).setCell ⟨b, 17, none⟩ (.int .u8 fr)).setCell ⟨b, 13, none⟩ (.int .u8 st)).setCell ⟨b, 14, none⟩ (.slice none 0 0)).setCell ⟨b, 15, none⟩ (.slice none 0 0)).setCell ⟨b, 16, none⟩ (.int .u64 yh)) b (s.don fr st yh) :=
  (((((h.s_ph 2).s_host fr).s_st st).s_ov).s_op).s_ohi yh
end Go.Proofs.YtmlnglillgplfaaGreat.Cl
namespace Go.Proofs.YtmlnglillgplfaaGreat.Cl
open Go.RowKit Go.Maps
set_option linter.unusedVariables false
set_option maxRecDepth 100000 in
set_option maxHeartbeats 4000000 in
theorem takeReply_other {w : World} {b : Nat} {s : Cs} (h : CB w b s) (fr seq of st yh : Int) (hof : s.rk = of) (n5 : ¬ of = 5) :
    Calls Tryz.prog 93 #[.pointer (some ⟨b, 0, none⟩), .int .u8 fr, .agg #[.int .u8 6, .int .u64 seq, .int .u64 0, .int .u64 yh, .slice none 0 0, .slice none 0 0, .bool false, .int .u8 of, .int .u8 st, .int .u8 0, .int .u32 0, .int .u32 0, .int .u64 0, .int .u8 0, .slice none 0 0, .slice none 0 0, .slice none 0 0]] w fun e w' => e = .returned (.tuple #[.slice none 0 0, .int .i64 0]) ∧ CB w' b (s.don fr st yh) ∧ Kp (fun i => i = b) w w' := by
  have mixed : Tryz.prog.follows .mixedOrders = true := by kernel_rfl
  have CN := clone_nil
  have CP := copyPairs_nil
  obtain ⟨wa, hwa⟩ : ∃ wa, w.alloc (.cells #[.int .u8 6, .int .u64 seq, .int .u64 0, .int .u64 yh, .slice none 0 0, .slice none 0 0, .bool false, .int .u8 of, .int .u8 st, .int .u8 0, .int .u32 0, .int .u32 0, .int .u64 0, .int .u8 0, .slice none 0 0, .slice none 0 0, .slice none 0 0] 36) = wa := ⟨_, rfl⟩
  have ka : Kp Nu w wa := by rw [← hwa]; exact Kp.alloc _ _ _
  have hbx : wa.heap[w.heap.size]? = some (.cells #[.int .u8 6, .int .u64 seq, .int .u64 0, .int .u64 yh, .slice none 0 0, .slice none 0 0, .bool false, .int .u8 of, .int .u8 st, .int .u8 0, .int .u32 0, .int .u32 0, .int .u64 0, .int .u8 0, .slice none 0 0, .slice none 0 0, .slice none 0 0] 36 (0, 0)) := by rw [← hwa]; exact heap_new w _
  have hca := h.nu ka
  have c4 := hca.c_rk
  rw [hof] at c4
  have x7 := cellAt hbx 7 (v := .int .u8 of) rfl
  have hq5 : (of == 5) = false := by simpa using n5
  have hd5 : decide (of = 5) = false := by simpa using n5
  have hne : b ≠ w.heap.size := fun e => by have := h.lt; omega
  have hne' : w.heap.size ≠ b := fun e => hne e.symm
  have HX0 := hide hbx
  have HC0 := hide hca
  have HK0 := hide ka
  clear h hca hbx ka hof
  go_enter Tryz.func93, Tryz.ntmps93
  go_wp2_with fail
  go_quiet (fail)
  rename_i nq
  have hkq := kp_drewN wa nq
  have HX := hide (box_k HX0.out hkq)
  have HC := hide (HC0.out.nu hkq)
  have HK := hide (HK0.out.andNu hkq)
  generalize wa.drewN nq = w3 at HX HC HK ⊢
  clear hkq HX0 HC0 HK0 c4 x7 hq5 hd5 n5 hwa
  have c11 := HC.out.c_ph
  have c17 := HC.out.c_host
  have c13 := HC.out.c_st
  have c14 := HC.out.c_ov
  have c15 := HC.out.c_op
  have c16 := HC.out.c_ohi
  have f11 := HC.out.free 11
  have f17 := HC.out.free 17
  have f13 := HC.out.free 13
  have f14 := HC.out.free 14
  have f15 := HC.out.free 15
  have f16 := HC.out.free 16
  have x3 := cellAt HX.out 3 (v := .int .u64 yh) rfl
  have x4 := cellAt HX.out 4 (v := .slice none 0 0) rfl
  have x8 := cellAt HX.out 8 (v := .int .u8 st) rfl
  have x14 := cellAt HX.out 14 (v := .slice none 0 0) rfl
  go_wp2_with fail
  refine (CN _).mono ?_; rintro e w' ⟨rfl, hw⟩
  obtain rfl := hw.symm
  clear CN hw
  go_wp2_with fail
  refine (CP _).mono ?_; rintro e w' ⟨rfl, hw⟩
  obtain rfl := hw.symm
  clear CP hw
  go_wp2
  go_ret2
  have r := reply_tail HC.out fr st yh
  refine ⟨rfl, r, ?_⟩
  have k3 : Kp (fun i => i = b) w w3 := HK.out.mono (fun _ _ h => h.elim)
  exact (((((k3.andSet _ _ (.inr rfl)).andSet _ _ (.inr rfl)).andSet _ _ (.inr rfl)).andSet _ _ (.inr rfl)).andSet _ _ (.inr rfl)).andSet _ _ (.inr rfl)
set_option maxRecDepth 100000 in
set_option maxHeartbeats 4000000 in
theorem takeReply_scan {w : World} {b : Nat} {s : Cs} (h : CB w b s) (fr seq of st yh : Int) (hof : s.rk = of) (n5 : of = 5) (h1 : s.rkey ≤ yh) (h2 : yh ≤ s.rhi) (l0 : 0 ≤ s.rlim) (l1 : s.rlim < 256) :
    Calls Tryz.prog 93 #[.pointer (some ⟨b, 0, none⟩), .int .u8 fr, .agg #[.int .u8 6, .int .u64 seq, .int .u64 0, .int .u64 yh, .slice none 0 0, .slice none 0 0, .bool false, .int .u8 of, .int .u8 st, .int .u8 0, .int .u32 0, .int .u32 0, .int .u64 0, .int .u8 0, .slice none 0 0, .slice none 0 0, .slice none 0 0]] w fun e w' => e = .returned (.tuple #[.slice none 0 0, .int .i64 0]) ∧ CB w' b (s.don fr st yh) ∧ Kp (fun i => i = b) w w' := by
  have mixed : Tryz.prog.follows .mixedOrders = true := by kernel_rfl
  have CN := clone_nil
  have CP := copyPairs_nil
  subst n5
  obtain ⟨wa, hwa⟩ : ∃ wa, w.alloc (.cells #[.int .u8 6, .int .u64 seq, .int .u64 0, .int .u64 yh, .slice none 0 0, .slice none 0 0, .bool false, .int .u8 5, .int .u8 st, .int .u8 0, .int .u32 0, .int .u32 0, .int .u64 0, .int .u8 0, .slice none 0 0, .slice none 0 0, .slice none 0 0] 36) = wa := ⟨_, rfl⟩
  have ka : Kp Nu w wa := by rw [← hwa]; exact Kp.alloc _ _ _
  have hbx : wa.heap[w.heap.size]? = some (.cells #[.int .u8 6, .int .u64 seq, .int .u64 0, .int .u64 yh, .slice none 0 0, .slice none 0 0, .bool false, .int .u8 5, .int .u8 st, .int .u8 0, .int .u32 0, .int .u32 0, .int .u64 0, .int .u8 0, .slice none 0 0, .slice none 0 0, .slice none 0 0] 36 (0, 0)) := by rw [← hwa]; exact heap_new w _
  have hca := h.nu ka
  have AS := fun X (hX : Kp Nu wa X) => (answersScan_ok X s.rk s.rkey s.rhi s.rlim seq yh 5 st s.rv.a s.ro.a s.rv.n s.rv.c s.ro.n s.ro.c s.rhas h1 h2 l0 l1).mono (fun e w' h => (⟨h.1, hX.andNu h.2⟩ : e = .returned (.bool true) ∧ Kp Nu wa w'))
  have HS : ∀ X, Kp Nu wa X → (X.cell? ⟨b, 4, none⟩ = some (.int .u8 s.rk) ∧ X.cell? ⟨b, 5, none⟩ = some (.int .u64 s.rkey) ∧ X.cell? ⟨b, 6, none⟩ = some (.int .u64 s.rhi) ∧ X.cell? ⟨b, 7, none⟩ = some (.slice s.rv.a s.rv.n s.rv.c) ∧ X.cell? ⟨b, 8, none⟩ = some (.slice s.ro.a s.ro.n s.ro.c) ∧ X.cell? ⟨b, 9, none⟩ = some (.bool s.rhas) ∧ X.cell? ⟨b, 10, none⟩ = some (.int .u8 s.rlim) ∧ X.cell? ⟨w.heap.size, 0, none⟩ = some (.int .u8 6) ∧ X.cell? ⟨w.heap.size, 1, none⟩ = some (.int .u64 seq) ∧ X.cell? ⟨w.heap.size, 2, none⟩ = some (.int .u64 0) ∧ X.cell? ⟨w.heap.size, 3, none⟩ = some (.int .u64 yh) ∧ X.cell? ⟨w.heap.size, 4, none⟩ = some (.slice none 0 0) ∧ X.cell? ⟨w.heap.size, 5, none⟩ = some (.slice none 0 0) ∧ X.cell? ⟨w.heap.size, 6, none⟩ = some (.bool false) ∧ X.cell? ⟨w.heap.size, 7, none⟩ = some (.int .u8 5) ∧ X.cell? ⟨w.heap.size, 8, none⟩ = some (.int .u8 st) ∧ X.cell? ⟨w.heap.size, 9, none⟩ = some (.int .u8 0) ∧ X.cell? ⟨w.heap.size, 10, none⟩ = some (.int .u32 0) ∧ X.cell? ⟨w.heap.size, 11, none⟩ = some (.int .u32 0) ∧ X.cell? ⟨w.heap.size, 12, none⟩ = some (.int .u64 0) ∧ X.cell? ⟨w.heap.size, 13, none⟩ = some (.int .u8 0) ∧ X.cell? ⟨w.heap.size, 14, none⟩ = some (.slice none 0 0) ∧ X.cell? ⟨w.heap.size, 15, none⟩ = some (.slice none 0 0) ∧ X.cell? ⟨w.heap.size, 16, none⟩ = some (.slice none 0 0)) := fun X hX => by
    have hc := hca.nu hX
    have hb := (hX.block _ (blk_lt hbx) (fun h => h)).trans hbx
    exact ⟨hc.c_rk, hc.c_rkey, hc.c_rhi, hc.c_rv, hc.c_ro, hc.c_rhas, hc.c_rlim, cellAt hb 0 rfl, cellAt hb 1 rfl, cellAt hb 2 rfl, cellAt hb 3 rfl, cellAt hb 4 rfl, cellAt hb 5 rfl, cellAt hb 6 rfl, cellAt hb 7 rfl, cellAt hb 8 rfl, cellAt hb 9 rfl, cellAt hb 10 rfl, cellAt hb 11 rfl, cellAt hb 12 rfl, cellAt hb 13 rfl, cellAt hb 14 rfl, cellAt hb 15 rfl, cellAt hb 16 rfl⟩
  rw [hof] at HS AS
  have hne : b ≠ w.heap.size := fun e => by have := h.lt; omega
  have hne' : w.heap.size ≠ b := fun e => hne e.symm
  have HX0 := hide hbx
  have HC0 := hide hca
  have HK0 := hide ka
  have HOF := hide hof
  clear h hca hbx ka h1 h2 l0 l1 hof
  go_enter Tryz.func93, Tryz.ntmps93
  go_wp2_with fail
  go_region_held3 (fun X => X.cell? ⟨b, 4, none⟩ = some (.int .u8 5) ∧ X.cell? ⟨b, 5, none⟩ = some (.int .u64 s.rkey) ∧ X.cell? ⟨b, 6, none⟩ = some (.int .u64 s.rhi) ∧ X.cell? ⟨b, 7, none⟩ = some (.slice s.rv.a s.rv.n s.rv.c) ∧ X.cell? ⟨b, 8, none⟩ = some (.slice s.ro.a s.ro.n s.ro.c) ∧ X.cell? ⟨b, 9, none⟩ = some (.bool s.rhas) ∧ X.cell? ⟨b, 10, none⟩ = some (.int .u8 s.rlim) ∧ X.cell? ⟨w.heap.size, 0, none⟩ = some (.int .u8 6) ∧ X.cell? ⟨w.heap.size, 1, none⟩ = some (.int .u64 seq) ∧ X.cell? ⟨w.heap.size, 2, none⟩ = some (.int .u64 0) ∧ X.cell? ⟨w.heap.size, 3, none⟩ = some (.int .u64 yh) ∧ X.cell? ⟨w.heap.size, 4, none⟩ = some (.slice none 0 0) ∧ X.cell? ⟨w.heap.size, 5, none⟩ = some (.slice none 0 0) ∧ X.cell? ⟨w.heap.size, 6, none⟩ = some (.bool false) ∧ X.cell? ⟨w.heap.size, 7, none⟩ = some (.int .u8 5) ∧ X.cell? ⟨w.heap.size, 8, none⟩ = some (.int .u8 st) ∧ X.cell? ⟨w.heap.size, 9, none⟩ = some (.int .u8 0) ∧ X.cell? ⟨w.heap.size, 10, none⟩ = some (.int .u32 0) ∧ X.cell? ⟨w.heap.size, 11, none⟩ = some (.int .u32 0) ∧ X.cell? ⟨w.heap.size, 12, none⟩ = some (.int .u64 0) ∧ X.cell? ⟨w.heap.size, 13, none⟩ = some (.int .u8 0) ∧ X.cell? ⟨w.heap.size, 14, none⟩ = some (.slice none 0 0) ∧ X.cell? ⟨w.heap.size, 15, none⟩ = some (.slice none 0 0) ∧ X.cell? ⟨w.heap.size, 16, none⟩ = some (.slice none 0 0)) (first | (refine HS _ ?_; (repeat (first | assumption | exact Kp.refl _ _ | apply Kp.drew)); done)) (first | (go_at_call 118; refine (AS _ ?_).mono ?_; (repeat (first | assumption | exact Kp.refl _ _ | apply Kp.drew)); rintro e w3 ⟨rfl, hk3⟩))
  have HX := hide (box_k HX0.out hk3)
  have HC := hide (HC0.out.nu hk3)
  have HK := hide (HK0.out.andNu hk3)
  clear hk3 HX0 HC0 HK0 AS HS hwa HOF
  have c11 := HC.out.c_ph
  have c17 := HC.out.c_host
  have c13 := HC.out.c_st
  have c14 := HC.out.c_ov
  have c15 := HC.out.c_op
  have c16 := HC.out.c_ohi
  have f11 := HC.out.free 11
  have f17 := HC.out.free 17
  have f13 := HC.out.free 13
  have f14 := HC.out.free 14
  have f15 := HC.out.free 15
  have f16 := HC.out.free 16
  have x3 := cellAt HX.out 3 (v := .int .u64 yh) rfl
  have x4 := cellAt HX.out 4 (v := .slice none 0 0) rfl
  have x8 := cellAt HX.out 8 (v := .int .u8 st) rfl
  have x14 := cellAt HX.out 14 (v := .slice none 0 0) rfl
  go_wp2_with fail
  refine (CN _).mono ?_; rintro e w' ⟨rfl, hw⟩
  obtain rfl := hw.symm
  clear CN hw
  go_wp2_with fail
  refine (CP _).mono ?_; rintro e w' ⟨rfl, hw⟩
  obtain rfl := hw.symm
  clear CP hw
  go_wp2
  go_ret2
  have r := reply_tail HC.out fr st yh
  refine ⟨rfl, r, ?_⟩
  have k3 : Kp (fun i => i = b) w w3 := HK.out.mono (fun _ _ h => h.elim)
  exact (((((k3.andSet _ _ (.inr rfl)).andSet _ _ (.inr rfl)).andSet _ _ (.inr rfl)).andSet _ _ (.inr rfl)).andSet _ _ (.inr rfl)).andSet _ _ (.inr rfl)
end Go.Proofs.YtmlnglillgplfaaGreat.Cl
