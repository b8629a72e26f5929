import Derived.Test.YtmlnglillgplfaaGreatCmB
import Derived.Deep.RegionHeld3
namespace Go.Proofs.YtmlnglillgplfaaGreat.Cl
open Go.RowKit Go.Maps
set_option linter.unusedVariables false
theorem fneq94 (w : World) : (binOp .eql 128 (.func (.func 94) #[] #[]) .nilFunc).run Tryz.prog w = .ok (.bool false) w := by kernel_rfl
theorem check_red (w : World) (seq lo hi to : Int) (q1 : 1 ≤ seq) (q2 : seq < 18446744073709551616) (l0 : 0 ≤ lo) (lh : lo ≤ hi) (l1 : hi < 18446744073709551616) (t0 : 0 ≤ to) (t1 : to < 16) :
    Calls Tryz.prog 52 #[.agg #[.int .u8 7, .int .u64 seq, .int .u64 lo, .int .u64 hi, .slice none 0 0, .slice none 0 0, .bool false, .int .u8 0, .int .u8 0, .int .u8 to, .int .u32 0, .int .u32 0, .int .u64 0, .int .u8 0, .slice none 0 0, .slice none 0 0, .slice none 0 0]] w fun e w' => e = .returned (.int .i64 0) ∧ Kp Nu w w' := by
  have CK := check_ok w ⟨7, seq, lo, hi, Sl.nil, Sl.nil, false, 0, 0, to, 0, 0, 0, 0, Sl.nil, Sl.nil, Sl.nil⟩ ⟨by simp, ⟨by simp; omega, by simp; omega⟩, ⟨by simp; omega, by simp; omega⟩, ⟨by simp; omega, by simp; omega⟩, by simp, by simp, ⟨by simp; omega, by simp; omega⟩, by simp, by simp, by simp, by simp⟩ (by simp) (by simp)
    (fun f hf => by
      have hf' : f ∈ [0, 1, 2, 6] := hf
      simp only [List.mem_cons, List.not_mem_nil, or_false] at hf'
      rcases hf' with rfl | rfl | rfl | rfl
      · exact q1
      · trivial
      · exact lh
      · exact t1)
    (fun f hf => by
      have hf' : f ∈ ([] : List Nat) := hf
      cases hf')
    (by
      refine ⟨fun n hn => ?_, rfl, rfl, rfl, rfl, rfl, rfl⟩
      have hc : n = 0 ∨ n = 1 ∨ n = 2 ∨ n = 3 ∨ n = 4 ∨ n = 5 ∨ n = 6 ∨ n = 7 ∨ n = 8 ∨ n = 9 := by omega
      rcases hc with rfl | rfl | rfl | rfl | rfl | rfl | rfl | rfl | rfl | rfl <;> rfl)
  exact CK
set_option maxRecDepth 100000 in
set_option maxHeartbeats 4000000 in
theorem take_red {w : World} {b nb B : Nat} {s : Cs} {D : DataW Unit} {V O : List Int} {tv : Value} {L : List Rg.Sg} (h : Cl w b s nb D V O) (hT : Rg.Tb B w s.hb 64 tv L) (hBw : B ≤ w.heap.size) (lo hi to : Int) (h1 : lo ≤ s.rkey) (h2 : s.rkey ≤ hi) (l0 : 0 ≤ lo) (l1 : hi < 18446744073709551616) (t0 : 0 ≤ to) (t1 : to < s.hosts) (t2 : s.hosts ≤ 16) (hne : ¬ to = s.host) (p0 : 0 ≤ s.hops) (p1 : s.hops ≤ 1000) (s0 : 0 ≤ s.sent) (s1 : s.sent < 1000000) (hnb : nb < 1000000) (hp : s.ph = 1) (q0 : 1 ≤ s.seq) (q1 : s.seq < 18446744073709551616) (a0 : 0 ≤ s.host) (a1 : s.host < s.hosts) :
    Calls Tryz.prog 20 #[.pointer (some ⟨b, 0, none⟩), .int .u8 s.host, .agg #[.int .u8 7, .int .u64 s.seq, .int .u64 lo, .int .u64 hi, .slice none 0 0, .slice none 0 0, .bool false, .int .u8 0, .int .u8 0, .int .u8 to, .int .u32 0, .int .u32 0, .int .u64 0, .int .u8 0, .slice none 0 0, .slice none 0 0, .slice none 0 0]] w fun e w' => Rdr w b s nb D V O B L lo hi to e w' := by
  have mixed : Tryz.prog.follows .mixedOrders = true := by kernel_rfl
  have fne := fneq94
  obtain ⟨wa, hwa⟩ : ∃ wa, w.alloc (.cells #[.int .u8 7, .int .u64 s.seq, .int .u64 lo, .int .u64 hi, .slice none 0 0, .slice none 0 0, .bool false, .int .u8 0, .int .u8 0, .int .u8 to, .int .u32 0, .int .u32 0, .int .u64 0, .int .u8 0, .slice none 0 0, .slice none 0 0, .slice none 0 0] 36) = wa := ⟨_, rfl⟩
  have ka : Kp Nu w wa := by rw [← hwa]; exact Kp.alloc _ _ _
  have hbx : wa.heap[w.heap.size]? = some (.cells #[.int .u8 7, .int .u64 s.seq, .int .u64 lo, .int .u64 hi, .slice none 0 0, .slice none 0 0, .bool false, .int .u8 0, .int .u8 0, .int .u8 to, .int .u32 0, .int .u32 0, .int .u64 0, .int .u8 0, .slice none 0 0, .slice none 0 0, .slice none 0 0] 36 (0, 0)) := by rw [← hwa]; exact heap_new w _
  have MA := made_any (h.nu ka).cb
  have TK := taker7
  have x0 := cellAt hbx 0 (v := .int .u8 7) rfl
  have WY := fun X (k : Kp Nu wa X) => waits_yes ((h.nu ka).nu k).cb hp
  have IH := fun X (k : Kp Nu wa X) => isHost_any ((h.nu ka).nu k).cb s.host a0 (by omega)
  have hd : decide (s.host < s.hosts) = true := by simpa using a1
  rw [hd] at IH
  have CKX := fun X => check_red X s.seq lo hi to q0 q1 l0 (by omega) l1 t0 (by omega)
  have RD := fun X (k : Kp Nu wa X) => redirect_any ((h.nu ka).nu k) ((hT.nu (kpR' ka)).nu (kpR' k)) (Nat.le_trans hBw (ka.andNu k).size) s.seq lo hi to h1 h2 l0 l1 t0 t1 t2 hne p0 p1 s0 s1 hnb
  have HS : ∀ X, Kp Nu wa X → (X.cell? ⟨b, 12, none⟩ = some (.int .u64 s.seq) ∧ X.cell? ⟨w.heap.size, 0, none⟩ = some (.int .u8 7) ∧ X.cell? ⟨w.heap.size, 1, none⟩ = some (.int .u64 s.seq) ∧ X.cell? ⟨w.heap.size, 2, none⟩ = some (.int .u64 lo) ∧ X.cell? ⟨w.heap.size, 3, none⟩ = some (.int .u64 hi) ∧ X.cell? ⟨w.heap.size, 4, none⟩ = some (.slice none 0 0) ∧ X.cell? ⟨w.heap.size, 5, none⟩ = some (.slice none 0 0) ∧ X.cell? ⟨w.heap.size, 6, none⟩ = some (.bool false) ∧ X.cell? ⟨w.heap.size, 7, none⟩ = some (.int .u8 0) ∧ X.cell? ⟨w.heap.size, 8, none⟩ = some (.int .u8 0) ∧ X.cell? ⟨w.heap.size, 9, none⟩ = some (.int .u8 to) ∧ X.cell? ⟨w.heap.size, 10, none⟩ = some (.int .u32 0) ∧ X.cell? ⟨w.heap.size, 11, none⟩ = some (.int .u32 0) ∧ X.cell? ⟨w.heap.size, 12, none⟩ = some (.int .u64 0) ∧ X.cell? ⟨w.heap.size, 13, none⟩ = some (.int .u8 0) ∧ X.cell? ⟨w.heap.size, 14, none⟩ = some (.slice none 0 0) ∧ X.cell? ⟨w.heap.size, 15, none⟩ = some (.slice none 0 0) ∧ X.cell? ⟨w.heap.size, 16, none⟩ = some (.slice none 0 0)) := fun X hX => by
    have hc := ((h.nu ka).nu hX).cb
    have hb := (hX.block _ (blk_lt hbx) (fun h => h)).trans hbx
    exact ⟨hc.c_seq, cellAt hb 0 rfl, cellAt hb 1 rfl, cellAt hb 2 rfl, cellAt hb 3 rfl, cellAt hb 4 rfl, cellAt hb 5 rfl, cellAt hb 6 rfl, cellAt hb 7 rfl, cellAt hb 8 rfl, cellAt hb 9 rfl, cellAt hb 10 rfl, cellAt hb 11 rfl, cellAt hb 12 rfl, cellAt hb 13 rfl, cellAt hb 14 rfl, cellAt hb 15 rfl, cellAt hb 16 rfl⟩
  have HB := hide hbx
  have HA := hide ka
  clear h hT hBw h1 h2 l0 l1 t0 t1 t2 hne p0 p1 s0 s1 hnb hp q0 q1 a0 a1 hd ka hbx
  go_enter Tryz.func20, Tryz.ntmps20
  go_wp2_with fail
  refine MA.mono ?_; rintro e w' ⟨rfl, hw⟩
  obtain rfl := hw.symm
  clear MA hw
  go_wp2_with fail
  refine (TK _).mono ?_; rintro e wb ⟨rfl, kb⟩
  have HS' : ∀ X, Kp Nu wb X → (X.cell? ⟨b, 12, none⟩ = some (.int .u64 s.seq) ∧ X.cell? ⟨w.heap.size, 0, none⟩ = some (.int .u8 7) ∧ X.cell? ⟨w.heap.size, 1, none⟩ = some (.int .u64 s.seq) ∧ X.cell? ⟨w.heap.size, 2, none⟩ = some (.int .u64 lo) ∧ X.cell? ⟨w.heap.size, 3, none⟩ = some (.int .u64 hi) ∧ X.cell? ⟨w.heap.size, 4, none⟩ = some (.slice none 0 0) ∧ X.cell? ⟨w.heap.size, 5, none⟩ = some (.slice none 0 0) ∧ X.cell? ⟨w.heap.size, 6, none⟩ = some (.bool false) ∧ X.cell? ⟨w.heap.size, 7, none⟩ = some (.int .u8 0) ∧ X.cell? ⟨w.heap.size, 8, none⟩ = some (.int .u8 0) ∧ X.cell? ⟨w.heap.size, 9, none⟩ = some (.int .u8 to) ∧ X.cell? ⟨w.heap.size, 10, none⟩ = some (.int .u32 0) ∧ X.cell? ⟨w.heap.size, 11, none⟩ = some (.int .u32 0) ∧ X.cell? ⟨w.heap.size, 12, none⟩ = some (.int .u64 0) ∧ X.cell? ⟨w.heap.size, 13, none⟩ = some (.int .u8 0) ∧ X.cell? ⟨w.heap.size, 14, none⟩ = some (.slice none 0 0) ∧ X.cell? ⟨w.heap.size, 15, none⟩ = some (.slice none 0 0) ∧ X.cell? ⟨w.heap.size, 16, none⟩ = some (.slice none 0 0)) := fun X hX => HS X (kb.andNu hX)
  have WY' := fun X (k : Kp Nu wb X) => WY X (kb.andNu k)
  have IH' := fun X (k : Kp Nu wb X) => IH X (kb.andNu k)
  have CK' := fun X (hX : Kp Nu wb X) => (CKX X).mono (fun e w' h => (⟨h.1, hX.andNu h.2⟩ : e = .returned (.int .i64 0) ∧ Kp Nu wb w'))
  clear x0 TK HS WY IH
  go_wp2_with fail
  go_region_held3 (fun X => X.cell? ⟨b, 12, none⟩ = some (.int .u64 s.seq) ∧ X.cell? ⟨w.heap.size, 0, none⟩ = some (.int .u8 7) ∧ X.cell? ⟨w.heap.size, 1, none⟩ = some (.int .u64 s.seq) ∧ X.cell? ⟨w.heap.size, 2, none⟩ = some (.int .u64 lo) ∧ X.cell? ⟨w.heap.size, 3, none⟩ = some (.int .u64 hi) ∧ X.cell? ⟨w.heap.size, 4, none⟩ = some (.slice none 0 0) ∧ X.cell? ⟨w.heap.size, 5, none⟩ = some (.slice none 0 0) ∧ X.cell? ⟨w.heap.size, 6, none⟩ = some (.bool false) ∧ X.cell? ⟨w.heap.size, 7, none⟩ = some (.int .u8 0) ∧ X.cell? ⟨w.heap.size, 8, none⟩ = some (.int .u8 0) ∧ X.cell? ⟨w.heap.size, 9, none⟩ = some (.int .u8 to) ∧ X.cell? ⟨w.heap.size, 10, none⟩ = some (.int .u32 0) ∧ X.cell? ⟨w.heap.size, 11, none⟩ = some (.int .u32 0) ∧ X.cell? ⟨w.heap.size, 12, none⟩ = some (.int .u64 0) ∧ X.cell? ⟨w.heap.size, 13, none⟩ = some (.int .u8 0) ∧ X.cell? ⟨w.heap.size, 14, none⟩ = some (.slice none 0 0) ∧ X.cell? ⟨w.heap.size, 15, none⟩ = some (.slice none 0 0) ∧ X.cell? ⟨w.heap.size, 16, none⟩ = some (.slice none 0 0)) (first | (refine HS' _ ?_; (repeat (first | assumption | exact Kp.refl _ _ | apply Kp.drew)); done)) (first | (go_at_call 48; refine (WY' _ ?_).mono ?_; (repeat (first | assumption | exact Kp.refl _ _ | apply Kp.drew)); rintro e w3 ⟨rfl, hw3⟩; obtain rfl := hw3.symm; clear hw3) | (go_at_call 58; refine (IH' _ ?_).mono ?_; (repeat (first | assumption | exact Kp.refl _ _ | apply Kp.drew)); rintro e w3 ⟨rfl, hw3⟩; obtain rfl := hw3.symm; clear hw3) | (go_at_call 52; refine (CK' _ ?_).mono ?_; (repeat (first | assumption | exact Kp.refl _ _ | apply Kp.drew)); rintro e w4 ⟨rfl, hk4⟩))
  clear HS' WY' IH' CK' CKX
  have R4 := RD w4 (kb.andNu hk4)
  have H4 := hide ((HA.out.andNu kb).andNu hk4)
  have hb4 := ((kb.andNu hk4).block _ (blk_lt HB.out) (fun h => h)).trans HB.out
  clear RD kb hk4 HB
  go_wp2_with (guard_target =~ wpList _ _ _ ({ dst := _, op := Op.load 36 (Operand.tmp 5), type := _, pos := _, after := _, guard := _ } :: _) _ _; refine wpList_load_all 36 17 (.tmp 5) rfl rfl info36 _ Tryz.underlying36 rfl _ rfl hb4 rfl ?_)
  refine R4.mono ?_; rintro e w5 HR5
  have k04 := H4.out
  clear R4 H4 HA
  rcases HR5 with ⟨hr, rfl, hc, hn, hk⟩ | ⟨hr, g, v', o', rfl, hg, hgl, hv, ho, hc, hn, hk⟩
  · have HQ := hide (And.intro hr (And.intro hc (And.intro hn hk)))
    have HK := hide k04
    clear hr hc hn hk hb4 k04 fne
    go_wp2
    go_ret2
    obtain ⟨hr, hc, hn, hk⟩ := HQ.out
    exact .inl ⟨hr, rfl, hc, hn, (HK.out.mono (fun _ _ h => h.elim)).trans hk (fun _ _ e => e)⟩
  · have HQ := hide (And.intro hr (And.intro hg (And.intro hgl (And.intro hv (And.intro ho (And.intro hc (And.intro hn hk)))))))
    have HK := hide k04
    clear hr hg hgl hv ho hc hn hk hb4 k04 fne
    go_wp2
    go_ret2
    obtain ⟨hr, hg, hgl, hv, ho, hc, hn, hk⟩ := HQ.out
    exact .inr ⟨hr, g, v', o', rfl, hg, Nat.le_trans HK.out.size hgl, hv, ho, hc, hn, (HK.out.mono (fun _ _ h => h.elim)).trans hk (fun _ _ e => e)⟩
end Go.Proofs.YtmlnglillgplfaaGreat.Cl
