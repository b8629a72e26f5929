import Derived.Test.YtbhdhoeaogbfbaaEnK
import Derived.Deep.RegionHeld3
import Derived.Laws.ResultCell
namespace Go.Proofs.Ytbhdhoeaogbfbaa.Xo
open Go.RowKit
set_option linter.unusedVariables false
section
variable {B eb pb : Nat} {w w' : World} {me qn wn : Int} {ps : List Pr}
set_option maxHeartbeats 400000 in
theorem datas_none (a o : Nat) (t : Int) (w : World) : Calls Try.prog 83 #[.pointer (some ⟨a, o, none⟩), .int .u8 t, .int .i64 0, .int .i64 0] w fun e w' => e = .returned (.slice none 0 0) ∧ Kp Nu w w' := by
  go_enter Try.func83, Try.ntmps83
  go_wp2_with fail
  go_loopw [9, 10] (fun out i wr => out = .slice none 0 0 ∧ i = .int .i64 0 ∧ wr = w) (fun _ _ _ => 0)
  case atStart => exact ⟨rfl, rfl, rfl⟩
  case round =>
    obtain ⟨rfl, rfl, rfl⟩ := hrel
    go_wp2
    go_ret
    exact ⟨rfl, Kp.refl _ _⟩
/-- an Ack as a value -/
def ackV (s : Int) : Value := .agg #[.int .u8 11, .int .u64 s, .int .u64 0, .int .u64 0, .slice none 0 0, .slice none 0 0, .bool false, .int .u8 0, .int .u8 0, .int .u8 0, .int .u32 0, .int .u32 0, .int .u64 0, .int .u8 0, .slice none 0 0, .slice none 0 0, .slice none 0 0]
theorem info74 : (Try.prog.info? 74).map (·.size) = some 3 := by kernel_rfl
theorem results_two {fn : Func} {p u : Tmp} {ty : TypeId} (h : fn.results = #[.cell p ty, .tmp u]) (tmps : Array Value) (w : World) (a : Addr) (v x : Value) (hp : tmps.getD p undef = .pointer (some a)) (hu : tmps.getD u undef = v) (hl : (loadVar ty a).run Try.prog w = .ok x w) :
    (results fn tmps).run Try.prog w = .ok (.tuple #[x, v]) w := by
  rw [results_cell_tmp h, hp, hu]
  simp [asAddr, hl, Result.andThen]
set_option maxRecDepth 100000 in
set_option maxHeartbeats 4000000 in
theorem takeAck_all (hr : Row w pb 123 ps) (k : Nat) (p : Pr) (hk : ps[k]? = some p) (hw : Pw w B p) (m : Nat) (hm : p.qs.length = m) (hm0 : 0 < m) (hm16 : m ≤ 16) (wn : Int) (hwn : (m : Int) ≤ wn) (f : Int) (DE : ∀ W, Kp Nu w W → Calls Try.prog 93 #[p.q, .int .i64 0, .int .i64 (m : Int)] W fun e w' => ∃ q', e = .returned q' ∧ w'.ownsRow B 45 1 q' 0 [] ∧ q'.ownBlock = p.q.ownBlock ∧ Kp (fun i => some i = p.q.ownBlock) W w') :
    Calls Try.prog 67 #[.pointer (some ⟨pb, k * 6, none⟩), .int .u8 f, ackV p.sent, .int .i64 wn] w fun e w' => ∃ q', e = .returned (.tuple #[.agg #[.slice none 0 0, .slice none 0 0, .bool true], .int .i64 0]) ∧ Row w' pb 123 (ps.set k ⟨p.sent, p.sent, q', [], 0, p.dlv, p.e⟩) ∧ Pw w' B ⟨p.sent, p.sent, q', [], 0, p.dlv, p.e⟩ ∧ Kp (fun i => i = pb ∨ some i = p.q.ownBlock) w w' ∧ q'.ownBlock = p.q.ownBlock := by
  have BA := bare_ack p.sent
  have WZ := within_zero
  obtain ⟨ad, cap, hqs⟩ := hw.slice
  rw [hm] at hqs
  have hnm := hw.nums
  rw [hm] at hnm
  have a0 := hw.a0
  have s1 := hw.s1
  have g1 : ¬ p.sent > p.sent := by omega
  have g2 : IntKind.u64.wrap (p.sent - p.sent) = 0 := by rw [Int.sub_self]; rfl
  have g3 : ¬ p.sent < p.acked := by omega
  have g4 : (p.sent == p.acked) = false := by simp; omega
  have g5 : IntKind.u64.wrap (p.sent - p.acked) = (m : Int) := by rw [IntKind.wrap_u64]; omega
  have g6 : wrap64 (m : Int) = (m : Int) := wrap_small (by omega) (by omega)
  have g7 : wrap64 ((m : Int) - (m : Int)) = 0 := by rw [Int.sub_self]; exact wrap_small (by omega) (by omega)
  have OP : ∀ W, W.cell? ⟨pb, k * 6 + 2, none⟩ = some (.slice ad m cap) → Calls Try.prog 81 #[.pointer (some ⟨pb, k * 6, none⟩), .int .i64 wn] W fun e w' => e = .returned (.int .i64 (m : Int)) ∧ w' = W := fun W c => open_same pb (k * 6) wn ad m cap W c (m : Int) (by omega)
  have OP8 : ∀ (W : World) (a : Option Addr) (c : Nat), W.cell? ⟨pb, k * 6 + 2, none⟩ = some (.slice a 0 c) → Calls Try.prog 81 #[.pointer (some ⟨pb, k * 6, none⟩), .int .i64 wn] W fun e w' => e = .returned (.int .i64 0) ∧ w' = W := fun W a c h => open_same pb (k * 6) wn a 0 c W h 0 (by have : (0 : Int) ≤ (m : Int) := Int.natCast_nonneg m; omega)
  have HG := hide (And.intro hnm (And.intro a0 s1))
  have CX : ∀ W, Kp Nu ((w.alloc (.cells #[.int .u8 11, .int .u64 p.sent, .int .u64 0, .int .u64 0, .slice none 0 0, .slice none 0 0, .bool false, .int .u8 0, .int .u8 0, .int .u8 0, .int .u32 0, .int .u32 0, .int .u64 0, .int .u8 0, .slice none 0 0, .slice none 0 0, .slice none 0 0] 57)).alloc (.cells #[.slice none 0 0, .slice none 0 0, .bool false] 74)) W → W.cell? ⟨w.heap.size, 1, none⟩ = some (.int .u64 p.sent) ∧ W.cell? ⟨w.heap.size, 12, none⟩ = some (.int .u64 0) ∧ W.cell? ⟨w.heap.size, 16, none⟩ = some (.slice none 0 0) ∧ W.cell? ⟨pb, k * 6, none⟩ = some (.int .u64 p.sent) ∧ W.cell? ⟨pb, k * 6 + 1, none⟩ = some (.int .u64 p.acked) ∧ W.cell? ⟨pb, k * 6 + 2, none⟩ = some (.slice ad m cap) ∧ W.cell? ⟨pb, k * 6 + 3, none⟩ = some (.int .u64 p.mask) := fun W kW => by
    have hb : W.heap[w.heap.size]? = some (.cells #[.int .u8 11, .int .u64 p.sent, .int .u64 0, .int .u64 0, .slice none 0 0, .slice none 0 0, .bool false, .int .u8 0, .int .u8 0, .int .u8 0, .int .u32 0, .int .u32 0, .int .u64 0, .int .u8 0, .slice none 0 0, .slice none 0 0, .slice none 0 0] 57) := (kW.block _ (by simp; omega) (fun h => h)).trans ((Below.heap_alloc _ _ _ (by simp)).trans (heap_alloc_new w _))
    obtain ⟨c0, c1, c2, c3, _⟩ := (hr.keep ((((Kp.refl Nu w).andAlloc _).andAlloc _).andNu kW |>.block _ (blk_lt hr) (fun h => h))).at hk
    rw [hqs] at c2
    exact ⟨cellAt hb 1 rfl, cellAt hb 12 rfl, cellAt hb 16 rfl, c0, c1, c2, c3⟩
  have HH := hide (And.intro hr (And.intro hk hw))
  have HM := hide (And.intro hm (And.intro hm0 (And.intro hm16 hwn)))
  clear hr hw hm hm0 hm16 hwn hnm a0 s1
  unfold ackV
  go_enter Try.func67, Try.ntmps67
  go_wp2_with (first | (go_at_call 89; refine (BA _).mono ?_; rintro e w2 ⟨rfl, hk2⟩; obtain ⟨x1, x12, x16, c0, c1, c2, c3⟩ := CX w2 hk2; have HK2 := hide hk2; clear hk2 BA))
  have HS2 : ∀ W, Kp Nu w2 W → W.cell? ⟨w.heap.size, 1, none⟩ = some (.int .u64 p.sent) ∧ W.cell? ⟨w.heap.size, 12, none⟩ = some (.int .u64 0) ∧ W.cell? ⟨pb, k * 6, none⟩ = some (.int .u64 p.sent) := fun W kW => by
    obtain ⟨y1, y12, _, z0, _⟩ := CX W (HK2.out.andNu kW)
    exact ⟨y1, y12, z0⟩
  have OPd : ∀ W, Kp Nu w2 W → Calls Try.prog 81 #[.pointer (some ⟨pb, k * 6, none⟩), .int .i64 wn] W fun e w' => e = .returned (.int .i64 (m : Int)) ∧ w' = W := fun W kW => OP W (CX W (HK2.out.andNu kW)).2.2.2.2.2.1
  have K02 : Hid (Kp Nu w w2) := (((Kp.refl Nu w).andAlloc _).andAlloc _).andNu HK2.out
  have DE2 : ∀ W, Kp Nu w2 W → Calls Try.prog 93 #[.slice ad m cap, .int .i64 0, .int .i64 (m : Int)] W fun e w' => ∃ a6 c6, e = .returned (.slice a6 0 c6) ∧ Hid (w'.ownsRow B 45 1 (.slice a6 0 c6) 0 [] ∧ (Value.slice a6 0 c6).ownBlock = p.q.ownBlock ∧ Kp (fun i => some i = p.q.ownBlock) w w' ∧ Row w' pb 123 ps ∧ w'.heap[w.heap.size + 1]? = some (.cells #[.slice none 0 0, .slice none 0 0, .bool false] 74 (0, 0))) ∧ w'.cell? ⟨w.heap.size, 1, none⟩ = some (.int .u64 p.sent) ∧ w'.cell? ⟨w.heap.size, 12, none⟩ = some (.int .u64 0) ∧ w'.cell? ⟨pb, k * 6 + 1, none⟩ = some (.int .u64 p.acked) ∧ w'.cell? ⟨pb, k * 6 + 2, none⟩ = some (.slice ad m cap) ∧ w'.cell? ⟨pb, k * 6 + 3, none⟩ = some (.int .u64 p.mask) ∧ w'.frozen? ⟨pb, k * 6 + 1, none⟩ = false ∧ w'.frozen? ⟨pb, k * 6 + 2, none⟩ = false ∧ w'.frozen? ⟨pb, k * 6 + 3, none⟩ = false := fun W kW => by
    have hD := DE W (K02.out.andNu kW)
    rw [hqs] at hD
    refine hD.mono ?_
    rintro e w' ⟨q', rfl, ho, hb, hk⟩
    obtain ⟨a6, c6, e6⟩ := own_slice ho
    subst e6
    obtain ⟨hr, hk', hw⟩ := HH.out
    have hrW : Row W pb 123 ps := hr.keep ((K02.out.andNu kW).block _ (blk_lt hr) (fun h => h))
    have hown : W.ownsRow B 45 1 p.q p.qs.length (p.qs.map Prod.fst) := own_keep hw.own (fun g hg => (K02.out.andNu kW).block g (own_lt hw.own hg) (fun h => h))
    have hr' : Row w' pb 123 ps := hrW.keep (hk.block _ (blk_lt hrW) (fun e => own_ne hrW hown (by decide) (by rw [hqs]; exact e.symm) rfl))
    obtain ⟨y1, y12, _, z0, z1, z2, z3⟩ := CX W (HK2.out.andNu kW)
    have hbx : ∀ o, w'.cell? ⟨w.heap.size, o, none⟩ = W.cell? ⟨w.heap.size, o, none⟩ := fun o => World.cell?_of_block (hk.block _ (by have := (HK2.out.andNu kW).size; simp at this; show w.heap.size < W.heap.size; omega) (fun e => by
      have := own_lt hw.own (g := w.heap.size) (by rw [hqs]; exact e.symm)
      omega))
    obtain ⟨_, d1, d2, d3, _⟩ := hr'.at hk'
    rw [hqs] at d2
    have htb : W.heap[w.heap.size + 1]? = some (.cells #[.slice none 0 0, .slice none 0 0, .bool false] 74 (0, 0)) := by
      have h0 := heap_alloc_new (w.alloc (.cells #[.int .u8 11, .int .u64 p.sent, .int .u64 0, .int .u64 0, .slice none 0 0, .slice none 0 0, .bool false, .int .u8 0, .int .u8 0, .int .u8 0, .int .u32 0, .int .u32 0, .int .u64 0, .int .u8 0, .slice none 0 0, .slice none 0 0, .slice none 0 0] 57)) (.cells #[.slice none 0 0, .slice none 0 0, .bool false] 74)
      have e0 : (w.alloc (.cells #[.int .u8 11, .int .u64 p.sent, .int .u64 0, .int .u64 0, .slice none 0 0, .slice none 0 0, .bool false, .int .u8 0, .int .u8 0, .int .u8 0, .int .u32 0, .int .u32 0, .int .u64 0, .int .u8 0, .slice none 0 0, .slice none 0 0, .slice none 0 0] 57)).heap.size = w.heap.size + 1 := by simp
      rw [e0] at h0
      exact ((HK2.out.andNu kW).block _ (by simp) (fun h => h)).trans h0
    have htb' : w'.heap[w.heap.size + 1]? = some (.cells #[.slice none 0 0, .slice none 0 0, .bool false] 74 (0, 0)) := (hk.block _ (blk_lt htb) (fun e => by
      have := own_lt hw.own (g := w.heap.size + 1) (by rw [hqs]; exact e.symm)
      omega)).trans htb
    refine ⟨a6, c6, rfl, ⟨ho, by rw [hqs]; exact hb, ?_, hr', htb'⟩, (hbx _).trans y1, (hbx _).trans y12, d1, d2, d3, hr'.free _, hr'.free _, hr'.free _⟩
    rw [hqs]
    exact ((K02.out.andNu kW).mono (fun _ _ e => e.elim)).trans hk (fun _ _ e => e)
  clear CX DE OP x16
  go_region_held3 (fun W => W.cell? ⟨w.heap.size, 1, none⟩ = some (.int .u64 p.sent) ∧ W.cell? ⟨w.heap.size, 12, none⟩ = some (.int .u64 0) ∧ W.cell? ⟨pb, k * 6, none⟩ = some (.int .u64 p.sent)) (first | (refine HS2 _ ?_; repeat (first | assumption | exact Kp.refl _ _ | apply Kp.drew))) (first | (go_at_call 86; refine (WZ _ _).mono ?_; rintro e w3 ⟨rfl, hw3⟩; obtain rfl := hw3.symm))
  go_wp2_with fail
  go_region
  go_wp2_with fail
  go_region
  go_wp2_with fail
  go_region
  go_wp2_with (first | (go_at_call 81; refine (OPd _ ?_).mono ?_; (repeat (first | assumption | exact Kp.refl _ _ | apply Kp.drew)); rintro e w4 ⟨rfl, hw4⟩; obtain rfl := hw4.symm) | (go_at_call 93; refine (DE2 _ ?_).mono ?_; (repeat (first | assumption | exact Kp.refl _ _ | apply Kp.drew)); rintro e w6 ⟨a6, c6, rfl, H6, y1, y12, d1, d2, d3, f1, f2, f3⟩))
  obtain ⟨ho6, hb6, hk6, hr6, htb6⟩ := H6.out
  have hR7 : Row (w6.setCell ⟨pb, k * 6 + 2, none⟩ (.slice a6 0 c6)) pb 123 (ps.set k ⟨p.sent, p.acked, .slice a6 0 c6, [], p.mask, p.dlv, p.e⟩) := hr6.set hk 2 (by omega) _ _ rfl
  have k67 : Kp (fun i => i = pb) w6 (w6.setCell ⟨pb, k * 6 + 2, none⟩ (.slice a6 0 c6)) := (Kp.refl _ _).put
  generalize w6.setCell ⟨pb, k * 6 + 2, none⟩ (.slice a6 0 c6) = W7 at *
  have nbp : w.heap.size ≠ pb := by have := blk_lt HH.out.1; omega
  have hlt6 : w.heap.size < w6.heap.size := by have := blk_lt htb6; omega
  have HS7 : ∀ W, Kp (fun i => i = pb) W7 W → W.cell? ⟨w.heap.size, 1, none⟩ = some (.int .u64 p.sent) ∧ W.cell? ⟨w.heap.size, 12, none⟩ = some (.int .u64 0) := fun W kW => by
    have kk : Kp (fun i => i = pb) w6 W := k67.trans kW (fun _ _ e => e)
    have hc : ∀ o, W.cell? ⟨w.heap.size, o, none⟩ = w6.cell? ⟨w.heap.size, o, none⟩ := fun o => World.cell?_of_block (kk.block _ hlt6 (fun e => nbp e))
    exact ⟨(hc _).trans y1, (hc _).trans y12⟩
  obtain ⟨_, t1, _, t3, _, _⟩ := hR7.at (set_self hk _)
  have u1 := hR7.free (k * 6 + 1)
  have u3 := hR7.free (k * 6 + 3)
  have H7 := hide (And.intro ho6 (And.intro hb6 (And.intro hk6 (And.intro hR7 (And.intro k67 (And.intro htb6 nbp))))))
  clear ho6 hb6 hk6 hr6 htb6 hR7 k67 nbp hlt6 y1 y12 d1 d2 d3 f1 f2 f3 H6 DE2 OPd HS2
  go_region_held3 (fun W => W.cell? ⟨w.heap.size, 1, none⟩ = some (.int .u64 p.sent) ∧ W.cell? ⟨w.heap.size, 12, none⟩ = some (.int .u64 0)) (first | (refine HS7 _ ?_; repeat (first | assumption | exact Kp.refl _ _ | apply Kp.drew | apply Kp.put))) (fail)
  obtain ⟨ho6, hb6, hk6, hR7, k67, htb6, nbp⟩ := H7.out
  have hR8 : Row ((W7.setCell ⟨pb, k * 6 + 1, none⟩ (.int .u64 p.sent)).setCell ⟨pb, k * 6 + 3, none⟩ (.int .u64 0)) pb 123 (ps.set k ⟨p.sent, p.sent, .slice a6 0 c6, [], 0, p.dlv, p.e⟩) := by
    have h1 := hR7.set (set_self hk _) 1 (by omega) (.int .u64 p.sent) ⟨p.sent, p.sent, .slice a6 0 c6, [], p.mask, p.dlv, p.e⟩ rfl
    have h2 := h1.set (set_self (set_self hk _) _) 3 (by omega) (.int .u64 0) ⟨p.sent, p.sent, .slice a6 0 c6, [], 0, p.dlv, p.e⟩ rfl
    simpa only [List.set_set] using h2
  have k68 : Kp (fun i => i = pb) w6 ((W7.setCell ⟨pb, k * 6 + 1, none⟩ (.int .u64 p.sent)).setCell ⟨pb, k * 6 + 3, none⟩ (.int .u64 0)) := k67.put.put
  generalize (W7.setCell ⟨pb, k * 6 + 1, none⟩ (.int .u64 p.sent)).setCell ⟨pb, k * 6 + 3, none⟩ (.int .u64 0) = W8 at *
  have c28 : W8.drew.cell? ⟨pb, k * 6 + 2, none⟩ = some (.slice a6 0 c6) := by
    have := (hR8.at (set_self hk _)).2.2.1
    simpa using this
  have O8 := OP8 W8.drew a6 c6 c28
  have DN := datas_none pb (k * 6) f W8.drew
  have ntp : w.heap.size + 1 ≠ pb := by have := blk_lt HH.out.1; omega
  have htb8 : W8.drew.heap[w.heap.size + 1]? = some (.cells #[.slice none 0 0, .slice none 0 0, .bool false] 74 (0, 0)) := (k68.block _ (blk_lt htb6) (fun e => ntp e)).trans htb6
  have HT := hide htb8
  have H8 := hide (And.intro ho6 (And.intro hb6 (And.intro hk6 (And.intro hR8 (And.intro k68 ntp)))))
  clear ho6 hb6 hk6 hR7 k67 htb6 nbp hR8 k68 c28 ntp htb8 H7 HS7 OP8 t1 t3 u1 u3
  go_wp2_with (first | (go_at_call 81; refine O8.mono ?_; rintro e w9 ⟨rfl, hw9⟩; obtain rfl := hw9.symm) | (go_at_call 83; refine DN.mono ?_; rintro e w10 ⟨rfl, hk10⟩; have hT := hide ((hk10.block _ (blk_lt HT.out) (fun h => h)).trans HT.out); have v0 := cellAt (v := .slice none 0 0) hT.out 0 rfl; have v1 := cellAt (v := .slice none 0 0) hT.out 1 rfl; have v2 := cellAt (v := .bool false) hT.out 2 rfl; have e0 := free3 hT.out 0; have e1 := free3 hT.out 1; have e2 := free3 hT.out 2; have HK10 := hide hk10; clear hk10))
  have hb10 := set3 (set3 (set3 hT.out 0 (.slice none 0 0)) 1 (.slice none 0 0)) 2 (.bool true)
  have k1011 : Kp (fun i => i = w.heap.size + 1) w10 (((w10.setCell ⟨w.heap.size + 1, 0, none⟩ (.slice none 0 0)).setCell ⟨w.heap.size + 1, 1, none⟩ (.slice none 0 0)).setCell ⟨w.heap.size + 1, 2, none⟩ (.bool true)) := (Kp.refl _ _).put.put.put
  have hb11 : (((w10.setCell ⟨w.heap.size + 1, 0, none⟩ (.slice none 0 0)).setCell ⟨w.heap.size + 1, 1, none⟩ (.slice none 0 0)).setCell ⟨w.heap.size + 1, 2, none⟩ (.bool true)).heap[w.heap.size + 1]? = some (.cells #[.slice none 0 0, .slice none 0 0, .bool true] 74 (0, 0)) := hb10
  clear hb10 v0 v1 v2 e0 e1 e2
  generalize ((w10.setCell ⟨w.heap.size + 1, 0, none⟩ (.slice none 0 0)).setCell ⟨w.heap.size + 1, 1, none⟩ (.slice none 0 0)).setCell ⟨w.heap.size + 1, 2, none⟩ (.bool true) = W11 at *
  have hl := run_loadVar_row (P := Try.prog) W11 (w.heap.size + 1) 74 74 #[.slice none 0 0, .slice none 0 0, .bool true] (0, 0) _ hb11 Try.underlying74 rfl info74
  refine bodyPost_ret (results_two rfl _ W11 _ (.int .i64 0) _ rfl rfl hl) rfl ?_
  obtain ⟨ho6, hb6, hk6, hR8, k68, ntp⟩ := H8.out
  obtain ⟨hr, hk', hw⟩ := HH.out
  obtain ⟨hm, hm0, hm16, hwn⟩ := HM.out
  obtain ⟨hnm, a0, s1⟩ := HG.out
  have hk10 := HK10.out
  have k811 : Kp (fun i => i = w.heap.size + 1) W8 W11 := (((Kp.refl (fun i => i = w.heap.size + 1) W8).drew).andNu hk10).trans k1011 (fun _ _ e => e)
  have hR11 : Row W11 pb 123 (ps.set k ⟨p.sent, p.sent, .slice a6 0 c6, [], 0, p.dlv, p.e⟩) := hR8.keep (k811.block _ (blk_lt hR8) (fun e => ntp e.symm))
  refine ⟨_, rfl, hR11, ⟨?_, by simp, hw.e0, by simp, by show 0 ≤ p.sent; omega, s1⟩, ?_, hb6⟩
  · refine own_keep ho6 (fun g hg => ?_)
    have hg2 : p.q.ownBlock = some g := hb6.symm.trans hg
    have h1 : g ≠ pb := own_ne hr hw.own (by decide) hg2
    have h2 := own_lt hw.own hg2
    have h3 := own_lt ho6 hg
    have e1 : W8.heap[g]? = w6.heap[g]? := k68.block g h3 (fun e => h1 e)
    have h4 : g < W8.heap.size := Nat.lt_of_lt_of_le h3 k68.size
    exact (k811.block g h4 (fun e => by have e : g = w.heap.size + 1 := e; omega)).trans e1
  · refine ((hk6.mono (T := fun i => i = pb ∨ some i = p.q.ownBlock) (fun _ _ e => .inr e)).trans k68 (fun _ _ e => .inl e)).trans k811 (fun i hi e => by have e : i = w.heap.size + 1 := e; omega)
end
end Go.Proofs.Ytbhdhoeaogbfbaa.Xo
