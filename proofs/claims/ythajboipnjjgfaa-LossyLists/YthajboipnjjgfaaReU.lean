import Derived.Test.YthajboipnjjgfaaReT
namespace Go.Proofs.Ythajboipnjjgfaa.Ly
open Go.RowKit Go.Maps
set_option linter.unusedVariables false
set_option linter.unusedSimpArgs false

theorem c7 {w : World} {b : Nat} {x0 x1 x2 x3 x4 x5 x6 : Value} {t : TypeId} (h : w.heap[b]? = some (.cells #[x0, x1, x2, x3, x4, x5, x6] t (0, 0))) :
    w.cell? ⟨b, 0, none⟩ = some x0 ∧ w.cell? ⟨b, 1, none⟩ = some x1 ∧ w.cell? ⟨b, 2, none⟩ = some x2 ∧ w.cell? ⟨b, 3, none⟩ = some x3 ∧ w.cell? ⟨b, 4, none⟩ = some x4 ∧ w.cell? ⟨b, 5, none⟩ = some x5 ∧ w.cell? ⟨b, 6, none⟩ = some x6 := by
  refine ⟨?_, ?_, ?_, ?_, ?_, ?_, ?_⟩ <;> simp [World.cell?, h]
section
variable {w0 w : World} {n : Value} {p : Nat} {k : Int}
/-- the step's box -/
def bx55 (KD A E P : Int) (kp : Bool) (atv dv : Value) : Array Value := #[.int .i64 KD, .int .i64 A, .int .i64 E, .int .i64 P, .bool kp, atv, dv]

/-- send, then the document's Enter, then what was handed in looked at -/
theorem send_chain {w0 w2 : World} {n : Value} {p : Nat} {k : Int} (h : Stt w0 w2 n p k) (hkb : k < 1599289640400) (f t : Int) (f0 : 0 ≤ f) (f1 : f < 256) (t0 : 0 ≤ t) (t1 : t < 256) (u dv : Value) (ys : List Int) (hu : Hnd w2 dv ys u) (hd : Rd w0 dv ys) (hb : ys.length ≤ 140737488351232) {X : Nat} {cu : Array Value} (hX : w2.heap[X]? = some (.cells cu 55 (0, 0))) :
    ∀ W, Kp Nu w2 W → Calls Try.prog 16 #[n, .int .u8 f, .int .u8 t, u] W fun e w3 => ∃ code, e = .returned (.int .i64 code) ∧ w3.heap[X]? = some (.cells cu 55 (0, 0)) ∧ ∀ W, Kp Nu w3 W → Calls Try.prog 68 #[.pointer (some ⟨p, 0, none⟩), .int .i64 f, .int .i64 t, dv, .bool false] W fun e w4 => e = .returned (.int .i64 code) ∧ w4.heap[X]? = some (.cells cu 55 (0, 0)) ∧ ∀ W, Kp Nu w4 W → Calls Try.prog 69 #[u, dv] W fun e w5 => e = .returned (.bool true) ∧ w5.heap[X]? = some (.cells cu 55 (0, 0)) ∧ Stt w0 w5 n p (k + 1) := fun W kW => by
  have huW := hu.keep (fun i cur hi => kW.block i (blk_lt hi) (fun h => h))
  refine (send_pair (h.nu kW) hkb f t f0 f1 t0 t1 u dv ys huW.rd hd).mono ?_
  rintro e w3 ⟨code, rfl, ob3, k03, nx⟩
  have hXW : W.heap[X]? = some (.cells cu 55 (0, 0)) := (kW.block X (blk_lt hX) (fun h => h)).trans hX
  have t55 : ¬ Tp 55 := by rintro (e | e) <;> cases e
  have t5 : ¬ Tp 5 := by rintro (e | e) <;> cases e
  have s55 : ¬ Tq 55 := by rintro (e | e) <;> cases e
  have s5 : ¬ Tq 5 := by rintro (e | e) <;> cases e
  have hX3 := (ob3.cells X cu 55 hXW t55).trans hXW
  have hu3 := huW.keep (fun i cur hi => ob3.cells i cur 5 hi t5)
  refine ⟨code, rfl, hX3, fun W2 kW2 => ?_⟩
  have hX3W : W2.heap[X]? = some (.cells cu 55 (0, 0)) := (kW2.block X (blk_lt hX3) (fun h => h)).trans hX3
  have hu3W := hu3.keep (fun i cur hi => kW2.block i (blk_lt hi) (fun h => h))
  refine (nx W2 kW2).mono ?_
  rintro e w4 ⟨rfl, st, ob4⟩
  have hX4 := (ob4.cells X cu 55 hX3W s55).trans hX3W
  have hu4 := hu3W.keep (fun i cur hi => ob4.cells i cur 5 hi s5)
  refine ⟨rfl, hX4, fun W3 kW3 => ?_⟩
  refine (kept_any (hu4.keep (fun i cur hi => kW3.block i (blk_lt hi) (fun h => h))) (hd.nu (st.kp.andNu kW3)) hb).mono ?_
  rintro e w5 ⟨rfl, k5⟩
  exact ⟨rfl, ((kW3.andNu k5).block X (blk_lt hX4) (fun h => h)).trans hX4, st.nu (kW3.andNu k5)⟩

set_option maxRecDepth 100000 in
set_option maxHeartbeats 600000 in
theorem moves_1 (h : Stt w0 w n p k) (hkb : k < 1599289640400) (A E P : Int) (kp : Bool) (atv dv : Value) (xs ys : List Int) (hr : RdI w0 atv xs) (hd : Rd w0 dv ys) (hb1 : ys.length ≤ 140737488351232) (hb2 : xs.length ≤ 17592186043904) (hnil : atv = .slice none 0 0 ∨ ∃ a n cap, atv = .slice (some a) n cap) :
    Calls Try.prog 58 #[n, .pointer (some ⟨p, 0, none⟩), .agg #[.int .i64 1, .int .i64 A, .int .i64 E, .int .i64 P, .bool kp, atv, dv]] w fun e w' => e = .returned (.bool true) ∧ Stt w0 w' n p (k + 1) := by
  have mixed : Try.prog.follows .mixedOrders = true := by kernel_rfl
  have K1 := (Kp.alloc w (.cells #[.int .i64 1, .int .i64 A, .int .i64 E, .int .i64 P, .bool kp, atv, dv] 55) Nu).drew
  have hX : (w.alloc (.cells #[.int .i64 1, .int .i64 A, .int .i64 E, .int .i64 P, .bool kp, atv, dv] 55)).drew.heap[w.heap.size]? = some (.cells #[.int .i64 1, .int .i64 A, .int .i64 E, .int .i64 P, .bool kp, atv, dv] 55 (0, 0)) := heap_alloc_new w _
  have h1 := h.nu K1
  obtain ⟨na, hna⟩ := h.ptr
  obtain ⟨ad1, cap1, ea⟩ := hr.slice
  obtain ⟨ad2, cap2, ed⟩ := hd.slice
  have HA := handed_any (hd.nu h1.kp) hb1
  have CH := fun (w2 : World) (k2 : Kp Nu _ w2) (u : Value) (hu : Hnd w2 dv ys u) => send_chain (h1.nu k2) hkb (A % 256) (E % 256) (by omega) (by omega) (by omega) (by omega) u dv ys hu hd hb1 ((k2.block w.heap.size (blk_lt hX) (fun h => h)).trans hX)
  have NU := num_any
  have HHX := hide hX
  have HRD := hide (And.intro hr (And.intro hd (And.intro hb1 hb2)))
  have HY0 : ∀ (d' : Value) (w' : World) (u : Value), Hnd w' d' ys u → ∃ a m c, u = .slice a m c := fun d' w' u hq => by
    obtain ⟨a, c, e⟩ := hq.rd.slice
    exact ⟨_, _, _, e⟩
  have HK1 := hide K1
  clear hX hr hb1 hb2 hnil h1 K1 hd
  subst hna ea ed
  clear h
  generalize xs.length = N1 at *
  generalize hN2 : ys.length = N2 at *
  go_enter Try.func58, Try.ntmps58
  go_wp2_with fail
  go_region
  go_wp2_with fail
  refine HA.mono ?_; rintro e w2 ⟨u, rfl, hu, k2⟩
  have C1 := CH w2 k2 u hu
  obtain ⟨ua, um, uc, eu⟩ := HY0 _ _ _ hu
  have hX2 : w2.heap[w.heap.size]? = some (.cells #[.int .i64 1, .int .i64 A, .int .i64 E, .int .i64 P, .bool kp, .slice ad1 N1 cap1, .slice ad2 N2 cap2] 55 (0, 0)) := (k2.block w.heap.size (blk_lt HHX.out) (fun h => h)).trans HHX.out
  have cX := (c7 hX2).2.2.2.2.2.2
  have HS : ∀ W, Kp Nu w2 W → W.cell? ⟨w.heap.size, 6, none⟩ = some (.slice ad2 N2 cap2) := fun W kW => (c7 ((kW.block w.heap.size (blk_lt hX2) (fun h => h)).trans hX2)).2.2.2.2.2.2
  have KA := Kp.refl Nu w2
  subst eu
  clear HA CH HY0 hu k2 hX2
  have F0 : 0 ≤ A % 256 := by omega
  have F1 : A % 256 < 256 := by omega
  have E0 : 0 ≤ E % 256 := by omega
  have E1 : E % 256 < 256 := by omega
  go_wp2_with fail
  generalize A % 256 = F at *
  generalize E % 256 = G at *
  have hwF : IntKind.i64.wrap F = F := by rw [IntKind.wrap_i64]; omega
  have hwG : IntKind.i64.wrap G = G := by rw [IntKind.wrap_i64]; omega
  go_region_held3 (fun W => W.cell? ⟨w.heap.size, 6, none⟩ = some (.slice ad2 N2 cap2)) (first | assumption | exact sx5 | exact sx4 | exact sx3 | (refine HS _ ?_; repeat (first | assumption | exact Kp.refl _ _ | apply Kp.andAlloc | apply Kp.drew)))
    (first
      | (go_at_call 16; refine (C1 _ ?_).mono ?_; (repeat (first | assumption | exact Kp.refl _ _ | apply Kp.andAlloc | apply Kp.drew)); rintro e w3 ⟨code, rfl, hx3, nx3⟩; have sx3 := (c7 hx3).2.2.2.2.2.2; have hcc : (code == code) = true := by simp)
      | (go_at_call 17; refine (NU _ _).mono ?_; rintro e w3' ⟨rfl, hw3'⟩; obtain rfl := hw3'.symm)
      | (go_at_call 68; refine (nx3 _ ?_).mono ?_; (repeat (first | assumption | exact Kp.refl _ _ | apply Kp.andAlloc | apply Kp.drew)); rintro e w4 ⟨rfl, hx4, nx4⟩; have sx4 := (c7 hx4).2.2.2.2.2.2)
      | (go_at_call 69; refine (nx4 _ ?_).mono ?_; (repeat (first | assumption | exact Kp.refl _ _ | apply Kp.andAlloc | apply Kp.drew)); rintro e w5 ⟨rfl, hx5, st5⟩; have sx5 := (c7 hx5).2.2.2.2.2.2))
  have HST := hide st5
  clear C1 nx3 nx4 HS hx3 hx4 hx5 st5
  go_wp2
  go_ret
  exact ⟨rfl, HST.out⟩

/-- inject, then the document's Enter, then what was handed in looked at -/
theorem inject_chain {w0 w2 : World} {n : Value} {p : Nat} {k : Int} (h : Stt w0 w2 n p k) (hkb : k < 1599289640400) (f t : Int) (f0 : 0 ≤ f) (f1 : f < 256) (t0 : 0 ≤ t) (t1 : t < 256) (u dv : Value) (ys : List Int) (hu : Hnd w2 dv ys u) (hd : Rd w0 dv ys) (hb : ys.length ≤ 140737488351232) {X : Nat} {cu : Array Value} (hX : w2.heap[X]? = some (.cells cu 55 (0, 0))) :
    ∀ W, Kp Nu w2 W → Calls Try.prog 34 #[n, .int .u8 f, .int .u8 t, u] W fun e w3 => ∃ code, e = .returned (.int .i64 code) ∧ w3.heap[X]? = some (.cells cu 55 (0, 0)) ∧ ∀ W, Kp Nu w3 W → Calls Try.prog 68 #[.pointer (some ⟨p, 0, none⟩), .int .i64 f, .int .i64 t, dv, .bool true] W fun e w4 => e = .returned (.int .i64 code) ∧ w4.heap[X]? = some (.cells cu 55 (0, 0)) ∧ ∀ W, Kp Nu w4 W → Calls Try.prog 69 #[u, dv] W fun e w5 => e = .returned (.bool true) ∧ w5.heap[X]? = some (.cells cu 55 (0, 0)) ∧ Stt w0 w5 n p (k + 1) := fun W kW => by
  have huW := hu.keep (fun i cur hi => kW.block i (blk_lt hi) (fun h => h))
  refine (inject_pair (h.nu kW) hkb f t f0 f1 t0 t1 u dv ys huW.rd hd).mono ?_
  rintro e w3 ⟨code, rfl, ob3, k03, nx⟩
  have hXW : W.heap[X]? = some (.cells cu 55 (0, 0)) := (kW.block X (blk_lt hX) (fun h => h)).trans hX
  have t55 : ¬ Tp 55 := by rintro (e | e) <;> cases e
  have t5 : ¬ Tp 5 := by rintro (e | e) <;> cases e
  have s55 : ¬ Tq 55 := by rintro (e | e) <;> cases e
  have s5 : ¬ Tq 5 := by rintro (e | e) <;> cases e
  have hX3 := (ob3.cells X cu 55 hXW t55).trans hXW
  have hu3 := huW.keep (fun i cur hi => ob3.cells i cur 5 hi t5)
  refine ⟨code, rfl, hX3, fun W2 kW2 => ?_⟩
  have hX3W : W2.heap[X]? = some (.cells cu 55 (0, 0)) := (kW2.block X (blk_lt hX3) (fun h => h)).trans hX3
  have hu3W := hu3.keep (fun i cur hi => kW2.block i (blk_lt hi) (fun h => h))
  refine (nx W2 kW2).mono ?_
  rintro e w4 ⟨rfl, st, ob4⟩
  have hX4 := (ob4.cells X cu 55 hX3W s55).trans hX3W
  have hu4 := hu3W.keep (fun i cur hi => ob4.cells i cur 5 hi s5)
  refine ⟨rfl, hX4, fun W3 kW3 => ?_⟩
  refine (kept_any (hu4.keep (fun i cur hi => kW3.block i (blk_lt hi) (fun h => h))) (hd.nu (st.kp.andNu kW3)) hb).mono ?_
  rintro e w5 ⟨rfl, k5⟩
  exact ⟨rfl, ((kW3.andNu k5).block X (blk_lt hX4) (fun h => h)).trans hX4, st.nu (kW3.andNu k5)⟩

set_option maxRecDepth 100000 in
set_option maxHeartbeats 600000 in
theorem moves_2 (h : Stt w0 w n p k) (hkb : k < 1599289640400) (A E P : Int) (kp : Bool) (atv dv : Value) (xs ys : List Int) (hr : RdI w0 atv xs) (hd : Rd w0 dv ys) (hb1 : ys.length ≤ 140737488351232) (hb2 : xs.length ≤ 17592186043904) (hnil : atv = .slice none 0 0 ∨ ∃ a n cap, atv = .slice (some a) n cap) :
    Calls Try.prog 58 #[n, .pointer (some ⟨p, 0, none⟩), .agg #[.int .i64 2, .int .i64 A, .int .i64 E, .int .i64 P, .bool kp, atv, dv]] w fun e w' => e = .returned (.bool true) ∧ Stt w0 w' n p (k + 1) := by
  have mixed : Try.prog.follows .mixedOrders = true := by kernel_rfl
  have K1 := (Kp.alloc w (.cells #[.int .i64 2, .int .i64 A, .int .i64 E, .int .i64 P, .bool kp, atv, dv] 55) Nu).drew
  have hX : (w.alloc (.cells #[.int .i64 2, .int .i64 A, .int .i64 E, .int .i64 P, .bool kp, atv, dv] 55)).drew.heap[w.heap.size]? = some (.cells #[.int .i64 2, .int .i64 A, .int .i64 E, .int .i64 P, .bool kp, atv, dv] 55 (0, 0)) := heap_alloc_new w _
  have h1 := h.nu K1
  obtain ⟨na, hna⟩ := h.ptr
  obtain ⟨ad1, cap1, ea⟩ := hr.slice
  obtain ⟨ad2, cap2, ed⟩ := hd.slice
  have HA := handed_any (hd.nu h1.kp) hb1
  have CH := fun (w2 : World) (k2 : Kp Nu _ w2) (u : Value) (hu : Hnd w2 dv ys u) => inject_chain (h1.nu k2) hkb (A % 256) (E % 256) (by omega) (by omega) (by omega) (by omega) u dv ys hu hd hb1 ((k2.block w.heap.size (blk_lt hX) (fun h => h)).trans hX)
  have NU := num_any
  have HHX := hide hX
  have HRD := hide (And.intro hr (And.intro hd (And.intro hb1 hb2)))
  have HY0 : ∀ (d' : Value) (w' : World) (u : Value), Hnd w' d' ys u → ∃ a m c, u = .slice a m c := fun d' w' u hq => by
    obtain ⟨a, c, e⟩ := hq.rd.slice
    exact ⟨_, _, _, e⟩
  have HK1 := hide K1
  clear hX hr hb1 hb2 hnil h1 K1 hd
  subst hna ea ed
  clear h
  generalize xs.length = N1 at *
  generalize hN2 : ys.length = N2 at *
  go_enter Try.func58, Try.ntmps58
  go_wp2_with fail
  go_region
  go_wp2_with fail
  refine HA.mono ?_; rintro e w2 ⟨u, rfl, hu, k2⟩
  have C1 := CH w2 k2 u hu
  obtain ⟨ua, um, uc, eu⟩ := HY0 _ _ _ hu
  have hX2 : w2.heap[w.heap.size]? = some (.cells #[.int .i64 2, .int .i64 A, .int .i64 E, .int .i64 P, .bool kp, .slice ad1 N1 cap1, .slice ad2 N2 cap2] 55 (0, 0)) := (k2.block w.heap.size (blk_lt HHX.out) (fun h => h)).trans HHX.out
  have cX := (c7 hX2).2.2.2.2.2.2
  have HS : ∀ W, Kp Nu w2 W → W.cell? ⟨w.heap.size, 6, none⟩ = some (.slice ad2 N2 cap2) := fun W kW => (c7 ((kW.block w.heap.size (blk_lt hX2) (fun h => h)).trans hX2)).2.2.2.2.2.2
  have KA := Kp.refl Nu w2
  subst eu
  clear HA CH HY0 hu k2 hX2
  have F0 : 0 ≤ A % 256 := by omega
  have F1 : A % 256 < 256 := by omega
  have E0 : 0 ≤ E % 256 := by omega
  have E1 : E % 256 < 256 := by omega
  go_wp2_with fail
  generalize A % 256 = F at *
  generalize E % 256 = G at *
  have hwF : IntKind.i64.wrap F = F := by rw [IntKind.wrap_i64]; omega
  have hwG : IntKind.i64.wrap G = G := by rw [IntKind.wrap_i64]; omega
  go_region_held3 (fun W => W.cell? ⟨w.heap.size, 6, none⟩ = some (.slice ad2 N2 cap2)) (first | assumption | exact sx5 | exact sx4 | exact sx3 | (refine HS _ ?_; repeat (first | assumption | exact Kp.refl _ _ | apply Kp.andAlloc | apply Kp.drew)))
    (first
      | (go_at_call 34; refine (C1 _ ?_).mono ?_; (repeat (first | assumption | exact Kp.refl _ _ | apply Kp.andAlloc | apply Kp.drew)); rintro e w3 ⟨code, rfl, hx3, nx3⟩; have sx3 := (c7 hx3).2.2.2.2.2.2; have hcc : (code == code) = true := by simp)
      | (go_at_call 17; refine (NU _ _).mono ?_; rintro e w3' ⟨rfl, hw3'⟩; obtain rfl := hw3'.symm)
      | (go_at_call 68; refine (nx3 _ ?_).mono ?_; (repeat (first | assumption | exact Kp.refl _ _ | apply Kp.andAlloc | apply Kp.drew)); rintro e w4 ⟨rfl, hx4, nx4⟩; have sx4 := (c7 hx4).2.2.2.2.2.2)
      | (go_at_call 69; refine (nx4 _ ?_).mono ?_; (repeat (first | assumption | exact Kp.refl _ _ | apply Kp.andAlloc | apply Kp.drew)); rintro e w5 ⟨rfl, hx5, st5⟩; have sx5 := (c7 hx5).2.2.2.2.2.2))
  have HST := hide st5
  clear C1 nx3 nx4 HS hx3 hx4 hx5 st5
  go_wp2
  go_ret
  exact ⟨rfl, HST.out⟩
end
end Go.Proofs.Ythajboipnjjgfaa.Ly
