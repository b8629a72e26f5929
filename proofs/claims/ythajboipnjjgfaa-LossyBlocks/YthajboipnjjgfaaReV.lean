import Derived.Test.YthajboipnjjgfaaReU
namespace Go.Proofs.Ythajboipnjjgfaa.Ly
open Go.RowKit Go.Maps
set_option linter.unusedVariables false
set_option linter.unusedSimpArgs false

theorem t55 : ¬ Tp 55 := by rintro (e | e) <;> cases e
theorem s55 : ¬ Tq 55 := by rintro (e | e) <;> cases e
theorem t5 : ¬ Tp 5 := by rintro (e | e) <;> cases e
theorem s5 : ¬ Tq 5 := by rintro (e | e) <;> cases e
theorem t3 : ¬ Tp 3 := by rintro (e | e) <;> cases e
theorem s3 : ¬ Tq 3 := by rintro (e | e) <;> cases e
theorem s38 : ¬ Tq 38 := by rintro (e | e) <;> cases e
/-- a call of the program's, then the document's, each with one number for an answer -/
def Chn (w0 : World) (X : Nat) (cu : Array Value) (n : Value) (p : Nat) (k : Int) (f1 f2 : Nat) (a1 a2 : Array Value) (w2 : World) : Prop :=
  ∀ W, Kp Nu w2 W → Calls Try.prog f1 a1 W fun e w3 => ∃ code, e = .returned (.int .i64 code) ∧ w3.heap[X]? = some (.cells cu 55 (0, 0)) ∧ ∀ W, Kp Nu w3 W → Calls Try.prog f2 a2 W fun e w4 => e = .returned (.int .i64 code) ∧ w4.heap[X]? = some (.cells cu 55 (0, 0)) ∧ Stt w0 w4 n p (k + 1)
theorem chn_of {w0 : World} {X : Nat} {cu : Array Value} {n : Value} {p : Nat} {k : Int} {f1 f2 : Nat} {a1 a2 : Array Value} {w2 : World} (hX : w2.heap[X]? = some (.cells cu 55 (0, 0)))
    (h : ∀ W, Kp Nu w2 W → Calls Try.prog f1 a1 W fun e w' => ∃ q, e = .returned (.int .i64 q) ∧ Ob Tp W w' ∧ Kp Nu w0 w' ∧ ∀ W, Kp Nu w' W → Calls Try.prog f2 a2 W fun e w'' => e = .returned (.int .i64 q) ∧ Stt w0 w'' n p (k + 1) ∧ Ob Tq W w'') : Chn w0 X cu n p k f1 f2 a1 a2 w2 := fun W kW => by
  have hXW : W.heap[X]? = some (.cells cu 55 (0, 0)) := (kW.block X (blk_lt hX) (fun h => h)).trans hX
  refine (h W kW).mono ?_
  rintro e w3 ⟨code, rfl, ob3, k03, nx⟩
  have hX3 := (ob3.cells X cu 55 hXW t55).trans hXW
  refine ⟨code, rfl, hX3, fun W2 kW2 => ?_⟩
  have hX3W : W2.heap[X]? = some (.cells cu 55 (0, 0)) := (kW2.block X (blk_lt hX3) (fun h => h)).trans hX3
  refine (nx W2 kW2).mono ?_
  rintro e w4 ⟨rfl, st, ob4⟩
  exact ⟨rfl, (ob4.cells X cu 55 hX3W s55).trans hX3W, st⟩
section
variable {w0 w : World} {n : Value} {p : Nat} {k : Int}

set_option maxRecDepth 100000 in
set_option maxHeartbeats 600000 in
theorem moves_6 (h : Stt w0 w n p k) (hkb : k < 1599289640400) (A E P : Int) (kp : Bool) (atv dv : Value) (xs ys : List Int) (hr : RdI w0 atv xs) (hd : Rd w0 dv ys) (hb1 : ys.length ≤ 140737488351232) (hb2 : xs.length ≤ 17592186043904) (hnil : atv = .slice none 0 0 ∨ ∃ a n cap, atv = .slice (some a) n cap) :
    Calls Try.prog 58 #[n, .pointer (some ⟨p, 0, none⟩), .agg #[.int .i64 6, .int .i64 A, .int .i64 E, .int .i64 P, .bool kp, atv, dv]] w fun e w' => e = .returned (.bool true) ∧ Stt w0 w' n p (k + 1) := by
  have mixed : Try.prog.follows .mixedOrders = true := by kernel_rfl
  have K1 := (Kp.alloc w (.cells #[.int .i64 6, .int .i64 A, .int .i64 E, .int .i64 P, .bool kp, atv, dv] 55) Nu).drew
  have hX : (w.alloc (.cells #[.int .i64 6, .int .i64 A, .int .i64 E, .int .i64 P, .bool kp, atv, dv] 55)).drew.heap[w.heap.size]? = some (.cells #[.int .i64 6, .int .i64 A, .int .i64 E, .int .i64 P, .bool kp, atv, dv] 55 (0, 0)) := heap_alloc_new w _
  have h1 := h.nu K1
  obtain ⟨na, hna⟩ := h.ptr
  obtain ⟨ad1, cap1, ea⟩ := hr.slice
  obtain ⟨ad2, cap2, ed⟩ := hd.slice
  have CH := chn_of hX (fun W kW => sweep_pair (h1.nu kW) hkb A E)
  have HHX := hide hX
  have HK1 := hide K1
  clear hX hr hb1 hb2 hnil h1 K1 hd
  unfold Chn at CH
  subst hna ea ed
  clear h
  generalize xs.length = N1 at *
  generalize hN2 : ys.length = N2 at *
  go_enter Try.func58, Try.ntmps58
  go_wp2_with fail
  go_region
  go_wp2_with fail
  have hX2 := HHX.out
  have HS : ∀ W, Kp Nu (w.alloc (.cells #[.int .i64 6, .int .i64 A, .int .i64 E, .int .i64 P, .bool kp, .slice ad1 N1 cap1, .slice ad2 N2 cap2] 55)).drew W → W.cell? ⟨w.heap.size, 1, none⟩ = some (.int .i64 A) ∧ W.cell? ⟨w.heap.size, 2, none⟩ = some (.int .i64 E) := fun W kW => by
    have := c7 ((kW.block w.heap.size (blk_lt HHX.out) (fun h => h)).trans HHX.out)
    exact ⟨this.2.1, this.2.2.1⟩
  clear hX2
  generalize (w.alloc (.cells #[.int .i64 6, .int .i64 A, .int .i64 E, .int .i64 P, .bool kp, .slice ad1 N1 cap1, .slice ad2 N2 cap2] 55)).drew = w2 at *
  have KA := Kp.refl Nu w2
  go_region_held3 (fun W => W.cell? ⟨w.heap.size, 1, none⟩ = some (.int .i64 A) ∧ W.cell? ⟨w.heap.size, 2, none⟩ = some (.int .i64 E)) (first | assumption | exact sx4 | exact sx3 | (refine HS _ ?_; repeat (first | assumption | exact Kp.refl _ _ | apply Kp.andAlloc | apply Kp.drew)))
    (first
      | (go_at_call 51; refine (CH _ ?_).mono ?_; (repeat (first | assumption | exact Kp.refl _ _ | apply Kp.andAlloc | apply Kp.drew)); rintro e w3 ⟨code, rfl, hx3, nx3⟩; have sx3 := And.intro (c7 hx3).2.1 (c7 hx3).2.2.1; have hcc : (code == code) = true := by simp)
      | (go_at_call 75; refine (nx3 _ ?_).mono ?_; (repeat (first | assumption | exact Kp.refl _ _ | apply Kp.andAlloc | apply Kp.drew)); rintro e w4 ⟨rfl, hx4, st4⟩; have sx4 := And.intro (c7 hx4).2.1 (c7 hx4).2.2.1))
  have HST := hide st4
  clear CH nx3 HS hx3 hx4 st4
  go_wp2
  go_ret
  exact ⟨rfl, HST.out⟩

set_option maxRecDepth 100000 in
set_option maxHeartbeats 600000 in
theorem moves_9 (h : Stt w0 w n p k) (hkb : k < 1599289640400) (A E P : Int) (kp : Bool) (atv dv : Value) (xs ys : List Int) (hr : RdI w0 atv xs) (hd : Rd w0 dv ys) (hb1 : ys.length ≤ 140737488351232) (hb2 : xs.length ≤ 17592186043904) (hnil : atv = .slice none 0 0 ∨ ∃ a n cap, atv = .slice (some a) n cap) :
    Calls Try.prog 58 #[n, .pointer (some ⟨p, 0, none⟩), .agg #[.int .i64 9, .int .i64 A, .int .i64 E, .int .i64 P, .bool kp, atv, dv]] w fun e w' => e = .returned (.bool true) ∧ Stt w0 w' n p (k + 1) := by
  have mixed : Try.prog.follows .mixedOrders = true := by kernel_rfl
  have K1 := (Kp.alloc w (.cells #[.int .i64 9, .int .i64 A, .int .i64 E, .int .i64 P, .bool kp, atv, dv] 55) Nu).drew
  have hX : (w.alloc (.cells #[.int .i64 9, .int .i64 A, .int .i64 E, .int .i64 P, .bool kp, atv, dv] 55)).drew.heap[w.heap.size]? = some (.cells #[.int .i64 9, .int .i64 A, .int .i64 E, .int .i64 P, .bool kp, atv, dv] 55 (0, 0)) := heap_alloc_new w _
  have h1 := h.nu K1
  obtain ⟨na, hna⟩ := h.ptr
  obtain ⟨ad1, cap1, ea⟩ := hr.slice
  obtain ⟨ad2, cap2, ed⟩ := hd.slice
  have CH := chn_of hX (fun W kW => heal_pair (h1.nu kW) hkb A E)
  have HHX := hide hX
  have HK1 := hide K1
  clear hX hr hb1 hb2 hnil h1 K1 hd
  unfold Chn at CH
  subst hna ea ed
  clear h
  generalize xs.length = N1 at *
  generalize hN2 : ys.length = N2 at *
  go_enter Try.func58, Try.ntmps58
  go_wp2_with fail
  go_region
  go_wp2_with fail
  have hX2 := HHX.out
  have HS : ∀ W, Kp Nu (w.alloc (.cells #[.int .i64 9, .int .i64 A, .int .i64 E, .int .i64 P, .bool kp, .slice ad1 N1 cap1, .slice ad2 N2 cap2] 55)).drew W → W.cell? ⟨w.heap.size, 1, none⟩ = some (.int .i64 A) ∧ W.cell? ⟨w.heap.size, 2, none⟩ = some (.int .i64 E) := fun W kW => by
    have := c7 ((kW.block w.heap.size (blk_lt HHX.out) (fun h => h)).trans HHX.out)
    exact ⟨this.2.1, this.2.2.1⟩
  clear hX2
  generalize (w.alloc (.cells #[.int .i64 9, .int .i64 A, .int .i64 E, .int .i64 P, .bool kp, .slice ad1 N1 cap1, .slice ad2 N2 cap2] 55)).drew = w2 at *
  have KA := Kp.refl Nu w2
  go_region_held3 (fun W => W.cell? ⟨w.heap.size, 1, none⟩ = some (.int .i64 A) ∧ W.cell? ⟨w.heap.size, 2, none⟩ = some (.int .i64 E)) (first | assumption | exact sx4 | exact sx3 | (refine HS _ ?_; repeat (first | assumption | exact Kp.refl _ _ | apply Kp.andAlloc | apply Kp.drew)))
    (first
      | (go_at_call 33; refine (CH _ ?_).mono ?_; (repeat (first | assumption | exact Kp.refl _ _ | apply Kp.andAlloc | apply Kp.drew)); rintro e w3 ⟨code, rfl, hx3, nx3⟩; have sx3 := And.intro (c7 hx3).2.1 (c7 hx3).2.2.1; have hcc : (code == code) = true := by simp)
      | (go_at_call 77; refine (nx3 _ ?_).mono ?_; (repeat (first | assumption | exact Kp.refl _ _ | apply Kp.andAlloc | apply Kp.drew)); rintro e w4 ⟨rfl, hx4, st4⟩; have sx4 := And.intro (c7 hx4).2.1 (c7 hx4).2.2.1))
  have HST := hide st4
  clear CH nx3 HS hx3 hx4 st4
  go_wp2
  go_ret
  exact ⟨rfl, HST.out⟩

set_option maxRecDepth 100000 in
set_option maxHeartbeats 600000 in
theorem moves_7 (h : Stt w0 w n p k) (hkb : k < 1599289640400) (A E P : Int) (kp : Bool) (atv dv : Value) (xs ys : List Int) (hr : RdI w0 atv xs) (hd : Rd w0 dv ys) (hb1 : ys.length ≤ 140737488351232) (hb2 : xs.length ≤ 17592186043904) (hnil : atv = .slice none 0 0 ∨ ∃ a n cap, atv = .slice (some a) n cap) :
    Calls Try.prog 58 #[n, .pointer (some ⟨p, 0, none⟩), .agg #[.int .i64 7, .int .i64 A, .int .i64 E, .int .i64 P, .bool kp, atv, dv]] w fun e w' => e = .returned (.bool true) ∧ Stt w0 w' n p (k + 1) := by
  have mixed : Try.prog.follows .mixedOrders = true := by kernel_rfl
  have K1 := (Kp.alloc w (.cells #[.int .i64 7, .int .i64 A, .int .i64 E, .int .i64 P, .bool kp, atv, dv] 55) Nu).drew
  have hX : (w.alloc (.cells #[.int .i64 7, .int .i64 A, .int .i64 E, .int .i64 P, .bool kp, atv, dv] 55)).drew.heap[w.heap.size]? = some (.cells #[.int .i64 7, .int .i64 A, .int .i64 E, .int .i64 P, .bool kp, atv, dv] 55 (0, 0)) := heap_alloc_new w _
  have h1 := h.nu K1
  obtain ⟨na, hna⟩ := h.ptr
  obtain ⟨ad1, cap1, ea⟩ := hr.slice
  obtain ⟨ad2, cap2, ed⟩ := hd.slice
  have CH := chn_of hX (fun W kW => empty_pair (h1.nu kW) hkb)
  have HHX := hide hX
  have HK1 := hide K1
  clear hX hr hb1 hb2 hnil h1 K1 hd
  unfold Chn at CH
  have CH1 := CH _ (Kp.refl _ _)
  clear CH
  subst hna ea ed
  clear h
  generalize xs.length = N1 at *
  generalize hN2 : ys.length = N2 at *
  go_enter Try.func58, Try.ntmps58
  go_wp2_with fail
  go_region
  go_wp2_with fail
  refine CH1.mono ?_; rintro e w3 ⟨code, rfl, hx3, nx3⟩
  have NX := nx3 _ (Kp.refl _ _)
  have hcc : (code == code) = true := by simp
  clear nx3 CH1
  go_wp2_with fail
  refine NX.mono ?_; rintro e w4 ⟨rfl, hx4, st4⟩
  have HST := hide st4
  clear NX st4 hx3 hx4
  go_wp2
  go_ret
  exact ⟨rfl, HST.out⟩

set_option maxRecDepth 100000 in
set_option maxHeartbeats 600000 in
theorem moves_8 (h : Stt w0 w n p k) (hkb : k < 1599289640400) (A E P : Int) (kp : Bool) (atv dv : Value) (xs ys : List Int) (hr : RdI w0 atv xs) (hd : Rd w0 dv ys) (hb1 : ys.length ≤ 140737488351232) (hb2 : xs.length ≤ 17592186043904) (hnil : atv = .slice none 0 0 ∨ ∃ a n cap, atv = .slice (some a) n cap) :
    Calls Try.prog 58 #[n, .pointer (some ⟨p, 0, none⟩), .agg #[.int .i64 8, .int .i64 A, .int .i64 E, .int .i64 P, .bool kp, atv, dv]] w fun e w' => e = .returned (.bool true) ∧ Stt w0 w' n p (k + 1) := by
  have mixed : Try.prog.follows .mixedOrders = true := by kernel_rfl
  have K1 := (Kp.alloc w (.cells #[.int .i64 8, .int .i64 A, .int .i64 E, .int .i64 P, .bool kp, atv, dv] 55) Nu).drew
  have hX : (w.alloc (.cells #[.int .i64 8, .int .i64 A, .int .i64 E, .int .i64 P, .bool kp, atv, dv] 55)).drew.heap[w.heap.size]? = some (.cells #[.int .i64 8, .int .i64 A, .int .i64 E, .int .i64 P, .bool kp, atv, dv] 55 (0, 0)) := heap_alloc_new w _
  have h1 := h.nu K1
  obtain ⟨na, hna⟩ := h.ptr
  obtain ⟨ad1, cap1, ea⟩ := hr.slice
  obtain ⟨ad2, cap2, ed⟩ := hd.slice
  have CH := chn_of hX (fun W kW => block_pair (h1.nu kW) hkb (A % 256) (E % 256) (by omega) (by omega) (by omega) (by omega))
  have HHX := hide hX
  have HK1 := hide K1
  clear hX hr hb1 hb2 hnil h1 K1 hd
  unfold Chn at CH
  have CH1 := CH _ (Kp.refl _ _)
  have NU := num_any
  have F0 : 0 ≤ A % 256 := by omega
  have F1 : A % 256 < 256 := by omega
  have E0 : 0 ≤ E % 256 := by omega
  have E1 : E % 256 < 256 := by omega
  clear CH
  subst hna ea ed
  clear h
  generalize xs.length = N1 at *
  generalize hN2 : ys.length = N2 at *
  go_enter Try.func58, Try.ntmps58
  go_wp2_with fail
  go_region
  go_wp2_with fail
  refine CH1.mono ?_; rintro e w3 ⟨code, rfl, hx3, nx3⟩
  have NX := nx3 _ (Kp.refl _ _)
  have hcc : (code == code) = true := by simp
  clear nx3 CH1
  go_wp2_with fail
  refine (NU _ _).mono ?_; rintro e w3' ⟨rfl, hw3'⟩
  obtain rfl := hw3'.symm
  clear hw3'
  go_wp2_with fail
  refine NX.mono ?_; rintro e w4 ⟨rfl, hx4, st4⟩
  have HST := hide st4
  clear NX st4 hx3 hx4
  go_wp2
  go_ret
  exact ⟨rfl, HST.out⟩

set_option maxRecDepth 100000 in
set_option maxHeartbeats 600000 in
theorem moves_0 (h : Stt w0 w n p k) (hkb : k < 1599289640400) (KD : Int) (hkd : KD ≠ 1 ∧ KD ≠ 2 ∧ KD ≠ 3 ∧ KD ≠ 5 ∧ KD ≠ 6 ∧ KD ≠ 7 ∧ KD ≠ 8 ∧ KD ≠ 9) (A E P : Int) (kp : Bool) (atv dv : Value) (xs ys : List Int) (hr : RdI w0 atv xs) (hd : Rd w0 dv ys) (hb1 : ys.length ≤ 140737488351232) (hb2 : xs.length ≤ 17592186043904) (hnil : atv = .slice none 0 0 ∨ ∃ a n cap, atv = .slice (some a) n cap) :
    Calls Try.prog 58 #[n, .pointer (some ⟨p, 0, none⟩), .agg #[.int .i64 KD, .int .i64 A, .int .i64 E, .int .i64 P, .bool kp, atv, dv]] w fun e w' => e = .returned (.bool true) ∧ Stt w0 w' n p (k + 1) := by
  have mixed : Try.prog.follows .mixedOrders = true := by kernel_rfl
  have K1 := (Kp.alloc w (.cells #[.int .i64 KD, .int .i64 A, .int .i64 E, .int .i64 P, .bool kp, atv, dv] 55) Nu).drew
  have hX : (w.alloc (.cells #[.int .i64 KD, .int .i64 A, .int .i64 E, .int .i64 P, .bool kp, atv, dv] 55)).drew.heap[w.heap.size]? = some (.cells #[.int .i64 KD, .int .i64 A, .int .i64 E, .int .i64 P, .bool kp, atv, dv] 55 (0, 0)) := heap_alloc_new w _
  have h1 := h.nu K1
  obtain ⟨na, hna⟩ := h.ptr
  obtain ⟨ad1, cap1, ea⟩ := hr.slice
  obtain ⟨ad2, cap2, ed⟩ := hd.slice
  have q1 : (KD == 1) = false := by simpa using hkd.1
  have q2 : (KD == 2) = false := by simpa using hkd.2.1
  have q3 : (KD == 3) = false := by simpa using hkd.2.2.1
  have q5 : (KD == 5) = false := by simpa using hkd.2.2.2.1
  have q6 : (KD == 6) = false := by simpa using hkd.2.2.2.2.1
  have q7 : (KD == 7) = false := by simpa using hkd.2.2.2.2.2.1
  have q8 : (KD == 8) = false := by simpa using hkd.2.2.2.2.2.2.1
  have q9 : (KD == 9) = false := by simpa using hkd.2.2.2.2.2.2.2
  have AS : Calls Try.prog 78 #[n, .pointer (some ⟨p, 0, none⟩), .agg #[.int .i64 KD, .int .i64 A, .int .i64 E, .int .i64 P, .bool kp, atv, dv]] (w.alloc (.cells #[.int .i64 KD, .int .i64 A, .int .i64 E, .int .i64 P, .bool kp, atv, dv] 55)).drew fun e w' => e = .returned (.bool true) ∧ Kp Nu (w.alloc (.cells #[.int .i64 KD, .int .i64 A, .int .i64 E, .int .i64 P, .bool kp, atv, dv] 55)).drew w' := by
    by_cases e4 : KD = 4
    · subst e4; exact asks_4 h1 hkb A E P kp atv dv _ _ _ _ _ _ ea ed
    by_cases e10 : KD = 10
    · subst e10; exact asks_10 h1 hkb A E P kp atv dv _ _ _ _ _ _ ea ed
    by_cases e11 : KD = 11
    · subst e11; exact asks_11 h1 hkb A E P kp atv dv _ _ _ _ _ _ ea ed
    by_cases e12 : KD = 12
    · subst e12; exact asks_12 h1 hkb A E P kp atv dv _ _ _ _ _ _ ea ed
    by_cases e13 : KD = 13
    · subst e13; exact asks_13 h1 hkb A E P kp atv dv _ _ _ _ _ _ ea ed
    exact asks_0 h1 hkb KD ⟨e4, e10, e11, e12, e13⟩ A E P kp atv dv _ _ _ _ _ _ ea ed
  have HST := hide h1
  clear hX hr hb1 hb2 hnil h1 K1 hd hkd
  subst hna ea ed
  clear h
  generalize xs.length = N1 at *
  generalize hN2 : ys.length = N2 at *
  go_enter Try.func58, Try.ntmps58
  go_wp2_with fail
  go_region
  go_wp2_with fail
  refine AS.mono ?_; rintro e w2 ⟨rfl, k2⟩
  have HS2 := hide (HST.out.nu k2).up
  clear AS k2
  go_wp2
  go_ret
  exact ⟨rfl, HS2.out⟩
end
end Go.Proofs.Ythajboipnjjgfaa.Ly
