import Derived.Test.YthajboipnjjgfaaReR
namespace Go.Proofs.Ythajboipnjjgfaa.Ly
open Go.RowKit Go.Maps
set_option linter.unusedVariables false
set_option linter.unusedSimpArgs false

theorem setBox3 {w : World} {b : Nat} {y0 y1 y2 : Value} {t : TypeId} (h : w.heap[b]? = some (.cells #[y0, y1, y2] t (0, 0))) (x0 x1 x2 : Value) :
    (((w.setCell ⟨b, 0, none⟩ x0).setCell ⟨b, 1, none⟩ x1).setCell ⟨b, 2, none⟩ x2).heap[b]? = some (.cells #[x0, x1, x2] t (0, 0)) := by
  rw [set3 (set3 (set3 h 0 x0) 1 x1) 2 x2]
  simp
section
variable {w0 w : World} {n : Value} {p : Nat} {k : Int}

set_option maxRecDepth 100000 in
set_option maxHeartbeats 2000000 in
theorem asks_0 (h : Stt w0 w n p k) (hkb : k < 1599289640400) (KD : Int) (hkd : KD ≠ 4 ∧ KD ≠ 10 ∧ KD ≠ 11 ∧ KD ≠ 12 ∧ KD ≠ 13) (A E P : Int) (kp : Bool) (atv dv : Value) (ad1 ad2 : Option Addr) (n1 n2 cap1 cap2 : Nat) (ea : atv = .slice ad1 n1 cap1) (ed : dv = .slice ad2 n2 cap2) :
    Calls Try.prog 78 #[n, .pointer (some ⟨p, 0, none⟩), .agg #[.int .i64 KD, .int .i64 A, .int .i64 E, .int .i64 P, .bool kp, atv, dv]] w fun e w' => e = .returned (.bool true) ∧ Kp Nu w w' := by
  have mixed : Try.prog.follows .mixedOrders = true := by kernel_rfl
  have K1 := Kp.alloc w (.cells #[.int .i64 KD, .int .i64 A, .int .i64 E, .int .i64 P, .bool kp, atv, dv] 55) Nu
  have HK1 := hide K1
  obtain ⟨na, hna⟩ := h.ptr
  have q4 : (KD == 4) = false := by simpa using hkd.1
  have q10 : (KD == 10) = false := by simpa using hkd.2.1
  have q11 : (KD == 11) = false := by simpa using hkd.2.2.1
  have q12 : (KD == 12) = false := by simpa using hkd.2.2.2.1
  have q13 : (KD == 13) = false := by simpa using hkd.2.2.2.2
  clear hkd
  subst hna ea ed
  clear h K1
  go_enter Try.func78, Try.ntmps78
  go_wp2
  go_ret
  exact ⟨rfl, HK1.out⟩

set_option maxRecDepth 100000 in
set_option maxHeartbeats 2000000 in
theorem asks_11 (h : Stt w0 w n p k) (hkb : k < 1599289640400) (A E P : Int) (kp : Bool) (atv dv : Value) (ad1 ad2 : Option Addr) (n1 n2 cap1 cap2 : Nat) (ea : atv = .slice ad1 n1 cap1) (ed : dv = .slice ad2 n2 cap2) :
    Calls Try.prog 78 #[n, .pointer (some ⟨p, 0, none⟩), .agg #[.int .i64 11, .int .i64 A, .int .i64 E, .int .i64 P, .bool kp, atv, dv]] w fun e w' => e = .returned (.bool true) ∧ Kp Nu w w' := by
  have mixed : Try.prog.follows .mixedOrders = true := by kernel_rfl
  have K1 := Kp.alloc w (.cells #[.int .i64 11, .int .i64 A, .int .i64 E, .int .i64 P, .bool kp, atv, dv] 55) Nu
  have HK1 := hide K1
  obtain ⟨na, hna⟩ := h.ptr
  have LP := len_pair (h.nu K1) hkb
  subst hna ea ed
  clear h K1
  go_enter Try.func78, Try.ntmps78
  go_wp2_with fail
  refine LP.mono ?_; rintro e w2 ⟨M, rfl, hw2, NX⟩
  obtain rfl := hw2.symm
  clear LP hw2
  have NX1 := NX _ (Kp.refl _ _)
  have hMM : ((M : Int) == (M : Int)) = true := by simp
  clear NX
  go_wp2_with fail
  refine NX1.mono ?_; rintro e w3 ⟨ad, cap, rfl, k3⟩
  have HK3 := hide (HK1.out.andNu k3)
  clear NX1 k3
  go_wp2
  go_ret
  exact ⟨rfl, HK3.out⟩

set_option maxRecDepth 100000 in
set_option maxHeartbeats 2000000 in
theorem asks_13 (h : Stt w0 w n p k) (hkb : k < 1599289640400) (A E P : Int) (kp : Bool) (atv dv : Value) (ad1 ad2 : Option Addr) (n1 n2 cap1 cap2 : Nat) (ea : atv = .slice ad1 n1 cap1) (ed : dv = .slice ad2 n2 cap2) :
    Calls Try.prog 78 #[n, .pointer (some ⟨p, 0, none⟩), .agg #[.int .i64 13, .int .i64 A, .int .i64 E, .int .i64 P, .bool kp, atv, dv]] w fun e w' => e = .returned (.bool true) ∧ Kp Nu w w' := by
  have mixed : Try.prog.follows .mixedOrders = true := by kernel_rfl
  have K1 := Kp.alloc w (.cells #[.int .i64 13, .int .i64 A, .int .i64 E, .int .i64 P, .bool kp, atv, dv] 55) Nu
  have HK1 := hide K1
  obtain ⟨na, hna⟩ := h.ptr
  have CP := count_pair (h.nu K1)
  subst hna ea ed
  clear h K1
  go_enter Try.func78, Try.ntmps78
  go_wp2_with fail
  refine CP.mono ?_; rintro e w2 ⟨c, rfl, k2, NX⟩
  have k3 := k2.andAlloc (.cells #[.int .i64 c.s, .int .i64 c.i, .int .i64 c.d, .int .i64 c.c, .int .i64 c.x, .int .i64 c.l, .int .i64 c.b] 57)
  have kz := (Kp.refl Nu w2).andAlloc (.cells #[.int .i64 c.s, .int .i64 c.i, .int .i64 c.d, .int .i64 c.c, .int .i64 c.x, .int .i64 c.l, .int .i64 c.b] 57)
  have e0 : ((w2.alloc (.cells #[.int .i64 c.s, .int .i64 c.i, .int .i64 c.d, .int .i64 c.c, .int .i64 c.x, .int .i64 c.l, .int .i64 c.b] 57)).cell? ⟨p, 65539, none⟩) = some (.int .i64 c.s) := NX _ kz 0 c.s rfl
  have e1 : ((w2.alloc (.cells #[.int .i64 c.s, .int .i64 c.i, .int .i64 c.d, .int .i64 c.c, .int .i64 c.x, .int .i64 c.l, .int .i64 c.b] 57)).cell? ⟨p, 65540, none⟩) = some (.int .i64 c.i) := NX _ kz 1 c.i rfl
  have e2 : ((w2.alloc (.cells #[.int .i64 c.s, .int .i64 c.i, .int .i64 c.d, .int .i64 c.c, .int .i64 c.x, .int .i64 c.l, .int .i64 c.b] 57)).cell? ⟨p, 65541, none⟩) = some (.int .i64 c.d) := NX _ kz 2 c.d rfl
  have e3 : ((w2.alloc (.cells #[.int .i64 c.s, .int .i64 c.i, .int .i64 c.d, .int .i64 c.c, .int .i64 c.x, .int .i64 c.l, .int .i64 c.b] 57)).cell? ⟨p, 65542, none⟩) = some (.int .i64 c.c) := NX _ kz 3 c.c rfl
  have e4 : ((w2.alloc (.cells #[.int .i64 c.s, .int .i64 c.i, .int .i64 c.d, .int .i64 c.c, .int .i64 c.x, .int .i64 c.l, .int .i64 c.b] 57)).cell? ⟨p, 65543, none⟩) = some (.int .i64 c.x) := NX _ kz 4 c.x rfl
  have e5 : ((w2.alloc (.cells #[.int .i64 c.s, .int .i64 c.i, .int .i64 c.d, .int .i64 c.c, .int .i64 c.x, .int .i64 c.l, .int .i64 c.b] 57)).cell? ⟨p, 65544, none⟩) = some (.int .i64 c.l) := NX _ kz 5 c.l rfl
  have e6 : ((w2.alloc (.cells #[.int .i64 c.s, .int .i64 c.i, .int .i64 c.d, .int .i64 c.c, .int .i64 c.x, .int .i64 c.l, .int .i64 c.b] 57)).cell? ⟨p, 65545, none⟩) = some (.int .i64 c.b) := NX _ kz 6 c.b rfl
  have r0 : (c.s == c.s) = true := by simp
  have r1 : (c.i == c.i) = true := by simp
  have r2 : (c.d == c.d) = true := by simp
  have r3 : (c.c == c.c) = true := by simp
  have r4 : (c.x == c.x) = true := by simp
  have r5 : (c.l == c.l) = true := by simp
  have r6 : (c.b == c.b) = true := by simp
  have HK3 := hide (HK1.out.andNu k3)
  clear CP k2 k3 NX kz
  go_wp2_with fail
  simp only [List.append_eq, List.cons_append, List.nil_append]
  go_quiet (fail)
  go_wp2
  go_ret
  exact ⟨rfl, HK3.out.andNu (kp_drewN _ _)⟩

set_option maxRecDepth 100000 in
set_option maxHeartbeats 2000000 in
theorem asks_4 (h : Stt w0 w n p k) (hkb : k < 1599289640400) (A E P : Int) (kp : Bool) (atv dv : Value) (ad1 ad2 : Option Addr) (n1 n2 cap1 cap2 : Nat) (ea : atv = .slice ad1 n1 cap1) (ed : dv = .slice ad2 n2 cap2) :
    Calls Try.prog 78 #[n, .pointer (some ⟨p, 0, none⟩), .agg #[.int .i64 4, .int .i64 A, .int .i64 E, .int .i64 P, .bool kp, atv, dv]] w fun e w' => e = .returned (.bool true) ∧ Kp Nu w w' := by
  have mixed : Try.prog.follows .mixedOrders = true := by kernel_rfl
  have K1 := Kp.alloc w (.cells #[.int .i64 4, .int .i64 A, .int .i64 E, .int .i64 P, .bool kp, atv, dv] 55) Nu
  have HK1 := hide K1
  obtain ⟨na, hna⟩ := h.ptr
  have LP := look_pair (h.nu K1) hkb P
  have AL := @alike_any
  have NU := num_any
  subst hna ea ed
  clear h K1
  go_enter Try.func78, Try.ntmps78
  go_wp2_with fail
  refine LP.mono ?_; rintro e w2 ⟨f, t, u, ys, code, rfl, hT, hu, k2, NX⟩
  obtain ⟨adu, capu, eu⟩ := hu.slice
  have HU := hide hu
  have HT := hide hT
  have HNX := hide NX
  have HK2 := hide k2
  have cx : w2.cell? ⟨w.heap.size, 3, none⟩ = some (.int .i64 P) := by
    have hb := new_at w _ k2
    simp [World.cell?, hb]
  have hltX : w.heap.size < w2.heap.size := by have := blk_lt (new_at w _ k2); omega
  clear LP NX hT k2 hu
  generalize hYL : ys.length = YL at *
  subst eu
  have kz := (Kp.refl Nu w2).andAlloc (.cells #[.int .u8 f, .int .u8 t, .slice adu YL capu] 38)
  have NX1 := HNX.out _ kz
  go_wp2_with fail
  refine NX1.mono ?_; rintro e w3 ⟨u2, g, rfl, hu2, k3⟩
  obtain ⟨adv, capv, ev⟩ := hu2.slice
  have k4 := (kz.andNu k3).andAlloc (.cells #[.int .i64 f, .int .i64 t, u2, .bool g] 120)
  have hcc : (code == code) = true := by simp
  have AL1 := AL (w := w3.alloc (.cells #[.int .i64 f, .int .i64 t, u2, .bool g] 120)) (u1 := .slice adu YL capu) (u2 := u2) (ys := ys) f t HT.out.f0 HT.out.f1 HT.out.t0 HT.out.t1 g (HU.out.nu k4) (hu2.nu (Kp.alloc w3 _ Nu)) HT.out.le
  have hbx := new_at w2 _ (k3.andAlloc (.cells #[.int .i64 f, .int .i64 t, u2, .bool g] 120))
  obtain ⟨d0, d1, d2⟩ := cell3 hbx
  have hlt3 : w2.heap.size < w3.heap.size := by have := blk_lt (new_at w2 _ k3); omega
  have nX : w3.heap.size ≠ w2.heap.size := by omega
  have HK4 := hide ((HK1.out.andNu HK2.out).andNu k4)
  rw [hYL] at ev
  subst ev
  clear NX1 hu2 k3 k4 kz hbx AL
  go_wp2_with fail
  refine (NU _ _).mono ?_; rintro e w4 ⟨rfl, hw4⟩
  obtain rfl := hw4.symm
  clear hw4
  go_wp2_with fail
  refine AL1.mono ?_; rintro e w5 ⟨rfl, k5⟩
  have HK5 := hide (HK4.out.andNu k5)
  clear AL1 k5
  go_wp2
  go_ret
  exact ⟨rfl, HK5.out⟩
end
end Go.Proofs.Ythajboipnjjgfaa.Ly
