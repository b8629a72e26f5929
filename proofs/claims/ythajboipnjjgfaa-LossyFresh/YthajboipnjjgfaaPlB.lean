import Derived.Test.YthajboipnjjgfaaPlA
namespace Go.Proofs.Ythajboipnjjgfaa.Ly
open Go.RowKit Go.Maps
set_option linter.unusedVariables false

section
variable {B b bm nb : Nat} {w w' : World} {room : Int} {D : DataW Unit} {v : Value} {c : Ct} {L : List Gm}

theorem Pld.of_nu {W : World} {kind : Int} (k : Kp Nu w W) (h : Pld B W b bm nb room v kind c L w') : Pld B w b bm nb room v kind c L w' := by
  obtain ⟨nb', D', v', c', L', h1, h2, h3, h4⟩ := h
  exact ⟨nb', D', v', c', L', h1, h2, h3, (Fr.of_nu k).trans h4⟩

set_option maxHeartbeats 1000000 in
theorem play_1 (h : Nt B w b bm nb room D v c L) (hc : Fax c) (A E N : Int) (kp : Bool) (atv dv : Value) (xs ys : List Int) (hr : RdI w atv xs) (hn : (xs.length : Int) ≤ 9223372036854775807) (hd : Rd w dv ys) (hnb : (nb : Int) ≤ 4611686018427387000) :
    Calls Try.prog 30 #[.pointer (some ⟨b, 0, none⟩), .agg #[.int .i64 1, .int .i64 A, .int .i64 E, .int .i64 N, .bool kp, atv, dv]] w fun e w' => e = .returned (.tuple #[]) ∧ Pld B w b bm nb room v 1 c L w' := by
  have mixed : Try.prog.follows .mixedOrders = true := by kernel_rfl
  have K1 := (Kp.alloc w (.cells #[.int .i64 1, .int .i64 A, .int .i64 E, .int .i64 N, .bool kp, atv, dv] 55) Nu).drew
  have HK1 := hide K1
  have CA := send_pl (h.nu K1) hc (A % 256) (E % 256) (by omega) (by omega) (by omega) (by omega) dv ys (hd.nu K1)
  obtain ⟨ad1, c1, e1⟩ := hr.slice
  obtain ⟨ad2, c2, e2⟩ := hd.slice
  subst e1 e2
  generalize xs.length = Nx at *
  generalize ys.length = Ny at *
  clear hc hnb hn hr hd h K1
  go_enter Try.func30, Try.ntmps30
  go_wp2_with fail
  go_region
  go_wp2_with fail
  refine CA.mono ?_; rintro e w2 ⟨code, rfl, hP⟩
  go_wp2
  go_end0
  exact ⟨rfl, hP.of_nu HK1.out⟩

set_option maxHeartbeats 1000000 in
theorem play_2 (h : Nt B w b bm nb room D v c L) (hc : Fax c) (A E N : Int) (kp : Bool) (atv dv : Value) (xs ys : List Int) (hr : RdI w atv xs) (hn : (xs.length : Int) ≤ 9223372036854775807) (hd : Rd w dv ys) (hnb : (nb : Int) ≤ 4611686018427387000) :
    Calls Try.prog 30 #[.pointer (some ⟨b, 0, none⟩), .agg #[.int .i64 2, .int .i64 A, .int .i64 E, .int .i64 N, .bool kp, atv, dv]] w fun e w' => e = .returned (.tuple #[]) ∧ Pld B w b bm nb room v 2 c L w' := by
  have mixed : Try.prog.follows .mixedOrders = true := by kernel_rfl
  have K1 := (Kp.alloc w (.cells #[.int .i64 2, .int .i64 A, .int .i64 E, .int .i64 N, .bool kp, atv, dv] 55) Nu).drew
  have HK1 := hide K1
  have CA := inject_pl (h.nu K1) hc (A % 256) (E % 256) (by omega) (by omega) (by omega) (by omega) dv ys (hd.nu K1)
  obtain ⟨ad1, c1, e1⟩ := hr.slice
  obtain ⟨ad2, c2, e2⟩ := hd.slice
  subst e1 e2
  generalize xs.length = Nx at *
  generalize ys.length = Ny at *
  clear hc hnb hn hr hd h K1
  go_enter Try.func30, Try.ntmps30
  go_wp2_with fail
  go_region
  go_wp2_with fail
  refine CA.mono ?_; rintro e w2 ⟨code, rfl, hP⟩
  go_wp2
  go_end0
  exact ⟨rfl, hP.of_nu HK1.out⟩

set_option maxHeartbeats 1000000 in
theorem play_3 (h : Nt B w b bm nb room D v c L) (hc : Fax c) (A E N : Int) (kp : Bool) (atv dv : Value) (xs ys : List Int) (hr : RdI w atv xs) (hn : (xs.length : Int) ≤ 9223372036854775807) (hd : Rd w dv ys) (hnb : (nb : Int) ≤ 4611686018427387000) :
    Calls Try.prog 30 #[.pointer (some ⟨b, 0, none⟩), .agg #[.int .i64 3, .int .i64 A, .int .i64 E, .int .i64 N, .bool kp, atv, dv]] w fun e w' => e = .returned (.tuple #[]) ∧ Pld B w b bm nb room v 3 c L w' := by
  have mixed : Try.prog.follows .mixedOrders = true := by kernel_rfl
  have K1 := (Kp.alloc w (.cells #[.int .i64 3, .int .i64 A, .int .i64 E, .int .i64 N, .bool kp, atv, dv] 55) Nu).drew
  have HK1 := hide K1
  have CA := deliver_pl (h.nu K1) hc N kp
  obtain ⟨ad1, c1, e1⟩ := hr.slice
  obtain ⟨ad2, c2, e2⟩ := hd.slice
  subst e1 e2
  generalize xs.length = Nx at *
  generalize ys.length = Ny at *
  clear hc hnb hn hr hd h K1
  go_enter Try.func30, Try.ntmps30
  go_wp2_with fail
  go_region
  go_wp2_with fail
  refine CA.mono ?_; rintro e w2 ⟨q1, q2, q3, q4, q5, q6, rfl, hP⟩
  go_wp2
  go_end0
  exact ⟨rfl, hP.of_nu HK1.out⟩

set_option maxHeartbeats 1000000 in
theorem play_4 (h : Nt B w b bm nb room D v c L) (hc : Fax c) (A E N : Int) (kp : Bool) (atv dv : Value) (xs ys : List Int) (hr : RdI w atv xs) (hn : (xs.length : Int) ≤ 9223372036854775807) (hd : Rd w dv ys) (hnb : (nb : Int) ≤ 4611686018427387000) :
    Calls Try.prog 30 #[.pointer (some ⟨b, 0, none⟩), .agg #[.int .i64 4, .int .i64 A, .int .i64 E, .int .i64 N, .bool kp, atv, dv]] w fun e w' => e = .returned (.tuple #[]) ∧ Pld B w b bm nb room v 4 c L w' := by
  have mixed : Try.prog.follows .mixedOrders = true := by kernel_rfl
  have K1 := (Kp.alloc w (.cells #[.int .i64 4, .int .i64 A, .int .i64 E, .int .i64 N, .bool kp, atv, dv] 55) Nu).drew
  have HK1 := hide K1
  have CA := look_pl (h.nu K1) N
  obtain ⟨ad1, c1, e1⟩ := hr.slice
  obtain ⟨ad2, c2, e2⟩ := hd.slice
  subst e1 e2
  generalize xs.length = Nx at *
  generalize ys.length = Ny at *
  clear hc hnb hn hr hd h K1
  go_enter Try.func30, Try.ntmps30
  go_wp2_with fail
  go_region
  go_wp2_with fail
  refine CA.mono ?_; rintro e w2 ⟨q1, q2, q3, q4, q5, q6, rfl, hP⟩
  go_wp2
  go_end0
  exact ⟨rfl, hP.of_nu HK1.out⟩

set_option maxHeartbeats 1000000 in
theorem play_5 (h : Nt B w b bm nb room D v c L) (hc : Fax c) (A E N : Int) (kp : Bool) (atv dv : Value) (xs ys : List Int) (hr : RdI w atv xs) (hn : (xs.length : Int) ≤ 9223372036854775807) (hd : Rd w dv ys) (hnb : (nb : Int) ≤ 4611686018427387000) :
    Calls Try.prog 30 #[.pointer (some ⟨b, 0, none⟩), .agg #[.int .i64 5, .int .i64 A, .int .i64 E, .int .i64 N, .bool kp, atv, dv]] w fun e w' => e = .returned (.tuple #[]) ∧ Pld B w b bm nb room v 5 c L w' := by
  have mixed : Try.prog.follows .mixedOrders = true := by kernel_rfl
  have K1 := (Kp.alloc w (.cells #[.int .i64 5, .int .i64 A, .int .i64 E, .int .i64 N, .bool kp, atv, dv] 55) Nu).drew
  have HK1 := hide K1
  have CA := drop_pl (h.nu K1) hc atv xs (hr.nu K1) hn
  obtain ⟨ad1, c1, e1⟩ := hr.slice
  obtain ⟨ad2, c2, e2⟩ := hd.slice
  subst e1 e2
  generalize xs.length = Nx at *
  generalize ys.length = Ny at *
  clear hc hnb hn hr hd h K1
  go_enter Try.func30, Try.ntmps30
  go_wp2_with fail
  go_region
  go_wp2_with fail
  refine CA.mono ?_; rintro e w2 ⟨q1, q2, rfl, hP⟩
  go_wp2
  go_end0
  exact ⟨rfl, hP.of_nu HK1.out⟩

set_option maxHeartbeats 1000000 in
theorem play_6 (h : Nt B w b bm nb room D v c L) (hc : Fax c) (A E N : Int) (kp : Bool) (atv dv : Value) (xs ys : List Int) (hr : RdI w atv xs) (hn : (xs.length : Int) ≤ 9223372036854775807) (hd : Rd w dv ys) (hnb : (nb : Int) ≤ 4611686018427387000) :
    Calls Try.prog 30 #[.pointer (some ⟨b, 0, none⟩), .agg #[.int .i64 6, .int .i64 A, .int .i64 E, .int .i64 N, .bool kp, atv, dv]] w fun e w' => e = .returned (.tuple #[]) ∧ Pld B w b bm nb room v 6 c L w' := by
  have mixed : Try.prog.follows .mixedOrders = true := by kernel_rfl
  have K1 := (Kp.alloc w (.cells #[.int .i64 6, .int .i64 A, .int .i64 E, .int .i64 N, .bool kp, atv, dv] 55) Nu).drew
  have HK1 := hide K1
  have CA := sweep_pl (h.nu K1) hc A E
  obtain ⟨ad1, c1, e1⟩ := hr.slice
  obtain ⟨ad2, c2, e2⟩ := hd.slice
  subst e1 e2
  generalize xs.length = Nx at *
  generalize ys.length = Ny at *
  clear hc hnb hn hr hd h K1
  go_enter Try.func30, Try.ntmps30
  go_wp2_with fail
  go_region
  go_wp2_with fail
  refine CA.mono ?_; rintro e w2 ⟨q1, rfl, hP⟩
  go_wp2
  go_end0
  exact ⟨rfl, hP.of_nu HK1.out⟩

set_option maxHeartbeats 1000000 in
theorem play_7 (h : Nt B w b bm nb room D v c L) (hc : Fax c) (A E N : Int) (kp : Bool) (atv dv : Value) (xs ys : List Int) (hr : RdI w atv xs) (hn : (xs.length : Int) ≤ 9223372036854775807) (hd : Rd w dv ys) (hnb : (nb : Int) ≤ 4611686018427387000) :
    Calls Try.prog 30 #[.pointer (some ⟨b, 0, none⟩), .agg #[.int .i64 7, .int .i64 A, .int .i64 E, .int .i64 N, .bool kp, atv, dv]] w fun e w' => e = .returned (.tuple #[]) ∧ Pld B w b bm nb room v 7 c L w' := by
  have mixed : Try.prog.follows .mixedOrders = true := by kernel_rfl
  have K1 := (Kp.alloc w (.cells #[.int .i64 7, .int .i64 A, .int .i64 E, .int .i64 N, .bool kp, atv, dv] 55) Nu).drew
  have HK1 := hide K1
  have CA := empty_pl (h.nu K1) hc
  obtain ⟨ad1, c1, e1⟩ := hr.slice
  obtain ⟨ad2, c2, e2⟩ := hd.slice
  subst e1 e2
  generalize xs.length = Nx at *
  generalize ys.length = Ny at *
  clear hc hnb hn hr hd h K1
  go_enter Try.func30, Try.ntmps30
  go_wp2_with fail
  go_region
  go_wp2_with fail
  refine CA.mono ?_; rintro e w2 ⟨q1, rfl, hP⟩
  go_wp2
  go_end0
  exact ⟨rfl, hP.of_nu HK1.out⟩

set_option maxHeartbeats 1000000 in
theorem play_8 (h : Nt B w b bm nb room D v c L) (hc : Fax c) (A E N : Int) (kp : Bool) (atv dv : Value) (xs ys : List Int) (hr : RdI w atv xs) (hn : (xs.length : Int) ≤ 9223372036854775807) (hd : Rd w dv ys) (hnb : (nb : Int) ≤ 4611686018427387000) :
    Calls Try.prog 30 #[.pointer (some ⟨b, 0, none⟩), .agg #[.int .i64 8, .int .i64 A, .int .i64 E, .int .i64 N, .bool kp, atv, dv]] w fun e w' => e = .returned (.tuple #[]) ∧ Pld B w b bm nb room v 8 c L w' := by
  have mixed : Try.prog.follows .mixedOrders = true := by kernel_rfl
  have K1 := (Kp.alloc w (.cells #[.int .i64 8, .int .i64 A, .int .i64 E, .int .i64 N, .bool kp, atv, dv] 55) Nu).drew
  have HK1 := hide K1
  have CA := block_pl (h.nu K1) (A % 256) (E % 256) (by omega) (by omega) (by omega) (by omega) (by unfold maxLen; omega)
  obtain ⟨ad1, c1, e1⟩ := hr.slice
  obtain ⟨ad2, c2, e2⟩ := hd.slice
  subst e1 e2
  generalize xs.length = Nx at *
  generalize ys.length = Ny at *
  clear hc hnb hn hr hd h K1
  go_enter Try.func30, Try.ntmps30
  go_wp2_with fail
  go_region
  go_wp2_with fail
  refine CA.mono ?_; rintro e w2 ⟨rfl, hP⟩
  go_wp2
  go_end0
  exact ⟨rfl, hP.of_nu HK1.out⟩

set_option maxHeartbeats 1000000 in
theorem play_9 (h : Nt B w b bm nb room D v c L) (hc : Fax c) (A E N : Int) (kp : Bool) (atv dv : Value) (xs ys : List Int) (hr : RdI w atv xs) (hn : (xs.length : Int) ≤ 9223372036854775807) (hd : Rd w dv ys) (hnb : (nb : Int) ≤ 4611686018427387000) :
    Calls Try.prog 30 #[.pointer (some ⟨b, 0, none⟩), .agg #[.int .i64 9, .int .i64 A, .int .i64 E, .int .i64 N, .bool kp, atv, dv]] w fun e w' => e = .returned (.tuple #[]) ∧ Pld B w b bm nb room v 9 c L w' := by
  have mixed : Try.prog.follows .mixedOrders = true := by kernel_rfl
  have K1 := (Kp.alloc w (.cells #[.int .i64 9, .int .i64 A, .int .i64 E, .int .i64 N, .bool kp, atv, dv] 55) Nu).drew
  have HK1 := hide K1
  have CA := heal_pl (h.nu K1) A E hnb
  obtain ⟨ad1, c1, e1⟩ := hr.slice
  obtain ⟨ad2, c2, e2⟩ := hd.slice
  subst e1 e2
  generalize xs.length = Nx at *
  generalize ys.length = Ny at *
  clear hc hnb hn hr hd h K1
  go_enter Try.func30, Try.ntmps30
  go_wp2_with fail
  go_region
  go_wp2_with fail
  refine CA.mono ?_; rintro e w2 ⟨q1, rfl, hP⟩
  go_wp2
  go_end0
  exact ⟨rfl, hP.of_nu HK1.out⟩

set_option maxHeartbeats 1000000 in
theorem play_0 (h : Nt B w b bm nb room D v c L) (hc : Fax c) (kd A E N : Int) (hkd : kd < 1 ∨ 9 < kd) (kp : Bool) (atv dv : Value) (xs ys : List Int) (hr : RdI w atv xs) (hn : (xs.length : Int) ≤ 9223372036854775807) (hd : Rd w dv ys) (hnb : (nb : Int) ≤ 4611686018427387000) :
    Calls Try.prog 30 #[.pointer (some ⟨b, 0, none⟩), .agg #[.int .i64 kd, .int .i64 A, .int .i64 E, .int .i64 N, .bool kp, atv, dv]] w fun e w' => e = .returned (.tuple #[]) ∧ Pld B w b bm nb room v kd c L w' := by
  have mixed : Try.prog.follows .mixedOrders = true := by kernel_rfl
  have K1 := (Kp.alloc w (.cells #[.int .i64 kd, .int .i64 A, .int .i64 E, .int .i64 N, .bool kp, atv, dv] 55) Nu).drew
  have HK1 := hide K1
  have HP := hide (Pld.nu h K1 (kind := kd))
  have q1 : (kd == 1) = false := by simp; omega
  have q2 : (kd == 2) = false := by simp; omega
  have q3 : (kd == 3) = false := by simp; omega
  have q4 : (kd == 4) = false := by simp; omega
  have q5 : (kd == 5) = false := by simp; omega
  have q6 : (kd == 6) = false := by simp; omega
  have q7 : (kd == 7) = false := by simp; omega
  have q8 : (kd == 8) = false := by simp; omega
  have q9 : (kd == 9) = false := by simp; omega
  clear hkd
  obtain ⟨ad1, c1, e1⟩ := hr.slice
  obtain ⟨ad2, c2, e2⟩ := hd.slice
  subst e1 e2
  generalize xs.length = Nx at *
  generalize ys.length = Ny at *
  clear hc hnb hn hr hd h K1
  go_enter Try.func30, Try.ntmps30
  go_wp2_with fail
  go_region
  go_wp2
  go_end0
  exact ⟨rfl, HP.out⟩

end
end Go.Proofs.Ythajboipnjjgfaa.Ly
