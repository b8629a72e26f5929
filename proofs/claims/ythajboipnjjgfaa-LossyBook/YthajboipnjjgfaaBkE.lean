import Derived.Test.YthajboipnjjgfaaBkD
namespace Go.Proofs.Ythajboipnjjgfaa.Ly
open Go.RowKit Go.Maps
set_option linter.unusedVariables false

/-- what a step leaves that leaves the list and the counts as they are -/
def Stl (B : Nat) (w : World) (b bm nb : Nat) (room : Int) (v : Value) (c : Ct) (L : List Gm) (w' : World) : Prop :=
  ∃ nb' D' v', nb' ≤ nb + 1 ∧ Nt B w' b bm nb' room D' v' c L ∧ Fr b bm v w w' v'
section
variable {B b bm nb : Nat} {w w' : World} {room : Int} {D : DataW Unit} {v : Value} {c : Ct} {L : List Gm}
theorem Stl.nu (h : Nt B w b bm nb room D v c L) (k : Kp Nu w w') : Stl B w b bm nb room v c L w' := ⟨nb, D, v, by omega, h.nu k, Fr.of_nu k⟩
theorem Stl.of_nu {W : World} (k : Kp Nu w W) (h : Stl B W b bm nb room v c L w') : Stl B w b bm nb room v c L w' := by
  obtain ⟨nb', D', v', h1, h3, h4⟩ := h
  exact ⟨nb', D', v', h1, h3, (Fr.of_nu k).trans h4⟩
theorem look_st (h : Nt B w b bm nb room D v c L) (p : Int) :
    Calls Try.prog 26 #[.pointer (some ⟨b, 0, none⟩), .int .i64 p] w fun e w' => ∃ f t ad n cap code, e = .returned (.tuple #[.agg #[.int .u8 f, .int .u8 t, .slice ad n cap], .int .i64 code]) ∧ Stl B w b bm nb room v c L w' := by
  cases hin : inL p L.length
  · refine (look_bad h p hin).mono ?_
    rintro e w2 ⟨rfl, hk⟩
    exact ⟨_, _, _, _, _, _, rfl, Stl.nu h hk⟩
  · have hpp : 0 ≤ p ∧ p < (L.length : Int) := by simpa [inL] using hin
    obtain ⟨P, rfl⟩ : ∃ P : Nat, p = (P : Int) := ⟨p.toNat, by omega⟩
    have hP : P < L.length := by omega
    refine (look_ok h P (List.getElem?_eq_getElem hP)).mono ?_
    rintro e w2 ⟨a, n, cap, rfl, hO, hk⟩
    exact ⟨_, _, _, _, _, _, rfl, Stl.nu h hk⟩
theorem block_st (h : Nt B w b bm nb room D v c L) (f t : Int) (f0 : 0 ≤ f) (f1 : f < 256) (t0 : 0 ≤ t) (t1 : t < 256) (hn : nb < maxLen) :
    Calls Try.prog 35 #[.pointer (some ⟨b, 0, none⟩), .int .u8 f, .int .u8 t] w fun e w' => e = .returned (.int .i64 0) ∧ Stl B w b bm nb room v c L w' := by
  refine (block_any h f t f0 f1 t0 t1 hn).mono ?_
  rintro e w2 ⟨rfl, hN, hF⟩
  exact ⟨rfl, nb + 1, _, v, by omega, hN, hF⟩
theorem heal_st (h : Nt B w b bm nb room D v c L) (n m : Int) (hnb : (nb : Int) ≤ 4611686018427387000) :
    Calls Try.prog 33 #[.pointer (some ⟨b, 0, none⟩), .int .i64 n, .int .i64 m] w fun e w' => ∃ q, e = .returned (.int .i64 q) ∧ Stl B w b bm nb room v c L w' := by
  by_cases hnm : n = -1 ∧ m = -1
  · obtain ⟨rfl, rfl⟩ := hnm
    refine (heal_all h).mono ?_
    rintro e w2 ⟨rfl, hN, hF⟩
    exact ⟨_, rfl, 0, _, v, by omega, hN, hF⟩
  · refine (heal_some h n m hnm hnb).mono ?_
    rintro e w2 ⟨D', rfl, _, hN, hF⟩
    exact ⟨_, rfl, nb, D', v, by omega, hN, hF⟩

set_option maxHeartbeats 1000000 in
theorem still_4 (h : Nt B w b bm nb room D v c L) (hc : Fax c) (A E N : Int) (kp : Bool) (atv dv : Value) (xs ys : List Int) (hr : RdI w atv xs) (hn : (xs.length : Int) ≤ 9223372036854775807) (hd : Rd w dv ys) (hnb : (nb : Int) ≤ 4611686018427387000) :
    Calls Try.prog 30 #[.pointer (some ⟨b, 0, none⟩), .agg #[.int .i64 4, .int .i64 A, .int .i64 E, .int .i64 N, .bool kp, atv, dv]] w fun e w' => e = .returned (.tuple #[]) ∧ Stl B w b bm nb room v c L w' := by
  have mixed : Try.prog.follows .mixedOrders = true := by kernel_rfl
  have K1 := (Kp.alloc w (.cells #[.int .i64 4, .int .i64 A, .int .i64 E, .int .i64 N, .bool kp, atv, dv] 55) Nu).drew
  have HK1 := hide K1
  have CA := look_st (h.nu K1) N
  obtain ⟨ad1, c1, e1⟩ := hr.slice
  obtain ⟨ad2, c2, e2⟩ := hd.slice
  subst e1 e2
  generalize xs.length = Nx at *
  generalize ys.length = Ny at *
  clear hc hnb hn hr hd h K1
  go_enter Try.func30, Try.ntmps30
  go_wp2_with fail
  go_region
  go_wp2_with fail
  refine CA.mono ?_; rintro e w2 ⟨q1, q2, q3, q4, q5, q6, rfl, hP⟩
  go_wp2
  go_end0
  exact ⟨rfl, hP.of_nu HK1.out⟩

set_option maxHeartbeats 1000000 in
theorem still_8 (h : Nt B w b bm nb room D v c L) (hc : Fax c) (A E N : Int) (kp : Bool) (atv dv : Value) (xs ys : List Int) (hr : RdI w atv xs) (hn : (xs.length : Int) ≤ 9223372036854775807) (hd : Rd w dv ys) (hnb : (nb : Int) ≤ 4611686018427387000) :
    Calls Try.prog 30 #[.pointer (some ⟨b, 0, none⟩), .agg #[.int .i64 8, .int .i64 A, .int .i64 E, .int .i64 N, .bool kp, atv, dv]] w fun e w' => e = .returned (.tuple #[]) ∧ Stl B w b bm nb room v c L w' := by
  have mixed : Try.prog.follows .mixedOrders = true := by kernel_rfl
  have K1 := (Kp.alloc w (.cells #[.int .i64 8, .int .i64 A, .int .i64 E, .int .i64 N, .bool kp, atv, dv] 55) Nu).drew
  have HK1 := hide K1
  have CA := block_st (h.nu K1) (A % 256) (E % 256) (by omega) (by omega) (by omega) (by omega) (by unfold maxLen; omega)
  obtain ⟨ad1, c1, e1⟩ := hr.slice
  obtain ⟨ad2, c2, e2⟩ := hd.slice
  subst e1 e2
  generalize xs.length = Nx at *
  generalize ys.length = Ny at *
  clear hc hnb hn hr hd h K1
  go_enter Try.func30, Try.ntmps30
  go_wp2_with fail
  go_region
  go_wp2_with fail
  refine CA.mono ?_; rintro e w2 ⟨rfl, hP⟩
  go_wp2
  go_end0
  exact ⟨rfl, hP.of_nu HK1.out⟩

set_option maxHeartbeats 1000000 in
theorem still_9 (h : Nt B w b bm nb room D v c L) (hc : Fax c) (A E N : Int) (kp : Bool) (atv dv : Value) (xs ys : List Int) (hr : RdI w atv xs) (hn : (xs.length : Int) ≤ 9223372036854775807) (hd : Rd w dv ys) (hnb : (nb : Int) ≤ 4611686018427387000) :
    Calls Try.prog 30 #[.pointer (some ⟨b, 0, none⟩), .agg #[.int .i64 9, .int .i64 A, .int .i64 E, .int .i64 N, .bool kp, atv, dv]] w fun e w' => e = .returned (.tuple #[]) ∧ Stl B w b bm nb room v c L w' := by
  have mixed : Try.prog.follows .mixedOrders = true := by kernel_rfl
  have K1 := (Kp.alloc w (.cells #[.int .i64 9, .int .i64 A, .int .i64 E, .int .i64 N, .bool kp, atv, dv] 55) Nu).drew
  have HK1 := hide K1
  have CA := heal_st (h.nu K1) A E hnb
  obtain ⟨ad1, c1, e1⟩ := hr.slice
  obtain ⟨ad2, c2, e2⟩ := hd.slice
  subst e1 e2
  generalize xs.length = Nx at *
  generalize ys.length = Ny at *
  clear hc hnb hn hr hd h K1
  go_enter Try.func30, Try.ntmps30
  go_wp2_with fail
  go_region
  go_wp2_with fail
  refine CA.mono ?_; rintro e w2 ⟨q1, rfl, hP⟩
  go_wp2
  go_end0
  exact ⟨rfl, hP.of_nu HK1.out⟩

set_option maxHeartbeats 1000000 in
theorem still_0 (h : Nt B w b bm nb room D v c L) (hc : Fax c) (kd A E N : Int) (hkd : kd < 1 ∨ 9 < kd) (kp : Bool) (atv dv : Value) (xs ys : List Int) (hr : RdI w atv xs) (hn : (xs.length : Int) ≤ 9223372036854775807) (hd : Rd w dv ys) (hnb : (nb : Int) ≤ 4611686018427387000) :
    Calls Try.prog 30 #[.pointer (some ⟨b, 0, none⟩), .agg #[.int .i64 kd, .int .i64 A, .int .i64 E, .int .i64 N, .bool kp, atv, dv]] w fun e w' => e = .returned (.tuple #[]) ∧ Stl B w b bm nb room v c L w' := by
  have mixed : Try.prog.follows .mixedOrders = true := by kernel_rfl
  have K1 := (Kp.alloc w (.cells #[.int .i64 kd, .int .i64 A, .int .i64 E, .int .i64 N, .bool kp, atv, dv] 55) Nu).drew
  have HK1 := hide K1
  have HP := hide (Stl.nu h K1)
  have q1 : (kd == 1) = false := by simp; omega
  have q2 : (kd == 2) = false := by simp; omega
  have q3 : (kd == 3) = false := by simp; omega
  have q4 : (kd == 4) = false := by simp; omega
  have q5 : (kd == 5) = false := by simp; omega
  have q6 : (kd == 6) = false := by simp; omega
  have q7 : (kd == 7) = false := by simp; omega
  have q8 : (kd == 8) = false := by simp; omega
  have q9 : (kd == 9) = false := by simp; omega
  clear hkd
  obtain ⟨ad1, c1, e1⟩ := hr.slice
  obtain ⟨ad2, c2, e2⟩ := hd.slice
  subst e1 e2
  generalize xs.length = Nx at *
  generalize ys.length = Ny at *
  clear hc hnb hn hr hd h K1
  go_enter Try.func30, Try.ntmps30
  go_wp2_with fail
  go_region
  go_wp2
  go_end0
  exact ⟨rfl, HP.out⟩

end
end Go.Proofs.Ythajboipnjjgfaa.Ly
