import Derived.Test.YthajboipnjjgfaaBkE
namespace Go.Proofs.Ythajboipnjjgfaa.Ly
open Go.RowKit Go.Maps
set_option linter.unusedVariables false

theorem still_any {B b bm nb : Nat} {w : World} {room : Int} {D : DataW Unit} {v : Value} {c : Ct} {L : List Gm} (h : Nt B w b bm nb room D v c L) (hc : Fax c) (kd A E N : Int) (hkd : kd ≠ 1 ∧ kd ≠ 2 ∧ kd ≠ 3 ∧ kd ≠ 5 ∧ kd ≠ 6 ∧ kd ≠ 7) (kp : Bool) (atv dv : Value) (xs ys : List Int) (hr : RdI w atv xs) (hn : (xs.length : Int) ≤ 9223372036854775807) (hd : Rd w dv ys) (hnb : (nb : Int) ≤ 4611686018427387000) :
    Calls Try.prog 30 #[.pointer (some ⟨b, 0, none⟩), .agg #[.int .i64 kd, .int .i64 A, .int .i64 E, .int .i64 N, .bool kp, atv, dv]] w fun e w' => e = .returned (.tuple #[]) ∧ Stl B w b bm nb room v c L w' := by
  by_cases h4 : kd = 4
  · subst h4; exact still_4 h hc A E N kp atv dv xs ys hr hn hd hnb
  by_cases h8 : kd = 8
  · subst h8; exact still_8 h hc A E N kp atv dv xs ys hr hn hd hnb
  by_cases h9 : kd = 9
  · subst h9; exact still_9 h hc A E N kp atv dv xs ys hr hn hd hnb
  exact still_0 h hc kd A E N (by omega) kp atv dv xs ys hr hn hd hnb

set_option maxRecDepth 100000 in
set_option maxHeartbeats 1000000 in
theorem booked_still {w0 w : World} {b bm nb : Nat} {room : Int} {D : DataW Unit} {v : Value} {c : Ct} {L : List Gm} {u : Value} {M : List Gm} (h : Bs w0 w b bm nb room D v c L u M) (hc : Fax c) (kd A E N : Int) (hkd : kd ≠ 1 ∧ kd ≠ 2 ∧ kd ≠ 3 ∧ kd ≠ 5 ∧ kd ≠ 6 ∧ kd ≠ 7) (kp : Bool) (atv dv : Value) (xs ys : List Int) (hr : RdI w0 atv xs) (hn : (xs.length : Int) ≤ 9223372036854775807) (hd : Rd w0 dv ys) (hnb : (nb : Int) ≤ 4611686018427387000) :
    Calls Try.prog 36 #[.pointer (some ⟨b, 0, none⟩), u, .agg #[.int .i64 kd, .int .i64 A, .int .i64 E, .int .i64 N, .bool kp, atv, dv], .int .i64 room] w fun e w' => e = .returned (.tuple #[u, .bool true]) ∧ ∃ nb' D' v', nb' ≤ nb + 1 ∧ Bs w0 w' b bm nb' room D' v' c L u M := by
  have mixed : Try.prog.follows .mixedOrders = true := by kernel_rfl
  have PL : ∀ W, Kp Nu w W → Calls Try.prog 30 #[.pointer (some ⟨b, 0, none⟩), .agg #[.int .i64 kd, .int .i64 A, .int .i64 E, .int .i64 N, .bool kp, atv, dv]] W fun e w' => e = .returned (.tuple #[]) ∧ ∃ nb' D' v', nb' ≤ nb + 1 ∧ Bs w0 w' b bm nb' room D' v' c L u M := fun W k => by
    have h2 := h.nu k
    refine (still_any h2.nt hc kd A E N hkd kp atv dv xs ys (hr.nu h2.kp) hn (hd.nu h2.kp) hnb).mono ?_
    rintro e w' ⟨rfl, nb', D', v', hle, hN, hF⟩
    obtain ⟨ho, hk⟩ := h2.fr hN hF
    exact ⟨rfl, nb', D', v', hle, ⟨hN, hk, ho, h2.dat, h2.same⟩⟩
  have q1 : (kd == 1) = false := by simp; omega
  have q2 : (kd == 2) = false := by simp; omega
  have q3 : (kd == 3) = false := by simp; omega
  have q5 : (kd == 5) = false := by simp; omega
  have q6 : (kd == 6) = false := by simp; omega
  have q7 : (kd == 7) = false := by simp; omega
  obtain ⟨ad, cap, hu⟩ := own_slice h.own
  obtain ⟨ad1, c1, e1⟩ := hr.slice
  obtain ⟨ad2, c2, e2⟩ := hd.slice
  subst hu e1 e2
  generalize xs.length = Nx at *
  generalize ys.length = Ny at *
  generalize M.length = NM at *
  clear hr hd hn h hkd
  go_enter Try.func36, Try.ntmps36
  go_wp2_with fail
  go_region
  go_wp2_with fail
  refine (PL _ ?_).mono ?_
  · exact (Kp.alloc w _ Nu).drew
  rintro e w2 ⟨rfl, hP⟩
  have HP := hide hP
  clear PL hP
  go_wp2
  go_ret2
  exact ⟨rfl, HP.out⟩
end Go.Proofs.Ythajboipnjjgfaa.Ly
