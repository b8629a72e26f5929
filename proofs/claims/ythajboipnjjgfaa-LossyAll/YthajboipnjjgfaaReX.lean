import Derived.Test.YthajboipnjjgfaaReW
namespace Go.Proofs.Ythajboipnjjgfaa.Ly
open Go.RowKit Go.Maps
set_option linter.unusedVariables false
set_option linter.unusedSimpArgs false

theorem moves_any {w0 w : World} {n : Value} {p : Nat} {k : Int} (h : Stt w0 w n p k) (hkb : k < 1599289640400) (s : Sp) (hs : SpR w0 s) (hb : SpB s) :
    Calls Try.prog 58 #[n, .pointer (some ⟨p, 0, none⟩), s.agg] w fun e w' => e = .returned (.bool true) ∧ Stt w0 w' n p (k + 1) := by
  obtain ⟨kd, A, E, N, kp, atv, xs, dv, ys⟩ := s
  obtain ⟨h1, h2, h3⟩ := hs
  obtain ⟨b1, b2, b3⟩ := hb
  simp only [Sp.agg] at *
  by_cases e1 : kd = 1
  · subst e1; exact moves_1 h hkb A E N kp atv dv xs ys h1 h3 b1 b2 b3
  by_cases e2 : kd = 2
  · subst e2; exact moves_2 h hkb A E N kp atv dv xs ys h1 h3 b1 b2 b3
  by_cases e3 : kd = 3
  · subst e3; exact moves_3 h hkb A E N kp atv dv xs ys h1 h3 b1 b2 b3
  by_cases e5 : kd = 5
  · subst e5; exact moves_5 h hkb A E N kp atv dv xs ys h1 h3 b1 b2 b3
  by_cases e6 : kd = 6
  · subst e6; exact moves_6 h hkb A E N kp atv dv xs ys h1 h3 b1 b2 b3
  by_cases e7 : kd = 7
  · subst e7; exact moves_7 h hkb A E N kp atv dv xs ys h1 h3 b1 b2 b3
  by_cases e8 : kd = 8
  · subst e8; exact moves_8 h hkb A E N kp atv dv xs ys h1 h3 b1 b2 b3
  by_cases e9 : kd = 9
  · subst e9; exact moves_9 h hkb A E N kp atv dv xs ys h1 h3 b1 b2 b3
  exact moves_0 h hkb kd ⟨e1, e2, e3, e5, e6, e7, e8, e9⟩ A E N kp atv dv xs ys h1 h3 b1 b2 b3

theorem Rn.base {B B' p : Nat} {w : World} {there : Bool} {room : Int} {bs : Nat → Bool} {v : Value} {c : Ct} (h : Rn B w p there room bs v c []) (hB : B' ≤ B) : Rn B' w p there room bs v c [] :=
  ⟨h.blk, own_base h.own hB, fun g hg => by simp at hg, Nat.le_trans hB h.hb⟩
theorem brs_start : Brs (.map []) (fun _ => false) := fun f t _ _ _ _ => by simp [bar, has_eq]

set_option maxHeartbeats 1000000 in
theorem begun_any (w : World) (room : Int) : Calls Try.prog 57 #[.int .i64 room] w fun e w' => ∃ na p, e = .returned (.tuple #[.pointer na, .pointer (some ⟨p, 0, none⟩), .bool true]) ∧ Stt w w' (.pointer na) p 0 := by
  have mixed : Try.prog.follows .mixedOrders = true := by kernel_rfl
  have NU := num_any
  by_cases hr : 1 ≤ room ∧ room ≤ 4096
  · obtain ⟨r0, r1⟩ := hr
    have NW := new_ok w room r0 r1
    go_enter Try.func57, Try.ntmps57
    go_wp2_with fail
    refine NW.mono ?_; rintro e w2 ⟨b, rfl, ⟨bm, hN⟩, k2⟩
    have RW := refNew_ok w2 room r0 r1
    have HN := hide hN
    have HK2 := hide k2
    clear NW hN k2
    go_wp2_with fail
    refine RW.mono ?_; rintro e w3 ⟨p, rfl, hR, k3⟩
    have c0 := hR.c0
    have HST : Hid (Stt w w3 (.pointer (some ⟨b, 0, none⟩)) p 0) := .inl ⟨b, bm, 0, room, .map [], _, _, Ct0, [], [], _, rfl, ⟨HN.out.nu k3, hR.base HK2.out.size, rfl, brs_start, Inv.start, by simp, by simp, HK2.out.andNu k3⟩⟩
    clear RW hR k3
    go_wp2_with fail
    go_quiet (first | (go_at_call 17; exact Calls.quiet_of_same (NU _ _)))
    go_wp2
    refine bodyPost_ret (v := .tuple #[.pointer (some ⟨b, 0, none⟩), .pointer (some ⟨p, 0, none⟩), .bool true]) (by simp [results, Try.results57, go_sem]) rfl ⟨_, _, rfl, HST.out.nu (kp_drewN _ _)⟩
  · have hb : room < 1 ∨ room > 4096 := by omega
    have NW := new_bad w room hb
    go_enter Try.func57, Try.ntmps57
    go_wp2_with fail
    refine NW.mono ?_; rintro e w2 ⟨rfl, hw2⟩
    obtain rfl := hw2.symm
    have RW := refNew_bad w room hb
    clear NW hw2 hb hr
    go_wp2_with fail
    refine RW.mono ?_; rintro e w3 ⟨p, rfl, hR, k3⟩
    have c0 := hR.c0
    have HST : Hid (Stt w w3 (.pointer none) p 0) := .inr ⟨rfl, k3, hR⟩
    clear RW hR k3
    go_wp2_with fail
    go_quiet (first | (go_at_call 17; exact Calls.quiet_of_same (NU _ _)))
    go_wp2
    refine bodyPost_ret (v := .tuple #[.pointer none, .pointer (some ⟨p, 0, none⟩), .bool true]) (by simp [results, Try.results57, go_sem]) rfl ⟨_, _, rfl, HST.out.nu (kp_drewN _ _)⟩

set_option maxRecDepth 100000 in
set_option maxHeartbeats 1000000 in
theorem only_any (w : World) (room lo hi : Int) (v : Value) (S : List Sp) (hS : Scr w v S) (hl : (S.length : Int) ≤ 1599289640354) (hb : ∀ s ∈ S, SpB s) :
    Calls Try.prog 38 #[.int .i64 room, v, .int .i64 lo, .int .i64 hi] w fun e w' => e = .returned (.bool true) ∧ Kp Nu w w' := by
  have BE := begun_any w room
  obtain ⟨ad, cap, hv⟩ := hS.slice
  obtain ⟨N, hN⟩ : ∃ N, S.length = N := ⟨_, rfl⟩
  have HN := hide hN
  have HS := hide hS
  have HB := hide hb
  rw [hN] at hv hl
  subst hv
  clear hS hN hb
  go_enter Try.func38, Try.ntmps38
  go_wp2_with fail
  refine BE.mono ?_; rintro e w2 ⟨na, p, rfl, hst⟩
  have HST := hide hst
  clear BE hst
  go_wp2_with fail
  go_loopw [12, 13] (fun i r wr => ∃ k : Nat, k ≤ N ∧ i = .int .i64 (k : Int) ∧ Hid (Stt w wr (.pointer na) p (k : Int))) (fun i _ _ => N - (intOf i).toNat)
  case atStart => exact ⟨0, by omega, rfl, HST.out⟩
  case round =>
    obtain ⟨k, hk, rfl, hI⟩ := hrel
    by_cases hlt : k < N
    · have hkS : k < S.length := by rw [HN.out]; exact hlt
      obtain ⟨s, hs⟩ : ∃ s, S[k]? = some s := ⟨_, List.getElem?_eq_getElem hkS⟩
      rcases HS.out with ⟨_, e⟩ | ⟨b, off, cap', e, hc⟩
      · subst e; simp at hkS
      have hat := (hc k s hs).nu hI.out.kp
      have MV := moves_any hI.out (by omega) s (hc k s hs).fit (HB.out s (List.mem_of_getElem? hs))
      simp only [Value.slice.injEq] at e
      obtain ⟨e1, e2, e3⟩ := e
      clear e2 e3
      subst e1
      have hltI : (k : Int) < (N : Int) := by omega
      have hk0 : (0 : Int) ≤ (k : Int) := by omega
      have x0 := hat.c0
      have x1 := hat.c1
      have x2 := hat.c2
      have x3 := hat.c3
      have x4 := hat.c4
      have x5 := hat.c5
      have x6 := hat.c6
      obtain ⟨a1, p1, ea⟩ := hat.fit.at'.slice
      obtain ⟨a2, p2, ed⟩ := hat.fit.ds.slice
      unfold Sp.agg at MV
      rw [ea] at x5 MV
      rw [ed] at x6 MV
      clear hat hc hs hkS hI ea ed
      generalize s.kind = q0 at *
      generalize s.a = q1 at *
      generalize s.b = q2 at *
      generalize s.n = q3 at *
      generalize s.keep = q4 at *
      generalize s.at'.length = L1 at *
      generalize s.ds.length = L2 at *
      go_wp2_with fail
      refine MV.mono ?_; rintro e w3 ⟨rfl, hst⟩
      have HS3 : Hid (Stt w w3 (.pointer na) p ((k + 1 : Nat) : Int)) := by
        show Stt _ _ _ _ _
        rw [show ((k + 1 : Nat) : Int) = (k : Int) + 1 by omega]
        exact hst
      clear MV hst
      go_wp2
      exact ⟨⟨k + 1, by omega, by go_num, HS3⟩, by simp [intOf]; omega⟩
    · have hge : ¬ (k : Int) < (N : Int) := by omega
      have HKe := hide hI.out.kp
      clear hI
      go_wp2
      go_ret
      exact ⟨rfl, HKe.out⟩

theorem law_9 (w : World) (room : Int) (v : Value) (S : List Sp) (hS : Scr w v S) (hl : (S.length : Int) ≤ 1599289640354) (hb : ∀ s ∈ S, SpB s) : Calls Try.prog 9 #[.int .i64 room, v] w fun e w' => e = .returned (.bool true) ∧ Kp Nu w w' := by
  have ON := fun lo hi => only_any w room lo hi v S hS hl hb
  obtain ⟨ad, cap, hv⟩ := hS.slice
  subst hv
  go_enter Try.func9, Try.ntmps9
  go_wp2_with fail
  refine (ON _ _).mono ?_; rintro e w2 ⟨rfl, k2⟩
  clear ON
  go_wp2
  go_ret
  exact ⟨rfl, k2⟩

theorem law_10 (w : World) (room : Int) (v : Value) (S : List Sp) (hS : Scr w v S) (hl : (S.length : Int) ≤ 1599289640354) (hb : ∀ s ∈ S, SpB s) : Calls Try.prog 10 #[.int .i64 room, v] w fun e w' => e = .returned (.bool true) ∧ Kp Nu w w' := by
  have ON := fun lo hi => only_any w room lo hi v S hS hl hb
  obtain ⟨ad, cap, hv⟩ := hS.slice
  subst hv
  go_enter Try.func10, Try.ntmps10
  go_wp2_with fail
  refine (ON _ _).mono ?_; rintro e w2 ⟨rfl, k2⟩
  clear ON
  go_wp2
  go_ret
  exact ⟨rfl, k2⟩

theorem law_11 (w : World) (room : Int) (v : Value) (S : List Sp) (hS : Scr w v S) (hl : (S.length : Int) ≤ 1599289640354) (hb : ∀ s ∈ S, SpB s) : Calls Try.prog 11 #[.int .i64 room, v] w fun e w' => e = .returned (.bool true) ∧ Kp Nu w w' := by
  have ON := fun lo hi => only_any w room lo hi v S hS hl hb
  obtain ⟨ad, cap, hv⟩ := hS.slice
  subst hv
  go_enter Try.func11, Try.ntmps11
  go_wp2_with fail
  refine (ON _ _).mono ?_; rintro e w2 ⟨rfl, k2⟩
  clear ON
  go_wp2
  go_ret
  exact ⟨rfl, k2⟩

theorem law_12 (w : World) (room : Int) (v : Value) (S : List Sp) (hS : Scr w v S) (hl : (S.length : Int) ≤ 1599289640354) (hb : ∀ s ∈ S, SpB s) : Calls Try.prog 12 #[.int .i64 room, v] w fun e w' => e = .returned (.bool true) ∧ Kp Nu w w' := by
  have ON := fun lo hi => only_any w room lo hi v S hS hl hb
  obtain ⟨ad, cap, hv⟩ := hS.slice
  subst hv
  go_enter Try.func12, Try.ntmps12
  go_wp2_with fail
  refine (ON _ _).mono ?_; rintro e w2 ⟨rfl, k2⟩
  clear ON
  go_wp2
  go_ret
  exact ⟨rfl, k2⟩

theorem law_13 (w : World) (room : Int) (v : Value) (S : List Sp) (hS : Scr w v S) (hl : (S.length : Int) ≤ 1599289640354) (hb : ∀ s ∈ S, SpB s) : Calls Try.prog 13 #[.int .i64 room, v] w fun e w' => e = .returned (.bool true) ∧ Kp Nu w w' := by
  have ON := fun lo hi => only_any w room lo hi v S hS hl hb
  obtain ⟨ad, cap, hv⟩ := hS.slice
  subst hv
  go_enter Try.func13, Try.ntmps13
  go_wp2_with fail
  refine (ON _ _).mono ?_; rintro e w2 ⟨rfl, k2⟩
  clear ON
  go_wp2
  go_ret
  exact ⟨rfl, k2⟩

theorem law_14 (w : World) (room : Int) (v : Value) (S : List Sp) (hS : Scr w v S) (hl : (S.length : Int) ≤ 1599289640354) (hb : ∀ s ∈ S, SpB s) : Calls Try.prog 14 #[.int .i64 room, v] w fun e w' => e = .returned (.bool true) ∧ Kp Nu w w' := by
  have ON := fun lo hi => only_any w room lo hi v S hS hl hb
  obtain ⟨ad, cap, hv⟩ := hS.slice
  subst hv
  go_enter Try.func14, Try.ntmps14
  go_wp2_with fail
  refine (ON _ _).mono ?_; rintro e w2 ⟨rfl, k2⟩
  clear ON
  go_wp2
  go_ret
  exact ⟨rfl, k2⟩
end Go.Proofs.Ythajboipnjjgfaa.Ly
