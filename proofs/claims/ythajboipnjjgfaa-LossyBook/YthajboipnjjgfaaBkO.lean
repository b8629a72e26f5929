import Derived.Test.YthajboipnjjgfaaBkN
import Derived.Test.YthajboipnjjgfaaPlC
namespace Go.Proofs.Ythajboipnjjgfaa.Ly
open Go.RowKit Go.Maps
set_option linter.unusedVariables false

theorem booked_any {w0 w : World} {b bm nb : Nat} {room : Int} {D : DataW Unit} {v : Value} {c : Ct} {L : List Gm} {u : Value} {M : List Gm} (h : Bs w0 w b bm nb room D v c L u M) (hc : Fax c) (s : Sp) (hs : SpR w0 s) (hnb : (nb : Int) ≤ 4611686018426) :
    Calls Try.prog 36 #[.pointer (some ⟨b, 0, none⟩), u, s.agg, .int .i64 room] w fun e w' => ∃ u', e = .returned (.tuple #[u', .bool true]) ∧ ∃ nb' D' M' v' c' L', nb' ≤ nb + 1 ∧ PlR s.kind c L c' L' ∧ Bs w0 w' b bm nb' room D' v' c' L' u' M' := by
  obtain ⟨kd, A, E, N, kp, atv, xs, dv, ys⟩ := s
  obtain ⟨h1, h2, h3⟩ := hs
  simp only [Sp.agg] at *
  by_cases e1 : kd = 1
  · subst e1
    refine (booked_1 h hc A E N kp atv dv xs ys h1 h3 hnb).mono ?_
    rintro e w' ⟨u', rfl, M', v', c', L', hp, hB⟩
    exact ⟨u', rfl, nb, D, M', v', c', L', by omega, hp, hB⟩
  by_cases e2 : kd = 2
  · subst e2
    refine (booked_2 h hc A E N kp atv dv xs ys h1 h3 hnb).mono ?_
    rintro e w' ⟨u', rfl, M', v', c', L', hp, hB⟩
    exact ⟨u', rfl, nb, D, M', v', c', L', by omega, hp, hB⟩
  by_cases e3 : kd = 3
  · subst e3
    cases hin : inL N L.length with
    | false =>
      refine (booked_3bad h hc A E N kp atv dv xs ys h1 h3 hin).mono ?_
      rintro e w' ⟨rfl, hB⟩
      exact ⟨u, rfl, nb, D, M, v, c, L, by omega, .same, hB⟩
    | true =>
      have hN : 0 ≤ N ∧ N < (L.length : Int) := by
        unfold inL at hin
        simpa using hin
      obtain ⟨p, rfl⟩ : ∃ p : Nat, N = (p : Int) := ⟨N.toNat, by omega⟩
      obtain ⟨g, hg⟩ : ∃ g, L[p]? = some g := ⟨_, List.getElem?_eq_getElem (by omega)⟩
      cases hb : bar D g.f g.t with
      | true =>
        refine (booked_3bar h hc A E p kp atv dv xs ys h1 h3 hg hb).mono ?_
        rintro e w' ⟨rfl, hB⟩
        exact ⟨u, rfl, nb, D, M, v, c, L, by omega, .same, hB⟩
      | false =>
        cases kp with
        | true =>
          refine (booked_3keep h hc A E p atv dv xs ys h1 h3 hg hb).mono ?_
          rintro e w' ⟨rfl, c', hp, hB⟩
          exact ⟨u, rfl, nb, D, M, v, c', L, by omega, hp, hB⟩
        | false =>
          refine (booked_3take h hc A E p atv dv xs ys h1 h3 hg hb).mono ?_
          rintro e w' ⟨u', rfl, M', v', c', L', hp, hB⟩
          exact ⟨u', rfl, nb, D, M', v', c', L', by omega, hp, hB⟩
  by_cases e5 : kd = 5
  · subst e5
    refine (booked_5 h hc A E N kp atv dv xs ys h1 h2 h3).mono ?_
    rintro e w' ⟨u', rfl, M', v', c', L', hp, hB⟩
    exact ⟨u', rfl, nb, D, M', v', c', L', by omega, hp, hB⟩
  by_cases e6 : kd = 6
  · subst e6
    refine (booked_6 h hc A E N kp atv dv xs ys h1 h3).mono ?_
    rintro e w' ⟨u', rfl, M', v', c', L', hp, hB⟩
    exact ⟨u', rfl, nb, D, M', v', c', L', by omega, hp, hB⟩
  by_cases e7 : kd = 7
  · subst e7
    refine (booked_7 h hc A E N kp atv dv xs ys h1 h3).mono ?_
    rintro e w' ⟨u', rfl, v', c', hp, hB⟩
    exact ⟨u', rfl, nb, D, [], v', c', [], by omega, hp, hB⟩
  refine (booked_still h hc kd A E N ⟨e1, e2, e3, e5, e6, e7⟩ kp atv dv xs ys h1 h2 h3 (by omega)).mono ?_
  rintro e w' ⟨rfl, nb', D', v', hn, hB⟩
  exact ⟨u, rfl, nb', D', M, v', c, L, hn, .same, hB⟩

set_option maxRecDepth 100000 in
set_option maxHeartbeats 2000000 in
theorem book_walk (w : World) (room : Int) (u : Value) (S : List Sp) (hS : Scr w u S) (hlS : (S.length : Int) ≤ 1599289640354) :
    Calls Try.prog 8 #[.int .i64 room, u] w fun e w' => e = .returned (.bool true) ∧ Kp Nu w w' := by
  obtain ⟨ad, cap, hu⟩ := hS.slice
  by_cases h1 : room < 1
  · rw [hu]
    go_enter Try.func8, Try.ntmps8
    go_wp2
    go_ret
    exact ⟨rfl, Kp.refl _ _⟩
  by_cases h2 : room > 4096
  · rw [hu]
    go_enter Try.func8, Try.ntmps8
    go_wp2
    go_ret
    exact ⟨rfl, Kp.refl _ _⟩
  have O1 := opened_ok w room (by omega) (by omega)
  obtain ⟨N, hN⟩ : ∃ N, S.length = N := ⟨_, rfl⟩
  have HN := hide hN
  rw [hN] at hu hlS
  subst hu
  have HS := hide hS
  clear hS hN
  go_enter Try.func8, Try.ntmps8
  go_wp2_with fail
  refine O1.mono ?_; rintro e w1 ⟨b, rfl, ⟨bm, hN1⟩, k1⟩
  have HI : Hid (Bs w w1 b bm 0 room (.map []) (.slice none 0 0) Ct0 [] (.slice none 0 0) []) := ⟨hN1, k1, ⟨rfl, .inl ⟨rfl, rfl⟩⟩, by simp, rfl⟩
  clear hN1 k1 O1
  go_wp2_with fail
  go_loopw [6, 7] (fun bk i wr => ∃ (k n : Nat) (adb : Option Addr) (cpb : Nat), k ≤ N ∧ i = .int .i64 (k : Int) ∧ bk = .slice adb n cpb ∧ Hid (∃ nb D v c L M, nb ≤ k ∧ Inv c L k ∧ Bs w wr b bm nb room D v c L (.slice adb n cpb) M)) (fun _ i _ => N - (intOf i).toNat)
  case atStart => exact ⟨0, 0, none, 0, by omega, rfl, rfl, ⟨0, _, _, _, _, _, by omega, Inv.start, HI.out⟩⟩
  case round =>
    obtain ⟨k, n, adb, cpb, hk, rfl, rfl, hI⟩ := hrel
    clear HI
    by_cases hlt : k < N
    · obtain ⟨nb, D, v, c, L, M, hnb, hInv, hB⟩ := hI.out
      have hkS : k < S.length := by rw [HN.out]; exact hlt
      rcases HS.out with ⟨_, e⟩ | ⟨sb, off, cap', e, hc⟩
      · subst e; simp at hkS
      obtain ⟨s, hs⟩ : ∃ s, S[k]? = some s := ⟨_, List.getElem?_eq_getElem hkS⟩
      have hat0 := hc k s hs
      have hat := hat0.nu hB.kp
      simp only [Value.slice.injEq] at e
      obtain ⟨e1, e2, e3⟩ := e
      clear e2 e3
      subst e1
      have BO := booked_any hB (hInv.fax (by omega)) s hat0.fit (by omega)
      have HV := hide (And.intro hnb hInv)
      obtain ⟨c0, c1, c2, c3, c4, c5, c6, hfit⟩ := hat
      obtain ⟨ad1, cp1, ev1⟩ := hfit.at'.slice
      obtain ⟨ad2, cp2, ev2⟩ := hfit.ds.slice
      obtain ⟨kd, A, E, Nn, kp, atv, xs, dv, ys⟩ := s
      simp only [Sp.agg] at *
      subst ev1 ev2
      generalize xs.length = Nx at *
      generalize ys.length = Ny at *
      have hltI : (k : Int) < (N : Int) := by omega
      have hk0 : (0 : Int) ≤ (k : Int) := by omega
      clear hI hnb hInv hfit hc hs hkS hat0 hB
      go_wp2_with fail
      refine BO.mono ?_; rintro e w2 ⟨u', rfl, nb', D', M', v', c', L', hn1, hpl, hB2⟩
      have hI2 := HV.out.2.step hpl
      obtain ⟨ad3, cp3, hu3⟩ := own_slice hB2.own
      have LI := list_any hB2.nt
      have hM4 : (M'.length : Int) ≤ 100000 := by have := hB2.len4; omega
      have HB2 := hide (And.intro hB2 (And.intro hI2 hM4))
      obtain ⟨NM, hNM⟩ : ∃ NM, M'.length = NM := ⟨_, rfl⟩
      have HU3 := hide hu3
      have HNM := hide hNM
      rw [hNM] at hu3
      have hnk : nb' ≤ k + 1 := by have := HV.out.1; omega
      subst hu3
      clear BO hpl hB2 hI2 hM4 hNM
      go_wp2_with fail
      refine LI.mono ?_; rintro e w3 ⟨ul, rfl, ⟨Ll, hul, hto⟩, hk3⟩
      have SH := shelved_true hul hto ((HB2.out.1.nu hk3).bo) HB2.out.1.same HB2.out.2.2
      obtain ⟨adl, cpl, hue⟩ := own_slice hul
      have HB3 := hide (HB2.out.1.nu hk3)
      generalize Ll.length = NLl at *
      subst hue
      clear LI hul hto hk3
      go_wp2_with fail
      refine SH.mono ?_; rintro e w4 ⟨rfl, hk4⟩
      have HE : Hid (∃ nb D v c L M, nb ≤ k + 1 ∧ Inv c L ((k + 1 : Nat) : Int) ∧ Bs w w4 b bm nb room D v c L (.slice ad3 NM cp3) M) := ⟨nb', D', v', c', L', M', hnk, by have := HB2.out.2.1; simpa using this, HB3.out.nu hk4⟩
      clear SH hk4 HB2 HB3
      go_wp2
      go_roundw
      case rel => exact ⟨k + 1, NM, ad3, cp3, by omega, by go_num, rfl, HE⟩
      case measure => simp [intOf]; omega
    · have hge : ¬ (k : Int) < (N : Int) := by omega
      have HF : Hid (Kp Nu w wr) := by
        obtain ⟨nb, D, v, c, L, M, hnb, hInv, hB⟩ := hI.out
        exact hB.kp
      clear hI
      go_wp2
      go_ret
      exact ⟨rfl, HF.out⟩
end Go.Proofs.Ythajboipnjjgfaa.Ly
