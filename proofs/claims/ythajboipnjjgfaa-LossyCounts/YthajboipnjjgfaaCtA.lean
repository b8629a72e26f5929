import Derived.Test.YthajboipnjjgfaaPlC
namespace Go.Proofs.Ythajboipnjjgfaa.Ly
open Go.RowKit Go.Maps
set_option linter.unusedVariables false

section
variable {B b bm nb : Nat} {w : World} {room : Int} {D : DataW Unit} {v : Value} {c : Ct} {L : List Gm}
theorem len_at (h : Nt B w b bm nb room D v c L) {l : Nat} (hl : L.length = l) : ∀ W, Kp Nu w W → Calls Try.prog 18 #[.pointer (some ⟨b, 0, none⟩)] W fun e W' => e = .returned (.int .i64 (l : Int)) ∧ Kp Nu w W' := fun W k => by
  refine (len_any (h.nu k)).mono ?_
  rintro e W' ⟨rfl, rfl⟩
  exact ⟨by rw [hl], k⟩
theorem list_at (h : Nt B w b bm nb room D v c L) {l : Nat} (hl : L.length = l) : ∀ W, Kp Nu w W → Calls Try.prog 22 #[.pointer (some ⟨b, 0, none⟩)] W fun e W' => ∃ ad cap, e = .returned (.slice ad l cap) ∧ Kp Nu w W' := fun W k => by
  refine (list_any (h.nu k)).mono ?_
  rintro e W' ⟨u, rfl, ⟨L', ho, ht⟩, hk⟩
  obtain ⟨ad, cap, e⟩ := own_slice ho
  have h1 := congrArg List.length ht.same
  simp at h1
  exact ⟨ad, cap, by rw [e, h1, hl], k.andNu hk⟩
end
theorem Nt.other {B b bm nb : Nat} {w : World} {room : Int} {D : DataW Unit} {v : Value} {c : Ct} {L : List Gm} (h : Nt B w b bm nb room D v c L) {i : Nat} {cur : Array Value} {t : TypeId} (hi : w.heap[i]? = some (.cells cur t (0, 0))) (h1 : t ≠ 77) (h2 : t ≠ 38) : ¬ fp b bm v i := by
  rintro (rfl | rfl | e)
  · rw [h.blk] at hi; cases hi; exact h1 rfl
  · obtain ⟨es, clock, hb⟩ := map_obj h.map
    rw [hb] at hi; cases hi
  · obtain ⟨cur', hc⟩ := own_obj h.own e.symm
    rw [hc] at hi; cases hi; exact h2 rfl
theorem cell7 {w : World} {b : Nat} {x0 x1 x2 x3 x4 x5 x6 : Value} {t : TypeId} (h : w.heap[b]? = some (.cells #[x0, x1, x2, x3, x4, x5, x6] t (0, 0))) :
    w.cell? ⟨b, 0, none⟩ = some x0 ∧ w.cell? ⟨b, 1, none⟩ = some x1 ∧ w.cell? ⟨b, 2, none⟩ = some x2 ∧ w.cell? ⟨b, 3, none⟩ = some x3 ∧ w.cell? ⟨b, 4, none⟩ = some x4 ∧ w.cell? ⟨b, 5, none⟩ = some x5 ∧ w.cell? ⟨b, 6, none⟩ = some x6 := by
  refine ⟨?_, ?_, ?_, ?_, ?_, ?_, ?_⟩ <;> simp [World.cell?, h]

/-- behind k steps of the script -/
def CInv (w wr : World) (b bm : Nat) (room k : Int) : Prop := ∃ (nb : Nat) (D : DataW Unit) (v : Value) (c : Ct) (L : List Gm), (nb : Int) ≤ k ∧ Inv c L k ∧ Nt w.heap.size wr b bm nb room D v c L ∧ Kp Nu w wr

/-- the counts behind k Sends into the emptied network -/
def mc (cc : Ct) (room k : Int) : Ct := { cc with s := cc.s + min k room, l := cc.l + (k - min k room) }
def bx7 (cc : Ct) : Array Value := #[.int .i64 cc.s, .int .i64 cc.i, .int .i64 cc.d, .int .i64 cc.c, .int .i64 cc.x, .int .i64 cc.l, .int .i64 cc.b]
structure MI (w wr : World) (b bm X : Nat) (room : Int) (cc : Ct) (v : Value) (L : List Gm) (k : Int) : Prop where
  nt : Nt w.heap.size wr b bm 0 room (.map []) v (mc cc room k) L
  len : (L.length : Int) = min k room
  kp : Kp Nu w wr
  box : wr.heap[X]? = some (.cells (bx7 cc) 57 (0, 0))
theorem mc_far {cc : Ct} {room k : Int} (h : Cok cc 3198579280900) (r0 : 1 ≤ room) (r1 : room ≤ 4096) (k0 : 0 ≤ k) (k1 : k ≤ 8192) : Far (mc cc room k) := by
  obtain ⟨q1, q2, q3, q4, q5, q6, q7, q8, q9, q10, q11, q12, q13, q14⟩ := h
  unfold Far mc
  constructor <;> simp <;> omega
theorem MI.nu {w wr w' : World} {b bm X : Nat} {room : Int} {cc : Ct} {v : Value} {L : List Gm} {k : Int} (h : MI w wr b bm X room cc v L k) (q : Kp Nu wr w') : MI w w' b bm X room cc v L k :=
  ⟨h.nt.nu q, h.len, h.kp.andNu q, (q.block X (blk_lt h.box) (fun h => h)).trans h.box⟩
theorem one_rd (w : World) : Rd (w.alloc (.cells #[.int .u8 1] 5)) (.slice (some ⟨w.heap.size, 0, none⟩) 1 1) [1] := by
  refine .inr ⟨_, _, rfl, fun j x hj => ?_⟩
  have := heap_alloc_new w (.cells #[.int .u8 1] 5)
  rw [Addr.add_lit]
  simp only [World.cell?, this]
  simpa [cs] using hj
theorem more_send {w wr : World} {b bm X : Nat} {room : Int} {cc : Ct} {v : Value} {L : List Gm} {k : Int} (h : MI w wr b bm X room cc v L k) (hc : Cok cc 3198579280900) (k0 : 0 ≤ k) (k1 : k ≤ 8192) :
    Calls Try.prog 16 #[.pointer (some ⟨b, 0, none⟩), .int .u8 0, .int .u8 1, .slice (some ⟨wr.heap.size, 0, none⟩) 1 1] (wr.alloc (.cells #[.int .u8 1] 5)) fun e w' => ∃ code, e = .returned (.int .i64 code) ∧ ((k < room ∧ code = 0) ∨ (room ≤ k ∧ code = 52)) ∧ ∃ v' L', MI w w' b bm X room cc v' L' (k + 1) := by
  have h2 := h.nu (Kp.alloc wr (.cells #[.int .u8 1] 5) Nu)
  have r0 := h.nt.r0
  have r1 := h.nt.r1
  have hl := h.len
  refine (send_in h2.nt 0 1 (by omega) (by omega) (by omega) (by omega) _ [1] (one_rd wr) (mc_far hc r0 r1 k0 k1)).mono ?_
  rintro e w2 ⟨code, c', v', L', rfl, hE, hN, hF⟩
  have hk := h2.nt.step h2.kp hF
  have hb := (hF.kp.block X (blk_lt h2.box) (h2.nt.other h2.box (by decide) (by decide))).trans h2.box
  rcases hE with ⟨rfl, hy, rfl, hL⟩ | ⟨y0, y1, ⟨rfl, hb', rfl, hL⟩ | ⟨rfl, hb', hfl, rfl, hL⟩ | ⟨rfl, hb', hfl, rfl, d', hL⟩⟩
  · simp at hy
  · cases hb'
  · rw [hL] at hN
    have e1 : min k room = room := by omega
    refine ⟨52, rfl, .inr ⟨by omega, rfl⟩, v', L, ⟨?_, by omega, hk, hb⟩⟩
    have e2 : ({ mc cc room k with l := (mc cc room k).l + 1 } : Ct) = mc cc room (k + 1) := by
      simp only [mc, Ct.mk.injEq, true_and, and_true]
      omega
    rw [← e2]; exact hN
  · rw [hL] at hN
    refine ⟨0, rfl, .inl ⟨by omega, rfl⟩, v', L ++ [⟨0, 1, d', [1]⟩], ⟨?_, by simp; omega, hk, hb⟩⟩
    have e2 : ({ mc cc room k with s := (mc cc room k).s + 1 } : Ct) = mc cc room (k + 1) := by
      simp only [mc, Ct.mk.injEq, true_and, and_true]
      omega
    rw [← e2]; exact hN

set_option maxRecDepth 100000 in
set_option maxHeartbeats 2000000 in
theorem counts_walk (w : World) (room more : Int) (u : Value) (S : List Sp) (hS : Scr w u S) (hlS : (S.length : Int) ≤ 1599289640354) :
    Calls Try.prog 5 #[.int .i64 room, u, .int .i64 more] w fun e w' => e = .returned (.bool true) ∧ Kp Nu w w' := by
  obtain ⟨ad, cap, hu⟩ := hS.slice
  by_cases h1 : room < 1
  · rw [hu]
    go_enter Try.func5, Try.ntmps5
    go_wp2
    go_ret
    exact ⟨rfl, Kp.refl _ _⟩
  by_cases h2 : room > 4096
  · rw [hu]
    go_enter Try.func5, Try.ntmps5
    go_wp2
    go_ret
    exact ⟨rfl, Kp.refl _ _⟩
  by_cases h3 : more < 0
  · rw [hu]
    go_enter Try.func5, Try.ntmps5
    go_wp2
    go_ret
    exact ⟨rfl, Kp.refl _ _⟩
  by_cases h4 : more > 8192
  · rw [hu]
    go_enter Try.func5, Try.ntmps5
    go_wp2
    go_ret
    exact ⟨rfl, Kp.refl _ _⟩
  have mixed : Try.prog.follows .mixedOrders = true := by kernel_rfl
  have O1 := opened_ok w room (by omega) (by omega)
  obtain ⟨N, hN⟩ : ∃ N, S.length = N := ⟨_, rfl⟩
  have HN := hide hN
  rw [hN] at hu hlS
  subst hu
  have HS := hide hS
  clear hS hN
  go_enter Try.func5, Try.ntmps5
  go_wp2_with fail
  refine O1.mono ?_; rintro e w1 ⟨b, rfl, ⟨bm, hN1⟩, k1⟩
  have HI : Hid (CInv w w1 b bm room 0) := ⟨0, _, _, _, _, by omega, Inv.start, hN1, k1⟩
  clear hN1 k1 O1
  go_wp2_with fail
  go_loopw [8] (fun i wr => ∃ k : Nat, k ≤ N ∧ i = .int .i64 (k : Int) ∧ Hid (CInv w wr b bm room k)) (fun i _ => N - (intOf i).toNat)
  case atStart => exact ⟨0, by omega, rfl, HI⟩
  case round =>
    obtain ⟨k, hk, rfl, hI⟩ := hrel
    clear HI
    by_cases hlt : k < N
    · obtain ⟨nb, D, v, c, L, hnb, hInv, hNt, hkp⟩ := hI.out
      have hkS : k < S.length := by rw [HN.out]; exact hlt
      rcases HS.out with ⟨_, e⟩ | ⟨sb, off, cap', e, hc⟩
      · subst e; simp at hkS
      obtain ⟨s, hs⟩ : ∃ s, S[k]? = some s := ⟨_, List.getElem?_eq_getElem hkS⟩
      have hat := (hc k s hs).nu hkp
      simp only [Value.slice.injEq] at e
      obtain ⟨e1, e2, e3⟩ := e
      clear e2 e3
      subst e1
      have PL := play_any hNt (hInv.fax (by omega)) s hat.fit (by omega)
      have HV := hide (And.intro hnb (And.intro hInv hkp))
      obtain ⟨c0, c1, c2, c3, c4, c5, c6, hfit⟩ := hat
      obtain ⟨ad1, cp1, ev1⟩ := hfit.at'.slice
      obtain ⟨ad2, cp2, ev2⟩ := hfit.ds.slice
      obtain ⟨kd, A, E, Nn, kp, atv, xs, dv, ys⟩ := s
      simp only [Sp.agg] at *
      subst ev1 ev2
      generalize xs.length = Nx at *
      generalize ys.length = Ny at *
      have hltI : (k : Int) < (N : Int) := by omega
      have hk0 : (0 : Int) ≤ (k : Int) := by omega
      clear hI hnb hInv hfit hc hs hkS
      go_wp2_with fail
      refine PL.mono ?_; rintro e w2 ⟨rfl, hP⟩
      obtain ⟨nb', D', v', c', L', hn1, hpl, hN2, hF⟩ := hP
      have hI2 := HV.out.2.1.step hpl
      have hk2 := hNt.step HV.out.2.2 hF
      have CO := count_any hN2
      clear PL hNt hF hpl
      go_wp2_with fail
      refine CO.mono ?_; rintro e w3 ⟨rfl, hk3⟩
      clear CO
      obtain ⟨l, hl⟩ : ∃ l, L'.length = l := ⟨_, rfl⟩
      have hNX := (hN2.nu hk3).nu (Kp.alloc w3 (.cells #[.int .i64 c'.s, .int .i64 c'.i, .int .i64 c'.d, .int .i64 c'.c, .int .i64 c'.x, .int .i64 c'.l, .int .i64 c'.b] 57) Nu)
      have LE := len_at hNX hl
      have LI := list_at hNX hl
      have HSS : ∀ W, Kp Nu (w3.alloc (.cells #[.int .i64 c'.s, .int .i64 c'.i, .int .i64 c'.d, .int .i64 c'.c, .int .i64 c'.x, .int .i64 c'.l, .int .i64 c'.b] 57)) W → W.cell? ⟨w3.heap.size, 0, none⟩ = some (.int .i64 c'.s) ∧ W.cell? ⟨w3.heap.size, 1, none⟩ = some (.int .i64 c'.i) ∧ W.cell? ⟨w3.heap.size, 2, none⟩ = some (.int .i64 c'.d) ∧ W.cell? ⟨w3.heap.size, 3, none⟩ = some (.int .i64 c'.c) ∧ W.cell? ⟨w3.heap.size, 4, none⟩ = some (.int .i64 c'.x) := fun W k => by
        obtain ⟨q0, q1, q2, q3, q4, _, _⟩ := cell7 (new_at w3 _ k)
        exact ⟨q0, q1, q2, q3, q4⟩
      obtain ⟨i1, i2, i3, i4, i5, i6, i7, i8, i9, i10, i11, i12, i13, i14⟩ := hI2
      have hlr := hN2.len
      rw [hl] at hlr i1
      have hl0 : (0 : Int) ≤ (l : Int) := by omega
      have a1 : IntKind.i64.wrap (c'.s + c'.i) = c'.s + c'.i := by rw [IntKind.wrap_i64]; omega
      have a2 : IntKind.i64.wrap ((l : Int) + c'.d) = (l : Int) + c'.d := by rw [IntKind.wrap_i64]; omega
      have a3 : IntKind.i64.wrap ((l : Int) + c'.d - c'.c) = (l : Int) + c'.d - c'.c := by rw [IntKind.wrap_i64]; omega
      have a4 : IntKind.i64.wrap ((l : Int) + c'.d - c'.c + c'.x) = (l : Int) + c'.d - c'.c + c'.x := by rw [IntKind.wrap_i64]; omega
      have a5 : (c'.s + c'.i != (l : Int) + c'.d - c'.c + c'.x) = false := by rw [i1]; simp
      have a6 : ¬ (l : Int) > room := by omega
      have a7 : ((l : Int) != (l : Int)) = false := by simp
      have a8 : decide ((l : Int) > room) = false := by simpa using a6
      have HCI : Hid (Inv c' L' (k + 1) ∧ (nb' : Int) ≤ k + 1 ∧ Nt w.heap.size (w3.alloc (.cells #[.int .i64 c'.s, .int .i64 c'.i, .int .i64 c'.d, .int .i64 c'.c, .int .i64 c'.x, .int .i64 c'.l, .int .i64 c'.b] 57)) b bm nb' room D' v' c' L' ∧ Kp Nu w (w3.alloc (.cells #[.int .i64 c'.s, .int .i64 c'.i, .int .i64 c'.d, .int .i64 c'.c, .int .i64 c'.x, .int .i64 c'.l, .int .i64 c'.b] 57))) := ⟨⟨by rw [hl]; exact i1, i2, i3, i4, i5, i6, i7, i8, i9, i10, i11, i12, i13, i14⟩, by have := HV.out.1; omega, hNX, (hk2.andNu hk3).andAlloc _⟩
      clear i1 i2 i3 i4 i5 i6 i7 i8 i9 i10 i11 i12 i13 i14 hlr hNX hN2 hk2 hk3 hn1 HV hl
      go_wp2_with fail
      go_region_held (fun W => W.cell? ⟨w3.heap.size, 0, none⟩ = some (.int .i64 c'.s) ∧ W.cell? ⟨w3.heap.size, 1, none⟩ = some (.int .i64 c'.i) ∧ W.cell? ⟨w3.heap.size, 2, none⟩ = some (.int .i64 c'.d) ∧ W.cell? ⟨w3.heap.size, 3, none⟩ = some (.int .i64 c'.c) ∧ W.cell? ⟨w3.heap.size, 4, none⟩ = some (.int .i64 c'.x)) (first | (refine HSS _ ?_; repeat (first | assumption | exact Kp.refl _ _ | apply Kp.andAlloc | apply Kp.drew)))
        (first | (go_at_call 18; refine (LE _ ?_).mono ?_; (repeat (first | assumption | exact Kp.refl _ _ | apply Kp.andAlloc | apply Kp.drew)); rintro e w4 ⟨rfl, hk4⟩)
               | (go_at_call 22; refine (LI _ ?_).mono ?_; (repeat (first | assumption | exact Kp.refl _ _ | apply Kp.andAlloc | apply Kp.drew)); rintro e w5 ⟨adl, cpl, rfl, hk5⟩))
      all_goals go_wp2
      all_goals exact ⟨⟨k + 1, by omega, by go_num, ⟨nb', D', v', c', L', HCI.out.2.1, HCI.out.1, HCI.out.2.2.1.nu hk4, HCI.out.2.2.2.andNu hk4⟩⟩, by simp [intOf]; omega⟩
    · have hge : ¬ (k : Int) < (N : Int) := by omega
      obtain ⟨nb, D, v, c, L, hnb, hInv, hNt, hkp⟩ := hI.out
      have hfx := hInv.fax (by omega)
      have EM := empty_any hNt (Cok.x0 hfx) hfx.lt
      have hLr : L.length ≤ 4096 := by have := hNt.len; have := hNt.r1; omega
      have HNT := hide hNt
      have HIV := hide (And.intro hInv hkp)
      clear hI hnb hInv hkp hNt hfx
      go_wp2_with fail
      refine EM.mono ?_; rintro e w2 ⟨rfl, v2, hN2, hF2⟩
      have hk2 := HNT.out.step HIV.out.2 hF2
      have HE := heal_all hN2
      clear EM hF2
      go_wp2_with fail
      refine HE.mono ?_; rintro e w3 ⟨rfl, hN3, hF3⟩
      have hk3 := hN2.step hk2 hF3
      obtain ⟨cc, hcc⟩ : ∃ cc : Ct, cc = { c with x := c.x + (L.length : Int) } := ⟨_, rfl⟩
      rw [← hcc] at hN3
      have hCf : Cok cc 3198579280900 := by
        rw [hcc]
        obtain ⟨i1, i2, i3, i4, i5, i6, i7, i8, i9, i10, i11, i12, i13, i14⟩ := HIV.out.1
        constructor <;> simp <;> omega
      have CO := count_any hN3
      clear HE hF3 hN2 hk2 HNT HIV hcc hLr
      go_wp2_with fail
      refine CO.mono ?_; rintro e w4 ⟨rfl, hk4⟩
      clear CO
      go_wp2_with fail
      have HM0 : Hid (∃ v L, MI w (w4.alloc (.cells #[.int .i64 cc.s, .int .i64 cc.i, .int .i64 cc.d, .int .i64 cc.c, .int .i64 cc.x, .int .i64 cc.l, .int .i64 cc.b] 57)) b bm w4.heap.size room cc v L 0) := by
        refine ⟨v2, [], ⟨?_, ?_, (hk3.andNu hk4).andAlloc _, heap_alloc_new w4 _⟩⟩
        · have e : mc cc room 0 = cc := by
            have e1 : min 0 room = 0 := by omega
            simp [mc, e1]
          rw [e]
          exact (hN3.nu hk4).nu (Kp.alloc w4 _ Nu)
        · simp; omega
      clear hN3 hk3 hk4
      have HC := hide hCf
      clear hCf
      go_loopw [11] (fun i wr => ∃ j : Nat, (j : Int) ≤ more ∧ i = .int .i64 (j : Int) ∧ Hid (∃ v L, MI w wr b bm w4.heap.size room cc v L (j : Int))) (fun i _ => more.toNat - (intOf i).toNat)
      case atStart => exact ⟨0, by omega, rfl, HM0⟩
      case round =>
        obtain ⟨j, hj, rfl, hM⟩ := hrel
        clear HM0
        by_cases hjm : (j : Int) < more
        · obtain ⟨v5, L5, hMI⟩ := hM.out
          have MS := more_send hMI HC.out (by omega) (by omega)
          have hj0 : (0 : Int) ≤ (j : Int) := by omega
          have hj8 : (j : Int) < 8192 := by omega
          clear hM hMI
          go_wp2_with fail
          refine MS.mono ?_; rintro e w5 ⟨code, rfl, hcode, hMI⟩
          have HMI : Hid (∃ v L, MI w w5 b bm w4.heap.size room cc v L ((j + 1 : Nat) : Int)) := by
            have e : ((j + 1 : Nat) : Int) = (j : Int) + 1 := by omega
            rw [e]; exact hMI
          clear MS hMI
          rcases hcode with ⟨hr, rfl⟩ | ⟨hr, rfl⟩
          · have nm := num_any 0 w5
            have hr2 : ¬ (j : Int) ≥ room := by omega
            go_wp2_with fail
            refine nm.mono ?_; rintro e w6 ⟨rfl, hw6⟩
            obtain rfl := hw6.symm
            clear nm hw6
            go_wp2
            exact ⟨⟨j + 1, by omega, by go_num, HMI⟩, by simp [intOf]; omega⟩
          · have nm := num_any 52 w5
            have hr2 : (j : Int) ≥ room := hr
            have hr3 : ¬ (j : Int) < room := by omega
            go_wp2_with fail
            refine nm.mono ?_; rintro e w6 ⟨rfl, hw6⟩
            obtain rfl := hw6.symm
            go_wp2_with fail
            refine nm.mono ?_; rintro e w7 ⟨rfl, hw7⟩
            obtain rfl := hw7.symm
            clear nm hw6 hw7
            go_wp2
            exact ⟨⟨j + 1, by omega, by go_num, HMI⟩, by simp [intOf]; omega⟩
        · obtain ⟨v5, L5, hMI⟩ := hM.out
          obtain rfl : more = (j : Int) := by omega
          have hge : ¬ (j : Int) < (j : Int) := by omega
          have CO := count_any hMI.nt
          have HMI := hide hMI
          clear hM hMI hj hjm
          go_wp2_with fail
          refine CO.mono ?_; rintro e w5 ⟨rfl, hk5⟩
          clear CO
          by_cases hbig : (j : Int) > room
          · skip
            have e1 : min (j : Int) room = room := by omega
            obtain ⟨A, hA⟩ : ∃ A, (mc cc room (j : Int)).s = A := ⟨_, rfl⟩
            obtain ⟨E, hE⟩ : ∃ E, (mc cc room (j : Int)).l = E := ⟨_, rfl⟩
            have hA2 : A = cc.s + room := by rw [← hA, mc]; simp only []; rw [e1]
            have hE2 : E = cc.l + ((j : Int) - room) := by rw [← hE, mc]; simp only []; rw [e1]
            obtain ⟨p1, p2, p3, p4, p5, p6, p7, p8, p9, p10, p11, p12, p13, p14⟩ := HC.out
            have hl5 : (L5.length : Int) = room := by rw [HMI.out.len, e1]
            have hMW := (HMI.out.nu hk5).nu (Kp.alloc w5 (.cells #[.int .i64 (mc cc room (j : Int)).s, .int .i64 (mc cc room (j : Int)).i, .int .i64 (mc cc room (j : Int)).d, .int .i64 (mc cc room (j : Int)).c, .int .i64 (mc cc room (j : Int)).x, .int .i64 (mc cc room (j : Int)).l, .int .i64 (mc cc room (j : Int)).b] 57) Nu)
            have hbx := heap_alloc_new w5 (.cells #[.int .i64 (mc cc room (j : Int)).s, .int .i64 (mc cc room (j : Int)).i, .int .i64 (mc cc room (j : Int)).d, .int .i64 (mc cc room (j : Int)).c, .int .i64 (mc cc room (j : Int)).x, .int .i64 (mc cc room (j : Int)).l, .int .i64 (mc cc room (j : Int)).b] 57)
            have LE := len_any hMW.nt
            rw [hl5] at LE
            obtain ⟨x0, _, _, _, _, x5, _⟩ := cell7 hbx
            obtain ⟨y0, _, _, _, _, y5, _⟩ := cell7 hMW.box
            have HK := hide hMW.kp
            rw [hA, hE] at x0 x5 LE HK y0 y5 ⊢
            have a1 : wrap64 (A - cc.s) = room := by unfold wrap64; omega
            have a2 : wrap64 (E - cc.l) = (j : Int) - room := by unfold wrap64; omega
            have a3 : wrap64 ((j : Int) - room) = (j : Int) - room := by unfold wrap64; omega
            have a4 : (room == room) = true := by simp
            have a5 : ((j : Int) - room == (j : Int) - room) = true := by simp
            clear hMW hbx HMI hk5 hl5 p1 p2 p3 p4 p5 p6 p7 p8 p9 p10 p11 p12 p13 p14 hA2 hE2 hA hE e1
            go_wp2_with fail
            refine LE.mono ?_; rintro e w6 ⟨rfl, hw6⟩
            obtain rfl := hw6.symm
            clear LE hw6
            go_wp2
            go_ret
            exact ⟨rfl, HK.out⟩
          · skip
            have e1 : min (j : Int) room = (j : Int) := by omega
            obtain ⟨A, hA⟩ : ∃ A, (mc cc room (j : Int)).s = A := ⟨_, rfl⟩
            obtain ⟨E, hE⟩ : ∃ E, (mc cc room (j : Int)).l = E := ⟨_, rfl⟩
            have hA2 : A = cc.s + (j : Int) := by rw [← hA, mc]; simp only []; rw [e1]
            have hE2 : E = cc.l + ((j : Int) - (j : Int)) := by rw [← hE, mc]; simp only []; rw [e1]
            obtain ⟨p1, p2, p3, p4, p5, p6, p7, p8, p9, p10, p11, p12, p13, p14⟩ := HC.out
            have hl5 : (L5.length : Int) = (j : Int) := by rw [HMI.out.len, e1]
            have hMW := (HMI.out.nu hk5).nu (Kp.alloc w5 (.cells #[.int .i64 (mc cc room (j : Int)).s, .int .i64 (mc cc room (j : Int)).i, .int .i64 (mc cc room (j : Int)).d, .int .i64 (mc cc room (j : Int)).c, .int .i64 (mc cc room (j : Int)).x, .int .i64 (mc cc room (j : Int)).l, .int .i64 (mc cc room (j : Int)).b] 57) Nu)
            have hbx := heap_alloc_new w5 (.cells #[.int .i64 (mc cc room (j : Int)).s, .int .i64 (mc cc room (j : Int)).i, .int .i64 (mc cc room (j : Int)).d, .int .i64 (mc cc room (j : Int)).c, .int .i64 (mc cc room (j : Int)).x, .int .i64 (mc cc room (j : Int)).l, .int .i64 (mc cc room (j : Int)).b] 57)
            have LE := len_any hMW.nt
            rw [hl5] at LE
            obtain ⟨x0, _, _, _, _, x5, _⟩ := cell7 hbx
            obtain ⟨y0, _, _, _, _, y5, _⟩ := cell7 hMW.box
            have HK := hide hMW.kp
            rw [hA, hE] at x0 x5 LE HK y0 y5 ⊢
            have a1 : wrap64 (A - cc.s) = (j : Int) := by unfold wrap64; omega
            have a2 : wrap64 (E - cc.l) = (j : Int) - (j : Int) := by unfold wrap64; omega
            have a3 : wrap64 ((j : Int) - (j : Int)) = (j : Int) - (j : Int) := by unfold wrap64; omega
            have a4 : ((j : Int) == (j : Int)) = true := by simp
            have a5 : ((j : Int) - (j : Int) == (j : Int) - (j : Int)) = true := by simp
            clear hMW hbx HMI hk5 hl5 p1 p2 p3 p4 p5 p6 p7 p8 p9 p10 p11 p12 p13 p14 hA2 hE2 hA hE e1
            go_wp2_with fail
            refine LE.mono ?_; rintro e w6 ⟨rfl, hw6⟩
            obtain rfl := hw6.symm
            clear LE hw6
            go_wp2
            go_ret
            exact ⟨rfl, HK.out⟩
end Go.Proofs.Ythajboipnjjgfaa.Ly
