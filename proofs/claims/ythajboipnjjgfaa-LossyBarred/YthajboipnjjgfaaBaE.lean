import Derived.Test.YthajboipnjjgfaaBaB
namespace Go.Proofs.Ythajboipnjjgfaa.Ly
open Go.RowKit Go.Maps
set_option linter.unusedVariables false

set_option maxRecDepth 100000 in
set_option maxHeartbeats 4000000 in
theorem barred_bl (w : World) (a' b' : Int) (u : Value) (S : List Sp) (hS : Scr w u S) (hlS : (S.length : Int) ≤ 1599289640354) (hbig : (2048 : Int) < S.length) (hlow : a' % 256 < 33) :
    Calls Try.prog 7 #[u, .int .i64 a', .int .i64 b'] w fun e w' => e = .returned (.bool true) ∧ Kp Nu w w' := by
  obtain ⟨ad, cap, hu⟩ := hS.slice
  have mixed : Try.prog.follows .mixedOrders = true := by kernel_rfl
  have O1 := opened_ok w 4096 (by omega) (by omega)
  obtain ⟨N, hN⟩ : ∃ N, S.length = N := ⟨_, rfl⟩
  have HN := hide hN
  rw [hN] at hu hlS hbig
  subst hu
  have HS := hide hS
  clear hS hN
  go_enter Try.func7, Try.ntmps7
  go_wp2_with fail
  refine O1.mono ?_; rintro e w1 ⟨b, rfl, ⟨bm, hN1⟩, k1⟩
  have HI : Hid (BInv w w1 b bm 4096 0) := ⟨0, _, _, _, _, by omega, Inv.start, hN1, k1⟩
  clear hN1 k1 O1
  go_wp2_with fail
  go_loopw [8] (fun i wr => ∃ k : Nat, k ≤ N ∧ (k : Int) ≤ 2048 ∧ i = .int .i64 (k : Int) ∧ Hid (BInv w wr b bm 4096 k)) (fun i _ => N - (intOf i).toNat)
  case atStart => exact ⟨0, by omega, by omega, rfl, HI⟩
  case round =>
    obtain ⟨k, hk, hk2, rfl, hI⟩ := hrel
    clear HI
    by_cases hgo : k < N ∧ (k : Int) < 2048
    · obtain ⟨hlt, hlt2⟩ := hgo
      obtain ⟨nb, D, v, c, L, hnb, hInv, hNt, hkp⟩ := hI.out
      have hkS : k < S.length := by rw [HN.out]; exact hlt
      rcases HS.out with ⟨_, e⟩ | ⟨sb, off, cap', e, hc⟩
      · subst e; simp at hkS
      obtain ⟨s, hs⟩ : ∃ s, S[k]? = some s := ⟨_, List.getElem?_eq_getElem hkS⟩
      have hat := (hc k s hs).nu hkp
      simp only [Value.slice.injEq] at e
      obtain ⟨e1, e2, e3⟩ := e
      clear e2 e3
      subst e1
      have PL := play_any hNt (hInv.fax (by omega)) s hat.fit (by omega)
      have HV := hide (And.intro hnb (And.intro hInv (And.intro hkp hNt)))
      obtain ⟨c0, c1, c2, c3, c4, c5, c6, hfit⟩ := hat
      obtain ⟨ad1, cp1, ev1⟩ := hfit.at'.slice
      obtain ⟨ad2, cp2, ev2⟩ := hfit.ds.slice
      obtain ⟨kd, A, E, Nn, kp, atv, xs, dv, ys⟩ := s
      simp only [Sp.agg] at *
      subst ev1 ev2
      generalize xs.length = Nx at *
      generalize ys.length = Ny at *
      have hltI : (k : Int) < (N : Int) := by omega
      have hk0 : (0 : Int) ≤ (k : Int) := by omega
      clear hI hnb hInv hfit hc hs hkS hNt hkp
      go_wp2_with fail
      refine PL.mono ?_; rintro e w2 ⟨rfl, hP⟩
      have HF : Hid (BInv w w2 b bm 4096 ((k + 1 : Nat) : Int)) := by
        obtain ⟨nb', D', v', c', L', hn1, hpl, hN2, hF⟩ := hP
        have e : ((k + 1 : Nat) : Int) = (k : Int) + 1 := by omega
        rw [e]
        exact ⟨nb', D', v', c', L', by have := HV.out.1; omega, HV.out.2.1.step hpl, hN2, HV.out.2.2.2.step HV.out.2.2.1 hF⟩
      clear PL hP HV
      go_wp2
      exact ⟨⟨k + 1, by omega, by omega, by go_num, HF⟩, by simp [intOf]; omega⟩
    · obtain ⟨nb, D, v, c, L, hnb, hInv, hNt, hkp⟩ := hI.out
      have a0 : (0 : Int) ≤ a' % 256 := by omega
      have a1 : a' % 256 < 256 := by omega
      have b0 : (0 : Int) ≤ b' % 256 := by omega
      have b1 : b' % 256 < 256 := by omega
      have BL := block_any hNt (a' % 256) (b' % 256) a0 a1 b0 b1 (by unfold maxLen; omega)
      have hput := bar_put hNt.map a0 a1 b0 b1
      have hCk : Cok c 5000 := by
        obtain ⟨i1, i2, i3, i4, i5, i6, i7, i8, i9, i10, i11, i12, i13, i14⟩ := hInv
        constructor <;> omega
      have HV := hide (And.intro hNt (And.intro hkp (And.intro hCk hput)))
      have hlt : (k : Int) < (N : Int) := by omega
      have hge : ¬ (k : Int) < 2048 := by omega
      clear hI hInv hNt hkp hCk hput hgo
      generalize hF : a' % 256 = f at *
      generalize hT : b' % 256 = t at *
      go_wp2_with fail
      refine BL.mono ?_; rintro e w2 ⟨rfl, hN2, hF2⟩
      have hk2' := HV.out.1.step HV.out.2.1 hF2
      obtain ⟨D1, hD1⟩ : ∃ D1, D.put (lk f t) (.agg []) = D1 := ⟨_, rfl⟩
      have hbar : bar D1 f t = true := by rw [← hD1]; exact HV.out.2.2.2
      rw [hD1] at hN2
      have nm := num_any 0 w2
      have LI := list_any hN2
      have HBR := hide hbar
      have HW2 := hide (And.intro hN2 (And.intro hk2' HV.out.2.2.1))
      have HNB : Hid (((nb + 1 : Nat) : Int) ≤ 5000) := by show _ ≤ _; omega
      clear BL hF2 hD1 hN2 hk2' hbar HV hnb
      go_wp2_with fail
      refine nm.mono ?_; rintro e w3 ⟨rfl, hw3⟩
      obtain rfl := hw3.symm
      clear nm hw3
      go_wp2_with fail
      refine LI.mono ?_; rintro e w3 ⟨ul, rfl, ⟨Lb, hol, htl⟩, hk3⟩
      obtain ⟨adl, capl, hul⟩ := own_slice hol
      have hlen : Lb.length = L.length := by
        have h1 := congrArg List.length htl.same
        simpa using h1
      obtain ⟨M, hM⟩ : ∃ M, L.length = M := ⟨_, rfl⟩
      rw [hlen, hM] at hul
      have hM4 : (M : Int) ≤ 4096 := by have := HW2.out.1.len; omega
      have HB0 : Hid (Bk w w3 b bm (nb + 1) D1 w2.heap.size ul Lb L v c L 5000) := by
        refine ⟨HW2.out.1.nu hk3, HW2.out.2.2, HW2.out.2.1.andNu hk3, ⟨hol, htl, fun i hi hf => ?_⟩⟩
        have h1 := HW2.out.1.lt i hf
        rcases hol.2 with ⟨e, _⟩ | ⟨g', cp', cur', e, hb', _⟩
        · rw [e] at hi; cases hi
        · rw [e] at hi
          simp [Value.ownBlock] at hi
          omega
      subst hul
      have HM := hide hM
      clear LI hol htl hk3 hlen hM HW2
      have hcl0 := cntL_all f t L
      rw [HM.out] at hcl0
      have HCL := hide hcl0
      clear hcl0
      go_wp2_with fail
      go_loopw [12, 13] (fun on i wx => ∃ (q : Nat) (o : Int), q ≤ M ∧ on = .int .i64 o ∧ i = .int .i64 ((q : Int) - 1) ∧ Hid (o = (cntL f t L q : Int) ∧ ∃ c, Bk w wx b bm (nb + 1) D1 w2.heap.size (.slice adl M capl) Lb L v c L (5000 + ((M : Int) - q)))) (fun _ i _ => (intOf i + 1).toNat)
      case atStart =>
        refine ⟨M, 0, Nat.le_refl _, rfl, by go_num, ⟨by rw [HCL.out]; rfl, c, ?_⟩⟩
        have e : (5000 : Int) + ((M : Int) - M) = 5000 := by omega
        rw [e]; exact HB0.out
      case round =>
        generalize wr = wq at *
        obtain ⟨q, o, hq, rfl, rfl, hJ⟩ := hrel
        clear HB0
        match q, hq, hJ with
        | 0, hq, hJ =>
          obtain ⟨hjo, cq, hB⟩ := hJ.out
          have e1 : ((0 : Nat) : Int) - 1 = -1 := by omega
          rw [e1]
          have ho0 : (0 : Int) ≤ o := by omega
          have hlef := lef_len f t L 0
          have ho4 : o ≤ M := by have := HM.out; omega
          have HJ := hide hjo
          clear hJ e1 hjo hq hlef
          have hf33 : f < 33 := hlow
          have SE := bk_send hB (by omega) f t a0 hf33 b0 b1 HBR.out
          have n53 := fun W => num_any 53 W
          clear hB
          go_wp2_with fail
          refine SE.mono ?_
          rintro e w6 ⟨rfl, v6, c6, hB6⟩
          have n53' := num_any 53 w6
          have LN := len_any hB6.nt
          have HL1 := bk_heal hB6 HNB.out f t a0 a1 b0 b1 (x := 1) (by rw [HBR.out]; rfl)
          rw [HM.out] at LN
          clear SE n53 hB6
          go_wp2_with fail
          refine n53'.mono ?_; rintro e w7 ⟨rfl, hw7⟩; obtain rfl := hw7.symm; clear n53' hw7
          go_wp2_with fail
          refine LN.mono ?_; rintro e w7 ⟨rfl, hw7⟩; obtain rfl := hw7.symm; clear LN hw7
          go_wp2_with fail
          refine HL1.mono ?_; rintro e w7 ⟨rfl, D2, hb2, hB7⟩
          have HL2 := bk_heal hB7 HNB.out f t a0 a1 b0 b1 (x := 0) (by rw [hb2]; rfl)
          clear HL1 hb2 hB7
          go_wp2_with fail
          refine HL2.mono ?_; rintro e w8 ⟨rfl, D3, hb3, hB8⟩
          have HB3 := hide hb3
          have HB8 : Hid (∃ v c, Bk w w8 b bm (nb + 1) D3 w2.heap.size (.slice adl M capl) Lb L v c (lef f t L M) (20000 + ((M : Int) - M))) := by
            have hla := lef_all f t L
            rw [HM.out] at hla
            have hle : (5000 : Int) + ((M : Int) - ((0 : Nat) : Int)) + 1 ≤ 20000 + ((M : Int) - M) := by omega
            refine ⟨v6, c6, ?_⟩
            rw [hla]
            exact ⟨hB8.nt, hB8.cok.mono hle, hB8.kp, hB8.tl⟩
          clear HL2 hb3 hB8
          go_wp2_with fail
          go_loopw [17, 18] (fun on i wx => ∃ (q : Nat) (o2 : Int), q ≤ M ∧ on = .int .i64 o2 ∧ i = .int .i64 ((q : Int) - 1) ∧ Hid (o2 = (cntL f t L q : Int) ∧ ∃ v c, Bk w wx b bm (nb + 1) D3 w2.heap.size (.slice adl M capl) Lb L v c (lef f t L q) (20000 + ((M : Int) - q)))) (fun _ i _ => (intOf i + 1).toNat)
          case atStart =>
            exact ⟨M, 0, Nat.le_refl _, rfl, by go_num, ⟨by rw [HCL.out]; rfl, HB8.out⟩⟩
          case round =>
            generalize wr = wz at *
            obtain ⟨q, o2, hq, rfl, rfl, hK⟩ := hrel
            clear HB8
            match q, hq, hK with
            | 0, hq, hK =>
              obtain ⟨hk1, v9, c9, hB9⟩ := hK.out
              have e1 : ((0 : Nat) : Int) - 1 = -1 := by omega
              rw [e1]
              have hoo : o2 = o := by rw [hk1, HJ.out]
              have hlef := lef_len f t L 0
              have LN := len_any hB9.nt
              have e2 : ((lef f t L 0).length : Int) = (M : Int) - o := by have := HM.out; have := HJ.out; omega
              rw [e2] at LN
              have HB9 := hide hB9
              subst hoo
              clear hK e1 hk1 hq hlef e2 hB9
              go_wp2_with fail
              refine LN.mono ?_; rintro e w9 ⟨rfl, hw9⟩; obtain rfl := hw9.symm; clear LN hw9
              go_wp2
              go_ret
              exact ⟨rfl, HB9.out.kp⟩
            | q + 1, hq, hK =>
              have e1 : ((q + 1 : Nat) : Int) - 1 = (q : Int) := by omega
              rw [e1]
              have hq0 : (0 : Int) ≤ (q : Int) := by omega
              have hqM : (q : Int) < (M : Int) := by omega
              have hq4 : (q : Int) < 4096 := by omega
              have hge2 : (q : Int) ≥ 0 := hq0
              obtain ⟨hjo, vq, cq, hB⟩ := hK.out
              have hqL : q < L.length := by rw [HM.out]; omega
              obtain ⟨g, hg⟩ : ∃ g, L[q]? = some g := ⟨_, List.getElem?_eq_getElem hqL⟩
              have ho20 : (0 : Int) ≤ o2 := by omega
              have ho24 : o2 ≤ 4096 := by have := lef_len f t L (q + 1); have := HM.out; omega
              have e5 : (20000 : Int) + ((M : Int) - ((q + 1 : Nat) : Int)) + 1 = 20000 + ((M : Int) - (q : Int)) := by omega
              have HJ2 := hide hjo
              have HE5 := hide e5
              clear hK e1 hjo hqL e5
              obtain ⟨r, dd, hadl, x0, x1, x2, xO, xL⟩ := hB.tl.at hg
              subst hadl
              cases hl : lnk f t g
              · obtain ⟨hl2, hc2⟩ := lef_skip hg hl
                have HC2 := hide hc2
                have HL2 := hide hl2
                have hdec : (g.f == f) = false ∨ ((g.f == f) = true ∧ (g.t == t) = false) := by
                  unfold lnk at hl
                  cases h1 : (g.f == f) <;> simp_all
                have HB := hide hB
                have HF9 : Hid (o2 = (cntL f t L q : Int) ∧ ∃ v c, Bk w wz b bm (nb + 1) D3 w2.heap.size (.slice (some ⟨r, 0, none⟩) M capl) Lb L v c (lef f t L q) (20000 + ((M : Int) - q))) := by
                  refine ⟨by rw [HC2.out]; exact HJ2.out, vq, cq, ?_⟩
                  rw [HL2.out, ← HE5.out]
                  exact ⟨HB.out.nt, HB.out.cok.mono (by omega), HB.out.kp, HB.out.tl⟩
                clear hc2 hl2 hl hB hg xO xL HC2 HL2 HB
                rcases hdec with hf1 | ⟨hf1, hf2⟩
                · go_wp2
                  exact ⟨⟨q, o2, by omega, rfl, by go_num, HF9⟩, by simp [intOf]⟩
                · go_wp2
                  exact ⟨⟨q, o2, by omega, rfl, by go_num, HF9⟩, by simp [intOf]⟩
              · obtain ⟨hl2, hc2, hg2⟩ := lef_take hg hl
                have HC2 := hide hc2
                have HL2 := hide hl2
                obtain ⟨hf1, hf2⟩ : (g.f == f) = true ∧ (g.t == t) = true := by simpa [lnk] using hl
                have hgb : bar D3 g.f g.t = false := by
                  rw [show g.f = f by simpa using hf1, show g.t = t by simpa using hf2]
                  exact HB3.out
                have DB := bk_take hB (by omega) q hg2 hgb
                have HG := hide hg
                have HXL := hide xL
                clear hc2 hl2 hl hgb hB hg hg2 xO xL
                go_wp2_with fail
                refine DB.mono ?_; rintro e w5 ⟨a5, n5, k5, rfl, hO, v5, c5, hB5⟩
                have hB6 := hB5.nu (Kp.alloc w5 (.cells #[.int .u8 g.f, .int .u8 g.t, .slice (some a5) n5 k5] 38) Nu)
                have hO6 := hO.kp (Kp.alloc w5 (.cells #[.int .u8 g.f, .int .u8 g.t, .slice (some a5) n5 k5] 38) Nu) (fun _ _ _ h => h)
                obtain ⟨r', d', hadl', y0, y1, y2, yO, _⟩ := hB6.tl.at HG.out
                have hr : r = r' := by simpa using hadl'
                subst hr
                obtain ⟨ad5, cp5, ed5⟩ := own_slice yO
                generalize g.ys.length = Ng at ed5
                subst ed5
                have hbx := heap_alloc_new w5 (.cells #[.int .u8 g.f, .int .u8 g.t, .slice (some a5) n5 k5] 38)
                obtain ⟨W0, hW0⟩ : ∃ W, w5.alloc (.cells #[.int .u8 g.f, .int .u8 g.t, .slice (some a5) n5 k5] 38) = W := ⟨_, rfl⟩
                rw [hW0] at hB6 hO6 y2 yO hbx
                have SM : ∀ W, Kp Nu W0 W → Calls Try.prog 23 #[.slice (some a5) n5 k5, .slice ad5 Ng cp5] W fun e W' => e = .returned (.bool true) ∧ Kp Nu W0 W' := fun W k => by
                  refine (same_any (row_rd hO6 k) (row_rd yO k) (by have := HXL.out; omega)).mono ?_
                  rintro e W' ⟨rfl, hk'⟩
                  exact ⟨by simp, k.andNu hk'⟩
                have NM : ∀ W, Kp Nu W0 W → Calls Try.prog 17 #[.int .i64 0] W fun e W' => e = .returned (.int .i64 0) ∧ Kp Nu W0 W' := fun W k => by
                  refine (num_any 0 W).mono ?_
                  rintro e W' ⟨rfl, rfl⟩
                  exact ⟨rfl, k⟩
                have HS : ∀ W, Kp Nu W0 W → W.cell? ⟨w5.heap.size, 0, none⟩ = some (.int .u8 g.f) ∧ W.cell? ⟨w5.heap.size, 1, none⟩ = some (.int .u8 g.t) ∧ W.cell? ⟨w5.heap.size, 2, none⟩ = some (.slice (some a5) n5 k5) ∧ W.cell? ⟨r, q * 3 + 2, none⟩ = some (.slice ad5 Ng cp5) := fun W k =>
                  ⟨cell_below (by simp [World.cell?, hbx]) (Nat.le_refl _) k.toBelow, cell_below (by simp [World.cell?, hbx]) (Nat.le_refl _) k.toBelow, cell_below (by simp [World.cell?, hbx]) (Nat.le_refl _) k.toBelow, cell_below y2 (Nat.le_refl _) k.toBelow⟩
                have HB6 := hide hB6
                clear DB hB5 hB6 hO hO6 yO hadl' x0 x1 x2 y0 y1 y2 hbx
                go_wp2_with fail
                try rw [hW0]
                clear hW0
                have hn1 : (g.f != f) = false := by rw [bne, hf1]; rfl
                have hn2 : (g.t != t) = false := by rw [bne, hf2]; rfl
                clear hf1 hf2
                go_region_held (fun W => W.cell? ⟨w5.heap.size, 0, none⟩ = some (.int .u8 g.f) ∧ W.cell? ⟨w5.heap.size, 1, none⟩ = some (.int .u8 g.t) ∧ W.cell? ⟨w5.heap.size, 2, none⟩ = some (.slice (some a5) n5 k5) ∧ W.cell? ⟨r, q * 3 + 2, none⟩ = some (.slice ad5 Ng cp5)) (first | (refine HS _ ?_; repeat (first | assumption | exact Kp.refl _ _ | apply Kp.andAlloc | apply Kp.drew))) (first | (go_at_call 17; refine (NM _ ?_).mono ?_; (repeat (first | assumption | exact Kp.refl _ _ | apply Kp.andAlloc | apply Kp.drew)); rintro e w6' ⟨rfl, hk6'⟩) | (go_at_call 23; refine (SM _ ?_).mono ?_; (repeat (first | assumption | exact Kp.refl _ _ | apply Kp.andAlloc | apply Kp.drew)); rintro e w7' ⟨rfl, hk7⟩))
                have HF9 : Hid (o2 + 1 = (cntL f t L q : Int) ∧ ∃ v c, Bk w w7' b bm (nb + 1) D3 w2.heap.size (.slice (some ⟨r, 0, none⟩) M capl) Lb L v c (lef f t L q) (20000 + ((M : Int) - q))) := by
                  refine ⟨by rw [HC2.out, HJ2.out]; omega, v5, c5, ?_⟩
                  have h9 := HB6.out.nu hk7
                  rw [HL2.out, HE5.out] at h9
                  exact h9
                clear SM NM HS hk7 HB6 HC2 HL2
                go_wp2
                exact ⟨⟨q, o2 + 1, by omega, rfl, by go_num, HF9⟩, by simp [intOf]⟩
        | q + 1, hq, hJ =>
          have e1 : ((q + 1 : Nat) : Int) - 1 = (q : Int) := by omega
          rw [e1]
          have hq0 : (0 : Int) ≤ (q : Int) := by omega
          have hqM : (q : Int) < (M : Int) := by omega
          have hq4 : (q : Int) < 4096 := by omega
          have hge2 : (q : Int) ≥ 0 := hq0
          obtain ⟨hjo, cq, hB⟩ := hJ.out
          have hqL : q < L.length := by rw [HM.out]; omega
          obtain ⟨g, hg⟩ : ∃ g, L[q]? = some g := ⟨_, List.getElem?_eq_getElem hqL⟩
          have ho0 : (0 : Int) ≤ o := by omega
          have ho4 : o ≤ 4096 := by have := lef_len f t L (q + 1); have := HM.out; omega
          have e5 : (5000 : Int) + ((M : Int) - ((q + 1 : Nat) : Int)) + 1 = 5000 + ((M : Int) - (q : Int)) := by omega
          have HJ := hide hjo
          have HE5 := hide e5
          clear hJ e1 hjo hqL e5
          cases hl : lnk f t g
          · obtain ⟨_, hc2⟩ := lef_skip hg hl
            have HC2 := hide hc2
            have hdec : (g.f == f) = false ∨ ((g.f == f) = true ∧ (g.t == t) = false) := by
              unfold lnk at hl
              cases h1 : (g.f == f) <;> simp_all
            clear hc2 hl
            cases hgb : bar D1 g.f g.t
            · have DB := bk_keep hB (by omega) q hg hgb
              have HG := hide hg
              clear hgb hB hg
              go_wp2_with fail
              refine DB.mono ?_; rintro e w5 ⟨aa, na, ca, rfl, c5, hB5⟩
              have hB6 := hB5.nu (Kp.alloc w5 (.cells #[.int .u8 g.f, .int .u8 g.t, .slice (some aa) na ca] 38) Nu)
              obtain ⟨r, dd, hadl, x0, x1, _, _⟩ := hB6.tl.at HG.out
              have HB6 := hide hB6
              subst hadl
              clear DB hB5 hB6
              rcases hdec with hf1 | ⟨hf1, hf2⟩
              · go_wp2
                refine ⟨⟨q, o, by omega, rfl, by go_num, ⟨by rw [HC2.out]; exact HJ.out, c5, by have := HB6.out; rw [HE5.out] at this; exact this⟩⟩, by simp [intOf]⟩
              · go_wp2
                refine ⟨⟨q, o, by omega, rfl, by go_num, ⟨by rw [HC2.out]; exact HJ.out, c5, by have := HB6.out; rw [HE5.out] at this; exact this⟩⟩, by simp [intOf]⟩
            · have DB := bk_bar hB q hg hgb
              have HG := hide hg
              clear hgb hB hg
              go_wp2_with fail
              refine DB.mono ?_; rintro e w5 ⟨rfl, c5, hB5⟩
              have hB6 := hB5.nu (Kp.alloc w5 (.cells #[.int .u8 0, .int .u8 0, .slice none 0 0] 38) Nu)
              obtain ⟨r, dd, hadl, x0, x1, _, _⟩ := hB6.tl.at HG.out
              have HB6 := hide hB6
              subst hadl
              clear DB hB5 hB6
              rcases hdec with hf1 | ⟨hf1, hf2⟩
              · go_wp2
                refine ⟨⟨q, o, by omega, rfl, by go_num, ⟨by rw [HC2.out]; exact HJ.out, c5, by have := HB6.out; rw [HE5.out] at this; exact this⟩⟩, by simp [intOf]⟩
              · go_wp2
                refine ⟨⟨q, o, by omega, rfl, by go_num, ⟨by rw [HC2.out]; exact HJ.out, c5, by have := HB6.out; rw [HE5.out] at this; exact this⟩⟩, by simp [intOf]⟩
          · obtain ⟨_, hc2, _⟩ := lef_take hg hl
            have HC2 := hide hc2
            obtain ⟨hf1, hf2⟩ : (g.f == f) = true ∧ (g.t == t) = true := by simpa [lnk] using hl
            have hgb : bar D1 g.f g.t = true := by
              rw [show g.f = f by simpa using hf1, show g.t = t by simpa using hf2]
              exact HBR.out
            have DB := bk_bar hB q hg hgb
            have HBq := hide hB
            have HG := hide hg
            clear hc2 hl hgb hB hg
            go_wp2_with fail
            refine DB.mono ?_; rintro e w5 ⟨rfl, c5, hB5⟩
            have hB6 := hB5.nu (Kp.alloc w5 (.cells #[.int .u8 0, .int .u8 0, .slice none 0 0] 38) Nu)
            obtain ⟨r, dd, hadl, x0, x1, _, _⟩ := hB6.tl.at HG.out
            have n53 := num_any 53 (w5.alloc (.cells #[.int .u8 0, .int .u8 0, .slice none 0 0] 38))
            have HB6 := hide hB6
            subst hadl
            clear DB hB5 hB6
            go_wp2_with fail
            refine n53.mono ?_; rintro e w6 ⟨rfl, hw6⟩
            obtain rfl := hw6.symm
            clear n53 hw6
            go_wp2
            refine ⟨⟨q, o + 1, by omega, rfl, by go_num, ⟨?_, c5, by have := HB6.out; rw [HE5.out] at this; exact this⟩⟩, by simp [intOf]⟩
            rw [HC2.out, HJ.out]; omega
end Go.Proofs.Ythajboipnjjgfaa.Ly
