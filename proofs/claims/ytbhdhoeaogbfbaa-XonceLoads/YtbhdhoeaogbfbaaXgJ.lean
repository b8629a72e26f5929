import Derived.Test.YtbhdhoeaogbfbaaXgI
namespace Go.Proofs.Ytbhdhoeaogbfbaa.Xo
open Go.RowKit
set_option linter.unusedVariables false
set_option linter.unusedSimpArgs false
theorem ff_quiet {n : Nat} {ad : Option Addr} {cap : Nat} {ys : List Int} {w : World} : Calls Try.prog 103 #[.slice ad ys.length cap] (w.drewN n) fun e w' => e = .returned (.bool (unf ys)) ∧ ∃ m, w' = w.drewN m := Calls.quiet_of_same (long_any ad cap ys _)
set_option maxRecDepth 100000 in
set_option maxHeartbeats 16000000 in
/-- the document's right, where the numbers may be -/
theorem right_yes (w : World) (db : Nat) (s a m dl qn wn dd : Int) (q e : Value) (qs : List (Value × List Int)) (es : List Fm) (hq : Lq w q qs) (he : Le w e es) (c3 : w.cell? ⟨db, 3, none⟩ = some (.int .i64 qn)) (c4 : w.cell? ⟨db, 4, none⟩ = some (.int .i64 wn)) (e0 : IntKind.u64.wrap (s - a) = dd) (h0 : 0 ≤ m) (hm : m ≤ 18446744073709551615) (hqn : qn ≤ 16) (hwn : 0 ≤ wn ∧ wn ≤ 16) (hdl : 0 ≤ dl) (hsq : ∀ f ∈ es, f.seq ≤ 18446744073709551615) (hel : es.length ≤ 140737488351232) (hyes : okN s a m qn dd qs.length = true) :
    Calls Try.prog 75 #[.pointer (some ⟨db, 0, none⟩), .agg #[.int .u64 s, .int .u64 a, q, .int .u64 m, .int .u64 dl, e]] w fun e w' => e = .returned (.bool (!(qs.any (fun x => unf x.2)) && okE dl wn 1 es)) ∧ Kp Nu w w' := by
  have mixed : Try.prog.follows .mixedOrders = true := by kernel_rfl
  obtain ⟨aq, cq, rfl⟩ := hq.slice
  obtain ⟨ae, ce, rfl⟩ := he.slice
  obtain ⟨n1, en1⟩ : ∃ n1, qs.length = n1 := ⟨_, rfl⟩
  obtain ⟨ne, ene⟩ : ∃ ne, es.length = ne := ⟨_, rfl⟩
  rw [en1] at hq hyes ⊢
  rw [ene] at he ⊢
  have TM := fun W => tooMuch_any a m s dd h0 hm e0 W
  have CX : ∀ W, Kp Nu (w.alloc (.cells #[.int .u64 s, .int .u64 a, .slice aq n1 cq, .int .u64 m, .int .u64 dl, .slice ae ne ce] 66)) W → W.cell? ⟨w.heap.size, 0, none⟩ = some (.int .u64 s) ∧ W.cell? ⟨w.heap.size, 1, none⟩ = some (.int .u64 a) ∧ W.cell? ⟨w.heap.size, 2, none⟩ = some (.slice aq n1 cq) ∧ W.cell? ⟨w.heap.size, 3, none⟩ = some (.int .u64 m) ∧ W.cell? ⟨w.heap.size, 4, none⟩ = some (.int .u64 dl) ∧ W.cell? ⟨w.heap.size, 5, none⟩ = some (.slice ae ne ce) ∧ W.cell? ⟨db, 3, none⟩ = some (.int .i64 qn) ∧ W.cell? ⟨db, 4, none⟩ = some (.int .i64 wn) := fun W kW => by
    obtain ⟨q0, q1, q2, q3, q4, q5⟩ := cell6 (new_at w _ kW)
    have kw := ((Kp.refl Nu w).andAlloc _).andNu kW
    exact ⟨q0, q1, q2, q3, q4, q5, cell_nuX c3 kw, cell_nuX c4 kw⟩
  have KW := ((Kp.refl Nu w).andAlloc (.cells #[.int .u64 s, .int .u64 a, .slice aq n1 cq, .int .u64 m, .int .u64 dl, .slice ae ne ce] 66))
  have HKW := hide KW
  unfold okN at hyes
  simp only [Bool.not_eq_true', Bool.or_eq_false_iff, decide_eq_false_iff_not, bne_eq_false_iff_eq, Bool.not_eq_false'] at hyes
  obtain ⟨h1, h2, h3, h4⟩ := hyes
  have HQ := hide (And.intro hq en1)
  have HE := hide (And.intro he (And.intro ene (And.intro hsq (And.intro hdl hwn))))
  have HNB : Hid (n1 ≤ 16 ∧ ne ≤ 140737488351232) := hide ⟨by omega, by omega⟩
  have ec : IntKind.u64.wrap (n1 : Int) = (n1 : Int) := by rw [IntKind.wrap_u64]; omega
  have ew : IntKind.u64.wrap wn = wn := by rw [IntKind.wrap_u64]; omega
  have HEW := hide ew
  obtain ⟨z0, z1, z2, z3, z4, z5, z6, z7⟩ := CX _ (Kp.refl _ _)
  have g1 : decide (s < a) = false := decide_eq_false h1
  have g2 : (dd != (n1 : Int)) = false := by simp [h2]
  have g3 : decide (qn < (n1 : Int)) = false := decide_eq_false h3
  rw [h4] at TM
  clear h2 h4 c3 c4 h0 hm KW hq he hqn hwn hdl hsq hel en1 ene ew
  go_enter Try.func75, Try.ntmps75
  go_wp2_with fail
  go_region_held3 (fun W => W.cell? ⟨w.heap.size, 0, none⟩ = some (.int .u64 s) ∧ W.cell? ⟨w.heap.size, 1, none⟩ = some (.int .u64 a) ∧ W.cell? ⟨w.heap.size, 2, none⟩ = some (.slice aq n1 cq) ∧ W.cell? ⟨w.heap.size, 3, none⟩ = some (.int .u64 m) ∧ W.cell? ⟨w.heap.size, 4, none⟩ = some (.int .u64 dl) ∧ W.cell? ⟨w.heap.size, 5, none⟩ = some (.slice ae ne ce) ∧ W.cell? ⟨db, 3, none⟩ = some (.int .i64 qn) ∧ W.cell? ⟨db, 4, none⟩ = some (.int .i64 wn)) (first | (refine CX _ ?_; first | assumption | exact Kp.drew (Kp.refl _ _)))
    (first | (go_at_call 102; refine (TM _).mono ?_; rintro e w2 ⟨rfl, k2⟩; have k2 := (Kp.drew (Kp.refl Nu (w.alloc (.cells #[.int .u64 s, .int .u64 a, .slice aq n1 cq, .int .u64 m, .int .u64 dl, .slice ae ne ce] 66)))).andNu k2))
  clear z0 z1 z2 z3 z4 z5 z6 z7 TM ec g1 g2 g3 h1 h3 e0
  obtain ⟨z0, z1, z2, z3, z4, z5, z6, z7⟩ := CX _ k2
  have HK2 := hide k2
  clear k2
  go_wp2_with fail
  go_loopw [5] (fun it wr => ∃ i : Nat, it = .int .i64 (i : Int) ∧ i ≤ n1 ∧ Hid ((∀ (j : Nat) (x : Value × List Int), j < i → qs[j]? = some x → unf x.2 = false) ∧ Kp Nu (w.alloc (.cells #[.int .u64 s, .int .u64 a, .slice aq n1 cq, .int .u64 m, .int .u64 dl, .slice ae ne ce] 66)) wr)) (fun it _ => n1 - (intOf it).toNat)
  case atStart => exact ⟨0, rfl, Nat.zero_le _, fun j x hj => by omega, HK2.out⟩
  case round =>
    clear z0 z1 z2 z3 z4 z5 z6 z7
    obtain ⟨i, rfl, hi, HI⟩ := hrel
    obtain ⟨z0, z1, z2, z3, z4, z5, z6, z7⟩ := CX _ HI.out.2
    by_cases hlt : i < n1
    · obtain ⟨x, hx⟩ : ∃ x, qs[i]? = some x := ⟨_, List.getElem?_eq_getElem (by rw [HQ.out.2]; exact hlt)⟩
      have kw := HKW.out.andNu HI.out.2
      obtain ⟨r, off, E0, hrl⟩ : ∃ r off, aq = some ⟨r, off, none⟩ ∧ Rl w r off qs := by
        rcases HQ.out.1 with ⟨ad, cap, e1, e2⟩ | ⟨r, off, c, e1, h⟩
        · have := HQ.out.2; rw [e2] at this; simp at this; omega
        · exact ⟨r, off, (Value.slice.inj e1).1, h⟩
      subst E0
      obtain ⟨hc, hr⟩ := (hrl.nu kw) i x hx
      obtain ⟨ax, cx, ex⟩ := hr.slice
      rw [ex] at hc
      have LA := long_any ax cx x.2 wr
      have hltI : (i : Int) < (n1 : Int) := by omega
      have hi0 : (0 : Int) ≤ (i : Int) := by omega
      have hwi : wrap64 ((i : Int) + 1) = ((i + 1 : Nat) : Int) := by have := HNB.out.1; unfold wrap64; omega
      have HX := hide (And.intro hlt (And.intro hwi hx))
      generalize hyn : x.2.length = yn at *
      cases hu : unf x.2 with
      | true =>
        have hany : qs.any (fun x => unf x.2) = true := List.any_eq_true.2 ⟨x, List.mem_of_getElem? hx, hu⟩
        have HA := hide hany
        rw [hu] at LA
        clear hx hlt hi hwi hu hany hrl hr ex kw hyn
        go_wp2_with (go_at_call 103; refine LA.mono ?_; rintro e w3 ⟨rfl, hw⟩; obtain rfl := hw.symm)
        go_ret
        exact ⟨by rw [HA.out]; rfl, HKW.out.andNu HI.out.2⟩
      | false =>
        have HI2 : Hid ((∀ (j : Nat) (x : Value × List Int), j < i + 1 → qs[j]? = some x → unf x.2 = false) ∧ Kp Nu _ wr) := hide ⟨fun j y hj hy => by
          rcases Nat.lt_or_ge j i with h | h
          · exact HI.out.1 j y h hy
          · have : j = i := by omega
            subst this; rw [hx] at hy; cases hy; exact hu, HI.out.2⟩
        rw [hu] at LA
        clear hx hlt hi hwi hu hrl hr ex kw hyn HI
        go_wp2_with (go_at_call 103; refine LA.mono ?_; rintro e w3 ⟨rfl, hw⟩; obtain rfl := hw.symm)
        rw [HX.out.2.1]
        exact ⟨⟨i + 1, rfl, HX.out.1, HI2⟩, lt_m _ rfl HX.out.1⟩
    · obtain rfl : i = n1 := by omega
      have hall : qs.any (fun x => unf x.2) = false := by
        rw [List.any_eq_false]
        intro x hx
        obtain ⟨j, hj⟩ := List.mem_iff_getElem?.1 hx
        have := HI.out.1 j x (by rw [← HQ.out.2]; exact (List.getElem?_eq_some_iff.1 hj).1) hj
        simp [this]
      have HALL := hide hall
      have HK3 := hide HI.out.2
      have hnl : ¬ (i : Int) < (i : Int) := by omega
      clear hlt hi hall HI
      obtain ⟨wr2, ewr⟩ : ∃ wr2 : World, wr2 = wr := ⟨_, rfl⟩
      subst ewr
      go_wp2_with fail
      go_loopw [6] (fun it wr => ∃ j : Nat, it = .int .i64 (j : Int) ∧ j ≤ ne ∧ Hid (okE dl wn 1 (es.take j) = true ∧ 1 ≤ lst dl 1 (es.take j) ∧ Kp Nu (w.alloc (.cells #[.int .u64 s, .int .u64 a, .slice aq i cq, .int .u64 m, .int .u64 dl, .slice ae ne ce] 66)) wr)) (fun it _ => ne - (intOf it).toNat)
      case atStart => exact ⟨0, rfl, Nat.zero_le _, rfl, Int.le_refl _, HK3.out⟩
      case round =>
        clear z0 z1 z2 z3 z4 z5 z6 z7 hnl
        obtain ⟨j, rfl, hj, HJ⟩ := hrel
        obtain ⟨z0, z1, z2, z3, z4, z5, z6, z7⟩ := CX _ HJ.out.2.2
        by_cases hlt : j < ne
        · obtain ⟨f, hf⟩ : ∃ f, es[j]? = some f := ⟨_, List.getElem?_eq_getElem (by rw [HE.out.2.1]; exact hlt)⟩
          obtain ⟨r, off, E0, hrl⟩ : ∃ r off, ae = some ⟨r, off, none⟩ ∧ Rfl w r off es := by
            rcases HE.out.1 with ⟨ad, cap, e1, e2⟩ | ⟨r, off, c, e1, h⟩
            · have := HE.out.2.1; rw [e2] at this; simp at this; omega
            · exact ⟨r, off, (Value.slice.inj e1).1, h⟩
          subst E0
          have kw := HKW.out.andNu HJ.out.2.2
          obtain ⟨hc0, hc1, hr⟩ := (hrl.nu kw) j f hf
          obtain ⟨ax, cx, ex⟩ := hr.slice
          rw [ex] at hc1
          obtain ⟨wa, ewa⟩ : ∃ wa, wr.alloc (.cells #[.int .u64 f.seq, .slice ax f.ys.length cx] 133) = wa := ⟨_, rfl⟩
          have ka := HJ.out.2.2.andAlloc (.cells #[.int .u64 f.seq, .slice ax f.ys.length cx] 133)
          rw [ewa] at ka
          obtain ⟨fb, efb⟩ : ∃ fb, wr.heap.size = fb := ⟨_, rfl⟩
          have hfb : wa.heap[fb]? = some (.cells #[.int .u64 f.seq, .slice ax f.ys.length cx] 133 (0, 0)) := by rw [← ewa, ← efb]; exact heap_alloc_new wr _
          have HFB := hide hfb
          have v0 := cellAt hfb 0 rfl
          have v1 := cellAt hfb 1 rfl
          obtain ⟨y0, y1, y2, y3, y4, y5, y6, y7⟩ := CX _ ka
          obtain ⟨hc2, hc3, _⟩ := (hrl.nu (HKW.out.andNu ka)) j f hf
          have HPREV : Hid (∀ (j' : Nat) (g : Fm), j = j' + 1 → es[j']? = some g → wa.cell? ⟨r, off + j' * 2, none⟩ = some (.int .u64 g.seq) ∧ lst dl 1 (es.take j) = g.seq - dl) := hide (fun j' g e hg => ⟨((hrl.nu (HKW.out.andNu ka)) j' g hg).1, by rw [e]; exact lst_take hg⟩)
          have LQ : ∀ n, Calls Try.prog 103 #[.slice ax f.ys.length cx] (wa.drewN n) fun e w' => e = .returned (.bool (unf f.ys)) ∧ w' = wa.drewN n := fun n => long_any ax cx f.ys _
          have hltI : (j : Int) < (ne : Int) := by omega
          have hj0 : (0 : Int) ≤ (j : Int) := by omega
          have hwj : wrap64 ((j : Int) + 1) = ((j + 1 : Nat) : Int) := by have := HNB.out.2; unfold wrap64; omega
          have hsq := HE.out.2.2.1 f (List.mem_of_getElem? hf)
          have hdl := HE.out.2.2.2.1
          have ew := HEW.out
          have HX := hide (And.intro hlt (And.intro hwj hf))
          have HKA := hide ka
          -- what the test says
          have HT : Hid (∀ t : Bool, tstE dl wn (lst dl 1 (es.take j)) f = t → (t = false → okE dl wn 1 es = false) ∧ (t = true → okE dl wn 1 (es.take (j + 1)) = true ∧ 1 ≤ lst dl 1 (es.take (j + 1)))) := hide (fun t ht => ⟨fun e => okE_bad hf (by rw [ht, e]), fun e => ⟨okE_good hf HJ.out.1 (by rw [ht, e]), by
            rw [lst_take hf]
            have h1 := HJ.out.2.1
            rw [e] at ht
            unfold tstE at ht
            simp only [Bool.and_eq_true, decide_eq_true_eq] at ht
            omega⟩⟩)
          have h1l := HJ.out.2.1
          clear kw hrl hr ex hfb hf hlt hj hwj ka hc2 hc3
          generalize hyn : f.ys.length = yn at *
          clear hyn
          have bad : tstE dl wn (lst dl 1 (es.take j)) f = false → okE dl wn 1 es = false := fun h => (HT.out _ h).1 rfl
          cases hu : unf f.ys with
          | true =>
            have HB := hide (bad (by unfold tstE; rw [hu]; simp))
            rw [hu] at LQ
            clear hu bad hsq h1l
            go_wp2_with fail
            (try rw [ewa]); (try rw [efb])
            go_quiet (first | (go_at_call 103; exact Calls.quiet_of_same (LQ _)))
            go_wp2
            go_ret
            exact ⟨by rw [HB.out, Bool.and_false]; rfl, HKW.out.andNu (HKA.out.andNu (kp_drewN _ _))⟩
          | false =>
            rw [hu] at LQ
            by_cases b1 : f.seq ≤ dl
            · have HB := hide (bad (by unfold tstE; rw [decide_eq_false (show ¬ f.seq > dl by omega)]; rfl))
              have g1 : decide (f.seq ≤ dl) = true := decide_eq_true b1
              clear hu bad hsq h1l
              go_wp2_with fail
              (try rw [ewa]); (try rw [efb])
              go_quiet (first | (go_at_call 103; exact Calls.quiet_of_same (LQ _)))
              go_wp2
              go_ret
              exact ⟨by rw [HB.out, Bool.and_false]; rfl, HKW.out.andNu (HKA.out.andNu (kp_drewN _ _))⟩
            · have g1 : decide (f.seq ≤ dl) = false := decide_eq_false b1
              have wd : IntKind.u64.wrap (f.seq - dl) = f.seq - dl := by rw [IntKind.wrap_u64]; omega
              obtain ⟨D, eD⟩ : ∃ D, f.seq - dl = D := ⟨_, rfl⟩
              rw [eD] at wd
              by_cases b2 : D < 2
              · have HB := hide (bad (by unfold tstE; rw [decide_eq_false (show ¬ f.seq - dl > lst dl 1 (es.take j) by omega)]; simp))
                have g2 : decide (D < 2) = true := decide_eq_true b2
                clear hu bad hsq h1l
                go_wp2_with fail
                (try rw [ewa]); (try rw [efb])
                go_quiet (first | (go_at_call 103; exact Calls.quiet_of_same (LQ _)))
                go_wp2
                go_ret
                exact ⟨by rw [HB.out, Bool.and_false]; rfl, HKW.out.andNu (HKA.out.andNu (kp_drewN _ _))⟩
              · have g2 : decide (D < 2) = false := decide_eq_false b2
                by_cases b3 : wn < D
                · have HB := hide (bad (by unfold tstE; rw [decide_eq_false (show ¬ f.seq - dl ≤ wn by omega)]; simp))
                  have g3 : decide (wn < D) = true := decide_eq_true b3
                  clear hu bad hsq h1l
                  go_wp2_with fail
                  (try rw [ewa]); (try rw [efb])
                  go_quiet (first | (go_at_call 103; exact Calls.quiet_of_same (LQ _)))
                  go_wp2
                  go_ret
                  exact ⟨by rw [HB.out, Bool.and_false]; rfl, HKW.out.andNu (HKA.out.andNu (kp_drewN _ _))⟩
                · have g3 : decide (wn < D) = false := decide_eq_false b3
                  clear bad h1l
                  have HCY : Hid (∀ W, Kp Nu wa W → (W.cell? ⟨fb, 0, none⟩ = some (.int .u64 f.seq) ∧ W.cell? ⟨w.heap.size, 5, none⟩ = some (.slice (some ⟨r, off, none⟩) ne ce)) ∧ Kp Nu w W) := hide (fun W k => ⟨⟨cellAt ((k.block _ (blk_lt HFB.out) (fun e => e)).trans HFB.out) 0 rfl, (CX _ (HKA.out.andNu k)).2.2.2.2.2.1⟩, HKW.out.andNu (HKA.out.andNu k)⟩)
                  have HKN : Hid (∀ n, Kp Nu wa (wa.drewN n)) := hide (fun n => kp_drewN _ _)
                  cases j with
                  | zero =>
                    have HGD := hide ((HT.out true (by
                      unfold tstE
                      rw [decide_eq_true (show f.seq > dl by omega), decide_eq_true (show f.seq - dl > lst dl 1 (es.take 0) by show f.seq - dl > 1; omega), decide_eq_true (show f.seq - dl ≤ wn by omega), hu]; rfl)).2 rfl)
                    have g4 : decide ((0 : Int) < 0) = false := by simp
                    clear hu hsq hdl HPREV HT
                    simp only [Nat.zero_mul, Nat.add_zero] at hc0 hc1
                    go_wp2_with fail
                    (try rw [ewa]); (try rw [efb])
                    go_quiet (first | (go_at_call 103; exact Calls.quiet_of_same (LQ _)))
                    have kz := HKN.out nq
                    generalize wa.drewN nq = wz at *
                    have HKZ := hide kz
                    obtain ⟨⟨x0, x1⟩, _⟩ := HCY.out _ kz
                    clear kz v0 v1 y0 y1 y2 y3 y4 y5 y6 y7 LQ hc0 hc1
                    go_wp2_with fail
                    go_quiet (fail)
                    have HFN := hide (HKA.out.andNu (HKZ.out.andNu (kp_drewN wz nq)))
                    clear x0 x1
                    go_wp2_with fail
                    have hlt0 := HX.out.1
                    exact ⟨⟨0 + 1, rfl, HX.out.1, HGD.out.1, HGD.out.2, HFN.out⟩, by first | exact lt_m _ rfl hlt0 | (simp [intOf]; omega)⟩
                  | succ j' =>
                    obtain ⟨g, hg⟩ : ∃ g, es[j']? = some g := ⟨_, List.getElem?_eq_getElem (by have := HE.out.2.1; have := HX.out.1; omega)⟩
                    obtain ⟨p0, hlast⟩ := HPREV.out j' g rfl hg
                    have HP0 : Hid (∀ W, Kp Nu wa W → W.cell? ⟨r, off + j' * 2, none⟩ = some (.int .u64 g.seq)) := hide (fun W k => cell_nuX p0 k)
                    obtain ⟨I, eI⟩ : ∃ I : Int, ((j' + 1 : Nat) : Int) = I := ⟨_, rfl⟩
                    have HEI := hide eI
                    have i1 : I.toNat = j' + 1 := by omega
                    have i2 : I.toNat - 1 = j' := by omega
                    have i3 : IntKind.i64.wrap (I - 1) = I - 1 := by have := HNB.out.2; rw [IntKind.wrap_i64]; omega
                    have i4 : (0 : Int) ≤ I - 1 := by omega
                    have i5 : I - 1 < (ne : Int) := by omega
                    have i6 : (0 : Int) < I := by omega
                    have i7 : (1 : Int) ≤ I := by omega
                    have i8 : I ≤ (ne : Int) := by omega
                    have i9 : I < (ne : Int) + 1 := by omega
                    have g4 : decide ((0 : Int) < I) = true := decide_eq_true i6
                    have HX2 := HX
                    rw [eI] at hltI hj0 HX2 ⊢
                    rw [← i1] at hc0 hc1
                    have HI2 := hide i2
                    by_cases hcmp : f.seq ≤ g.seq
                    · have HB := hide (okE_bad (wn := wn) HX.out.2.2 (by unfold tstE; rw [hlast, decide_eq_false (show ¬ f.seq - dl > g.seq - dl by omega)]; simp))
                      have g5 : decide (f.seq ≤ g.seq) = true := decide_eq_true hcmp
                      clear hu hsq hdl HPREV HT eI i1 i2 p0 hlast
                      go_wp2_with fail
                      (try rw [ewa]); (try rw [efb])
                      go_quiet (first | (go_at_call 103; exact Calls.quiet_of_same (LQ _)))
                      have kz := HKN.out nq
                      generalize wa.drewN nq = wz at *
                      have HKZ := hide kz
                      obtain ⟨⟨x0, x1⟩, _⟩ := HCY.out _ kz
                      have p0 := HP0.out _ kz
                      rw [← HI2.out] at p0
                      clear kz v0 v1 y0 y1 y2 y3 y4 y5 y6 y7 LQ hc0 hc1
                      go_wp2_with fail
                      go_quiet (fail)
                      go_wp2
                      go_ret
                      exact ⟨by rw [HB.out, Bool.and_false]; rfl, HKW.out.andNu (HKA.out.andNu (HKZ.out.andNu (kp_drewN _ _)))⟩
                    · have HGD := hide ((HT.out true (by
                        unfold tstE
                        rw [hlast, decide_eq_true (show f.seq > dl by omega), decide_eq_true (show f.seq - dl > g.seq - dl by omega), decide_eq_true (show f.seq - dl ≤ wn by omega), hu]; rfl)).2 rfl)
                      have g5 : decide (f.seq ≤ g.seq) = false := decide_eq_false hcmp
                      clear hu hsq hdl HPREV HT eI i1 i2 p0 hlast
                      go_wp2_with fail
                      (try rw [ewa]); (try rw [efb])
                      go_quiet (first | (go_at_call 103; exact Calls.quiet_of_same (LQ _)))
                      have kz := HKN.out nq
                      generalize wa.drewN nq = wz at *
                      have HKZ := hide kz
                      obtain ⟨⟨x0, x1⟩, _⟩ := HCY.out _ kz
                      have p0 := HP0.out _ kz
                      rw [← HI2.out] at p0
                      clear kz v0 v1 y0 y1 y2 y3 y4 y5 y6 y7 LQ hc0 hc1
                      go_wp2_with fail
                      go_quiet (fail)
                      have HFN := hide (HKA.out.andNu (HKZ.out.andNu (kp_drewN wz nq)))
                      clear x0 x1 p0
                      go_wp2_with fail
                      exact ⟨⟨j' + 1 + 1, by first | rfl | rw [HX2.out.2.1], HX.out.1, HGD.out.1, HGD.out.2, HFN.out⟩, by rw [HX2.out.2.1, ← HEI.out]; exact lt_m _ rfl HX.out.1⟩
        · obtain rfl : j = ne := by omega
          have hend : okE dl wn 1 es = true := by
            have := HJ.out.1
            rwa [List.take_of_length_le (by rw [HE.out.2.1]; exact Nat.le_refl _)] at this
          have HB := hide hend
          have hnl : ¬ (j : Int) < (j : Int) := by omega
          clear hlt hj hend
          go_wp2
          go_ret
          exact ⟨by rw [HB.out, HALL.out]; rfl, HKW.out.andNu HJ.out.2.2⟩
end Go.Proofs.Ytbhdhoeaogbfbaa.Xo
