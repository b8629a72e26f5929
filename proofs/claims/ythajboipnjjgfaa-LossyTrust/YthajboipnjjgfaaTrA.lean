import Derived.Test.YthajboipnjjgfaaPlC
namespace Go.Proofs.Ythajboipnjjgfaa.Ly
open Go.RowKit Go.Maps
set_option linter.unusedVariables false

/-- nothing from inside is there -/
def Out33 (c : Ct) (L : List Gm) : Prop := c.s = 0 ∧ ∀ g ∈ L, 33 ≤ g.f
theorem Out33.step {c c' : Ct} {L L' : List Gm} {kind : Int} (h : Out33 c L) (hk : kind ≠ 1) (p : PlR kind c L c' L') : Out33 c' L' := by
  obtain ⟨h1, h2⟩ := h
  cases p with
  | same => exact ⟨h1, h2⟩
  | lost => exact ⟨h1, h2⟩
  | barred => exact ⟨h1, h2⟩
  | sent g hk' => exact absurd hk' hk
  | inj g _ hf =>
    refine ⟨h1, fun x hx => ?_⟩
    rcases List.mem_append.1 hx with hx | hx
    · exact h2 x hx
    · simp at hx; subst hx; exact hf
  | kept => exact ⟨h1, h2⟩
  | took p hp =>
    refine ⟨h1, fun x hx => ?_⟩
    rcases List.mem_append.1 hx with hx | hx
    · exact h2 x (List.mem_of_mem_take hx)
    · exact h2 x (List.mem_of_mem_drop hx)
  | drop q => exact ⟨h1, fun x hx => h2 x (sift_mem q L 0 x hx)⟩

def TInv (w wr : World) (b bm : Nat) (room k : Int) : Prop := ∃ (nb : Nat) (D : DataW Unit) (v : Value) (c : Ct) (L : List Gm), (nb : Int) ≤ k ∧ Inv c L k ∧ Out33 c L ∧ Nt w.heap.size wr b bm nb room D v c L ∧ Kp Nu w wr

/-- one step, Send turned to Inject -/
theorem trust_play {w wr W : World} {b bm nb : Nat} {room : Int} {D : DataW Unit} {v : Value} {c : Ct} {L : List Gm} {k : Int} (hnb : (nb : Int) ≤ k) (hI : Inv c L k) (hO : Out33 c L) (hN : Nt w.heap.size wr b bm nb room D v c L) (hkp : Kp Nu w wr) (hk : k ≤ 1599289640354) (kW : Kp Nu wr W) (s : Sp) (hs : SpR w s) (h1 : s.kind ≠ 1) :
    Calls Try.prog 30 #[.pointer (some ⟨b, 0, none⟩), s.agg] W fun e w' => e = .returned (.tuple #[]) ∧ TInv w w' b bm room (k + 1) := by
  refine (play_any (hN.nu kW) (hI.fax (by omega)) s (hs.nu (hkp.andNu kW)) (by omega)).mono ?_
  rintro e w2 ⟨rfl, nb', D', v', c', L', hn1, hpl, hN2, hF⟩
  exact ⟨rfl, nb', D', v', c', L', by omega, hI.step hpl, hO.step h1 hpl, hN2, (hN.nu kW).step (hkp.andNu kW) hF⟩

/-- a slice of bytes whose block is not the network's stays -/
theorem Rd.kp {S : Nat → Prop} {w w' : World} {u : Value} {ys : List Int} (h : Rd w u ys) (k : Kp S w w') (hS : ∀ a n cap, u = .slice (some a) n cap → ys ≠ [] → ¬ S a.block) : Rd w' u ys := by
  rcases h with ⟨rfl, rfl⟩ | ⟨a, cap, rfl, hc⟩
  · exact .inl ⟨rfl, rfl⟩
  · refine .inr ⟨a, cap, rfl, fun j x hj => ?_⟩
    have := hc j x hj
    refine (World.cell?_of_block (k.block _ (World.block_lt_of_cell? w _ this) ?_)).trans this
    rw [add_block]
    refine hS a _ _ rfl ?_
    rintro rfl
    simp [cs] at hj

/-- Send in the emptied network -/
theorem trust_send {w0 w : World} {b bm : Nat} {room : Int} {v : Value} {cc : Ct} (hN : Nt w0.heap.size w b bm 0 room (.map []) v cc []) (hc : Cok cc 3198579280900) (f t : Int) (f0 : 0 ≤ f) (hf : f < 33) (t0 : 0 ≤ t) (t1 : t < 256) {d : Value} {ys : List Int} (hr : Rd w d ys) (y0 : 0 < ys.length) (y1 : ys.length ≤ 1024) :
    Calls Try.prog 16 #[.pointer (some ⟨b, 0, none⟩), .int .u8 f, .int .u8 t, d] w fun e w' => e = .returned (.int .i64 0) ∧ ∃ v2 c2 L2, Nt w0.heap.size w' b bm 0 room (.map []) v2 c2 L2 ∧ L2.length = 1 ∧ Fr b bm v w w' v2 := by
  have r0 := hN.r0
  refine (send_sure hN f t f0 hf t0 t1 d ys hr y0 y1 rfl (by simp; omega) (hc.mono (by omega))).mono ?_
  rintro e w2 ⟨rfl, v', d', hN2, hF⟩
  exact ⟨rfl, v', _, _, hN2, rfl, hF⟩
theorem trust_inject {w0 w : World} {b bm : Nat} {room : Int} {v : Value} {cc : Ct} (hN : Nt w0.heap.size w b bm 0 room (.map []) v cc []) (hc : Cok cc 3198579280900) (f t : Int) (hf : 33 ≤ f) (f1 : f < 256) (t0 : 0 ≤ t) (t1 : t < 256) {d : Value} {ys : List Int} (hr : Rd w d ys) (y0 : 0 < ys.length) (y1 : ys.length ≤ 1024) :
    Calls Try.prog 34 #[.pointer (some ⟨b, 0, none⟩), .int .u8 f, .int .u8 t, d] w fun e w' => e = .returned (.int .i64 0) ∧ ∃ v2 c2 L2, Nt w0.heap.size w' b bm 0 room (.map []) v2 c2 L2 ∧ L2.length = 1 ∧ Fr b bm v w w' v2 := by
  have r0 := hN.r0
  refine (inject_out hN f t hf f1 t0 t1 d ys hr (hc.mono (by omega))).mono ?_
  rintro e w2 ⟨code, c', v', L', rfl, hE, hN2, hF⟩
  rcases hE with ⟨rfl, hy, rfl, rfl⟩ | ⟨_, _, ⟨rfl, hb, rfl, rfl⟩ | ⟨rfl, hb, hfl, rfl, rfl⟩ | ⟨rfl, hb, hfl, rfl, d', rfl⟩⟩
  · omega
  · cases hb
  · simp at hfl; omega
  · exact ⟨rfl, v', _, _, hN2, rfl, hF⟩

theorem seven_rd (w : World) : Rd (w.alloc (.cells #[.int .u8 7] 5)) (.slice (some ⟨w.heap.size, 0, none⟩) 1 1) [7] := by
  refine .inr ⟨_, _, rfl, fun j x hj => ?_⟩
  have := heap_alloc_new w (.cells #[.int .u8 7] 5)
  rw [Addr.add_lit]
  simp only [World.cell?, this]
  simpa [cs] using hj
theorem fld57 (x0 x1 x2 x3 x4 x5 x6 : Int) (w : World) : (Instr.field 57 (.agg #[.int .i64 x0, .int .i64 x1, .int .i64 x2, .int .i64 x3, .int .i64 x4, .int .i64 x5, .int .i64 x6]) 0).run Try.prog w = .ok (.int .i64 x0) w := by kernel_rfl

set_option maxRecDepth 100000 in
set_option maxHeartbeats 2000000 in
theorem trust_walk (w : World) (room a' b' : Int) (u dv : Value) (S : List Sp) (Y : List Int) (hS : Scr w u S) (hlS : (S.length : Int) ≤ 1599289640354) (hY : Rd w dv Y) :
    Calls Try.prog 6 #[.int .i64 room, u, .int .i64 a', .int .i64 b', dv] w fun e w' => e = .returned (.bool true) ∧ Kp Nu w w' := by
  obtain ⟨ad, cap, hu⟩ := hS.slice
  obtain ⟨adY, capY, hdv⟩ := hY.slice
  by_cases h1 : room < 1
  · rw [hu, hdv]
    go_enter Try.func6, Try.ntmps6
    go_wp2
    go_ret
    exact ⟨rfl, Kp.refl _ _⟩
  by_cases h2 : room > 4096
  · rw [hu, hdv]
    go_enter Try.func6, Try.ntmps6
    go_wp2
    go_ret
    exact ⟨rfl, Kp.refl _ _⟩
  have mixed : Try.prog.follows .mixedOrders = true := by kernel_rfl
  have O1 := opened_ok w room (by omega) (by omega)
  obtain ⟨N, hN⟩ : ∃ N, S.length = N := ⟨_, rfl⟩
  obtain ⟨NY, hNY⟩ : ∃ N, Y.length = N := ⟨_, rfl⟩
  have HN := hide hN
  have HNY := hide hNY
  rw [hN] at hu hlS
  rw [hNY] at hdv
  subst hu hdv
  have HS := hide hS
  have HY := hide hY
  clear hS hN hY hNY
  go_enter Try.func6, Try.ntmps6
  go_wp2_with fail
  refine O1.mono ?_; rintro e w1 ⟨b, rfl, ⟨bm, hN1⟩, k1⟩
  have HI : Hid (TInv w w1 b bm room 0) := ⟨0, _, _, _, _, by omega, Inv.start, ⟨rfl, by simp⟩, hN1, k1⟩
  clear hN1 k1 O1
  go_wp2_with fail
  go_loopw [12] (fun i wr => ∃ k : Nat, k ≤ N ∧ i = .int .i64 (k : Int) ∧ Hid (TInv w wr b bm room k)) (fun i _ => N - (intOf i).toNat)
  case atStart => exact ⟨0, by omega, rfl, HI⟩
  case round =>
    obtain ⟨k, hk, rfl, hI⟩ := hrel
    clear HI
    by_cases hlt : k < N
    · obtain ⟨nb, D, v, c, L, hnb, hInv, hO, hNt, hkp⟩ := hI.out
      have hkS : k < S.length := by rw [HN.out]; exact hlt
      rcases HS.out with ⟨_, e⟩ | ⟨sb, off, cap', e, hc⟩
      · subst e; simp at hkS
      obtain ⟨s, hs⟩ : ∃ s, S[k]? = some s := ⟨_, List.getElem?_eq_getElem hkS⟩
      have hat := (hc k s hs).nu hkp
      simp only [Value.slice.injEq] at e
      obtain ⟨e1, e2, e3⟩ := e
      clear e2 e3
      subst e1
      have hfit := (hc k s hs).fit
      obtain ⟨c0, c1, c2, c3, c4, c5, c6, _⟩ := hat
      obtain ⟨ad1, cp1, ev1⟩ := hfit.at'.slice
      obtain ⟨ad2, cp2, ev2⟩ := hfit.ds.slice
      have hltI : (k : Int) < (N : Int) := by omega
      have hk0 : (0 : Int) ≤ (k : Int) := by omega
      obtain ⟨kd, A, E, Nn, kp, atv, xs, ddv, ys⟩ := s
      simp only [] at *
      have PL : ∀ kd', kd' ≠ 1 → ∀ W, Kp Nu wr W → Calls Try.prog 30 #[.pointer (some ⟨b, 0, none⟩), .agg #[.int .i64 kd', .int .i64 A, .int .i64 E, .int .i64 Nn, .bool kp, atv, ddv]] W fun e w' => e = .returned (.tuple #[]) ∧ TInv w w' b bm room (k + 1) := fun kd' hk' W kW =>
        trust_play hnb hInv hO hNt hkp (by omega) kW ⟨kd', A, E, Nn, kp, atv, xs, ddv, ys⟩ ⟨hfit.at', hfit.len, hfit.ds⟩ hk'
      subst ev1 ev2
      generalize xs.length = Nx at *
      generalize ys.length = Ny at *
      clear hI hnb hInv hfit hc hs hkS hO hNt hkp
      by_cases hk1 : kd = 1
      · subst hk1
        have P2 := PL 2 (by decide) _ ((Kp.refl Nu wr).andAlloc (.cells #[.int .i64 2, .int .i64 A, .int .i64 E, .int .i64 Nn, .bool kp, .slice ad1 Nx cp1, .slice ad2 Ny cp2] 55))
        clear PL
        go_wp2_with fail
        refine P2.mono ?_; rintro e w2 ⟨rfl, hT⟩
        obtain ⟨nb2, D2, v2, cc2, L2, hnb2, hI2, hO2, hN2, hk2⟩ := hT
        have LI := list_any hN2
        have HT2 := hide (And.intro hnb2 (And.intro hI2 (And.intro hO2 (And.intro hN2 hk2))))
        clear P2 hnb2 hI2 hO2 hN2 hk2
        go_wp2_with fail
        refine LI.mono ?_; rintro e w3 ⟨ul, rfl, ⟨Ll, hol, htl⟩, hk3⟩
        obtain ⟨adl, capl, hul⟩ := own_slice hol
        obtain ⟨M, hM⟩ : ∃ M, Ll.length = M := ⟨_, rfl⟩
        rw [hM] at hul
        have HOL := hide hol
        rw [hul] at HOL
        subst hul
        have HM := hide hM
        have HMB : Hid ((M : Int) ≤ 4096) := by
          have h1 := congrArg List.length htl.same
          have h2 := HT2.out.2.2.2.1.len
          have h3 := HT2.out.2.2.2.1.r1
          simp at h1
          show _ ≤ _
          omega
        have hMB := HMB.out
        have HTL := hide htl
        have HK3 := hide hk3
        clear LI hol hM htl hk3
        go_wp2_with fail
        go_loopw [15] (fun j wx => ∃ q : Nat, q ≤ M ∧ j = .int .i64 (q : Int) ∧ Kp Nu w3 wx) (fun j _ => M - (intOf j).toNat)
        case atStart => exact ⟨0, by omega, rfl, Kp.refl _ _⟩
        case round =>
          generalize wr = wq at *
          obtain ⟨q, hq, rfl, hkx⟩ := hrel
          by_cases hqM : q < M
          · obtain ⟨g, hg⟩ : ∃ g, Ll[q]? = some g := ⟨_, List.getElem?_eq_getElem (by rw [HM.out]; exact hqM)⟩
            have hgf : 33 ≤ g.f := by
              have h1 : (Ll.map bare)[q]? = (L2.map bare)[q]? := by rw [HTL.out.same]
              rw [List.getElem?_map, List.getElem?_map, hg] at h1
              cases hg2 : L2[q]? with
              | none => rw [hg2] at h1; simp at h1
              | some g2 =>
                rw [hg2] at h1
                simp [bare] at h1
                rw [h1.1]
                exact HT2.out.2.2.1.2 g2 (List.mem_of_getElem? hg2)
            have ol := own_keep HOL.out (w' := wq) (fun i hi => hkx.block i (own_lt HOL.out hi) (fun h => h))
            obtain ⟨r, cp, hv, x0, _, _⟩ := row_at ol hg
            simp only [Value.slice.injEq] at hv
            obtain ⟨hv, hv2, hv3⟩ := hv
            clear hv2 hv3
            subst hv
            have hqI : (q : Int) < (M : Int) := by omega
            have hq0 : (0 : Int) ≤ (q : Int) := by omega
            have hq4 : (q : Int) < 4096 := by omega
            have hnf : ¬ g.f < 33 := by omega
            clear ol hg
            go_wp2
            exact ⟨⟨q + 1, by omega, by go_num, hkx⟩, by simp [intOf]; omega⟩
          · have hge : ¬ (q : Int) < (M : Int) := by omega
            have CO := count_any ((HT2.out.2.2.2.1.nu HK3.out).nu hkx)
            rw [HT2.out.2.2.1.1] at CO
            clear hqM
            go_wp2_with fail
            refine CO.mono ?_; rintro e w5 ⟨rfl, hk5⟩
            have HF : Hid (TInv w w5 b bm room ((k + 1 : Nat) : Int)) := by
              have e : ((k + 1 : Nat) : Int) = (k : Int) + 1 := by omega
              rw [e]
              exact ⟨nb2, D2, v2, cc2, L2, HT2.out.1, HT2.out.2.1, HT2.out.2.2.1, ((HT2.out.2.2.2.1.nu HK3.out).nu hkx).nu hk5, ((HT2.out.2.2.2.2.andNu HK3.out).andNu hkx).andNu hk5⟩
            clear CO hk5 hkx
            have fl := fld57
            go_wp2
            exact ⟨⟨k + 1, by omega, by go_num, HF⟩, by simp [intOf]; omega⟩
      · have P2 := PL kd hk1 _ ((Kp.refl Nu wr).andAlloc (.cells #[.int .i64 kd, .int .i64 A, .int .i64 E, .int .i64 Nn, .bool kp, .slice ad1 Nx cp1, .slice ad2 Ny cp2] 55))
        have hkb : (kd == 1) = false := by simpa using hk1
        clear PL hk1
        go_wp2_with fail
        refine P2.mono ?_; rintro e w2 ⟨rfl, hT⟩
        obtain ⟨nb2, D2, v2, cc2, L2, hnb2, hI2, hO2, hN2, hk2⟩ := hT
        have LI := list_any hN2
        have HT2 := hide (And.intro hnb2 (And.intro hI2 (And.intro hO2 (And.intro hN2 hk2))))
        clear P2 hnb2 hI2 hO2 hN2 hk2
        go_wp2_with fail
        refine LI.mono ?_; rintro e w3 ⟨ul, rfl, ⟨Ll, hol, htl⟩, hk3⟩
        obtain ⟨adl, capl, hul⟩ := own_slice hol
        obtain ⟨M, hM⟩ : ∃ M, Ll.length = M := ⟨_, rfl⟩
        rw [hM] at hul
        have HOL := hide hol
        rw [hul] at HOL
        subst hul
        have HM := hide hM
        have HMB : Hid ((M : Int) ≤ 4096) := by
          have h1 := congrArg List.length htl.same
          have h2 := HT2.out.2.2.2.1.len
          have h3 := HT2.out.2.2.2.1.r1
          simp at h1
          show _ ≤ _
          omega
        have hMB := HMB.out
        have HTL := hide htl
        have HK3 := hide hk3
        clear LI hol hM htl hk3
        go_wp2_with fail
        go_loopw [15] (fun j wx => ∃ q : Nat, q ≤ M ∧ j = .int .i64 (q : Int) ∧ Kp Nu w3 wx) (fun j _ => M - (intOf j).toNat)
        case atStart => exact ⟨0, by omega, rfl, Kp.refl _ _⟩
        case round =>
          generalize wr = wq at *
          obtain ⟨q, hq, rfl, hkx⟩ := hrel
          by_cases hqM : q < M
          · obtain ⟨g, hg⟩ : ∃ g, Ll[q]? = some g := ⟨_, List.getElem?_eq_getElem (by rw [HM.out]; exact hqM)⟩
            have hgf : 33 ≤ g.f := by
              have h1 : (Ll.map bare)[q]? = (L2.map bare)[q]? := by rw [HTL.out.same]
              rw [List.getElem?_map, List.getElem?_map, hg] at h1
              cases hg2 : L2[q]? with
              | none => rw [hg2] at h1; simp at h1
              | some g2 =>
                rw [hg2] at h1
                simp [bare] at h1
                rw [h1.1]
                exact HT2.out.2.2.1.2 g2 (List.mem_of_getElem? hg2)
            have ol := own_keep HOL.out (w' := wq) (fun i hi => hkx.block i (own_lt HOL.out hi) (fun h => h))
            obtain ⟨r, cp, hv, x0, _, _⟩ := row_at ol hg
            simp only [Value.slice.injEq] at hv
            obtain ⟨hv, hv2, hv3⟩ := hv
            clear hv2 hv3
            subst hv
            have hqI : (q : Int) < (M : Int) := by omega
            have hq0 : (0 : Int) ≤ (q : Int) := by omega
            have hq4 : (q : Int) < 4096 := by omega
            have hnf : ¬ g.f < 33 := by omega
            clear ol hg
            go_wp2
            exact ⟨⟨q + 1, by omega, by go_num, hkx⟩, by simp [intOf]; omega⟩
          · have hge : ¬ (q : Int) < (M : Int) := by omega
            have CO := count_any ((HT2.out.2.2.2.1.nu HK3.out).nu hkx)
            rw [HT2.out.2.2.1.1] at CO
            clear hqM
            go_wp2_with fail
            refine CO.mono ?_; rintro e w5 ⟨rfl, hk5⟩
            have HF : Hid (TInv w w5 b bm room ((k + 1 : Nat) : Int)) := by
              have e : ((k + 1 : Nat) : Int) = (k : Int) + 1 := by omega
              rw [e]
              exact ⟨nb2, D2, v2, cc2, L2, HT2.out.1, HT2.out.2.1, HT2.out.2.2.1, ((HT2.out.2.2.2.1.nu HK3.out).nu hkx).nu hk5, ((HT2.out.2.2.2.2.andNu HK3.out).andNu hkx).andNu hk5⟩
            clear CO hk5 hkx
            have fl := fld57
            go_wp2
            exact ⟨⟨k + 1, by omega, by go_num, HF⟩, by simp [intOf]; omega⟩
    · have hge : ¬ (k : Int) < (N : Int) := by omega
      obtain ⟨nb, D, v, c, L, hnb, hInv, hO, hNt, hkp⟩ := hI.out
      have hfx := hInv.fax (by omega)
      have EM := empty_any hNt (Cok.x0 hfx) hfx.lt
      have hLr : L.length ≤ 4096 := by have := hNt.len; have := hNt.r1; omega
      have HNT := hide hNt
      have HIV := hide (And.intro hInv hkp)
      clear hI hnb hInv hkp hNt hfx hO
      go_wp2_with fail
      refine EM.mono ?_; rintro e w2 ⟨rfl, v2, hN2, hF2⟩
      have hk2 := HNT.out.step HIV.out.2 hF2
      have HE := heal_all hN2
      clear EM hF2
      go_wp2_with fail
      refine HE.mono ?_; rintro e w3 ⟨rfl, hN3, hF3⟩
      have hk3 := hN2.step hk2 hF3
      obtain ⟨cc, hcc⟩ : ∃ cc : Ct, cc = { c with x := c.x + (L.length : Int) } := ⟨_, rfl⟩
      rw [← hcc] at hN3
      have hCf : Cok cc 3198579280900 := by
        rw [hcc]
        obtain ⟨i1, i2, i3, i4, i5, i6, i7, i8, i9, i10, i11, i12, i13, i14⟩ := HIV.out.1
        constructor <;> simp <;> omega
      have HN3 := hide (And.intro hN3 (And.intro hk3 hCf))
      clear HE hF3 hN2 hk2 HNT HIV hcc hLr hN3 hk3 hCf
      have a0 : (0 : Int) ≤ a' % 256 := by omega
      have a1 : a' % 256 < 256 := by omega
      have b0 : (0 : Int) ≤ b' % 256 := by omega
      have b1 : b' % 256 < 256 := by omega
      have hdata : (NY = 0 ∨ 1024 < NY) ∨ (0 < NY ∧ NY ≤ 1024) := by omega
      rcases hdata with (hd | hd) | ⟨hd0, hd1⟩
      · have q1 : (NY : Int) < 1 := by omega
        clear hd
        by_cases hfr : a' % 256 < 33
        · have SE := trust_send (HN3.out.1.nu (Kp.alloc w3 (.cells #[.int .u8 7] 5) Nu)) HN3.out.2.2 (a' % 256) (b' % 256) a0 hfr b0 b1 (seven_rd w3) (by simp) (by simp)
          have HN3' := hide HN3.out
          go_wp2_with fail
          refine SE.mono ?_; rintro e w5 ⟨rfl, v5, c5, L5, hN5, hl5, hF5⟩
          have IN := inject_in hN5 (a' % 256) (b' % 256) hfr _ _ (((seven_rd w3)).kp hF5.kp (fun a n cp e hne hs => by
            simp only [Value.slice.injEq, Option.some.injEq] at e
            have h2 := (HN3.out.1.nu (Kp.alloc w3 (.cells #[.int .u8 7] 5) Nu)).byte (heap_alloc_new w3 (.cells #[.int .u8 7] 5))
            rw [← e.1] at hs
            exact h2 hs))
          have LE := len_any hN5
          rw [hl5] at LE
          have HK := hide ((HN3.out.1.nu (Kp.alloc w3 (.cells #[.int .u8 7] 5) Nu)).step (HN3.out.2.1.andNu (Kp.alloc w3 (.cells #[.int .u8 7] 5) Nu)) hF5)
          have n0 := num_any 0 w5
          have n55 := num_any 55 w5
          clear SE hF5 hN5 hl5
          go_wp2_with fail
          refine IN.mono ?_; rintro e w6 ⟨rfl, hw6⟩
          obtain rfl := hw6.symm
          go_wp2_with fail
          refine n0.mono ?_; rintro e w7 ⟨rfl, hw7⟩
          obtain rfl := hw7.symm
          go_wp2_with fail
          refine n55.mono ?_; rintro e w8 ⟨rfl, hw8⟩
          obtain rfl := hw8.symm
          go_wp2_with fail
          refine LE.mono ?_; rintro e w9 ⟨rfl, hw9⟩
          obtain rfl := hw9.symm
          go_wp2
          go_ret
          exact ⟨rfl, HK.out⟩
        · have SE := send_out (HN3.out.1.nu (Kp.alloc w3 (.cells #[.int .u8 7] 5) Nu)) (a' % 256) (b' % 256) (by omega) _ _ (seven_rd w3)
          have IN := trust_inject (HN3.out.1.nu (Kp.alloc w3 (.cells #[.int .u8 7] 5) Nu)) HN3.out.2.2 (a' % 256) (b' % 256) (by omega) a1 b0 b1 (seven_rd w3) (by simp) (by simp)
          go_wp2_with fail
          refine SE.mono ?_; rintro e w5 ⟨rfl, hw5⟩
          obtain rfl := hw5.symm
          clear SE hw5
          go_wp2_with fail
          refine IN.mono ?_; rintro e w6 ⟨rfl, v6, c6, L6, hN6, hl6, hF6⟩
          have LE := len_any hN6
          rw [hl6] at LE
          have HK := hide ((HN3.out.1.nu (Kp.alloc w3 (.cells #[.int .u8 7] 5) Nu)).step (HN3.out.2.1.andNu (Kp.alloc w3 (.cells #[.int .u8 7] 5) Nu)) hF6)
          have n0 := num_any 0 w6
          have n55 := num_any 55 w6
          clear IN hF6 hN6 hl6
          go_wp2_with fail
          refine n55.mono ?_; rintro e w7 ⟨rfl, hw7⟩
          obtain rfl := hw7.symm
          go_wp2_with fail
          refine n0.mono ?_; rintro e w8 ⟨rfl, hw8⟩
          obtain rfl := hw8.symm
          go_wp2_with fail
          refine LE.mono ?_; rintro e w9 ⟨rfl, hw9⟩
          obtain rfl := hw9.symm
          go_wp2
          go_ret
          exact ⟨rfl, HK.out⟩
      · have q1 : ¬ (NY : Int) < 1 := by omega
        have q2 : (NY : Int) > 1024 := by omega
        clear hd
        by_cases hfr : a' % 256 < 33
        · have SE := trust_send (HN3.out.1.nu (Kp.alloc w3 (.cells #[.int .u8 7] 5) Nu)) HN3.out.2.2 (a' % 256) (b' % 256) a0 hfr b0 b1 (seven_rd w3) (by simp) (by simp)
          have HN3' := hide HN3.out
          go_wp2_with fail
          refine SE.mono ?_; rintro e w5 ⟨rfl, v5, c5, L5, hN5, hl5, hF5⟩
          have IN := inject_in hN5 (a' % 256) (b' % 256) hfr _ _ (((seven_rd w3)).kp hF5.kp (fun a n cp e hne hs => by
            simp only [Value.slice.injEq, Option.some.injEq] at e
            have h2 := (HN3.out.1.nu (Kp.alloc w3 (.cells #[.int .u8 7] 5) Nu)).byte (heap_alloc_new w3 (.cells #[.int .u8 7] 5))
            rw [← e.1] at hs
            exact h2 hs))
          have LE := len_any hN5
          rw [hl5] at LE
          have HK := hide ((HN3.out.1.nu (Kp.alloc w3 (.cells #[.int .u8 7] 5) Nu)).step (HN3.out.2.1.andNu (Kp.alloc w3 (.cells #[.int .u8 7] 5) Nu)) hF5)
          have n0 := num_any 0 w5
          have n55 := num_any 55 w5
          clear SE hF5 hN5 hl5
          go_wp2_with fail
          refine IN.mono ?_; rintro e w6 ⟨rfl, hw6⟩
          obtain rfl := hw6.symm
          go_wp2_with fail
          refine n0.mono ?_; rintro e w7 ⟨rfl, hw7⟩
          obtain rfl := hw7.symm
          go_wp2_with fail
          refine n55.mono ?_; rintro e w8 ⟨rfl, hw8⟩
          obtain rfl := hw8.symm
          go_wp2_with fail
          refine LE.mono ?_; rintro e w9 ⟨rfl, hw9⟩
          obtain rfl := hw9.symm
          go_wp2
          go_ret
          exact ⟨rfl, HK.out⟩
        · have SE := send_out (HN3.out.1.nu (Kp.alloc w3 (.cells #[.int .u8 7] 5) Nu)) (a' % 256) (b' % 256) (by omega) _ _ (seven_rd w3)
          have IN := trust_inject (HN3.out.1.nu (Kp.alloc w3 (.cells #[.int .u8 7] 5) Nu)) HN3.out.2.2 (a' % 256) (b' % 256) (by omega) a1 b0 b1 (seven_rd w3) (by simp) (by simp)
          go_wp2_with fail
          refine SE.mono ?_; rintro e w5 ⟨rfl, hw5⟩
          obtain rfl := hw5.symm
          clear SE hw5
          go_wp2_with fail
          refine IN.mono ?_; rintro e w6 ⟨rfl, v6, c6, L6, hN6, hl6, hF6⟩
          have LE := len_any hN6
          rw [hl6] at LE
          have HK := hide ((HN3.out.1.nu (Kp.alloc w3 (.cells #[.int .u8 7] 5) Nu)).step (HN3.out.2.1.andNu (Kp.alloc w3 (.cells #[.int .u8 7] 5) Nu)) hF6)
          have n0 := num_any 0 w6
          have n55 := num_any 55 w6
          clear IN hF6 hN6 hl6
          go_wp2_with fail
          refine n55.mono ?_; rintro e w7 ⟨rfl, hw7⟩
          obtain rfl := hw7.symm
          go_wp2_with fail
          refine n0.mono ?_; rintro e w8 ⟨rfl, hw8⟩
          obtain rfl := hw8.symm
          go_wp2_with fail
          refine LE.mono ?_; rintro e w9 ⟨rfl, hw9⟩
          obtain rfl := hw9.symm
          go_wp2
          go_ret
          exact ⟨rfl, HK.out⟩
      · have q1 : ¬ (NY : Int) < 1 := by omega
        have q2 : ¬ (NY : Int) > 1024 := by omega
        by_cases hfr : a' % 256 < 33
        · have SE := trust_send (HN3.out.1.nu (Kp.refl Nu w3)) HN3.out.2.2 (a' % 256) (b' % 256) a0 hfr b0 b1 (HY.out.nu HN3.out.2.1) (by rw [HNY.out]; omega) (by rw [HNY.out]; omega)
          have HN3' := hide HN3.out
          go_wp2_with fail
          refine SE.mono ?_; rintro e w5 ⟨rfl, v5, c5, L5, hN5, hl5, hF5⟩
          have IN := inject_in hN5 (a' % 256) (b' % 256) hfr _ _ (((HY.out.nu HN3.out.2.1)).kp hF5.kp (fun a n cp e hne hs => by
            rcases HY.out with ⟨_, e2⟩ | ⟨a2, cp2, e2, hc2⟩
            · exact hne e2
            · have h0 : (cs Y)[0]? = some (.int .u8 (Y[0]'(by rw [HNY.out]; omega))) := by simp [cs, show 0 < Y.length by rw [HNY.out]; omega]
              have h1 := World.block_lt_of_cell? w _ (hc2 0 _ h0)
              rw [add_block] at h1
              have h2 := HN3.out.1.low _ hs
              rw [e] at e2
              simp only [Value.slice.injEq, Option.some.injEq] at e2
              rw [e2.1] at h2
              omega))
          have LE := len_any hN5
          rw [hl5] at LE
          have HK := hide ((HN3.out.1.nu (Kp.refl Nu w3)).step (HN3.out.2.1.andNu (Kp.refl Nu w3)) hF5)
          have n0 := num_any 0 w5
          have n55 := num_any 55 w5
          clear SE hF5 hN5 hl5
          go_wp2_with fail
          refine IN.mono ?_; rintro e w6 ⟨rfl, hw6⟩
          obtain rfl := hw6.symm
          go_wp2_with fail
          refine n0.mono ?_; rintro e w7 ⟨rfl, hw7⟩
          obtain rfl := hw7.symm
          go_wp2_with fail
          refine n55.mono ?_; rintro e w8 ⟨rfl, hw8⟩
          obtain rfl := hw8.symm
          go_wp2_with fail
          refine LE.mono ?_; rintro e w9 ⟨rfl, hw9⟩
          obtain rfl := hw9.symm
          go_wp2
          go_ret
          exact ⟨rfl, HK.out⟩
        · have SE := send_out (HN3.out.1.nu (Kp.refl Nu w3)) (a' % 256) (b' % 256) (by omega) _ _ (HY.out.nu HN3.out.2.1)
          have IN := trust_inject (HN3.out.1.nu (Kp.refl Nu w3)) HN3.out.2.2 (a' % 256) (b' % 256) (by omega) a1 b0 b1 (HY.out.nu HN3.out.2.1) (by rw [HNY.out]; omega) (by rw [HNY.out]; omega)
          go_wp2_with fail
          refine SE.mono ?_; rintro e w5 ⟨rfl, hw5⟩
          obtain rfl := hw5.symm
          clear SE hw5
          go_wp2_with fail
          refine IN.mono ?_; rintro e w6 ⟨rfl, v6, c6, L6, hN6, hl6, hF6⟩
          have LE := len_any hN6
          rw [hl6] at LE
          have HK := hide ((HN3.out.1.nu (Kp.refl Nu w3)).step (HN3.out.2.1.andNu (Kp.refl Nu w3)) hF6)
          have n0 := num_any 0 w6
          have n55 := num_any 55 w6
          clear IN hF6 hN6 hl6
          go_wp2_with fail
          refine n55.mono ?_; rintro e w7 ⟨rfl, hw7⟩
          obtain rfl := hw7.symm
          go_wp2_with fail
          refine n0.mono ?_; rintro e w8 ⟨rfl, hw8⟩
          obtain rfl := hw8.symm
          go_wp2_with fail
          refine LE.mono ?_; rintro e w9 ⟨rfl, hw9⟩
          obtain rfl := hw9.symm
          go_wp2
          go_ret
          exact ⟨rfl, HK.out⟩
end Go.Proofs.Ythajboipnjjgfaa.Ly
