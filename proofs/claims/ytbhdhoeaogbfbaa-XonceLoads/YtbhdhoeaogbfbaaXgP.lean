import Derived.Test.YtbhdhoeaogbfbaaXgO
namespace Go.Proofs.Ytbhdhoeaogbfbaa.Xo
open Go.RowKit
set_option linter.unusedVariables false
set_option linter.unusedSimpArgs false
set_option maxRecDepth 100000 in
set_option maxHeartbeats 8000000 in
/-- the program's Load -/
theorem load30 (w : World) (ks : Nat) (hosts qn wn : Int) (hks : ks < 256) (v : Value) (I : List Px) (hI : Wi w v I) (hb : ∀ x ∈ I, Bd x) (hl : I.length ≤ 1759218604441) :
    Calls Try.prog 30 #[.int .u8 (ks : Int), .int .i64 hosts, .int .i64 qn, .int .i64 wn, .agg #[v]] w fun e w' => (ldOk (ks : Int) hosts qn wn I ∧ ∃ eb xs, e = .returned (.tuple #[.pointer (some ⟨eb, 0, none⟩), .int .i64 0]) ∧ xs.map Px.ab = I.map Px.ab ∧ YesP w w' eb (ks : Int) qn wn xs) ∨ (¬ ldOk (ks : Int) hosts qn wn I ∧ e = .returned (.tuple #[.pointer none, .int .i64 (if newOk (ks : Int) hosts qn wn then 87 else 2)]) ∧ Kp Nu w w') := by
  have mixed : Try.prog.follows .mixedOrders = true := by kernel_rfl
  obtain ⟨aI, cI, eI⟩ := hI.slice
  subst eI
  obtain ⟨n, en⟩ : ∃ n, I.length = n := ⟨_, rfl⟩
  rw [en] at hI ⊢
  have k0 : Kp Nu w (w.alloc (.cells #[.slice aI n cI] 24)) := (Kp.refl Nu w).andAlloc _
  have hbx := heap_alloc_new w (.cells #[.slice aI n cI] 24)
  by_cases hnew : newOk (ks : Int) hosts qn wn
  · rw [if_pos hnew]
    obtain ⟨h, eh⟩ : ∃ h : Nat, hosts = h := ⟨hosts.toNat, by have := hnew.1; omega⟩
    subst eh
    have NW := fun W => new22_ok (ks : Int) h qn wn hnew W
    have HN := hide (And.intro en (And.intro hl (And.intro hb hnew)))
    have HI := hide hI
    by_cases hlen : (n : Int) = (h : Int)
    · obtain rfl : n = h := by omega
      have hne : ((n : Int) != (n : Int)) = false := by simp
      have hksn : ks < n := by have := hnew.2.2.2.1; omega
      obtain ⟨y, hy⟩ : ∃ y, I[ks]? = some y := ⟨_, List.getElem?_eq_getElem (by rw [en]; exact hksn)⟩
      obtain ⟨bi, oi, ci', E0, s0, s1, s2, s3, s4, s5, hin⟩ := hI.six hy
      have E1 := (Value.slice.inj E0).1
      clear E0
      subst E1
      obtain ⟨a1, b1, f1⟩ := hin.1.slice
      obtain ⟨a2, b2, f2⟩ := hin.2.slice
      rw [f1] at s2
      rw [f2] at s5
      have IZ := fun W => isZero_gen y.p.sent y.p.acked y.p.mask y.p.dlv a1 a2 y.p.qs.length y.es.length b1 b2 W
      have HYZ : Hid ((∀ x : Px, zeroS y.p.sent y.p.acked y.p.mask y.p.dlv y.p.qs.length y.es.length = true → (okO y.p.sent y.p.acked y.p.mask qn (IntKind.u64.wrap (y.p.sent - y.p.acked)) y.p.qs && okE y.p.dlv wn 1 y.es) = true) ∧ goodP (ks : Int) qn wn ks y = zeroS y.p.sent y.p.acked y.p.mask y.p.dlv y.p.qs.length y.es.length) := hide ⟨fun _ hz => zero_ok (by have := hnew.2.2.2.2.1; omega) hz, by unfold goodP; rw [if_pos rfl]⟩
      have HS0 : Hid (∀ W, Kp Nu w W → W.cell? ⟨bi, oi + ks * 6, none⟩ = some (.int .u64 y.p.sent) ∧ W.cell? ⟨bi, oi + ks * 6 + 1, none⟩ = some (.int .u64 y.p.acked) ∧ W.cell? ⟨bi, oi + ks * 6 + 2, none⟩ = some (.slice a1 y.p.qs.length b1) ∧ W.cell? ⟨bi, oi + ks * 6 + 3, none⟩ = some (.int .u64 y.p.mask) ∧ W.cell? ⟨bi, oi + ks * 6 + 4, none⟩ = some (.int .u64 y.p.dlv) ∧ W.cell? ⟨bi, oi + ks * 6 + 5, none⟩ = some (.slice a2 y.es.length b2)) := hide (fun W kW => ⟨cell_nuX s0 kW, cell_nuX s1 kW, cell_nuX s2 kW, cell_nuX s3 kW, cell_nuX s4 kW, cell_nuX s5 kW⟩)
      have hksI : (ks : Int) < (n : Int) := by omega
      have hks0 : (0 : Int) ≤ (ks : Int) := by omega
      have HY := hide (And.intro hy hksn)
      have HK0 := hide (And.intro k0 hbx)
      generalize y.p.qs.length = m1 at *
      generalize y.es.length = m2 at *
      clear hI hb hl en hnew hlen s0 s1 s2 s3 s4 s5 hin f1 f2 hy hksn hks k0 hbx
      cases hz : zeroS y.p.sent y.p.acked y.p.mask y.p.dlv m1 m2 with
      | false =>
        rw [hz] at IZ
        have HZ := hide hz
        clear hz
        go_enter Try.func30, Try.ntmps30
        go_wp2_with (first
          | (go_at_call 22; refine (NW _).mono ?_; rintro e w1 ⟨eb, pb, rfl, hd, hp, hdx, hrow, k1⟩; have z1 := cellAt (v := .slice (some ⟨bi, oi, none⟩) n cI) ((k1.block _ (blk_lt HK0.out.2) (fun e => e)).trans HK0.out.2) 0 rfl; obtain ⟨q0, q1, q2, q3, q4, q5⟩ := HS0.out w1 (HK0.out.1.andNu k1); clear hd hp hdx hrow)
          | (go_at_call 62; refine (IZ _).mono ?_; rintro e w2 ⟨rfl, k2⟩))
        refine bodyPost_ret (v := .tuple #[.pointer none, .int .i64 87]) (by simp [results, Try.results30, go_sem]) rfl ?_
        refine .inr ⟨fun hk => ?_, rfl, (HK0.out.1.andNu k1).andNu k2⟩
        have h1 := hk.2.2 ks y HY.out.1
        rw [HYZ.out.2, HZ.out] at h1
        cases h1
      | true =>
        rw [hz] at IZ
        have HZ := hide hz
        clear hz
        go_enter Try.func30, Try.ntmps30
        go_wp2_with (first
          | (go_at_call 22; refine (NW _).mono ?_; rintro e w1 ⟨eb, pb, rfl, hd, hp, hdx, hrow, k1⟩; have z1 := cellAt (v := .slice (some ⟨bi, oi, none⟩) n cI) ((k1.block _ (blk_lt HK0.out.2) (fun e => e)).trans HK0.out.2) 0 rfl; obtain ⟨q0, q1, q2, q3, q4, q5⟩ := HS0.out w1 (HK0.out.1.andNu k1); have HR1 := hide (And.intro hd (And.intro hp (And.intro hdx (And.intro hrow k1)))); clear hd hp hdx hrow k1)
          | (go_at_call 62; refine (IZ _).mono ?_; rintro e w2 ⟨rfl, k2⟩; clear z1 q0 q1 q2 q3 q4 q5; have kk := HR1.out.2.2.2.2.andNu k2; have z1 := cellAt (v := .slice (some ⟨bi, oi, none⟩) n cI) ((kk.block _ (blk_lt HK0.out.2) (fun e => e)).trans HK0.out.2) 0 rfl))
        have HT0 : Hid (L3 w w2 eb pb (.slice (some ⟨bi, oi, none⟩) n cI) (ks : Int) qn wn I [] n 0) := hide (by
          obtain ⟨hd, hp, hdx, hrow, k1⟩ := HR1.out
          have k12 := k1.andNu k2
          exact ⟨HK0.out.1.andNu k12, (k2.block _ (blk_lt hdx) (fun e => e)).trans hdx, (k12.block _ (blk_lt HK0.out.2) (fun e => e)).trans HK0.out.2, by simpa using hrow.keep (k2.block _ (blk_lt hrow) (fun e => e)), rfl, (fun x hx => by cases hx), List.Pairwise.nil, rfl, Nat.le_trans HK0.out.1.size hd, Nat.le_trans HK0.out.1.size hp, fun i x hi => by omega⟩)
        clear k2 kk z1 NW IZ hksI hks0
        go_loopw [45] (fun it wr => ∃ (k : Nat) (xs : List Px), k ≤ n ∧ it = .int .i64 (k : Int) ∧ Hid (L3 w wr eb pb (.slice (some ⟨bi, oi, none⟩) n cI) (ks : Int) qn wn I xs n k)) (fun it _ => n - (intOf it).toNat)
        case atStart => exact ⟨0, [], by omega, rfl, HT0⟩
        case round =>
          clear HT0
          obtain ⟨k, xs, hkn, rfl, HJ⟩ := hrel
          have hJ := HJ.out
          by_cases hlt : k < n
          · obtain ⟨x, hx⟩ : ∃ x, I[k]? = some x := ⟨_, List.getElem?_eq_getElem (by rw [HN.out.1]; exact hlt)⟩
            have hbd := HN.out.2.2.1 x (List.mem_of_getElem? hx)
            obtain ⟨bi', oi', ci', E0, t0, t1, t2, t3, t4, t5, hin⟩ := HI.out.six hx
            have E1 := Option.some.inj (Value.slice.inj E0).1
            obtain ⟨rfl, rfl⟩ : bi = bi' ∧ oi = oi' := ⟨congrArg Addr.block E1, congrArg Addr.off E1⟩
            clear E0 E1
            have s0 := cell_nuX t0 hJ.kp
            have s1 := cell_nuX t1 hJ.kp
            have s2 := cell_nuX t2 hJ.kp
            have s3 := cell_nuX t3 hJ.kp
            have s4 := cell_nuX t4 hJ.kp
            have s5 := cell_nuX t5 hJ.kp
            have hL0 : (xs.map Px.p ++ List.replicate (n - k) Pr0)[k]? = some Pr0 := by
              rw [List.getElem?_append_right (by rw [List.length_map, hJ.len]; exact Nat.le_refl _), List.length_map, hJ.len, Nat.sub_self, List.getElem?_replicate, if_pos (by omega)]
            have hLl : k < (xs.map Px.p ++ List.replicate (n - k) Pr0).length := (List.getElem?_eq_some_iff.1 hL0).1
            have hq16 := HN.out.2.2.2.2.2.2.2.2.1
            have hw1 := HN.out.2.2.2.2.2.2.2.2.2.1
            have hw16 : wn ≤ 16 := by have h1 := HN.out.2.2.2.2.2.2.2.2.2.2; omega
            obtain ⟨a1, b1, f1⟩ := hin.1.slice
            obtain ⟨a2, b2, f2⟩ := hin.2.slice
            obtain ⟨wa, ewa⟩ : ∃ wa, wr.alloc (.cells #[.int .u64 x.p.sent, .int .u64 x.p.acked, x.p.q, .int .u64 x.p.mask, .int .u64 x.p.dlv, x.p.e] 66) = wa := ⟨_, rfl⟩
            have ka := (Kp.refl Nu wr).andAlloc (.cells #[.int .u64 x.p.sent, .int .u64 x.p.acked, x.p.q, .int .u64 x.p.mask, .int .u64 x.p.dlv, x.p.e] 66)
            have hfb := heap_alloc_new wr (.cells #[.int .u64 x.p.sent, .int .u64 x.p.acked, x.p.q, .int .u64 x.p.mask, .int .u64 x.p.dlv, x.p.e] 66)
            rw [ewa] at ka hfb
            obtain ⟨fb, efb⟩ : ∃ fb, wr.heap.size = fb := ⟨_, rfl⟩
            rw [efb] at hfb
            have hrowa : Row wa pb 123 (xs.map Px.p ++ List.replicate (n - k) Pr0) := hJ.row.keep (ka.block _ (blk_lt hJ.row) (fun e => e))
            have hpa : pb < wa.heap.size := blk_lt hrowa
            have hpr : pb < wr.heap.size := blk_lt hJ.row
            have c3 : wa.cell? ⟨eb, 3, none⟩ = some (.slice (some ⟨pb, 0, none⟩) n n) := cellAt ((ka.block _ (blk_lt hJ.ebx) (fun e => e)).trans hJ.ebx) 3 rfl
            have KS : ∀ W, Kp (fun i => i = pb) wa W → W.cell? ⟨fb, 0, none⟩ = some (.int .u64 x.p.sent) ∧ W.cell? ⟨fb, 1, none⟩ = some (.int .u64 x.p.acked) ∧ W.cell? ⟨fb, 2, none⟩ = some x.p.q ∧ W.cell? ⟨fb, 3, none⟩ = some (.int .u64 x.p.mask) ∧ W.cell? ⟨fb, 4, none⟩ = some (.int .u64 x.p.dlv) ∧ W.cell? ⟨fb, 5, none⟩ = some x.p.e := fun W kW => by
              have h1 : W.heap[fb]? = _ := (kW.block fb (blk_lt hfb) (fun e => by have e : fb = pb := e; omega)).trans hfb
              exact cell6 h1
            have KW : ∀ {W}, Kp (fun i => i = pb) wa W → Kp Nu w W := fun kW => (hJ.kp.andNu ka).trans kW (fun i hi e => by have e : i = pb := e; have := hJ.hp; omega)
            have KM : ∀ {W}, Kp Nu wa W → Kp (fun i => i = pb) wa W := fun kk => kk.mono (fun _ _ e => e.elim)
            have ina : In1 wa x := hin.nu (hJ.kp.andNu ka)
            have HHP := hide hJ.hp
            have HKR := hide (And.intro hJ.kp ka)
            have hltI : (k : Int) < (n : Int) := by omega
            have hk0 : (0 : Int) ≤ (k : Int) := by omega
            have hwk : Hid (wrap64 ((k : Int) + 1) = ((k + 1 : Nat) : Int)) := by have := HN.out.1; have := HN.out.2.1; show wrap64 _ = _; unfold wrap64; omega
            have HX := hide (And.intro hlt hx)
            have HNO : Hid ((okO x.p.sent x.p.acked x.p.mask qn (IntKind.u64.wrap (x.p.sent - x.p.acked)) x.p.qs && okE x.p.dlv wn 1 x.es) = false → ¬ ldOk (ks : Int) (n : Int) qn wn I) := hide (fun hf hk => by
              have h1 := hk.2.2 k x hx
              unfold goodP at h1
              by_cases e : (k : Int) = (ks : Int)
              · obtain rfl : k = ks := by omega
                have : x = y := by have := HY.out.1; rw [hx] at this; exact Option.some.inj this
                subst this
                rw [HYZ.out.1 x HZ.out] at hf
                cases hf
              · rw [if_neg e, hf] at h1; cases h1)
            cases hO : okO x.p.sent x.p.acked x.p.mask qn (IntKind.u64.wrap (x.p.sent - x.p.acked)) x.p.qs with
            | false =>
              have LO : ∀ W, Kp Nu wa W → Calls Try.prog 63 #[.pointer (some ⟨pb, k * 6, none⟩), .agg #[.int .u64 x.p.sent, .int .u64 x.p.acked, x.p.q, .int .u64 x.p.mask, .int .u64 x.p.dlv, x.p.e], .int .i64 qn] W fun e w' => e = .returned (.bool false) ∧ Kp Nu wa w' := fun W kW => by
                refine (loadOut_no pb k x.p.sent x.p.acked x.p.mask x.p.dlv qn _ x.p.q x.p.e x.p.qs (ina.nu kW).1 (by have := hbd.1; omega) hq16 rfl hbd.2.2.2.2.2.2.2.2.1 hbd.2.2.2.2.2.2.2.2.2.1 hO ⟨_, _, _, f2⟩).mono ?_
                rintro e w' ⟨e1, e2⟩
                exact ⟨e1, kW.andNu e2⟩
              have HNO2 := hide (HNO.out (by rw [hO]; rfl))
              rw [f1, f2] at LO ewa hfb
              rw [f1] at KS s2
              rw [f2] at KS s5
              generalize x.p.qs.length = l1 at *
              generalize x.es.length = l2 at *
              have HKW := hide (fun W (kx : Kp (fun i => i = pb) wa W) => KW kx)
              clear hJ hbd hin t0 t1 t2 t3 t4 t5 f1 f2 hL0 hLl hq16 hw1 hw16 ka hfb hrowa hpa hpr ina hO KW hlt hx hkn HNO
              go_wp2_with fail
              obtain ⟨v0, v1, v2, v3, v4, v5⟩ := KS wa (Kp.refl _ _)
              refine wp_region_held_drew (S := fun W => W.cell? ⟨fb, 0, none⟩ = some (.int .u64 x.p.sent) ∧ W.cell? ⟨fb, 1, none⟩ = some (.int .u64 x.p.acked) ∧ W.cell? ⟨fb, 2, none⟩ = some (.slice a1 l1 b1) ∧ W.cell? ⟨fb, 3, none⟩ = some (.int .u64 x.p.mask) ∧ W.cell? ⟨fb, 4, none⟩ = some (.int .u64 x.p.dlv) ∧ W.cell? ⟨fb, 5, none⟩ = some (.slice a2 l2 b2)) (by kernel_rfl) (KS _ (KM (Kp.drew (Kp.refl Nu wa)))) (fun hHeld => ?_)
              refine wpAnyH_take (i := 0) (oi := ?oi0z) (v := ?v0z) ?ho0z (by kernel_rfl) (by kernel_rfl) (by kernel_rfl) ?hq0z ?hy0z (by assumption) ?_
              case ho0z => (simp only [List.getElem?_toArray, List.getElem?_cons_succ, List.getElem?_cons_zero]; rfl)
              case hq0z => exact fun _ _ _ h => h
              case hy0z => (refine Or.inl ⟨by rfl, ?_⟩; intro w hSw; obtain ⟨g1, g2, g3, g4, g5, g6⟩ := hSw; go_simp; try with_reducible rfl)
              try simp only [Act.put, List.setIfInBounds_toArray, List.set_cons_zero, List.set_cons_succ]
              refine wpAnyH_take (i := 1) (oi := ?oi1z) (v := ?v1z) ?ho1z (by kernel_rfl) (by kernel_rfl) (by kernel_rfl) ?hq1z ?hy1z (by assumption) ?_
              case ho1z => (simp only [List.getElem?_toArray, List.getElem?_cons_succ, List.getElem?_cons_zero]; rfl)
              case hq1z => exact fun _ _ _ h => h
              case hy1z => (refine Or.inl ⟨by rfl, ?_⟩; intro w hSw; obtain ⟨g1, g2, g3, g4, g5, g6⟩ := hSw; go_simp; try with_reducible rfl)
              try simp only [Act.put, List.setIfInBounds_toArray, List.set_cons_zero, List.set_cons_succ]
              refine wpAnyH_take (i := 2) (oi := ?oi2z) (v := ?v2z) ?ho2z (by kernel_rfl) (by kernel_rfl) (by kernel_rfl) ?hq2z ?hy2z (by assumption) ?_
              case ho2z => (simp only [List.getElem?_toArray, List.getElem?_cons_succ, List.getElem?_cons_zero]; rfl)
              case hq2z => exact fun _ _ _ h => h
              case hy2z => (refine Or.inl ⟨by rfl, ?_⟩; intro w hSw; obtain ⟨g1, g2, g3, g4, g5, g6⟩ := hSw; go_simp; try with_reducible rfl)
              try simp only [Act.put, List.setIfInBounds_toArray, List.set_cons_zero, List.set_cons_succ]
              refine wpAnyH_take (i := 3) (oi := ?oi3z) (v := ?v3z) ?ho3z (by kernel_rfl) (by kernel_rfl) (by kernel_rfl) ?hq3z ?hy3z (by assumption) ?_
              case ho3z => (simp only [List.getElem?_toArray, List.getElem?_cons_succ, List.getElem?_cons_zero]; rfl)
              case hq3z => exact fun _ _ _ h => h
              case hy3z => (refine Or.inl ⟨by rfl, ?_⟩; intro w hSw; obtain ⟨g1, g2, g3, g4, g5, g6⟩ := hSw; go_simp; try with_reducible rfl)
              try simp only [Act.put, List.setIfInBounds_toArray, List.set_cons_zero, List.set_cons_succ]
              refine wpAnyH_take (i := 4) (oi := ?oi4z) (v := ?v4z) ?ho4z (by kernel_rfl) (by kernel_rfl) (by kernel_rfl) ?hq4z ?hy4z (by assumption) ?_
              case ho4z => (simp only [List.getElem?_toArray, List.getElem?_cons_succ, List.getElem?_cons_zero]; rfl)
              case hq4z => exact fun _ _ _ h => h
              case hy4z => (refine Or.inl ⟨by rfl, ?_⟩; intro w hSw; obtain ⟨g1, g2, g3, g4, g5, g6⟩ := hSw; go_simp; try with_reducible rfl)
              try simp only [Act.put, List.setIfInBounds_toArray, List.set_cons_zero, List.set_cons_succ]
              refine wpAnyH_ready (rs := [5]) (by kernel_rfl) (by simp) ?_
              refine AllReadyH.cons rfl (fun K hK => ?_) AllReadyH.nil
              go_simp
              go_at_call 63
              refine (LO _ (Kp.drew (Kp.refl Nu wa))).mono ?_
              rintro e w5 ⟨rfl, k5⟩
              go_wp2_with fail
              refine hK.out _ _ (KS _ (KM k5)) (fun hHeld2 => ?_)
              clear hK K
              try simp only [Act.put, List.setIfInBounds_toArray, List.set_cons_zero, List.set_cons_succ]
              refine wpAnyH_take (i := 6) (oi := ?oi6z) (v := ?v6z) ?ho6z (by kernel_rfl) (by kernel_rfl) (by kernel_rfl) ?hq6z ?hy6z (by assumption) ?_
              case ho6z => (simp only [List.getElem?_toArray, List.getElem?_cons_succ, List.getElem?_cons_zero]; rfl)
              case hq6z => exact fun _ _ _ h => h
              case hy6z => (refine Or.inl ⟨by rfl, ?_⟩; intro w hSw; obtain ⟨g1, g2, g3, g4, g5, g6⟩ := hSw; go_simp; try with_reducible rfl)
              try simp only [Act.put, List.setIfInBounds_toArray, List.set_cons_zero, List.set_cons_succ]
              refine wpAnyH_take (i := 7) (oi := ?oi7z) (v := ?v7z) ?ho7z (by kernel_rfl) (by kernel_rfl) (by kernel_rfl) ?hq7z ?hy7z (by assumption) ?_
              case ho7z => (simp only [List.getElem?_toArray, List.getElem?_cons_succ, List.getElem?_cons_zero]; rfl)
              case hq7z => exact fun _ _ _ h => h
              case hy7z => (refine Or.inl ⟨by rfl, ?_⟩; intro w hSw; obtain ⟨g1, g2, g3, g4, g5, g6⟩ := hSw; go_simp; try with_reducible rfl)
              try simp only [Act.put, List.setIfInBounds_toArray, List.set_cons_zero, List.set_cons_succ]
              refine wpAnyH_take (i := 8) (oi := ?oi8z) (v := undef) ?ho8z (by kernel_rfl) (by kernel_rfl) (by kernel_rfl) ?hq8z ?hy8z (by assumption) ?_
              case ho8z => (simp only [List.getElem?_toArray, List.getElem?_cons_succ, List.getElem?_cons_zero]; rfl)
              case hq8z => exact fun _ _ _ h => h
              case hy8z => exact Or.inr ⟨by rfl, rfl⟩
              try simp only [Act.put, List.setIfInBounds_toArray, List.set_cons_zero, List.set_cons_succ]
              refine wpAnyH_take (i := 9) (oi := ?oi9z) (v := undef) ?ho9z (by kernel_rfl) (by kernel_rfl) (by kernel_rfl) ?hq9z ?hy9z (by assumption) ?_
              case ho9z => (simp only [List.getElem?_toArray, List.getElem?_cons_succ, List.getElem?_cons_zero]; rfl)
              case hq9z => exact fun _ _ _ h => h
              case hy9z => exact Or.inr ⟨by rfl, rfl⟩
              try simp only [Act.put, List.setIfInBounds_toArray, List.set_cons_zero, List.set_cons_succ]
              refine wpAnyH_take (i := 10) (oi := ?oi10z) (v := undef) ?ho10z (by kernel_rfl) (by kernel_rfl) (by kernel_rfl) ?hq10z ?hy10z (by assumption) ?_
              case ho10z => (simp only [List.getElem?_toArray, List.getElem?_cons_succ, List.getElem?_cons_zero]; rfl)
              case hq10z => exact fun _ _ _ h => h
              case hy10z => exact Or.inr ⟨by rfl, rfl⟩
              try simp only [Act.put, List.setIfInBounds_toArray, List.set_cons_zero, List.set_cons_succ]
              refine wpAnyH_take (i := 11) (oi := ?oi11z) (v := undef) ?ho11z (by kernel_rfl) (by kernel_rfl) (by kernel_rfl) ?hq11z ?hy11z (by assumption) ?_
              case ho11z => (simp only [List.getElem?_toArray, List.getElem?_cons_succ, List.getElem?_cons_zero]; rfl)
              case hq11z => exact fun _ _ _ h => h
              case hy11z => exact Or.inr ⟨by rfl, rfl⟩
              try simp only [Act.put, List.setIfInBounds_toArray, List.set_cons_zero, List.set_cons_succ]
              refine wpAnyH_take (i := 12) (oi := ?oi12z) (v := undef) ?ho12z (by kernel_rfl) (by kernel_rfl) (by kernel_rfl) ?hq12z ?hy12z (by assumption) ?_
              case ho12z => (simp only [List.getElem?_toArray, List.getElem?_cons_succ, List.getElem?_cons_zero]; rfl)
              case hq12z => exact fun _ _ _ h => h
              case hy12z => exact Or.inr ⟨by rfl, rfl⟩
              try simp only [Act.put, List.setIfInBounds_toArray, List.set_cons_zero, List.set_cons_succ]
              refine wpAnyH_take (i := 13) (oi := ?oi13z) (v := undef) ?ho13z (by kernel_rfl) (by kernel_rfl) (by kernel_rfl) ?hq13z ?hy13z (by assumption) ?_
              case ho13z => (simp only [List.getElem?_toArray, List.getElem?_cons_succ, List.getElem?_cons_zero]; rfl)
              case hq13z => exact fun _ _ _ h => h
              case hy13z => exact Or.inr ⟨by rfl, rfl⟩
              try simp only [Act.put, List.setIfInBounds_toArray, List.set_cons_zero, List.set_cons_succ]
              refine wpAnyH_take (i := 14) (oi := ?oi14z) (v := undef) ?ho14z (by kernel_rfl) (by kernel_rfl) (by kernel_rfl) ?hq14z ?hy14z (by assumption) ?_
              case ho14z => (simp only [List.getElem?_toArray, List.getElem?_cons_succ, List.getElem?_cons_zero]; rfl)
              case hq14z => exact fun _ _ _ h => h
              case hy14z => exact Or.inr ⟨by rfl, rfl⟩
              try simp only [Act.put, List.setIfInBounds_toArray, List.set_cons_zero, List.set_cons_succ]
              refine wpAnyH_take (i := 15) (oi := ?oi15z) (v := ?v15z) ?ho15z (by kernel_rfl) (by kernel_rfl) (by kernel_rfl) ?hq15z ?hy15z (by assumption) ?_
              case ho15z => (simp only [List.getElem?_toArray, List.getElem?_cons_succ, List.getElem?_cons_zero]; rfl)
              case hq15z => exact fun _ _ _ h => h
              case hy15z => (refine Or.inl ⟨by rfl, ?_⟩; intro w hSw; obtain ⟨g1, g2, g3, g4, g5, g6⟩ := hSw; go_simp; try with_reducible rfl)
              try simp only [Act.put, List.setIfInBounds_toArray, List.set_cons_zero, List.set_cons_succ]
              refine wpAnyH_done (by kernel_rfl) ?_ _
              clear v0 v1 v2 v3 v4 v5 LO
              go_wp2_with fail
              refine bodyPost_ret (v := .tuple #[.pointer none, .int .i64 87]) (by simp [results, Try.results30, go_sem]) rfl ?_
              exact .inr ⟨HNO2.out, rfl, HKW.out _ (KM k5)⟩
            | true =>
              have LO : ∀ W, Kp Nu wa W → Calls Try.prog 63 #[.pointer (some ⟨pb, k * 6, none⟩), .agg #[.int .u64 x.p.sent, .int .u64 x.p.acked, x.p.q, .int .u64 x.p.mask, .int .u64 x.p.dlv, x.p.e], .int .i64 qn] W fun e w' => e = .returned (.bool true) ∧ Kp (fun i => i = pb) wa w' ∧ Hid (OutP W w' pb (xs.map Px.p ++ List.replicate (n - k) Pr0) k x ∧ Kp (fun i => i = pb) W w' ∧ Kp Nu wa W) := fun W kW => by
                refine (lo_px (hrowa.keep (kW.block _ (blk_lt hrowa) (fun e => e))) hL0 (ina.nu kW) hbd hq16 hO).mono ?_
                rintro e w' ⟨e1, e2, e3⟩
                exact ⟨e1, (KM kW).trans e2 (fun _ _ e => e), e3.out, e2, kW⟩
              cases hE : okE x.p.dlv wn 1 x.es with
              | false =>
                have LI : ∀ W w5, OutP W w5 pb (xs.map Px.p ++ List.replicate (n - k) Pr0) k x → Kp (fun i => i = pb) W w5 → Kp Nu wa W → Kp (fun i => i = pb) wa w5 → Calls Try.prog 64 #[.pointer (some ⟨pb, k * 6 + 4, none⟩), .agg #[.int .u64 x.p.sent, .int .u64 x.p.acked, x.p.q, .int .u64 x.p.mask, .int .u64 x.p.dlv, x.p.e], .int .i64 wn] w5 fun e w6 => e = .returned (.bool false) ∧ Kp (fun i => i = pb) wa w6 := fun W w5 h1 h2 h3 h4 => by
                  refine (li_no h1 hLl h2 (KW h4) hJ.hp hin hbd hw1 hw16 hE).mono ?_
                  rintro e w6 ⟨e1, e2⟩
                  exact ⟨e1, (KM h3).trans e2 (fun _ _ e => e)⟩
                have HNO2 := hide (HNO.out (by rw [hO, hE]; rfl))
                rw [f1, f2] at LO LI ewa hfb
                rw [f1] at KS s2
                rw [f2] at KS s5
                generalize x.p.qs.length = l1 at *
                generalize x.es.length = l2 at *
                have HKW := hide (fun W (kx : Kp (fun i => i = pb) wa W) => KW kx)
                clear hJ hbd hin t0 t1 t2 t3 t4 t5 f1 f2 hL0 hLl hq16 hw1 hw16 ka hfb hrowa hpa hpr ina hO hE KW hlt hx hkn HNO
                go_wp2_with fail
                obtain ⟨v0, v1, v2, v3, v4, v5⟩ := KS wa (Kp.refl _ _)
                go_region_held3 (fun W => W.cell? ⟨fb, 0, none⟩ = some (.int .u64 x.p.sent) ∧ W.cell? ⟨fb, 1, none⟩ = some (.int .u64 x.p.acked) ∧ W.cell? ⟨fb, 2, none⟩ = some (.slice a1 l1 b1) ∧ W.cell? ⟨fb, 3, none⟩ = some (.int .u64 x.p.mask) ∧ W.cell? ⟨fb, 4, none⟩ = some (.int .u64 x.p.dlv) ∧ W.cell? ⟨fb, 5, none⟩ = some (.slice a2 l2 b2)) (first | (with_reducible exact KS _ (KM (Kp.drew (Kp.refl Nu wa)))) | (with_reducible exact KS _ k5) | (with_reducible exact KS _ k6))
                  (first
                    | (go_at_call 63; refine (LO _ (Kp.drew (Kp.refl Nu wa))).mono ?_; rintro e w5 ⟨rfl, k5, H5⟩; have LI5 := LI _ w5 H5.out.1 H5.out.2.1 H5.out.2.2 k5)
                    | (go_at_call 64; refine LI5.mono ?_; rintro e w6 ⟨rfl, k6⟩))
                clear v0 v1 v2 v3 v4 v5 LO LI LI5
                go_wp2_with fail
                refine bodyPost_ret (v := .tuple #[.pointer none, .int .i64 87]) (by simp [results, Try.results30, go_sem]) rfl ?_
                exact .inr ⟨HNO2.out, rfl, HKW.out _ k6⟩
              | true =>
                have LI : ∀ W w5, OutP W w5 pb (xs.map Px.p ++ List.replicate (n - k) Pr0) k x → Kp (fun i => i = pb) W w5 → Kp Nu wa W → Kp (fun i => i = pb) wa w5 → Calls Try.prog 64 #[.pointer (some ⟨pb, k * 6 + 4, none⟩), .agg #[.int .u64 x.p.sent, .int .u64 x.p.acked, x.p.q, .int .u64 x.p.mask, .int .u64 x.p.dlv, x.p.e], .int .i64 wn] w5 fun e w6 => e = .returned (.bool true) ∧ Kp (fun i => i = pb) wa w6 ∧ Hid (∃ t : Px, Row w6 pb 123 ((xs.map Px.p ++ List.replicate (n - k) Pr0).set k t.p) ∧ Pm w6 (fun i => wr.heap.size ≤ i) t ∧ t.ab = x.ab) := fun W w5 h1 h2 h3 h4 => by
                  refine (li_px h1 hLl (Nat.lt_of_lt_of_le hpa h3.size) h2 (KW h4) hJ.hp hin hbd hw1 hw16 hE).mono ?_
                  rintro e w6 ⟨e1, e2, e3⟩
                  obtain ⟨t, g1, g2, g3⟩ := e3.out
                  exact ⟨e1, (KM h3).trans e2 (fun _ _ e => e), t, g1, g2.mono (fun i hi hG => Nat.le_trans ka.size (Nat.le_trans h3.size hG)), g3⟩
                have HG : Hid ((okO x.p.sent x.p.acked x.p.mask qn (IntKind.u64.wrap (x.p.sent - x.p.acked)) x.p.qs && okE x.p.dlv wn 1 x.es) = true) := hide (by rw [hO, hE]; rfl)
                rw [f1, f2] at LO LI ewa hfb
                rw [f1] at KS s2
                rw [f2] at KS s5
                generalize x.p.qs.length = l1 at *
                generalize x.es.length = l2 at *
                have HKW := hide (fun W (kx : Kp (fun i => i = pb) wa W) => KW kx)
                clear hJ hbd hin t0 t1 t2 t3 t4 t5 f1 f2 hL0 hLl hq16 hw1 hw16 ka hfb hrowa hpa hpr ina hO hE KW hlt hx hkn HNO
                go_wp2_with fail
                obtain ⟨v0, v1, v2, v3, v4, v5⟩ := KS wa (Kp.refl _ _)
                go_region_held3 (fun W => W.cell? ⟨fb, 0, none⟩ = some (.int .u64 x.p.sent) ∧ W.cell? ⟨fb, 1, none⟩ = some (.int .u64 x.p.acked) ∧ W.cell? ⟨fb, 2, none⟩ = some (.slice a1 l1 b1) ∧ W.cell? ⟨fb, 3, none⟩ = some (.int .u64 x.p.mask) ∧ W.cell? ⟨fb, 4, none⟩ = some (.int .u64 x.p.dlv) ∧ W.cell? ⟨fb, 5, none⟩ = some (.slice a2 l2 b2)) (first | (with_reducible exact KS _ (KM (Kp.drew (Kp.refl Nu wa)))) | (with_reducible exact KS _ k5) | (with_reducible exact KS _ k6))
                  (first
                    | (go_at_call 63; refine (LO _ (Kp.drew (Kp.refl Nu wa))).mono ?_; rintro e w5 ⟨rfl, k5, H5⟩; have LI5 := LI _ w5 H5.out.1 H5.out.2.1 H5.out.2.2 k5)
                    | (go_at_call 64; refine LI5.mono ?_; rintro e w6 ⟨rfl, k6, H6⟩))
                obtain ⟨t, g1, g2, g3⟩ := H6.out
                have HZ2 := hide (HJ.out.step HX.out.1 HX.out.2 HG.out (((HKR.out.2).mono (T := fun i => i = pb) (fun _ _ e => e.elim)).trans k6 (fun _ _ e => e)) g1 g2 g3)
                clear v0 v1 v2 v3 v4 v5 LO LI LI5 g1 g2 g3 H6 KS KM s0 s1 s2 s3 s4 s5 c3
                go_wp2
                exact ⟨⟨k + 1, _, HX.out.1, by rw [hwk.out], HZ2⟩, lt_m _ hwk.out HX.out.1⟩
          · obtain rfl : k = n := by omega
            have hJ2 := HJ.out
            have hlx := hJ2.len
            have hld : ldOk (ks : Int) (k : Int) qn wn I := ⟨HN.out.2.2.2, by rw [HN.out.1], fun i x hx => by
              unfold goodP
              by_cases e : (i : Int) = (ks : Int)
              · obtain rfl : i = ks := by omega
                have : x = y := by have := HY.out.1; rw [hx] at this; exact Option.some.inj this
                subst this
                rw [if_pos rfl]
                have := HYZ.out.2
                unfold goodP at this
                rw [if_pos rfl] at this
                rw [this, HZ.out]
              · rw [if_neg e]
                exact hJ2.good i x (by rw [← HN.out.1]; exact (List.getElem?_eq_some_iff.1 hx).1) hx⟩
            have HF := hide (And.intro hld (And.intro hlx hJ2))
            clear hlt hJ hJ2 hlx hld
            go_wp2
            refine bodyPost_ret (v := .tuple #[.pointer (some ⟨eb, 0, none⟩), .int .i64 0]) (by simp [results, Try.results30, go_sem]) rfl ?_
            obtain ⟨hld, hlx, hJ2⟩ := HF.out
            refine .inl ⟨hld, eb, xs, rfl, ?_, hJ2.kp, hJ2.hd, ⟨pb, hJ2.hp, ?_, ?_⟩, hJ2.pm, hJ2.sep⟩
            · rw [hJ2.ab, List.take_of_length_le (by rw [HN.out.1]; exact Nat.le_refl _)]
            · rw [hlx]; exact hJ2.ebx
            · have := hJ2.row
              rwa [Nat.sub_self, List.replicate_zero, List.append_nil] at this
    · have hne : ((n : Int) != (h : Int)) = true := by simp [hlen]
      have HNL := hide (And.intro en hlen)
      have HK0 := hide (And.intro k0 hbx)
      clear hI hb hl en hnew HN HI hlen k0 hbx
      go_enter Try.func30, Try.ntmps30
      go_wp2_with (go_at_call 22; refine (NW _).mono ?_; rintro e w1 ⟨eb, pb, rfl, hd, hp, hdx, hrow, k1⟩; have z1 := cellAt (v := .slice aI n cI) ((k1.block _ (blk_lt HK0.out.2) (fun e => e)).trans HK0.out.2) 0 rfl; clear hd hp hdx hrow)
      refine bodyPost_ret (v := .tuple #[.pointer none, .int .i64 87]) (by simp [results, Try.results30, go_sem]) rfl ?_
      refine .inr ⟨fun hk => ?_, rfl, HK0.out.1.andNu k1⟩
      have h1 := hk.2.1
      rw [HNL.out.1] at h1
      exact HNL.out.2 h1
  · rw [if_neg hnew]
    have NW := fun W => new22_no (ks : Int) hosts qn wn ⟨by omega, by omega⟩ hnew W
    have HNN := hide hnew
    have HK0 := hide k0
    clear hI hb hl en hnew k0 hbx hks
    go_enter Try.func30, Try.ntmps30
    go_wp2_with (go_at_call 22; refine (NW _).mono ?_; rintro e w1 ⟨rfl, hw⟩; obtain rfl := hw.symm)
    refine bodyPost_ret (v := .tuple #[.pointer none, .int .i64 2]) (by simp [results, Try.results30, go_sem]) rfl ?_
    exact .inr ⟨fun hk => HNN.out hk.1, rfl, HK0.out⟩
end Go.Proofs.Ytbhdhoeaogbfbaa.Xo
