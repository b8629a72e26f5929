import Derived.Test.YtbifmcadllilhaaGreatOwS
namespace Go.Proofs.YtbifmcadllilhaaGreat.Rg
open Go.RowKit Go.Shelf Go.Sort
open Go.Proofs.YtbifmcadllilhaaGreat.It
open Go.BigFrame
set_option linter.unusedVariables false
set_option maxRecDepth 100000 in
set_option maxHeartbeats 8000000 in
theorem own_walk (w : World) (n : Int) (ad : Option Addr) (cap : Nat) (M : List Sg) (a1 : Option Addr) (c1 : Nat) (ks : List Int) (most : Int) (hM : Sgs w (.slice ad M.length cap) M) (hnM : ad = none → cap = 0) (hlen : (M.length : Int) ≤ 5864062014634) (hk : Us w (.slice a1 ks.length c1) ks) (hnk : a1 = none → c1 = 0) (hkl : ks.length * 8 ≤ 140737488351232) (hkr : ∀ x ∈ ks, 0 ≤ x ∧ x < 18446744073709551616) :
    Calls Tryz.prog 6 #[.int .i64 n, .slice ad M.length cap, .slice a1 ks.length c1, .int .i64 most] w fun e w' => e = .returned (.bool true) ∧ Kp Nu w w' := by
  have mixed : Tryz.prog.follows .mixedOrders = true := by kernel_rfl
  have TA := tamed22 w n _ _ M ks hM hlen hk hkl hkr
  have HK := hide hkr
  clear hM hnM hlen hk hnk hkl hkr
  go_enter Tryz.func6, Tryz.ntmps6
  go_wp2_with fail
  refine TA.mono ?_; rintro e w1 ⟨hT, hk1⟩
  rcases hT with ⟨v1, v2, rfl⟩ | ⟨⟨hn, hgood, hml, hkl⟩, N, sv, kv, k', rfl, rfl, hs, hkv, hris, hmem, hk'l⟩
  · have H1 := hide hk1
    clear TA hk1
    go_wp2
    go_ret
    exact ⟨rfl, H1.out⟩
  have H1 := hide hk1
  by_cases q2 : most < 1
  · have d2 : decide (most < 1) = true := by simpa using q2
    clear TA hk1 hn hgood hml hkl hs hkv hris hmem hk'l q2
    go_wp2
    go_ret
    exact ⟨rfl, H1.out⟩
  have d2 : decide (most < 1) = false := by simpa using q2
  by_cases q3 : most > 32
  · have d3 : decide (most > 32) = true := by simpa using q3
    clear TA hk1 hn hgood hml hkl hs hkv hris hmem hk'l q2 q3
    go_wp2
    go_ret
    exact ⟨rfl, H1.out⟩
  have d3 : decide (most > 32) = false := by simpa using q3
  have hN1 : 1 ≤ N := by omega
  have hN16 : N ≤ 16 := by omega
  have hk4 : k'.length ≤ 4096 := by omega
  obtain ⟨hgS, hbS⟩ := good_tmd hgood hN1 hN16
  obtain ⟨S, eS⟩ : ∃ S, M.map (tmd N) = S := ⟨_, rfl⟩
  have hSl : S.length = M.length := by rw [← eS, List.length_map]
  rw [eS] at hgS hbS hs
  have hk'r : ∀ x ∈ k', 0 ≤ x ∧ x < 18446744073709551616 := fun x hx => HK.out x (hmem x hx)
  have hLB : ∀ k2, Ris k2 → LayB (N : Int) S k2 := fun k2 h => by rw [← eS]; exact layB_tmd hgood hN1 hN16 hml h
  have hsb : ∀ s ∈ S, SgB s := fun s hs' => by
    have h1 := cov_mem hgS.cov s hs'
    have h2 := hgS.hs s hs'
    exact ⟨by omega, by omega, by omega, by omega, h2.1, by omega⟩
  have hS0 : 1 ≤ S.length := by
    have := hgS.tab.ne
    rcases Nat.eq_zero_or_pos S.length with h | h
    · have e := List.eq_nil_of_length_eq_zero h
      rw [e] at this
      simp [lays] at this
    · exact h
  rw [← hSl] at hs hml
  obtain ⟨SL, eSL⟩ : ∃ SL, S.length = SL := ⟨_, rfl⟩
  obtain ⟨KL, eKL⟩ : ∃ KL, k'.length = KL := ⟨_, rfl⟩
  rw [eSL] at hs hml hS0
  rw [eKL] at hkv hk4
  obtain ⟨sg, sc, esv⟩ := own_blk hs hS0
  obtain ⟨ka, kc, ekv⟩ := own_slice hkv
  have hnk : ka = none → kc = 0 := fun e => by
    rcases hkv.2 with ⟨e2, _⟩ | ⟨g, cp, cur, e2, _⟩
    · rw [e2] at ekv; cases ekv; rfl
    · rw [e2, e] at ekv; cases ekv
  have HA := hide (And.intro hs (And.intro hkv (And.intro hgS (And.intro hbS (And.intro hk'r (And.intro hLB (And.intro hsb (And.intro hris (And.intro hnk (And.intro eSL eKL))))))))))
  subst esv
  subst ekv
  have hNI1 : (1 : Int) ≤ (N : Int) := by omega
  have hNI : (N : Int) ≤ 16 := by omega
  have hm1 : 1 ≤ most := by omega
  have hm32 : most ≤ 32 := by omega
  clear TA hk1 hn hgood hkl hs hkv hris hmem hk'l q2 q3 hgS hbS eS hSl hk'r hLB hsb hnk eKL eSL
  go_wp2_with (at_builtin; refine unhid ?_)
  have eSL := HA.out.2.2.2.2.2.2.2.2.2.1
  refine append_sg rfl _ _ rfl w1.heap.size (some ⟨sg, 0, none⟩) sc S (by omega) rfl (by rw [eSL]; rfl) (by rw [eSL]; exact Sgs.of_own (B := w.heap.size) (by rw [eSL]; exact HA.out.1) HA.out.2.2.2.2.2.2.1) (fun e => by cases e) (Nat.le_refl _) ?_
  intro wa wc wA hwA hkA
  rw [eSL] at hwA ⊢
  have H2 := hide (And.intro hwA hkA)
  have hwn : wa = none → wc = 0 := fun e => by
    obtain ⟨g, c, e2⟩ := own_blk hwA hS0
    rw [e] at e2; cases e2
  have HWN := hide hwn
  clear hwA hkA eSL hwn
  go_wp2_with (at_builtin; refine unhid ?_)
  have eKL := HA.out.2.2.2.2.2.2.2.2.2.2
  refine append_us rfl _ _ rfl wA.heap.size ka kc k' (by omega) rfl (by rw [eKL]; rfl) (by rw [eKL]; exact Us.of_own (B := w.heap.size) (by rw [eKL]; exact own_nu H2.out.2 HA.out.2.1)) HA.out.2.2.2.2.2.2.2.2.1 (Nat.le_refl _) ?_
  intro oa oc wB hoB hkB
  rw [eKL] at hoB ⊢
  have H3 := hide (And.intro hoB hkB)
  clear hoB hkB eKL
  -- the book
  obtain ⟨wC, hwC⟩ : ∃ W, wB.alloc (.cells #[.slice none 0 0, .slice none 0 0, .slice none 0 0] 60) = W := ⟨_, rfl⟩
  have kC : Kp Nu wB wC := by rw [← hwC]; exact Kp.alloc _ _ _
  have bC : wC.heap[wB.heap.size]? = some (.cells #[.slice none 0 0, .slice none 0 0, .slice none 0 0] 60 (0, 0)) := by rw [← hwC]; exact heap_alloc_new wB _
  obtain ⟨b, eb⟩ : ∃ b, wB.heap.size = b := ⟨_, rfl⟩
  rw [eb] at bC
  have hBC : Bk wC b b (.slice none 0 0) (.slice none 0 0) (.slice none 0 0) [] [] [] := ⟨bC, World.ownsRow_nil _ _ _ _, World.ownsRow_nil _ _ _ _, World.ownsRow_nil _ _ _ _⟩
  have HSK : ∀ W, Kp Nu wB W → Sgs W (.slice (some ⟨sg, 0, none⟩) SL sc) S ∧ Us W (.slice ka KL kc) k' := fun W k => by
    have eSL := HA.out.2.2.2.2.2.2.2.2.2.1
    have eKL := HA.out.2.2.2.2.2.2.2.2.2.2
    have kk := (H2.out.2.andNu H3.out.2).andNu k
    exact ⟨Sgs.of_own (B := w.heap.size) (by rw [eSL]; exact own_nu kk HA.out.1) HA.out.2.2.2.2.2.2.1, Us.of_own (B := w.heap.size) (by rw [eKL]; exact own_nu kk HA.out.2.1)⟩
  have AS := ask19 wC b b _ _ _ [] [] [] N _ _ S k' most hBC (by have := kC.size; omega) (by simp) (by simp) (by simp) hN1 hN16 hm1 hm32 (HSK wC kC).1 (by have := HA.out.2.2.2.2.2.2.2.2.2.1; omega) (HSK wC kC).2 (by have := HA.out.2.2.2.2.2.2.2.2.2.2; omega) HA.out.2.2.2.2.1 (fun m c e => by cases e; exact HA.out.2.2.2.2.2.2.2.2.1 rfl) HA.out.2.2.1 HA.out.2.2.2.1 (HA.out.2.2.2.2.2.1 k' HA.out.2.2.2.2.2.2.2.1)
  have H4 := hide (And.intro kC (And.intro hBC (And.intro HSK eb)))
  clear kC bC hBC HSK
  go_wp2_with fail
  refine AS.mono ?_; rintro e wD ⟨rfl, mv1, sv1, iv1, m0, s0, l0, t0, ms, R, hBD, hA0, kD⟩
  have hbno := bc_no H4.out.2.1
  have rowD : ∀ {B' ty e n : Nat} {v : Value} {xs : List Value}, wC.ownsRow B' ty e v n xs → ty ≠ 60 → ty ≠ 27 → ty ≠ 22 → ty ≠ 45 → wD.ownsRow B' ty e v n xs := fun hr h1 h2 h3 h4 => own_bc H4.out.2.1 hr kD h1 h2 h3 h4
  have eSL := HA.out.2.2.2.2.2.2.2.2.2.1
  have eKL := HA.out.2.2.2.2.2.2.2.2.2.2
  have kwC : Kp Nu w1 wC := (H2.out.2.andNu H3.out.2).andNu H4.out.1
  have sD := rowD (own_nu kwC HA.out.1) (by decide) (by decide) (by decide) (by decide)
  have kyD := rowD (own_nu kwC HA.out.2.1) (by decide) (by decide) (by decide) (by decide)
  have wsD := rowD (own_nu (H3.out.2.andNu H4.out.1) H2.out.1) (by decide) (by decide) (by decide) (by decide)
  have olD := rowD (own_nu H4.out.1 H3.out.1) (by decide) (by decide) (by decide) (by decide)
  have AS2 := ask19 wD b b mv1 sv1 iv1 ([] ++ [m0]) ([] ++ [s0]) ([] ++ [l0, t0]) N _ _ S k' most hBD (by have := H4.out.1.size; have := kD.size; have := H4.out.2.2.2; omega) (by simp) (by simp) (by simp) hN1 hN16 hm1 hm32 (Sgs.of_own (B := w.heap.size) (by rw [eSL]; exact sD) HA.out.2.2.2.2.2.2.1) (by omega) (Us.of_own (B := w.heap.size) (by rw [eKL]; exact kyD)) (by omega) HA.out.2.2.2.2.1 (fun m c e => by cases e; exact HA.out.2.2.2.2.2.2.2.2.1 rfl) HA.out.2.2.1 HA.out.2.2.2.1 (HA.out.2.2.2.2.2.1 k' HA.out.2.2.2.2.2.2.2.1)
  have H5 := hide (And.intro hBD (And.intro hA0 (And.intro kD (And.intro sD (And.intro kyD (And.intro wsD olD))))))
  clear AS hBD hA0 kD hbno rowD eSL eKL kwC sD kyD wsD olD hwC
  go_wp2_with fail
  refine AS2.mono ?_; rintro e wE ⟨rfl, mv2, sv2, iv2, m1, s1, l1, t1, ms', R', hBE, hA1, kE⟩
  obtain ⟨hBD, hA0, kD, sD, kyD, wsD, olD⟩ := H5.out
  obtain ⟨rfl, rfl⟩ := hA0.two hA1
  have hA0E := hA0.keep kE (bc_no hBD)
  have rowE : ∀ {B' ty e n : Nat} {v : Value} {xs : List Value}, wD.ownsRow B' ty e v n xs → ty ≠ 60 → ty ≠ 27 → ty ≠ 22 → ty ≠ 45 → wE.ownsRow B' ty e v n xs := fun hr h1 h2 h3 h4 => own_bc hBD hr kE h1 h2 h3 h4
  have sE := rowE sD (by decide) (by decide) (by decide) (by decide)
  have kyE := rowE kyD (by decide) (by decide) (by decide) (by decide)
  have wsE := rowE wsD (by decide) (by decide) (by decide) (by decide)
  have olE := rowE olD (by decide) (by decide) (by decide) (by decide)
  have H6 := hide (And.intro hBE (And.intro hA0E (And.intro hA1 (And.intro kE (And.intro sE (And.intro kyE (And.intro wsE olE)))))))
  clear AS2 hBE hA0 hA0E hA1 kE sE kyE wsE olE rowE hBD kD sD kyD wsD olD
  obtain ⟨mb, mbc, emv⟩ := own_blk H6.out.1.m (by simp)
  obtain ⟨sb, sbc, esv⟩ := own_blk H6.out.1.s (by simp)
  obtain ⟨ib, ibc, eiv⟩ := own_blk H6.out.1.i (by simp)
  have eSL := HA.out.2.2.2.2.2.2.2.2.2.1
  have eKL := HA.out.2.2.2.2.2.2.2.2.2.2
  have HRB : Hid (∀ s ∈ R', SgB s) := by
    obtain ⟨σ, a1, a2⟩ := H6.out.2.1.stp
    obtain ⟨Rx, hE⟩ := ev_of HA.out.2.2.1 HA.out.2.2.2.1 hN1 hN16 HA.out.2.2.2.2.2.2.2.1 HA.out.2.2.2.2.1 hm1 a1 a2
    have e := H6.out.2.1.pl
    rw [hE.pl] at e
    cases e
    exact hide hE.tab.sgb
  subst emv
  subst esv
  subst eiv
  have SK := same21 wE (.slice ka KL kc) (.slice oa KL oc) k' (Us.of_own (B := w.heap.size) (by rw [eKL]; exact H6.out.2.2.2.2.2.1)) (Us.of_own (B := wA.heap.size) (by rw [eKL]; exact H6.out.2.2.2.2.2.2.2)) (by omega)
  go_wp2_with fail
  refine SK.mono ?_; rintro e wF ⟨rfl, hkF⟩
  have SS := sameSegments17 wF (.slice (some ⟨sg, 0, none⟩) SL sc) (.slice wa SL wc) S (Sgs.of_own (B := w.heap.size) (by rw [eSL]; exact own_nu hkF H6.out.2.2.2.2.1) HA.out.2.2.2.2.2.2.1) (Sgs.of_own (B := w1.heap.size) (by rw [eSL]; exact own_nu hkF H6.out.2.2.2.2.2.2.1) HA.out.2.2.2.2.2.2.1) (by omega)
  have HF := hide hkF
  clear SK hkF eSL eKL
  go_wp2_with fail
  refine SS.mono ?_; rintro e wG ⟨rfl, hkG⟩
  have HG := hide (HF.out.andNu hkG)
  clear SS hkG
  have hBG := H6.out.1.nu HG.out
  obtain ⟨c0, c1, c2⟩ := cell3 hBG.blk
  have rm0 : wG.cell? ⟨mb, 0, none⟩ = some m0 := own_cell (B := b) hBG.m rfl
  have rm1 : wG.cell? ⟨mb, 1, none⟩ = some m1 := own_cell (B := b) hBG.m rfl
  have rs0 : wG.cell? ⟨sb, 0, none⟩ = some s0 := own_cell (B := b) hBG.s rfl
  have rs1 : wG.cell? ⟨sb, 1, none⟩ = some s1 := own_cell (B := b) hBG.s rfl
  have ri0 : wG.cell? ⟨ib, 0, none⟩ = some l0 := own_cell (B := b) hBG.i rfl
  have ri1 : wG.cell? ⟨ib, 1, none⟩ = some t0 := own_cell (B := b) hBG.i rfl
  have ri2 : wG.cell? ⟨ib, 2, none⟩ = some l1 := own_cell (B := b) hBG.i rfl
  have ri3 : wG.cell? ⟨ib, 3, none⟩ = some t1 := own_cell (B := b) hBG.i rfl
  have kn : ∀ n, Kp Nu wE (wG.drewN n) := fun n => HG.out.andNu (kp_dn wG n)
  have SM := fun n => sameMoves18q (wG.drewN n) m0 m1 ms' (H6.out.2.1.nu (kn n)).mv (H6.out.2.2.1.nu (kn n)).mv (by have := H6.out.2.1.ml; omega)
  have SS := fun n => sameSegments17q (wG.drewN n) s0 s1 R' ((H6.out.2.1.nu (kn n)).sgs HRB.out) ((H6.out.2.2.1.nu (kn n)).sgs HRB.out) (by have := H6.out.2.1.rl; omega)
  have SL1 := fun n => Pn.same11q (wG.drewN n) l0 l1 _ (H6.out.2.1.nu (kn n)).nl (H6.out.2.2.1.nu (kn n)).nl (by rw [Pn.lds_len]; omega)
  have ST1 := fun n => Pn.same11q (wG.drewN n) t0 t1 _ (H6.out.2.1.nu (kn n)).nt (H6.out.2.2.1.nu (kn n)).nt (by rw [Pn.tgs_len]; omega)
  have HM := hide SM
  have HS := hide SS
  have HL1 := hide SL1
  have HT1 := hide ST1
  clear hBG kn SM SS SL1 ST1
  go_wp2_with fail
  refine wp_region_quiet_lit (by kernel_rfl) (by kernel_rfl) ?_
  simp only [List.append_eq, List.cons_append, List.nil_append]
  iterate 74 (go_big_quiet_step (first | (go_at_call 21; exact Calls.quiet_of (HM.out _)) | (go_at_call 13; exact Calls.quiet_of (HS.out _)) | (go_at_call 18; first | with_reducible exact Calls.quiet_of (HL1.out _) | with_reducible exact Calls.quiet_of (HT1.out _))))
  refine wpQuiet_nil ?_
  intro _ hw'
  obtain ⟨nq, hw''⟩ := hw'
  subst hw''
  have kW : Kp Nu wG (wG.drewN nq) := kp_dn wG nq
  obtain ⟨wK, hW⟩ : ∃ W, wG.drewN nq = W := ⟨_, rfl⟩
  rw [hW] at kW ⊢
  have HKK := hide (HG.out.andNu kW)
  clear hW kW c0 c1 c2 rm0 rm1 rs0 rs1 ri0 ri1 ri2 ri3 HM HS HL1 HT1 HF HG
  have HR0 : Hid (wK.ownsRow w.heap.size 24 1 (.slice ka KL kc) KL (ucs (kys k' 0))) := by
    rw [kys_zero]
    exact hide (own_nu HKK.out H6.out.2.2.2.2.2.1)
  have hKI : (KL : Int) ≤ 4096 := by omega
  go_wp2
  go_loopw [18] (fun iv wr => ∃ i : Nat, iv = .int .i64 (i : Int) ∧ i ≤ KL ∧ Hid (wr.ownsRow w.heap.size 24 1 (.slice ka KL kc) KL (ucs (kys k' i)) ∧ Kp (fun q => some q = (Value.slice ka KL kc).ownBlock) wK wr)) (fun iv _ => KL - (intOf iv).toNat)
  case atStart => exact ⟨0, rfl, Nat.zero_le _, hide ⟨HR0.out, Kp.refl _ _⟩⟩
  case round =>
    obtain ⟨i, rfl, hi, hQ⟩ := hrel
    have hi0 := nz i
    by_cases hlt : i < KL
    · have hltI := lti hlt
      have eti := tn i
      have hfin := hide (fin20 hlt)
      have eKL := HA.out.2.2.2.2.2.2.2.2.2.2
      obtain ⟨kg, kc', ek⟩ := own_blk hQ.out.1 (Nat.lt_of_le_of_lt (Nat.zero_le _) hlt)
      simp only [Value.slice.injEq, true_and] at ek
      obtain ⟨eka, ekc⟩ := ek
      subst eka
      obtain ⟨u, hu⟩ : ∃ u, (ucs (kys k' i))[i]? = some u := ⟨_, List.getElem?_eq_getElem (by rw [ucs_len, kys_len (by rw [eKL]; exact hi), eKL]; exact hlt)⟩
      have cx := own_cell hQ.out.1 hu
      have fx := own_free hQ.out.1 i
      have HP : Hid ((wr.setCell ⟨kg, i, none⟩ (.int .u64 (i : Int))).ownsRow w.heap.size 24 1 (.slice (some ⟨kg, 0, none⟩) KL kc) KL (ucs (kys k' (i + 1))) ∧ Kp (fun q => some q = (Value.slice (some ⟨kg, 0, none⟩) KL kc).ownBlock) wK (wr.setCell ⟨kg, i, none⟩ (.int .u64 (i : Int)))) := by
        have h := own_put hQ.out.1 i (.int .u64 (i : Int)) (by rw [ucs_len, kys_len (by rw [eKL]; exact hi), eKL]; exact hlt)
        rw [ucs_set, kys_set (by rw [eKL]; exact hlt)] at h
        exact hide ⟨h, hQ.out.2.andSet _ _ (.inr rfl)⟩
      have ewi := wup (p := i) (Nat.le_trans (Nat.le_of_lt hlt) (Nat.le_trans hk4 (by decide)))
      obtain ⟨eK1, eK2⟩ := wk1 (k := i) (Nat.le_trans (Nat.le_of_lt hlt) (Nat.le_trans hk4 (by decide)))
      clear hu eKL ekc hi hlt
      go_wp2
      exact ⟨⟨i + 1, ins i, hfin.out.1, HP⟩, by simp only [intOf]; rw [tns, tn]; exact hfin.out.2⟩
    · have hltI := nlti hlt
      have eKL := HA.out.2.2.2.2.2.2.2.2.2.2
      have eSL := HA.out.2.2.2.2.2.2.2.2.2.1
      obtain ⟨kk, ekk⟩ : ∃ kk, (List.range KL).map (fun j : Nat => (j : Int)) = kk := ⟨_, rfl⟩
      have hkk : kk.length = KL := by rw [← ekk]; simp
      have hrow : wr.ownsRow w.heap.size 24 1 (.slice ka KL kc) KL (ucs kk) := by
        have h := hQ.out.1
        have hiK : i = KL := Nat.le_antisymm hi (Nat.le_of_not_lt hlt)
        rw [hiK] at h
        have e := kys_full k'
        rw [eKL, ekk] at e
        rw [e] at h
        exact h
      have no24 : ∀ (q : Nat) (c : Array Value) (ty : TypeId), wK.heap[q]? = some (.cells c ty (0, 0)) → ty ≠ 24 → ¬ some q = (Value.slice ka KL kc).ownBlock := fun q c ty hc ht e => by
        obtain ⟨c', hc'⟩ := own_obj HR0.out e.symm
        rw [hc] at hc'; cases hc'; exact ht rfl
      have hBK := H6.out.1.nu HKK.out
      have kr := hQ.out.2
      have hBr := hBK.keep kr (fun g hg e => by
        obtain ⟨c', hc'⟩ := own_obj HR0.out e.symm
        exact hBK.other hc' (by decide) (by decide) (by decide) (by decide) hg)
      have hA0 := (H6.out.2.1.nu HKK.out).keep kr (fun q c ty hc ht => no24 q c ty hc (by rcases ht with h | h | h <;> rw [h] <;> decide))
      have hA1 := (H6.out.2.2.1.nu HKK.out).keep kr (fun q c ty hc ht => no24 q c ty hc (by rcases ht with h | h | h <;> rw [h] <;> decide))
      have row38 : ∀ {B' n : Nat} {v : Value} {xs : List Value}, wE.ownsRow B' 38 3 v n xs → wr.ownsRow B' 38 3 v n xs := fun hr => by
        have hr' := own_nu HKK.out hr
        exact own_keep hr' (fun g e => by
          obtain ⟨c, hc⟩ := own_obj hr' e
          exact kr.block g (blk_lt hc) (no24 g c _ hc (by decide)))
      have sR := row38 H6.out.2.2.2.2.1
      have wsR := row38 H6.out.2.2.2.2.2.2.1
      have hbs : b ≤ wr.heap.size := by
        have h1 := H4.out.1.size
        have h2 := H4.out.2.2.2
        have h3 := H5.out.2.2.1.size
        have h4 := H6.out.2.2.2.1.size
        have h5 := HKK.out.size
        have h6 := kr.size
        omega
      have hris : Ris kk := by rw [← ekk]; exact kys_ris KL
      have hkb : ∀ x ∈ kk, 0 ≤ x ∧ x < 18446744073709551616 := by rw [← ekk]; exact kys_bd hk4
      have AS3 := ask19 wr b b _ _ _ ([] ++ [m0] ++ [m1]) ([] ++ [s0] ++ [s1]) ([] ++ [l0, t0] ++ [l1, t1]) N (.slice (some ⟨sg, 0, none⟩) SL sc) (.slice ka KL kc) S kk most hBr hbs (by simp) (by simp) (by simp) hN1 hN16 hm1 hm32 (Sgs.of_own (B := w.heap.size) (by rw [eSL]; exact sR) HA.out.2.2.2.2.2.2.1) (by omega) (Us.of_own (B := w.heap.size) (by rw [hkk]; exact hrow)) (by omega) hkb (fun m c e => by cases e; exact HA.out.2.2.2.2.2.2.2.2.1 rfl) HA.out.2.2.1 HA.out.2.2.2.1 (HA.out.2.2.2.2.2.1 kk hris)
      have H7 := hide (And.intro hBr (And.intro hA0 (And.intro hA1 (And.intro hrow (And.intro sR (And.intro wsR (And.intro hbs (And.intro hris (And.intro hkb (And.intro hkk kr))))))))))
      clear eKL eSL ekk hkk hrow no24 hBK kr hBr hA0 hA1 row38 sR wsR hbs hris hkb hQ hi hlt
      go_wp2_with fail
      refine AS3.mono ?_; rintro e wL ⟨rfl, mv3, sv3, iv3, m2, s2, l2, t2, ms3, R3, hBL, hA2, kL⟩
      have H8 := hide (And.intro hBL (And.intro hA2 kL))
      clear AS3 hBL hA2 kL hltI
      have eKL := H7.out.2.2.2.2.2.2.2.2.2.1
      have eSL := HA.out.2.2.2.2.2.2.2.2.2.1
      have kL := H8.out.2.2
      have kyL := own_bc H7.out.1 H7.out.2.2.2.1 kL (by decide) (by decide) (by decide) (by decide)
      have wsL := own_bc H7.out.1 H7.out.2.2.2.2.2.1 kL (by decide) (by decide) (by decide) (by decide)
      have sL := own_bc H7.out.1 H7.out.2.2.2.2.1 kL (by decide) (by decide) (by decide) (by decide)
      have H9 := hide (And.intro kyL (And.intro wsL sL))
      clear kL kyL wsL sL
      go_wp2_with (at_builtin; refine unhid ?_)
      refine append_us rfl _ _ rfl wL.heap.size ka kc kk (by omega) rfl (by rw [eKL]; rfl) (by rw [eKL]; exact Us.of_own (B := w.heap.size) (by rw [eKL]; exact H9.out.1)) HA.out.2.2.2.2.2.2.2.2.1 (Nat.le_refl _) ?_
      intro fa fc wM hfM hkM
      rw [eKL] at hfM ⊢
      have hfn : ∀ m c, Value.slice fa KL fc = .slice none m c → c = 0 := fun m c e => by
        rcases hfM.2 with ⟨e2, _⟩ | ⟨g, cp, cur, e2, _⟩
        · rw [e2] at e; cases e; rfl
        · rw [e2] at e; cases e
      have H10 := hide (And.intro hfM (And.intro hkM hfn))
      clear hfM hkM hfn
      go_wp2_with (at_builtin; refine unhid ?_)
      refine append_sg rfl _ _ rfl wM.heap.size wa wc S (by omega) rfl (by rw [eSL]; rfl) (by rw [eSL]; exact Sgs.of_own (B := w1.heap.size) (by rw [eSL]; exact own_nu H10.out.2.1 H9.out.2.1) HA.out.2.2.2.2.2.2.1) HWN.out (Nat.le_refl _) ?_
      intro xa xc wN hxN hkN
      have MO := moves24 wN (N : Int) most _ (.slice fa KL fc) S kk (Sgs.of_own hxN HA.out.2.2.2.2.2.2.1) (by omega) (Us.of_own (B := wL.heap.size) (by rw [eKL]; exact own_nu hkN H10.out.1)) (by omega) H7.out.2.2.2.2.2.2.2.2.1 H10.out.2.2
      rw [eSL] at MO ⊢
      have H11 := hide hkN
      clear hxN hkN
      go_wp2_with fail
      refine MO.mono ?_; rintro e wO ⟨v, c, rfl, hMo, hkO⟩
      have hMo2 : c = 0 ∧ Mvs wO v ms3 := by
        rcases hMo with ⟨h, _⟩ | ⟨_, h, _⟩ | ⟨_, _, h0, N', hN', ms4, σ, h1, h2, h3, h4⟩
        · exact absurd ⟨⟨hNI1, hNI⟩, hm1, hm32⟩ h
        · exact absurd (HA.out.2.2.2.2.2.1 kk H7.out.2.2.2.2.2.2.2.1) h
        · have : N' = N := by omega
          subst this
          obtain ⟨σ', b1, b2⟩ := H8.out.2.1.stp
          have e := h1.same b1 h2 b2
          subst e
          exact ⟨h0, h3⟩
      obtain ⟨rfl, hmO⟩ := hMo2
      obtain ⟨ga, gn, gk, eg⟩ : ∃ a n k, v = .slice a n k := by
        obtain ⟨a, k, e, _⟩ := hmO
        exact ⟨_, _, _, e⟩
      subst eg
      have kLO : Kp Nu wL wO := (H10.out.2.1.andNu H11.out).andNu hkO
      have H12 := hide (And.intro hmO (And.intro kLO (H11.out.andNu hkO)))
      clear MO hMo hmO hkO kLO
      go_wp2_with (at_builtin; refine unhid ?_)
      refine append_sg rfl _ _ rfl wO.heap.size wa wc S (by omega) rfl (by rw [eSL]; rfl) (by rw [eSL]; exact Sgs.of_own (B := w1.heap.size) (by rw [eSL]; exact own_nu H12.out.2.1 H9.out.2.1) HA.out.2.2.2.2.2.2.1) HWN.out (Nat.le_refl _) ?_
      intro ya yc wP hyP hkP
      have hfP : wP.ownsRow wL.heap.size 24 1 (.slice fa KL fc) KL (ucs kk) := own_nu hkP (own_nu H12.out.2.2 H10.out.1)
      have LO := loads19 wP (N : Int) _ (.slice fa KL fc) S kk (Sgs.of_own hyP HA.out.2.2.2.2.2.2.1) (by omega) (Us.of_own (B := wL.heap.size) (by rw [eKL]; exact hfP)) (by omega) H7.out.2.2.2.2.2.2.2.2.1 H10.out.2.2
      rw [eSL] at LO ⊢
      have H13 := hide (And.intro hkP hfP)
      clear hyP hkP hfP
      go_wp2_with fail
      refine LO.mono ?_; rintro e wQ ⟨v, c, rfl, hL, hkQ⟩
      have hL2 : c = 0 ∧ wQ.ownsRow wP.heap.size 3 1 v N (Pn.ics (Pn.lds N (kk.map (ow (lays [] S))))) := by
        rcases hL with ⟨h, _⟩ | ⟨_, h, _⟩ | ⟨_, _, h0, N', hN', h1⟩
        · exact absurd ⟨hNI1, hNI⟩ h
        · exact absurd (HA.out.2.2.2.2.2.1 kk H7.out.2.2.2.2.2.2.2.1) h
        · have : N' = N := by omega
          subst this
          exact ⟨h0, h1⟩
      obtain ⟨rfl, hlQ⟩ := hL2
      obtain ⟨pa, pc, ep⟩ := own_slice hlQ
      subst ep
      have H14 := hide (And.intro hlQ (And.intro hkQ ((H12.out.2.1.andNu H13.out.1).andNu hkQ)))
      clear LO hL hlQ hkQ eKL eSL
      have hBQ := H8.out.1.nu H14.out.2.2
      obtain ⟨mb3, mc3, emv3⟩ := own_blk hBQ.m (by simp)
      obtain ⟨sb3, sc3, esv3⟩ := own_blk hBQ.s (by simp)
      obtain ⟨ib3, ic3, eiv3⟩ := own_blk hBQ.i (by simp)
      subst emv3
      subst esv3
      subst eiv3
      obtain ⟨c0, c1', c2⟩ := cell3 hBQ.blk
      have rm2 : wQ.cell? ⟨mb3, 2, none⟩ = some m2 := own_cell (B := b) hBQ.m rfl
      have NU := fun W => Pn.num12 W 0
      have SM := sameMoves18 wQ m2 (.slice ga gn gk) ms3 (H8.out.2.1.nu H14.out.2.2).mv ((H12.out.1.nu H13.out.1).nu H14.out.2.1) (by have := H8.out.2.1.ml; omega)
      clear hBQ
      go_wp2_with (first | (go_at_call 10; refine (NU _).mono ?_; rintro e w' ⟨rfl, hw'⟩; obtain rfl := hw'.symm))
      refine SM.mono ?_; rintro e wR ⟨rfl, hkR⟩
      have hBR := H8.out.1.nu (H14.out.2.2.andNu hkR)
      have H15 := hide hkR
      clear SM hkR c0 c1' c2 rm2
      obtain ⟨c0, c1', c2⟩ := cell3 hBR.blk
      have ri4 : wR.cell? ⟨ib3, 4, none⟩ = some l2 := own_cell (B := b) hBR.i rfl
      have SI := Pn.same11 wR l2 (.slice pa N pc) _ (H8.out.2.1.nu (H14.out.2.2.andNu H15.out)).nl (Pn.Ns.of_own (B := wP.heap.size) (by rw [Pn.lds_len]; exact own_nu H15.out H14.out.1)) (by rw [Pn.lds_len]; omega)
      clear hBR
      go_wp2_with fail
      refine SI.mono ?_; rintro e wS ⟨rfl, hkS⟩
      have H16 := hide (H15.out.andNu (Kp.ofPn hkS))
      clear SI hkS c0 c1' c2 ri4
      have eKL := H7.out.2.2.2.2.2.2.2.2.2.1
      have eSL := HA.out.2.2.2.2.2.2.2.2.2.1
      have kLS : Kp Nu wL wS := H14.out.2.2.andNu H16.out
      have fS : wS.ownsRow wL.heap.size 24 1 (.slice fa KL fc) KL (ucs kk) := own_nu H16.out (own_nu H14.out.2.1 H13.out.2)
      have CO := counted23 wS N (.slice wa SL wc) (.slice fa KL fc) S kk (Sgs.of_own (B := w1.heap.size) (by rw [eSL]; exact own_nu kLS H9.out.2.1) HA.out.2.2.2.2.2.2.1) HA.out.2.2.1.cov HA.out.2.2.2.1 (by omega) (Us.of_own (B := wL.heap.size) (by rw [eKL]; exact fS)) H7.out.2.2.2.2.2.2.2.2.1 (by omega) hN16
      have eow : kk.map (ow S) = kk.map (ow (lays [] S)) := List.map_congr_left (fun x hx => (ow_lays HA.out.2.2.1 (H7.out.2.2.2.2.2.2.2.2.1 x hx).1 (H7.out.2.2.2.2.2.2.2.2.1 x hx).2).symm)
      rw [eow] at CO
      have H17 := hide (And.intro kLS fS)
      clear kLS fS eow eKL eSL
      go_wp2_with fail
      refine CO.mono ?_; rintro e wT ⟨qg, rfl, hqT, hkT⟩
      have SI := Pn.same11 wT (.slice pa N pc) (.slice (some ⟨qg, 0, none⟩) N N) _ (Pn.Ns.of_own (B := wP.heap.size) (by rw [Pn.lds_len]; exact own_nu hkT (own_nu H16.out H14.out.1))) (Pn.Ns.of_own (B := wS.heap.size) (by rw [Pn.lds_len]; exact hqT)) (by rw [Pn.lds_len]; omega)
      have H18 := hide hkT
      clear CO hqT hkT
      go_wp2_with fail
      refine SI.mono ?_; rintro e wU ⟨rfl, hkU⟩
      have H19 := hide ((H17.out.1.andNu H18.out).andNu (Kp.ofPn hkU))
      have H20 := hide ((H16.out.andNu H18.out).andNu (Kp.ofPn hkU))
      clear SI hkU
      have eSL := HA.out.2.2.2.2.2.2.2.2.2.1
      have hpn : pa = none → pc = 0 := fun e => by
        obtain ⟨g, c, e2⟩ := own_blk H14.out.1 hN1
        rw [e] at e2; cases e2
      have hLb : Lb N (Pn.lds N (kk.map (ow (lays [] S)))) := ⟨Pn.lds_len _ _, fun x hx => by
        obtain ⟨q, _, rfl⟩ := List.mem_map.1 hx
        have h1 := Pn.cnt_le (kk.map (ow (lays [] S))) q
        rw [List.length_map, H7.out.2.2.2.2.2.2.2.2.2.1] at h1
        omega⟩
      have PLC := placed22 wU pa pc wa wc _ S N (Pn.Ns.of_own (B := wP.heap.size) (by rw [Pn.lds_len]; exact own_nu H20.out H14.out.1)) hLb hN1 hN16 hpn (by rw [eSL]; exact Sgs.of_own (B := w1.heap.size) (by rw [eSL]; exact own_nu H19.out H9.out.2.1) HA.out.2.2.2.2.2.2.1) (by rw [eSL]; exact hS0) (by rw [eSL]; exact hml) HWN.out
      rw [eSL] at PLC
      clear hpn hLb eSL
      go_wp2_with fail
      refine PLC.mono ?_; rintro e wV ⟨rfl, hkV⟩
      have H21 := hide (H19.out.andNu hkV)
      have H20V := hide (H20.out.andNu hkV)
      clear PLC hkV
      -- the lists of the book are apart
      have AP : Hid (Bk wV b b (.slice (some ⟨mb3, 0, none⟩) 3 mc3) (.slice (some ⟨sb3, 0, none⟩) 3 sc3) (.slice (some ⟨ib3, 0, none⟩) 6 ic3) [m0, m1, m2] [s0, s1, s2] [l0, t0, l1, t1, l2, t2] ∧ (∃ X, En wV b 41 5 [m0, m1, m2] [ms'.length, ms'.length, ms3.length] X) ∧ (∃ X, En wV b 38 3 [s0, s1, s2] [R'.length, R'.length, R3.length] X) ∧ (∃ X, En wV b 3 1 [l0, t0, l1, t1, l2, t2] [N, N, N, N, N, N] X)) := by
        have hA0 := (H7.out.2.1.keep H8.out.2.2 (bc_no H7.out.1)).nu H21.out
        have hA1 := (H7.out.2.2.1.keep H8.out.2.2 (bc_no H7.out.1)).nu H21.out
        have hA2 := H8.out.2.1.nu H21.out
        have z0 : b ≤ wC.heap.size := by
          have h1 := H4.out.1.size
          have h2 := H4.out.2.2.2
          rw [← h2]; exact h1
        have z1 : wC.heap.size ≤ wD.heap.size := H5.out.2.2.1.size
        have z2 : wD.heap.size ≤ wr.heap.size := Nat.le_trans H6.out.2.2.2.1.size (Nat.le_trans HKK.out.size H7.out.2.2.2.2.2.2.2.2.2.2.size)
        obtain ⟨x0, y0⟩ := hA0.mo
        obtain ⟨x1, y1⟩ := hA1.mo
        obtain ⟨x2, y2⟩ := hA2.mo
        obtain ⟨x3, y3⟩ := H5.out.2.1.mo
        obtain ⟨x4, y4⟩ := H7.out.2.2.1.mo
        refine hide ⟨H8.out.1.nu H21.out, ⟨_, En.three (b3 := 0) y0 y1 y2 z0 (fun g e => own_lt y3 e) (fun g e => own_lt y4 e) z1 z2⟩, ⟨_, En.three (b3 := 0) hA0.so hA1.so hA2.so z0 (fun g e => own_lt H5.out.2.1.so e) (fun g e => own_lt H7.out.2.2.1.so e) z1 z2⟩, ⟨_, En.six hA0.lo hA0.tg hA1.lo hA1.tg hA2.lo hA2.tg z0 (fun g e => e.elim (fun e => own_lt H5.out.2.1.lo e) (fun e => own_lt H5.out.2.1.tg e)) (fun g e => e.elim (fun e => own_lt H7.out.2.2.1.lo e) (fun e => own_lt H7.out.2.2.1.tg e)) z1 z2 hA0.ne hA1.ne hA2.ne⟩⟩
      have zb : b ≤ wV.heap.size := by
        have h1 := H7.out.2.2.2.2.2.2.1
        have h2 := H8.out.2.2.size
        have h3 := H21.out.size
        exact Nat.le_trans h1 (Nat.le_trans h2 h3)
      obtain ⟨hBV, ⟨X1, E1⟩, ⟨X2, E2⟩, ⟨X3, E3⟩⟩ := AP.out
      have APC := apart23 wV b b _ _ _ _ _ _ _ _ _ X1 X2 X3 hBV E1 E2 E3 (by simp) (by simp) (by simp) (by simp) (by simp) (by
        have h1 := H7.out.2.1.ml
        have h2 := H8.out.2.1.ml
        intro n hn
        simp only [List.mem_cons, List.not_mem_nil, or_false] at hn
        rcases hn with e | e | e <;> rw [e] <;> omega) (by
        have h1 := H7.out.2.1.rl
        have h2 := H8.out.2.1.rl
        intro n hn
        simp only [List.mem_cons, List.not_mem_nil, or_false] at hn
        rcases hn with e | e | e <;> rw [e] <;> omega) (by
        intro n hn
        simp only [List.mem_cons, List.not_mem_nil, or_false] at hn
        rcases hn with e | e | e | e | e | e <;> rw [e] <;> omega) zb
      have HAP := hide (And.intro E1 (And.intro E2 (And.intro E3 zb)))
      clear AP hBV E1 E2 E3 zb
      go_wp2_with fail
      refine APC.mono ?_; rintro e wW ⟨rfl, hkW⟩
      have H22 := hide hkW
      clear APC hkW
      have hz1 : w1.heap.size ≤ b := by
        have h1 := H2.out.2.size
        have h2 := H3.out.2.size
        have h3 := H4.out.2.2.2
        rw [← h3]; exact Nat.le_trans h1 h2
      have hzA : wA.heap.size ≤ b := by
        have h2 := H3.out.2.size
        have h3 := H4.out.2.2.2
        rw [← h3]; exact h2
      have ebB : ∀ g, Eb [m0, m1, m2] g ∨ Eb [s0, s1, s2] g ∨ Eb [l0, t0, l1, t1, l2, t2] g → b ≤ g := fun g e => by
        rcases e with e | e | e
        · exact (HAP.out.1.obj e).1
        · exact (HAP.out.2.1.obj e).1
        · exact (HAP.out.2.2.1.obj e).1
      have low : ∀ {B' ty e n : Nat} {v : Value} {xs : List Value}, wL.ownsRow B' ty e v n xs → (∀ g, v.ownBlock = some g → g < b) → wW.ownsRow B' ty e v n xs := fun hr hg => by
        have hr' := own_nu H21.out hr
        exact own_keep hr' (fun g e => H22.out.block g (own_lt hr' e) (fun e2 => Nat.lt_irrefl _ (Nat.lt_of_lt_of_le (hg g e) (ebB g e2))))
      have sW := low H9.out.2.2 (fun g e => Nat.lt_of_lt_of_le (own_lt HA.out.1 e) hz1)
      have wsW := low H9.out.2.1 (fun g e => Nat.lt_of_lt_of_le (own_lt H2.out.1 e) hzA)
      have kyW := low H9.out.1 (fun g e => Nat.lt_of_lt_of_le (own_lt HA.out.2.1 e) hz1)
      have fV : wV.ownsRow wL.heap.size 24 1 (.slice fa KL fc) KL (ucs kk) := own_nu H20V.out (own_nu H14.out.2.1 H13.out.2)
      have fW : wW.ownsRow wL.heap.size 24 1 (.slice fa KL fc) KL (ucs kk) := own_keep fV (fun g e => by
        obtain ⟨c, hc⟩ := own_obj fV e
        exact H22.out.block g (own_lt fV e) (fun e2 => by
          rcases e2 with e2 | e2 | e2
          · exact HAP.out.1.ne hc (by decide) e2
          · exact HAP.out.2.1.ne hc (by decide) e2
          · exact HAP.out.2.2.1.ne hc (by decide) e2))
      have eKL := H7.out.2.2.2.2.2.2.2.2.2.1
      have eSL := HA.out.2.2.2.2.2.2.2.2.2.1
      have SS := sameSegments17 wW (.slice (some ⟨sg, 0, none⟩) SL sc) (.slice wa SL wc) S (Sgs.of_own (B := w.heap.size) (by rw [eSL]; exact sW) HA.out.2.2.2.2.2.2.1) (Sgs.of_own (B := w1.heap.size) (by rw [eSL]; exact wsW) HA.out.2.2.2.2.2.2.1) (by omega)
      have H23 := hide (And.intro kyW fW)
      have HFIN : Hid (Kp Nu w wW) := by
        have bcB : ∀ {W : World} {v1 v2 v3 : Value} {l1 l2 l3 : List Value}, Bk W b b v1 v2 v3 l1 l2 l3 → ∀ g, Bc b v1 v2 v3 g → b ≤ g := fun h g e => by
          rcases e with e | e | e | e
          · exact Nat.le_of_eq e.symm
          · exact (h.m.lt g e.symm).1
          · exact (h.s.lt g e.symm).1
          · exact (h.i.lt g e.symm).1
        have zw : w.heap.size ≤ b := Nat.le_trans H1.out.size hz1
        have k1 := ((H1.out.andNu H2.out.2).andNu H3.out.2).andNu H4.out.1
        have k2 := k1.trans H5.out.2.2.1 (fun g hg e => by have := bcB H4.out.2.1 g e; omega)
        have k3 := k2.trans H6.out.2.2.2.1 (fun g hg e => by have := bcB H5.out.1 g e; omega)
        have k4 := k3.andNu HKK.out
        have k5 := k4.trans H7.out.2.2.2.2.2.2.2.2.2.2 (fun g hg e => by have := (HA.out.2.1.lt g e.symm).1; omega)
        have k6 := k5.trans H8.out.2.2 (fun g hg e => by have := bcB H7.out.1 g e; omega)
        have k7 := k6.andNu H21.out
        exact hide (k7.trans H22.out (fun g hg e => by have := ebB g e; omega))
      clear hz1 hzA ebB low sW wsW kyW fV fW
      go_wp2_with fail
      refine SS.mono ?_; rintro e wX ⟨rfl, hkX⟩
      have SK := same21 wX (.slice ka KL kc) (.slice fa KL fc) kk (Us.of_own (B := w.heap.size) (by rw [eKL]; exact own_nu hkX H23.out.1)) (Us.of_own (B := wL.heap.size) (by rw [eKL]; exact own_nu hkX H23.out.2)) (by omega)
      have HX := hide hkX
      clear SS hkX eKL eSL
      go_wp2_with fail
      refine SK.mono ?_; rintro e wY ⟨rfl, hkY⟩
      have HY := hide ((HFIN.out.andNu HX.out).andNu hkY)
      clear SK hkY
      go_wp2
      go_ret
      exact ⟨rfl, HY.out⟩
end Go.Proofs.YtbifmcadllilhaaGreat.Rg
