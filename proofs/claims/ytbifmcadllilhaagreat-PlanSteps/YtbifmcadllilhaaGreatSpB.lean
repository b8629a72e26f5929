import Derived.Test.YtbifmcadllilhaaGreatSpA
import Derived.Test.YtbifmcadllilhaaGreatPwB
import Derived.Test.YtbifmcadllilhaaGreatPmA
import Derived.Test.YtbifmcadllilhaaGreatPdO
import Derived.BigQuiet
import Derived.Deep.RegionLaw
namespace Go.Proofs.YtbifmcadllilhaaGreat.Rg
open Go.RowKit Go.Shelf Go.Sort
open Go.Proofs.YtbifmcadllilhaaGreat.It
set_option linter.unusedVariables false
theorem sp_start {S : List Sg} {k : List Int} {most : Int} {N : Nat} {ms : List Mv} {σ : Sig} (hS : Good S) (n1 : 1 ≤ N) (n16 : N ≤ 16) (hr : Ris k) (hk : ∀ x ∈ k, 0 ≤ x ∧ x < 18446744073709551616) (hst : Stps k most (sg0 N (lays [] S) k) ms σ) : Sti k most N (lays [] S) ms 0 (lays [] S) :=
  ⟨⟨_, _, by simpa using hst, inv0 hS.tab hr hk n1 n16⟩, by simp⟩
theorem Sti.at_end {ks : List Int} {most : Int} {N : Nat} {L0 Li : List Sg} {ms : List Mv} {i : Nat} (h : Sti ks most N L0 ms i Li) (hi : ms.length ≤ i) : Rg.pl L0 ms = some Li := by
  have := h.pl
  rw [List.drop_of_length_le hi] at this
  exact this
/-- what the round is told of a move -/
structure Rnd (ks : List Int) (most : Int) (N : Nat) (L0 : List Sg) (ms : List Mv) (i : Nat) (Li : List Sg) (m : Mv) (slo : Int) : Prop where
  st : Sti ks most N L0 ms (i + 1) (asg Li m.lo m.hi m.t)
  seg : Li[plc Li m.hi]? = some ⟨slo, m.hi, m.f⟩
  lo : slo ≤ m.lo
  lh : m.lo ≤ m.hi
  l0 : 0 ≤ m.lo
  h1 : m.hi < 18446744073709551616
  ne : m.f ≠ m.t
  pl : pl (lays [] Li) [m] = some (asg Li m.lo m.hi m.t)
  ow : ∀ x, 0 ≤ x → x < 18446744073709551616 → ow (asg Li m.lo m.hi m.t) x = if m.lo ≤ x ∧ x ≤ m.hi then m.t else ow Li x
theorem Sti.rnd {ks : List Int} {most : Int} {N : Nat} {L0 Li : List Sg} {ms : List Mv} {i : Nat} {m : Mv} (h : Sti ks most N L0 ms i Li) (hr : Ris ks) (hk : ∀ x ∈ ks, 0 ≤ x ∧ x < 18446744073709551616) (hm : 1 ≤ most) (hi : ms[i]? = some m) : ∃ slo, Rnd ks most N L0 ms i Li m slo := by
  obtain ⟨h1, md, s, e1, e2, e3, e4⟩ := h.step hr hk hm hi
  have ht := h.tab
  refine ⟨s.lo, h1, ?_, e4, md.lh, md.l0, md.h1, md.ne, ?_, ?_⟩
  · rw [e1, ← e2, ← e3]
  · rw [tab_lays ht, pl_yes ⟨⟨md.lh, md.f1, md.t1, md.ne⟩, md.own⟩]; rfl
  · exact (asg_facts ht md.l0 md.lh md.h1 md.t0 md.t1).2.1
set_option maxRecDepth 100000 in
set_option maxHeartbeats 4000000 in
theorem steps_walk (w : World) (n : Int) (ad : Option Addr) (cap : Nat) (M : List Sg) (a1 : Option Addr) (c1 : Nat) (ks : List Int) (most key : Int) (hM : Sgs w (.slice ad M.length cap) M) (hnM : ad = none → cap = 0) (hlen : (M.length : Int) ≤ 5864062014634) (hk : Us w (.slice a1 ks.length c1) ks) (hnk : a1 = none → c1 = 0) (hkl : ks.length * 8 ≤ 140737488351232) (hkr : ∀ x ∈ ks, 0 ≤ x ∧ x < 18446744073709551616) (hky : 0 ≤ key ∧ key < 18446744073709551616) :
    Calls Tryz.prog 3 #[.int .i64 n, .slice ad M.length cap, .slice a1 ks.length c1, .int .i64 most, .int .u64 key] w fun e w' => e = .returned (.bool true) ∧ Kp Nu w w' := by
  have mixed : Tryz.prog.follows .mixedOrders = true := by kernel_rfl
  have TA := tamed22 w n _ _ M ks hM hlen hk hkl hkr
  have HK := hide hkr
  clear hM hnM hlen hk hnk hkl hkr
  go_enter Tryz.func3, Tryz.ntmps3
  go_wp2_with fail
  refine TA.mono ?_; rintro e w1 ⟨hT, hk1⟩
  rcases hT with ⟨v1, v2, rfl⟩ | ⟨⟨hn, hgood, hml, hkl⟩, N, sv, kv, k', rfl, rfl, hs, hkv, hris, hmem, hk'l⟩
  · have H1 := hide hk1
    clear TA hk1
    go_wp2
    go_ret
    exact ⟨rfl, H1.out⟩
  have H1 := hide hk1
  by_cases q2 : most < 1
  · have d2 : decide (most < 1) = true := by simpa using q2
    clear TA hk1 hn hgood hml hkl hs hkv hris hmem hk'l q2
    go_wp2
    go_ret
    exact ⟨rfl, H1.out⟩
  have d2 : decide (most < 1) = false := by simpa using q2
  by_cases q3 : most > 32
  · have d3 : decide (most > 32) = true := by simpa using q3
    clear TA hk1 hn hgood hml hkl hs hkv hris hmem hk'l q2 q3
    go_wp2
    go_ret
    exact ⟨rfl, H1.out⟩
  have d3 : decide (most > 32) = false := by simpa using q3
  have hN1 : 1 ≤ N := by omega
  have hN16 : N ≤ 16 := by omega
  have hk4 : k'.length ≤ 4096 := by omega
  obtain ⟨hgS, hbS⟩ := good_tmd hgood hN1 hN16
  obtain ⟨S, eS⟩ : ∃ S, M.map (tmd N) = S := ⟨_, rfl⟩
  have hSl : S.length = M.length := by rw [← eS, List.length_map]
  rw [eS] at hgS hbS hs
  have hk'r : ∀ x ∈ k', 0 ≤ x ∧ x < 18446744073709551616 := fun x hx => HK.out x (hmem x hx)
  have hLB : LayB (N : Int) S k' := by rw [← eS]; exact layB_tmd hgood hN1 hN16 hml hris
  have hSgs : Sgs w1 sv S := by
    refine Sgs.of_own (B := w.heap.size) (by rw [hSl]; exact hs) (fun s hs' => ?_)
    have h1 := cov_mem hgS.cov s hs'
    have h2 := hgS.hs s hs'
    exact ⟨by omega, by omega, by omega, by omega, h2.1, by omega⟩
  have hUs : Us w1 kv k' := Us.of_own hkv
  obtain ⟨sa, sc, esv⟩ := own_slice hs
  obtain ⟨ka, kc, ekv⟩ := own_slice hkv
  have hnk : ∀ m c, kv = .slice none m c → c = 0 := fun m c e => by
    rcases hkv.2 with ⟨e2, _⟩ | ⟨g, cp, cur, e2, _⟩
    · rw [e2] at e; cases e; rfl
    · rw [e2] at e; cases e
  have MO := moves24 w1 (N : Int) most _ _ S k' hSgs (by omega) hUs hk4 hk'r hnk
  have HA := hide (And.intro hSgs (And.intro hUs (And.intro hgS (And.intro hbS (And.intro hk'r (And.intro hLB (And.intro hSl (And.intro hris (And.intro hnk hml)))))))))
  obtain ⟨KL, eKL⟩ : ∃ KL, k'.length = KL := ⟨_, rfl⟩
  obtain ⟨SL, eSL⟩ : ∃ SL, M.length = SL := ⟨_, rfl⟩
  rw [eKL] at ekv hk4
  rw [eSL] at esv
  subst esv
  subst ekv
  have HKL := hide (And.intro eKL eSL)
  have hNI1 : (1 : Int) ≤ (N : Int) := by omega
  have hNI : (N : Int) ≤ 16 := by omega
  have hm1 : 1 ≤ most := by omega
  have hm32 : most ≤ 32 := by omega
  have hKI : (KL : Int) ≤ 4096 := by omega
  clear TA hk1 hn hgood hml hkl hs hkv hris hmem hk'l q2 q3 hgS hbS eS hSl hk'r hLB hSgs hUs hnk eKL eSL
  go_wp2_with fail
  refine MO.mono ?_; rintro e w2 ⟨v, c, rfl, hMo, hk2⟩
  obtain ⟨hSgs, hUs, hgS, hbS, hk'r, hLB, hSl, hris, hnk, hml⟩ := HA.out
  have hMo2 : c = 0 ∧ ∃ ms σ, Stps k' most (sg0 N (lays [] S) k') ms σ ∧ Fin σ ∧ Mvs w2 v ms ∧ ms.length ≤ 4096 := by
    rcases hMo with ⟨h, _⟩ | ⟨_, h, _⟩ | ⟨_, _, h0, N', hN', ms, σ, h1, h2, h3, h4⟩
    · exact absurd ⟨⟨hNI1, hNI⟩, hm1, hm32⟩ h
    · exact absurd hLB h
    · have : N' = N := by omega
      subst this
      exact ⟨h0, ms, σ, h1, h2, h3, h4⟩
  obtain ⟨rfl, ms, σ, hst, hfin, hmv, hmsl⟩ := hMo2
  have hS0 := sp_start hgS hN1 hN16 hris hk'r hst
  have PL := play15 w2 _ (.slice none 0 0) S [] (hSgs.nu hk2) (by omega) (mvs_nil _) (by simp)
  obtain ⟨va, vc, ev, _⟩ := id hmv
  have HE := hide (And.intro hS0 (And.intro hk2 (And.intro hmv hmsl)))
  obtain ⟨ML, eML⟩ : ∃ ML, ms.length = ML := ⟨_, rfl⟩
  rw [eML] at ev hmsl
  have hMLI : (ML : Int) ≤ 4096 := by omega
  subst ev
  have HML := hide eML
  clear MO hMo hSgs hUs hgS hbS hk'r hLB hSl hris hnk hml hst hfin hmv hS0 hk2 eML
  go_wp2_with fail
  refine PL.mono ?_; rintro e w3 ⟨v, c, rfl, hP, hk3⟩
  have hP2 : c = 0 ∧ ∃ R, R = lays [] S ∧ R.length ≤ 16384 ∧ w3.ownsRow w2.heap.size 38 3 v R.length (cells R) := by
    obtain ⟨_, _, _, _, _, hLB, _⟩ := HA.out
    rcases hP with ⟨h, _⟩ | ⟨_, h, _⟩ | ⟨_, h0, R', h1, h2, h3⟩
    · exact absurd hLB.1 h
    · cases h
    · cases h1; exact ⟨h0, _, rfl, h2, h3⟩
  obtain ⟨rfl, R, eR, hRl, hRo⟩ := hP2
  have hTR : Tab R := by rw [eR]; exact HE.out.1.tab
  have hRs3 : Sgs w3 v R := Sgs.of_own hRo hTR.sgb
  have hRne := hTR.ne
  obtain ⟨ra, rc, er⟩ := own_slice hRo
  obtain ⟨RL, eRL⟩ : ∃ RL, R.length = RL := ⟨_, rfl⟩
  have HR := hide (And.intro hRs3 (And.intro hk3 (And.intro eR hRl)))
  rw [eRL] at er hRl hRne
  subst er
  have hR0 : (0 : Int) < (RL : Int) := by omega
  have hR1 : ((RL : Int) == 0) = false := by simpa using (by omega : ¬ RL = 0)
  have NU := fun W => Pn.num12 W 0
  clear PL hP hRo hk3 eRL hTR hRs3 eR
  go_wp2_with (first | (go_at_call 10; refine (NU _).mono ?_; rintro e w' ⟨rfl, hw'⟩; obtain rfl := hw'.symm))
  go_loopw [16, 18] (fun nv iv wr => ∃ (i : Nat) (na : Option Addr) (nl nc : Nat), nv = .slice na nl nc ∧ iv = .int .i64 (i : Int) ∧ i ≤ ML ∧ nl ≤ 16384 ∧ Hid (∃ Li, Li.length = nl ∧ Sgs wr (.slice na nl nc) Li ∧ Sti k' most N (lays [] S) ms i Li ∧ Kp Nu w3 wr)) (fun _ iv _ => ML - (intOf iv).toNat)
  case atStart =>
    obtain ⟨h1, h2, h3, h4⟩ := HR.out
    have hl := h1.slice
    obtain ⟨ya, yc, hl⟩ := hl
    simp only [Value.slice.injEq] at hl
    exact ⟨0, ra, RL, rc, rfl, rfl, Nat.zero_le _, by omega, hide ⟨R, by omega, h1, by rw [h3]; exact HE.out.1, Kp.refl _ _⟩⟩
  case round =>
    obtain ⟨i, na, nl, nc, rfl, rfl, hi1, hnl, hI⟩ := hrel
    have hi0 : (0 : Int) ≤ (i : Int) := by omega
    have hnlI : (nl : Int) ≤ 16384 := by omega
    by_cases hlt : i < ML
    · have hltI : (i : Int) < (ML : Int) := by omega
      have eti : (i : Int).toNat = i := by omega
      obtain ⟨Li, hLl, hLs, hSt, hkr⟩ := hI.out
      obtain ⟨hS0, hk2, hmv, hmsl'⟩ := HE.out
      have hk'r := HA.out.2.2.2.2.1
      have hris := HA.out.2.2.2.2.2.2.2.1
      obtain ⟨m, hm⟩ : ∃ m, ms[i]? = some m := ⟨_, List.getElem?_eq_getElem (by rw [HML.out]; exact hlt)⟩
      obtain ⟨slo, hRd⟩ := hSt.rnd hris hk'r hm1 hm
      have hTL := hSt.tab
      obtain ⟨bm, om, eva, hat⟩ := (hmv.nu (HR.out.2.1.andNu hkr)).at_ hm
      have hmb := hat.fit
      obtain ⟨wt, hwt⟩ : ∃ wt, wr.alloc (.cells #[.int .i64 0, .slice na nl nc] 35) = wt := ⟨_, rfl⟩
      have kT : Kp Nu wr wt := by rw [← hwt]; exact Kp.alloc _ _ _
      have bT : wt.heap[wr.heap.size]? = some (.cells #[.int .i64 0, .slice na nl nc] 35 (0, 0)) := by rw [← hwt]; exact heap_alloc_new wr _
      have hLt : Sgs wt (.slice na nl nc) Li := hLs.nu kT
      have hLl2 : Li.length ≤ 16384 := by omega
      have SG := fun Z' (q : Kp Nu wt Z') => (segAt73 Z' _ Li 0 (hLt.nu q) hTL (by omega) m.hi (by have := hRd.l0; have := hRd.lh; omega) hRd.h1 _ hRd.seg).mono (fun e w' r => (by
        obtain ⟨e1, e2⟩ := r
        exact ⟨_, e1, rfl, q.andNu e2, e2⟩ : ∃ v, e = .returned v ∧ v = .agg #[.int .u64 slo, .int .u64 m.hi, .int .u8 m.f] ∧ Kp Nu wt w' ∧ Kp Nu Z' w'))
      have hatT := hat.nu kT
      obtain ⟨tt0, tt1⟩ := cell2' bT
      have kal := Kp.alloc wt (.cells #[.int .u64 0, .int .u64 0, .int .u8 0] 38) Nu
      have m3 := hatT.c3
      have m3' := (hatT.nu kal).c3
      have tt2 := cell_nu tt0 kal
      have tt3 := cell_nu tt1 kal
      have NUH := hide NU
      have HW := hide (And.intro kT (And.intro hatT (And.intro hLt (And.intro hTL (And.intro hRd (And.intro hkr (And.intro hLl hmb)))))))
      subst eva
      clear NU
      clear kal hLs hSt hkr hS0 hk2 hmv hmsl' hk'r hris hm hat hTL kT bT hLt hLl2 hRd hatT hI hLl hmb
      go_wp2_with fail
      clear hwt
      go_region_law (first | (refine step_callL (by rfl) 11 #[.agg #[.int .i64 0, .slice na nl nc], .int .u64 m.hi] (by go_simp; first | done | (with_reducible rfl)) _ (SG _ (by first | exact (Kp.refl _ _).drew | exact (Kp.refl _ _).drew.andAlloc _ | exact ((Kp.refl _ _).andAlloc _).drew)) ?_; rintro v6 w6 ⟨rfl, hk6, hkz6⟩; (try (have bY6 : w6.heap[wt.heap.size]? = some (.cells #[.int .u64 0, .int .u64 0, .int .u8 0] 38 (0, 0)) := box2 (b := wt.heap.size) (c := #[.int .u64 0, .int .u64 0, .int .u8 0]) (ty := 38) (by exact heap_alloc_new wt (.cells #[.int .u64 0, .int .u64 0, .int .u8 0] 38)) hkz6; obtain ⟨yy0, yy1, yy2⟩ := cell3 bY6; have ff0 := free3 bY6 0; have ff1 := free3 bY6 1; have ff2 := free3 bY6 2))))
      all_goals
        first
        | refine three_set hk6 (Nat.le_refl _) bY6 (.int .u64 slo) (.int .u64 m.hi) (.int .u8 m.f) ?_
        | refine three_new hk6 (.int .u64 slo) (.int .u64 m.hi) (.int .u8 m.f) ?_
        intro w8 e8 k8 b8
        (try clear yy0 yy1 yy2 ff0 ff1 ff2 bY6)
        have LK := lookup48 w8 (.slice na nl nc) Li 0 (HW.out.2.2.1.nu k8) HW.out.2.2.2.1.cov (by have := HW.out.2.2.2.2.2.2.1; omega) key hky.1 hky.2
        have u0 := cell_nu tt0 k8
        have u1 := cell_nu tt1 k8
        have H8 := hide (And.intro k8 b8)
        clear SG tt0 tt1 tt2 tt3 m3 m3' hk6 hkz6 k8 b8
        have NU := NUH.out
        go_wp2_with fail
        refine LK.mono ?_; rintro e w9 ⟨rfl, hk9⟩
        have b9 := box2 H8.out.2 hk9
        obtain ⟨z0, z1, z2⟩ := cell3 b9
        have k9 : Kp Nu wt w9 := H8.out.1.andNu hk9
        obtain ⟨m0, m1, m2, m3, m4, _⟩ := HW.out.2.1.nu k9
        have H9 := hide k9
        clear LK hk9 b9 k9 u0 u1 e8
        have e0 : (m.f != m.f) = false := by simp
        have e1 : (m.hi != m.hi) = false := by simp
        have e2 : decide (m.lo < slo) = false := by simpa using HW.out.2.2.2.2.1.lo
        have e3 : decide (m.lo > m.hi) = false := by simpa using HW.out.2.2.2.2.1.lh
        have e4 : (m.f == m.t) = false := by simpa using HW.out.2.2.2.2.1.ne
        have hle : m.lo ≤ m.hi := HW.out.2.2.2.2.1.lh
        have hsl : slo ≤ m.lo := HW.out.2.2.2.2.1.lo
        go_wp2_with fail
        go_quiet (fail)
        have kW : Kp Nu w9 (w9.drewN nq) := kp_dn w9 nq
        obtain ⟨wq, hW⟩ : ∃ W, w9.drewN nq = W := ⟨_, rfl⟩
        rw [hW] at kW ⊢
        clear m0 m1 m2 m3 m4 z0 z1 z2 hW
        obtain ⟨m0, m1, m2, m3, m4, _⟩ := HW.out.2.1.nu (H9.out.andNu kW)
        have H9q := hide (H9.out.andNu kW)
        clear kW H9
        by_cases q8 : (nl : Int) > 8192
        · have d8 : decide ((nl : Int) > 8192) = true := by simpa using q8
          go_wp2
          go_ret
          exact ⟨rfl, (((H1.out.andNu HE.out.2.1).andNu HR.out.2.1).andNu HW.out.2.2.2.2.2.1).andNu (HW.out.1.andNu H9q.out)⟩
        · have d8 : decide ((nl : Int) > 8192) = false := by simpa using q8
          obtain ⟨wb, hwb⟩ : ∃ wb, wq.alloc (.cells #[.int .u8 m.f, .int .u8 m.t, .int .u64 m.lo, .int .u64 m.hi, .int .i64 m.n] 41) = wb := ⟨_, rfl⟩
          have kb : Kp Nu wq wb := by rw [← hwb]; exact Kp.alloc _ _ _
          have bb : wb.heap[wq.heap.size]? = some (.cells #[.int .u8 m.f, .int .u8 m.t, .int .u64 m.lo, .int .u64 m.hi, .int .i64 m.n] 41 (0, 0)) := by rw [← hwb]; exact heap_alloc_new wq _
          obtain ⟨kT, hatT, hLt, hTL, hRd, hkr, hLl, hmb⟩ := HW.out
          have PL := play15 wb (.slice na nl nc) (.slice (some ⟨wq.heap.size, 0, none⟩) 1 1) Li [m] ((hLt.nu H9q.out).nu kb) (by omega) (mvs_one hmb bb 1) (by simp)
          have HB := hide kb
          clear kb bb kT hatT hLt hTL hRd hkr hLl hmb
          go_wp2_with fail
          refine PL.mono ?_; rintro e w10 ⟨v, c, rfl, hP, hk10⟩
          obtain ⟨kT, hatT, hLt, hTL, hRd, hkr, hLl, hmb⟩ := HW.out
          have hP2 : c = 0 ∧ ∃ A, A = asg Li m.lo m.hi m.t ∧ A.length ≤ 16384 ∧ w10.ownsRow wb.heap.size 38 3 v A.length (cells A) := by
            rcases hP with ⟨h, _⟩ | ⟨_, h, _⟩ | ⟨_, h0, R', h1, h2, h3⟩
            · exact absurd (tab_ldd hTL (by omega)) h
            · rw [hRd.pl] at h; cases h
            · rw [hRd.pl] at h1; cases h1; exact ⟨h0, _, rfl, h2, h3⟩
          obtain ⟨rfl, A, eA, hAl, hAo⟩ := hP2
          have hTA : Tab A := by rw [eA]; exact hRd.st.tab
          have hAs : Sgs w10 v A := Sgs.of_own hAo hTA.sgb
          obtain ⟨xa, xc, ex⟩ := own_slice hAo
          obtain ⟨XL, eXL⟩ : ∃ XL, A.length = XL := ⟨_, rfl⟩
          have LK2 := lookup48 w10 v A 0 hAs hTA.cov (by omega) key hky.1 hky.2
          have howA : ow A key = if m.lo ≤ key ∧ key ≤ m.hi then m.t else ow Li key := by rw [eA]; exact hRd.ow key hky.1 hky.2
          obtain ⟨p, ep⟩ : ∃ p, ow Li key = p := ⟨_, rfl⟩
          have hStA : Sti k' most N (lays [] S) ms (i + 1) A := by rw [eA]; exact hRd.st
          have k10 : Kp Nu wt w10 := (H9q.out.andNu HB.out).andNu hk10
          have HX := hide (And.intro hAs (And.intro hStA (And.intro k10 (And.intro eXL hAl))))
          rw [eXL] at ex hAl
          subst ex
          rw [ep] at howA
          have HO := hide (And.intro howA ep)
          obtain ⟨p', ep'⟩ : ∃ p', ow A key = p' := ⟨_, rfl⟩
          rw [ep'] at LK2 howA
          clear PL hP hk10 kT hatT hLt hTL hRd hkr hLl hmb eA hTA hAs hAo eXL hStA k10 m0 m1 m2 m3 m4 hwb
          rw [ep]
          go_wp2_with (first | (go_at_call 10; refine (NU _).mono ?_; rintro e w' ⟨rfl, hw'⟩; obtain rfl := hw'.symm))
          refine LK2.mono ?_; rintro e w11 ⟨rfl, hk11⟩
          obtain ⟨m0, m1, m2, m3, m4, _⟩ := (HW.out.2.1.nu HX.out.2.2.1).nu hk11
          have H11 := hide hk11
          clear LK2 hk11 ep ep'
          have fin : ∀ _ : True, ∃ (i_1 : Nat) (na : Option Addr) (nl nc : Nat), Value.slice xa XL xc = .slice na nl nc ∧ Value.int .i64 ((i : Int) + 1) = .int .i64 (i_1 : Int) ∧ i_1 ≤ ML ∧ nl ≤ 16384 ∧ Hid (∃ Li, Li.length = nl ∧ Sgs w11 (.slice na nl nc) Li ∧ Sti k' most N (lays [] S) ms i_1 Li ∧ Kp Nu w3 w11) := fun _ =>
            ⟨i + 1, xa, XL, xc, rfl, by go_num, by omega, by omega, hide ⟨A, HX.out.2.2.2.1, HX.out.1.nu H11.out, HX.out.2.1, (HW.out.2.2.2.2.2.1.andNu HW.out.1).andNu (HX.out.2.2.1.andNu H11.out)⟩⟩
          have FIN := hide fin
          clear fin
          by_cases g1 : key ≥ m.lo
          · have dg1 : decide (key ≥ m.lo) = true := by simpa using g1
            by_cases g2 : key ≤ m.hi
            · have dg2 : decide (key ≤ m.hi) = true := by simpa using g2
              rw [if_pos ⟨g1, g2⟩] at howA
              have en : (p' != m.t) = false := by simp [howA]
              go_wp2
              exact ⟨FIN.out trivial, by simp [intOf]; omega⟩
            · have dg2 : decide (key ≤ m.hi) = false := by simpa using g2
              rw [if_neg (by omega)] at howA
              subst howA
              have en : (p' != p') = false := by simp
              go_wp2
              exact ⟨FIN.out trivial, by simp [intOf]; omega⟩
          · have dg1 : decide (key ≥ m.lo) = false := by simpa using g1
            rw [if_neg (by omega)] at howA
            subst howA
            have en : (p' != p') = false := by simp
            go_wp2
            exact ⟨FIN.out trivial, by simp [intOf]; omega⟩
    · have hltI : ¬ (i : Int) < (ML : Int) := by omega
      obtain ⟨Li, hLl, hLs, hSt, hkr⟩ := hI.out
      obtain ⟨hS0, hk2, hmv, hmsl⟩ := HE.out
      obtain ⟨hSgs, hUs, hgS, hbS, hk'r, hLB, hSl, hris, hnk, hml⟩ := HA.out
      have kA := (hk2.andNu HR.out.2.1).andNu hkr
      have PL := play15 wr _ _ S ms (hSgs.nu kA) (by omega) (hmv.nu (HR.out.2.1.andNu hkr)) hmsl
      have hEnd := hSt.at_end (by have := HML.out; omega)
      have HF := hide (And.intro hLs (And.intro hEnd (And.intro kA (And.intro hLB (And.intro hSt.tab hLl)))))
      clear hLs hSt hkr hS0 hk2 hmv hmsl hSgs hUs hgS hbS hk'r hLB hSl hris hnk hml hI hLl kA hEnd
      go_wp2_with fail
      refine PL.mono ?_; rintro e w4 ⟨v, c, rfl, hP, hk4'⟩
      obtain ⟨hLs, hEnd, kA, hLB, hTL, hLl⟩ := HF.out
      have hP2 : c = 0 ∧ w4.ownsRow wr.heap.size 38 3 v Li.length (cells Li) := by
        rcases hP with ⟨h, _⟩ | ⟨_, h, _⟩ | ⟨_, h0, R', h1, h2, h3⟩
        · exact absurd hLB.1 h
        · rw [hEnd] at h; cases h
        · rw [hEnd] at h1; cases h1; exact ⟨h0, h3⟩
      obtain ⟨rfl, hvo⟩ := hP2
      have hvs : Sgs w4 v Li := Sgs.of_own hvo hTL.sgb
      have SS := sameSegments17 w4 _ _ Li hvs (hLs.nu hk4') (by omega)
      have H4 := hide (kA.andNu hk4')
      obtain ⟨xa, xc, ex⟩ := own_slice hvo
      subst ex
      clear PL hP hLs hEnd kA hLB hTL hvo hvs hk4' hLl
      go_wp2_with fail
      refine SS.mono ?_; rintro e w5 ⟨rfl, hk5⟩
      have H5 := hide (H4.out.andNu hk5)
      clear SS hk5
      go_wp2_with (first | (go_at_call 10; refine (NU _).mono ?_; rintro e w' ⟨rfl, hw'⟩; obtain rfl := hw'.symm))
      go_ret
      exact ⟨rfl, H1.out.andNu H5.out⟩
end Go.Proofs.YtbifmcadllilhaaGreat.Rg
