import Derived.Test.YtbifmcadllilhaaGreatItA
import Derived.Test.YtbifmcadllilhaaGreatStJ
import Derived.Test.YtbifmcadllilhaaGreatEvC
namespace Go.Proofs.YtbifmcadllilhaaGreat.Rg
open Go.RowKit Go.Shelf Go.Sort
open Go.Proofs.YtbifmcadllilhaaGreat.It
set_option linter.unusedVariables false
theorem ow_lays {S : List Sg} (h : Good S) {x : Int} (h0 : 0 ≤ x) (h1 : x < 18446744073709551616) : ow (lays [] S) x = ow S x := by
  have lc := lays_cov (A := []) (a := 0) (m := 0) rfl h.cov
  rw [lc.2 x h0 h1, if_neg (by omega)]
theorem mx_exists : ∀ {o : List Int}, 0 < o.length → ∃ m, Pn.isMx o m
  | [x], _ => ⟨x, by simp, fun y hy => by simp at hy; omega⟩
  | x :: y :: o, _ => by
    obtain ⟨q, h1, h2⟩ := mx_exists (o := y :: o) (by simp)
    by_cases c : q ≤ x
    · exact ⟨x, by simp, fun z hz => by
        rcases List.mem_cons.1 hz with e | e
        · omega
        · have := h2 z e; omega⟩
    · exact ⟨q, List.mem_cons_of_mem _ h1, fun z hz => by
        rcases List.mem_cons.1 hz with e | e
        · omega
        · exact h2 z e⟩
/-- what the moves do to the loads -/
structure Sll (k : List Int) (N : Nat) (S : List Sg) (ms : List Mv) (R : List Sg) (o o' : List Int) : Prop where
  eo : Pn.lds N (k.map (ow S)) = o
  eo' : Pn.lds N (k.map (ow R)) = o'
  nil : (∀ x ∈ o, ∀ y ∈ o, x - y ≤ 1) ↔ ms = []
  ev : EvR k N (lays [] S) ms R
  near : ∀ x ∈ o', ∀ y ∈ o', x - y ≤ 1
  sum : o'.sum = o.sum
  le : ∀ m, Pn.isMx o m → ∀ x ∈ o', x ≤ m
  mb : Pn.MBL o
  mb' : Pn.MBL o'
  len : o.length = N
  len' : o'.length = N
  b : ∀ x ∈ o, 0 ≤ x ∧ x ≤ 4096
  b' : ∀ x ∈ o', 0 ≤ x ∧ x ≤ 4096
theorem sll_of {S : List Sg} {k : List Int} {most : Int} {N : Nat} {ms : List Mv} {σ : Sig} (hS : Good S) (hb : ∀ s ∈ S, 0 ≤ s.h ∧ s.h < (N : Int)) (n1 : 1 ≤ N) (n16 : N ≤ 16) (hr : Ris k) (hk : ∀ x ∈ k, 0 ≤ x ∧ x < 18446744073709551616) (hkl : k.length ≤ 4096) (hm : 1 ≤ most) (hst : Stps k most (sg0 N (lays [] S) k) ms σ) (hf : Fin σ) : ∃ R o o', Sll k N S ms R o o' := by
  obtain ⟨R, hE⟩ := ev_of hS hb n1 n16 hr hk hm hst hf
  have eS : k.map (ow (lays [] S)) = k.map (ow S) := List.map_congr_left (fun x hx => ow_lays hS (hk x hx).1 (hk x hx).2)
  have bd : ∀ os : List Int, os.length ≤ 4096 → ∀ x ∈ Pn.lds N os, 0 ≤ x ∧ x ≤ 4096 := fun os hos x hx => by
    obtain ⟨q, _, rfl⟩ := List.mem_map.1 hx
    have := Pn.cnt_le os q
    omega
  have b1 := bd (k.map (ow S)) (by rw [List.length_map]; exact hkl)
  have b2 := bd (k.map (ow R)) (by rw [List.length_map]; exact hkl)
  have l1 : (Pn.lds N (k.map (ow S))).length = N := Pn.lds_len _ _
  have l2 : (Pn.lds N (k.map (ow R))).length = N := Pn.lds_len _ _
  have ld := hE.ld
  have near : ∀ x ∈ Pn.lds N (k.map (ow R)), ∀ y ∈ Pn.lds N (k.map (ow R)), x - y ≤ 1 := fun x hx y hy => by
    obtain ⟨q, hq, rfl⟩ := List.mem_map.1 hx
    obtain ⟨q', hq', rfl⟩ := List.mem_map.1 hy
    rw [hE.ld q (List.mem_range.1 hq), hE.ld q' (List.mem_range.1 hq')]
    exact tgt_near _ _ _
  have hsum : (Pn.lds N (k.map (ow R))).sum = (Pn.lds N (k.map (ow S))).sum := by
    rw [hE.sum]
    have := cnt_sum_eq N (k.map (ow S)) (fun x hx => by
      obtain ⟨y, hy, rfl⟩ := List.mem_map.1 hx
      have h := hk y hy
      obtain ⟨s, e1, _, _, e2, _⟩ := plc_facts hS.cov h.1 h.2
      rw [← e2]
      exact hb s (List.mem_of_getElem? e1))
    rw [List.length_map] at this
    exact this.symm
  refine ⟨R, _, _, rfl, rfl, ⟨fun h => ?_, fun h => ?_⟩, hE, near, hsum, fun m hmx x hx => ?_, ⟨by omega, by omega, fun x hx => by have := b1 x hx; omega⟩, ⟨by omega, by omega, fun x hx => by have := b2 x hx; omega⟩, l1, l2, b1, b2⟩
  · refine still_nil n1 hst hf ?_
    rw [eS]; exact h
  · subst h
    have e := hE.pl
    cases e
    rw [eS] at near
    exact near
  · obtain ⟨q, hq, rfl⟩ := List.mem_map.1 hx
    rw [hE.ld q (List.mem_range.1 hq), eS]
    exact Pn.tgt_le_mx (by omega) hmx.2 (Pn.sum_le_mx hmx.2) q
set_option maxRecDepth 100000 in
set_option maxHeartbeats 4000000 in
theorem still_walk (w : World) (n : Int) (ad : Option Addr) (cap : Nat) (M : List Sg) (a1 : Option Addr) (c1 : Nat) (ks : List Int) (most : Int) (hM : Sgs w (.slice ad M.length cap) M) (hnM : ad = none → cap = 0) (hlen : (M.length : Int) ≤ 5864062014634) (hk : Us w (.slice a1 ks.length c1) ks) (hnk : a1 = none → c1 = 0) (hkl : ks.length * 8 ≤ 140737488351232) (hkr : ∀ x ∈ ks, 0 ≤ x ∧ x < 18446744073709551616) :
    Calls Tryz.prog 4 #[.int .i64 n, .slice ad M.length cap, .slice a1 ks.length c1, .int .i64 most] w fun e w' => e = .returned (.bool true) ∧ Kp Nu w w' := by
  have mixed : Tryz.prog.follows .mixedOrders = true := by kernel_rfl
  have TA := tamed22 w n _ _ M ks hM hlen hk hkl hkr
  have HK := hide hkr
  clear hM hnM hlen hk hnk hkl hkr
  go_enter Tryz.func4, Tryz.ntmps4
  go_wp2_with fail
  refine TA.mono ?_; rintro e w1 ⟨hT, hk1⟩
  rcases hT with ⟨v1, v2, rfl⟩ | ⟨⟨hn, hgood, hml, hkl⟩, N, sv, kv, k', rfl, rfl, hs, hkv, hris, hmem, hk'l⟩
  · have H1 := hide hk1
    clear TA hk1
    go_wp2
    go_ret
    exact ⟨rfl, H1.out⟩
  have H1 := hide hk1
  by_cases q2 : most < 1
  · have d2 : decide (most < 1) = true := by simpa using q2
    clear TA hk1 hn hgood hml hkl hs hkv hris hmem hk'l q2
    go_wp2
    go_ret
    exact ⟨rfl, H1.out⟩
  have d2 : decide (most < 1) = false := by simpa using q2
  by_cases q3 : most > 32
  · have d3 : decide (most > 32) = true := by simpa using q3
    clear TA hk1 hn hgood hml hkl hs hkv hris hmem hk'l q2 q3
    go_wp2
    go_ret
    exact ⟨rfl, H1.out⟩
  have d3 : decide (most > 32) = false := by simpa using q3
  have hN1 : 1 ≤ N := by omega
  have hN16 : N ≤ 16 := by omega
  have hk4 : k'.length ≤ 4096 := by omega
  obtain ⟨hgS, hbS⟩ := good_tmd hgood hN1 hN16
  obtain ⟨S, eS⟩ : ∃ S, M.map (tmd N) = S := ⟨_, rfl⟩
  have hSl : S.length = M.length := by rw [← eS, List.length_map]
  rw [eS] at hgS hbS hs
  have hk'r : ∀ x ∈ k', 0 ≤ x ∧ x < 18446744073709551616 := fun x hx => HK.out x (hmem x hx)
  have hLB : LayB (N : Int) S k' := by rw [← eS]; exact layB_tmd hgood hN1 hN16 hml hris
  have hSgs : Sgs w1 sv S := by
    refine Sgs.of_own (B := w.heap.size) (by rw [hSl]; exact hs) (fun s hs' => ?_)
    have h1 := cov_mem hgS.cov s hs'
    have h2 := hgS.hs s hs'
    exact ⟨by omega, by omega, by omega, by omega, h2.1, by omega⟩
  have hUs : Us w1 kv k' := Us.of_own hkv
  obtain ⟨sa, sc, esv⟩ := own_slice hs
  obtain ⟨ka, kc, ekv⟩ := own_slice hkv
  have hnk : ∀ m c, kv = .slice none m c → c = 0 := fun m c e => by
    rcases hkv.2 with ⟨e2, _⟩ | ⟨g, cp, cur, e2, _⟩
    · rw [e2] at e; cases e; rfl
    · rw [e2] at e; cases e
  have CO := counted23 w1 N sv kv S k' hSgs hgS.cov hbS (by omega) hUs hk'r hk4 hN16
  have HA := hide (And.intro hSgs (And.intro hUs (And.intro hgS (And.intro hbS (And.intro hk'r (And.intro hLB (And.intro hSl (And.intro hris (And.intro hnk hml)))))))))
  obtain ⟨KL, eKL⟩ : ∃ KL, k'.length = KL := ⟨_, rfl⟩
  obtain ⟨SL, eSL⟩ : ∃ SL, M.length = SL := ⟨_, rfl⟩
  rw [eKL] at ekv hk4
  rw [eSL] at esv
  subst esv
  subst ekv
  have HKL := hide (And.intro eKL eSL)
  have hNI1 : (1 : Int) ≤ (N : Int) := by omega
  have hNI : (N : Int) ≤ 16 := by omega
  have hm1 : 1 ≤ most := by omega
  have hm32 : most ≤ 32 := by omega
  have hKI : (KL : Int) ≤ 4096 := by omega
  clear TA hk1 hn hgood hml hkl hs hkv hris hmem hk'l q2 q3 hgS hbS eS hSl hk'r hLB hSgs hUs hnk eKL eSL
  go_wp2_with fail
  refine CO.mono ?_; rintro e w2 ⟨bb, rfl, ho2, hk2⟩
  obtain ⟨hSgs, hUs, hgS, hbS, hk'r, hLB, hSl, hris, hnk, hml⟩ := HA.out
  have MO := moves24 w2 (N : Int) most _ _ S k' (hSgs.nu hk2) (by omega) (hUs.nu hk2) (by have := HKL.out.1; omega) hk'r hnk
  have H2 := hide (And.intro ho2 hk2)
  clear CO ho2 hk2 hSgs hUs hgS hbS hk'r hLB hSl hris hnk hml
  go_wp2_with fail
  refine MO.mono ?_; rintro e w3 ⟨v, c, rfl, hMo, hk3⟩
  have hMo2 : c = 0 ∧ ∃ ms σ, Stps k' most (sg0 N (lays [] S) k') ms σ ∧ Fin σ ∧ Mvs w3 v ms ∧ ms.length ≤ 4096 := by
    rcases hMo with ⟨h, _⟩ | ⟨_, h, _⟩ | ⟨_, _, e, N', eN', ms, σ, h1, h2, h3, h4⟩
    · exact absurd ⟨⟨hNI1, by omega⟩, hm1, hm32⟩ h
    · exact absurd HA.out.2.2.2.2.2.1 h
    · have e3 : N = N' := by omega
      subst e3
      exact ⟨e, ms, σ, h1, h2, h3, h4⟩
  obtain ⟨rfl, ms, σ, hst, hfin, hmv, hms4⟩ := hMo2
  obtain ⟨R, o, o', hL⟩ := sll_of HA.out.2.2.1 HA.out.2.2.2.1 hN1 hN16 HA.out.2.2.2.2.2.2.2.1 HA.out.2.2.2.2.1 (by have := HKL.out.1; omega) hm1 hst hfin
  have hNs3 : Pn.Ns w3 (.slice (some ⟨bb, 0, none⟩) N N) o := by
    have h := H2.out.1
    rw [hL.eo] at h
    exact (Pn.Ns.of_own (B := w1.heap.size) (by rw [hL.len]; exact h)).nu hk3.toPn
  have SK := Pn.skew15 w3 _ o hNs3 (by have := hL.len; omega)
  have SP := spread16 w3 _ o hNs3 (by have := hL.len; omega) (by have := hL.len; omega) hL.b
  obtain ⟨va, vc, ev, hdm⟩ := id hmv
  clear hdm
  obtain ⟨ML, eML⟩ : ∃ ML, ms.length = ML := ⟨_, rfl⟩
  rw [eML] at ev hms4
  subst ev
  have H3 := hide (And.intro hmv (And.intro hL (And.intro hk3 eML)))
  have hMLI : (ML : Int) ≤ 4096 := by omega
  have NU := fun W => Pn.num12 W 0
  clear MO hMo hk3 hst hfin hmv hL eML hNs3
  go_wp2_with fail
  refine SK.mono ?_; rintro e w' ⟨hSk, hw⟩
  obtain rfl := hw.symm
  obtain ⟨x, rfl, hSv⟩ := hSk.val H3.out.2.1.mb
  have HX := hide hSv
  have hlt2 : ¬ FloatKind.f64.format.order x 4607182418800017408 = some Ordering.lt := fun e => by
    rcases Pn.order_two (x := x) (y := 4607182418800017408) (by have := hSv.bd; omega) hSv.bd.2 (by omega) (by omega) hSv.bd.1 with h | h
    · rw [show FloatKind.f64.format = Ieee.double from rfl, h] at e; cases e
    · rw [show FloatKind.f64.format = Ieee.double from rfl, h] at e; cases e
  have hlt : (FloatKind.f64.format.order x 4607182418800017408 == some Ordering.lt) = false := by simpa using hlt2
  clear SK hSk hSv
  go_wp2_with fail
  refine SP.mono ?_; rintro e w5 ⟨lo, hi, rfl, hSp, hk5⟩
  have H5 := hide hk5
  have hb2 : decide (hi - lo ≤ 1) = ((ML : Int) == 0) := by
    have hL := H3.out.2.1
    have eML := H3.out.2.2.2
    by_cases q : hi - lo ≤ 1
    · have : ms = [] := hL.nil.1 (fun x hx y hy => by have a := hSp.all x hx; have b := hSp.all y hy; omega)
      subst this
      have : ML = 0 := by simpa using eML.symm
      subst this
      simpa using q
    · have : ¬ ML = 0 := fun e => q (by
        have : ms = [] := List.eq_nil_of_length_eq_zero (by omega)
        exact hL.nil.2 this hi hSp.h lo hSp.l)
      have e1 : decide (hi - lo ≤ 1) = false := by simpa using q
      have e2 : ((ML : Int) == 0) = false := by simpa using (by omega : ¬ (ML : Int) = 0)
      rw [e1, e2]
  have PL := play15 w5 _ _ S ms (((HA.out.1.nu H2.out.2).nu H3.out.2.2.1).nu hk5) (by have := HA.out.2.2.2.2.2.2.1; have := HA.out.2.2.2.2.2.2.2.2.2; omega) (H3.out.1.nu hk5) (by have := H3.out.2.2.2; omega)
  clear SP hSp hk5
  obtain ⟨B, hB⟩ : ∃ B : Bool, ((ML : Int) == 0) = B := ⟨_, rfl⟩
  rw [hB] at hb2
  cases B
  all_goals
    go_wp2_with (first | (go_at_call 10; refine (NU _).mono ?_; rintro e w' ⟨rfl, hw'⟩; obtain rfl := hw'.symm))
    clear hb2 hlt hlt2 hB
    refine PL.mono ?_; rintro e w6 ⟨v, c, rfl, hP, hk6⟩
    have hP2 : c = 0 ∧ R.length ≤ 16384 ∧ w6.ownsRow w5.heap.size 38 3 v R.length (cells R) := by
      obtain ⟨_, _, _, _, _, hLB, _⟩ := HA.out
      have hE := H3.out.2.1.ev
      rcases hP with ⟨h, _⟩ | ⟨_, h, _⟩ | ⟨_, h0, R', h1, h2, h3⟩
      · exact absurd hLB.1 h
      · rw [hE.pl] at h; cases h
      · rw [hE.pl] at h1; cases h1; exact ⟨h0, h2, h3⟩
    obtain ⟨rfl, hRl, hRo⟩ := hP2
    have hRne := H3.out.2.1.ev.tab.ne
    obtain ⟨ra, rc, er⟩ := own_slice hRo
    obtain ⟨RL, eRL⟩ : ∃ RL, R.length = RL := ⟨_, rfl⟩
    have HR := hide (And.intro hRo (And.intro hk6 eRL))
    rw [eRL] at er hRl hRne
    subst er
    have hR0 : (0 : Int) < (RL : Int) := by omega
    have hR1 : ((RL : Int) == 0) = false := by simpa using (by omega : ¬ RL = 0)
    clear PL hP hRo hk6 eRL
    by_cases q4 : (RL : Int) > 4096
    · have d4 : decide ((RL : Int) > 4096) = true := by simpa using q4
      clear q4
      go_wp2_with (first | (go_at_call 10; refine (NU _).mono ?_; rintro e w' ⟨rfl, hw'⟩; obtain rfl := hw'.symm))
      go_ret
      exact ⟨rfl, (((H1.out.andNu H2.out.2).andNu H3.out.2.2.1).andNu H5.out).andNu HR.out.2.1⟩
    have d4 : decide ((RL : Int) > 4096) = false := by simpa using q4
    have hRl4 : RL ≤ 4096 := by omega
    clear q4
    go_wp2_with (first | (go_at_call 10; refine (NU _).mono ?_; rintro e w' ⟨rfl, hw'⟩; obtain rfl := hw'.symm))
    obtain ⟨hSgs, hUs, hgS, hbS, hk'r, hLB, hSl, hris, hnk, hml⟩ := HA.out
    obtain ⟨hmv, hL, hk3, eML⟩ := H3.out
    obtain ⟨hRo, hk6, eRL⟩ := HR.out
    have hRs : Sgs w6 (.slice ra RL rc) R := Sgs.of_own (B := w5.heap.size) (by rw [eRL]; rw [eRL] at hRo; exact hRo) hL.ev.tab.sgb
    have kA := ((H2.out.2.andNu hk3).andNu H5.out).andNu hk6
    have hU6 := hUs.nu kA
    have CO := counted23 w6 N _ _ R k' hRs hL.ev.tab.cov hL.ev.hs (by omega) hU6 hk'r (by have := HKL.out.1; omega) hN16
    rw [hL.eo'] at CO
    have H6 := hide (And.intro hRs (And.intro hU6 kA))
    clear hSgs hUs hgS hbS hk'r hLB hSl hris hnk hml hmv hL hk3 eML hRo hk6 eRL hRs kA hU6
    refine CO.mono ?_; rintro e w7 ⟨b7, rfl, ho7, hk7⟩
    have hL := H3.out.2.1
    have hNs7 : Pn.Ns w7 (.slice (some ⟨b7, 0, none⟩) N N) o' := Pn.Ns.of_own (B := w6.heap.size) (by rw [hL.len']; exact ho7)
    have SK := Pn.skew15 w7 _ o' hNs7 (by have := hL.len'; omega)
    have MO := moves24 w7 (N : Int) most _ _ R k' (H6.out.1.nu hk7) (by have := HR.out.2.2; omega) (H6.out.2.1.nu hk7) (by have := HKL.out.1; omega) HA.out.2.2.2.2.1 HA.out.2.2.2.2.2.2.2.2.1
    have H7 := hide hk7
    clear CO ho7 hk7 hL hNs7
    go_wp2_with fail
    refine SK.mono ?_; rintro e w' ⟨hSk, hw⟩
    obtain rfl := hw.symm
    obtain ⟨y, rfl, hSv⟩ := hSk.val H3.out.2.1.mb'
    have hyx : y ≤ x := by
      have hL := H3.out.2.1
      obtain ⟨m, hm⟩ := mx_exists (o := o) (by have := hL.len; omega)
      obtain ⟨m', hm'⟩ := mx_exists (o := o') (by have := hL.len'; omega)
      exact HX.out.mono hSv hL.sum (by rw [hL.len, hL.len']) hm hm' (hL.le m hm m' hm'.1)
    have HG := hide (Pn.order_two (x := y) (y := 4607182418800017408) (by have := hSv.bd; omega) hSv.bd.2 (by omega) (by omega) hSv.bd.1)
    have HLe := hide (Pn.order_word (x := y) (y := x) hyx (by have := hSv.bd; omega) HX.out.bd.2)
    clear SK hSk hSv hyx
    go_wp2_with fail
    refine MO.mono ?_; rintro e w8 ⟨v, c, rfl, hMo, hk8⟩
    have hMo2 : c = 0 ∧ Mvs w8 v [] := by
      have hL := H3.out.2.1
      have hLR : LayB (N : Int) R k' := tab_layB hL.ev.tab hL.ev.hs (by have := HR.out.2.2; omega) HA.out.2.2.2.2.2.2.2.1
      rcases hMo with ⟨h, _⟩ | ⟨_, h, _⟩ | ⟨_, _, e, N', eN', ms', σ', h1, h2, h3, h4⟩
      · exact absurd ⟨⟨hNI1, by omega⟩, hm1, hm32⟩ h
      · exact absurd hLR h
      · have e3 : N = N' := by omega
        subst e3
        have : ms' = [] := still_nil (S := R) hN1 h1 h2 (by rw [tab_lays hL.ev.tab, hL.eo']; exact hL.near)
        subst this
        exact ⟨e, h3⟩
    obtain ⟨rfl, hmn⟩ := hMo2
    obtain ⟨za, zc, ez, _⟩ := hmn
    simp only [List.length_nil] at ez
    subst ez
    have H8 := hide hk8
    clear MO hMo hk8
    have hge := HG.out
    have hle := HLe.out
    rw [show Ieee.double = FloatKind.f64.format from rfl] at hge hle
    rcases hge with hge | hge <;> rcases hle with hle | hle
    all_goals
     go_wp2_with (first | (go_at_call 10; refine (NU _).mono ?_; rintro e w' ⟨rfl, hw'⟩; obtain rfl := hw'.symm))
     go_ret
     exact ⟨rfl, (H1.out.andNu H6.out.2.2).andNu (H7.out.andNu H8.out)⟩
end Go.Proofs.YtbifmcadllilhaaGreat.Rg
