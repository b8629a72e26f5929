import Derived.Test.YtbifmcadllilhaaGreatStJ
import Derived.Test.YtbifmcadllilhaaGreatEvC
import Derived.Test.YtbifmcadllilhaaGreatOwG
import Derived.Test.YtbifmcadllilhaaGreatStF
import Derived.BigQuiet
namespace Go.Proofs.YtbifmcadllilhaaGreat.Rg
open Go.RowKit Go.Shelf Go.Sort
open Go.Proofs.YtbifmcadllilhaaGreat.It
set_option linter.unusedVariables false
theorem ow_lays {S : List Sg} (h : Good S) {x : Int} (h0 : 0 ≤ x) (h1 : x < 18446744073709551616) : ow (lays [] S) x = ow S x := by
  have lc := lays_cov (A := []) (a := 0) (m := 0) rfl h.cov
  rw [lc.2 x h0 h1, if_neg (by omega)]
theorem mx_exists : ∀ {o : List Int}, 0 < o.length → ∃ m, Pn.isMx o m
  | [x], _ => ⟨x, by simp, fun y hy => by simp at hy; omega⟩
  | x :: y :: o, _ => by
    obtain ⟨q, h1, h2⟩ := mx_exists (o := y :: o) (by simp)
    by_cases c : q ≤ x
    · exact ⟨x, by simp, fun z hz => by
        rcases List.mem_cons.1 hz with e | e
        · omega
        · have := h2 z e; omega⟩
    · exact ⟨q, List.mem_cons_of_mem _ h1, fun z hz => by
        rcases List.mem_cons.1 hz with e | e
        · omega
        · exact h2 z e⟩
/-- what the moves do to the loads -/
structure Sll (k : List Int) (N : Nat) (S : List Sg) (ms : List Mv) (R : List Sg) (o o' : List Int) : Prop where
  eo : Pn.lds N (k.map (ow S)) = o
  eo' : Pn.lds N (k.map (ow R)) = o'
  nil : (∀ x ∈ o, ∀ y ∈ o, x - y ≤ 1) ↔ ms = []
  ev : EvR k N (lays [] S) ms R
  near : ∀ x ∈ o', ∀ y ∈ o', x - y ≤ 1
  sum : o'.sum = o.sum
  le : ∀ m, Pn.isMx o m → ∀ x ∈ o', x ≤ m
  mb : Pn.MBL o
  mb' : Pn.MBL o'
  len : o.length = N
  len' : o'.length = N
  b : ∀ x ∈ o, 0 ≤ x ∧ x ≤ 4096
  b' : ∀ x ∈ o', 0 ≤ x ∧ x ≤ 4096
theorem sll_of {S : List Sg} {k : List Int} {most : Int} {N : Nat} {ms : List Mv} {σ : Sig} (hS : Good S) (hb : ∀ s ∈ S, 0 ≤ s.h ∧ s.h < (N : Int)) (n1 : 1 ≤ N) (n16 : N ≤ 16) (hr : Ris k) (hk : ∀ x ∈ k, 0 ≤ x ∧ x < 18446744073709551616) (hkl : k.length ≤ 4096) (hm : 1 ≤ most) (hst : Stps k most (sg0 N (lays [] S) k) ms σ) (hf : Fin σ) : ∃ R o o', Sll k N S ms R o o' := by
  obtain ⟨R, hE⟩ := ev_of hS hb n1 n16 hr hk hm hst hf
  have eS : k.map (ow (lays [] S)) = k.map (ow S) := List.map_congr_left (fun x hx => ow_lays hS (hk x hx).1 (hk x hx).2)
  have bd : ∀ os : List Int, os.length ≤ 4096 → ∀ x ∈ Pn.lds N os, 0 ≤ x ∧ x ≤ 4096 := fun os hos x hx => by
    obtain ⟨q, _, rfl⟩ := List.mem_map.1 hx
    have := Pn.cnt_le os q
    omega
  have b1 := bd (k.map (ow S)) (by rw [List.length_map]; exact hkl)
  have b2 := bd (k.map (ow R)) (by rw [List.length_map]; exact hkl)
  have l1 : (Pn.lds N (k.map (ow S))).length = N := Pn.lds_len _ _
  have l2 : (Pn.lds N (k.map (ow R))).length = N := Pn.lds_len _ _
  have ld := hE.ld
  have near : ∀ x ∈ Pn.lds N (k.map (ow R)), ∀ y ∈ Pn.lds N (k.map (ow R)), x - y ≤ 1 := fun x hx y hy => by
    obtain ⟨q, hq, rfl⟩ := List.mem_map.1 hx
    obtain ⟨q', hq', rfl⟩ := List.mem_map.1 hy
    rw [hE.ld q (List.mem_range.1 hq), hE.ld q' (List.mem_range.1 hq')]
    exact tgt_near _ _ _
  have hsum : (Pn.lds N (k.map (ow R))).sum = (Pn.lds N (k.map (ow S))).sum := by
    rw [hE.sum]
    have := cnt_sum_eq N (k.map (ow S)) (fun x hx => by
      obtain ⟨y, hy, rfl⟩ := List.mem_map.1 hx
      have h := hk y hy
      obtain ⟨s, e1, _, _, e2, _⟩ := plc_facts hS.cov h.1 h.2
      rw [← e2]
      exact hb s (List.mem_of_getElem? e1))
    rw [List.length_map] at this
    exact this.symm
  refine ⟨R, _, _, rfl, rfl, ⟨fun h => ?_, fun h => ?_⟩, hE, near, hsum, fun m hmx x hx => ?_, ⟨by omega, by omega, fun x hx => by have := b1 x hx; omega⟩, ⟨by omega, by omega, fun x hx => by have := b2 x hx; omega⟩, l1, l2, b1, b2⟩
  · refine still_nil n1 hst hf ?_
    rw [eS]; exact h
  · subst h
    have e := hE.pl
    cases e
    rw [eS] at near
    exact near
  · obtain ⟨q, hq, rfl⟩ := List.mem_map.1 hx
    rw [hE.ld q (List.mem_range.1 hq), eS]
    exact Pn.tgt_le_mx (by omega) hmx.2 (Pn.sum_le_mx hmx.2) q
set_option maxRecDepth 100000 in
set_option maxHeartbeats 4000000 in
theorem still_walk (w : World) (n : Int) (ad : Option Addr) (cap : Nat) (M : List Sg) (a1 : Option Addr) (c1 : Nat) (ks : List Int) (most : Int) (hM : Sgs w (.slice ad M.length cap) M) (hnM : ad = none → cap = 0) (hlen : (M.length : Int) ≤ 5864062014634) (hk : Us w (.slice a1 ks.length c1) ks) (hnk : a1 = none → c1 = 0) (hkl : ks.length * 8 ≤ 140737488351232) (hkr : ∀ x ∈ ks, 0 ≤ x ∧ x < 18446744073709551616) :
    Calls Tryz.prog 4 #[.int .i64 n, .slice ad M.length cap, .slice a1 ks.length c1, .int .i64 most] w fun e w' => e = .returned (.bool true) ∧ Kp Nu w w' := by
  have mixed : Tryz.prog.follows .mixedOrders = true := by kernel_rfl
  have TA := tamed22 w n _ _ M ks hM hlen hk hkl hkr
  have HK := hide hkr
  clear hM hnM hlen hk hnk hkl hkr
  go_enter Tryz.func4, Tryz.ntmps4
  go_wp2_with fail
  refine TA.mono ?_; rintro e w1 ⟨hT, hk1⟩
  rcases hT with ⟨v1, v2, rfl⟩ | ⟨⟨hn, hgood, hml, hkl⟩, N, sv, kv, k', rfl, rfl, hs, hkv, hris, hmem, hk'l⟩
  · have H1 := hide hk1
    clear TA hk1
    go_wp2
    go_ret
    exact ⟨rfl, H1.out⟩
  have H1 := hide hk1
  by_cases q2 : most < 1
  · have d2 : decide (most < 1) = true := by simpa using q2
    clear TA hk1 hn hgood hml hkl hs hkv hris hmem hk'l q2
    go_wp2
    go_ret
    exact ⟨rfl, H1.out⟩
  have d2 : decide (most < 1) = false := by simpa using q2
  by_cases q3 : most > 32
  · have d3 : decide (most > 32) = true := by simpa using q3
    clear TA hk1 hn hgood hml hkl hs hkv hris hmem hk'l q2 q3
    go_wp2
    go_ret
    exact ⟨rfl, H1.out⟩
  have d3 : decide (most > 32) = false := by simpa using q3
  have hN1 : 1 ≤ N := by omega
  have hN16 : N ≤ 16 := by omega
  have hk4 : k'.length ≤ 4096 := by omega
  obtain ⟨hgS, hbS⟩ := good_tmd hgood hN1 hN16
  obtain ⟨S, eS⟩ : ∃ S, M.map (tmd N) = S := ⟨_, rfl⟩
  have hSl : S.length = M.length := by rw [← eS, List.length_map]
  rw [eS] at hgS hbS hs
  have hk'r : ∀ x ∈ k', 0 ≤ x ∧ x < 18446744073709551616 := fun x hx => HK.out x (hmem x hx)
  have hLB : LayB (N : Int) S k' := by rw [← eS]; exact layB_tmd hgood hN1 hN16 hml hris
  have hSgs : Sgs w1 sv S := by
    refine Sgs.of_own (B := w.heap.size) (by rw [hSl]; exact hs) (fun s hs' => ?_)
    have h1 := cov_mem hgS.cov s hs'
    have h2 := hgS.hs s hs'
    exact ⟨by omega, by omega, by omega, by omega, h2.1, by omega⟩
  have hUs : Us w1 kv k' := Us.of_own hkv
  obtain ⟨sa, sc, esv⟩ := own_slice hs
  obtain ⟨ka, kc, ekv⟩ := own_slice hkv
  have hnk : ∀ m c, kv = .slice none m c → c = 0 := fun m c e => by
    rcases hkv.2 with ⟨e2, _⟩ | ⟨g, cp, cur, e2, _⟩
    · rw [e2] at e; cases e; rfl
    · rw [e2] at e; cases e
  have CO := counted23 w1 N sv kv S k' hSgs hgS.cov hbS (by omega) hUs hk'r hk4 hN16
  have HA := hide (And.intro hSgs (And.intro hUs (And.intro hgS (And.intro hbS (And.intro hk'r (And.intro hLB (And.intro hSl (And.intro hris (And.intro hnk hml)))))))))
  obtain ⟨KL, eKL⟩ : ∃ KL, k'.length = KL := ⟨_, rfl⟩
  obtain ⟨SL, eSL⟩ : ∃ SL, M.length = SL := ⟨_, rfl⟩
  rw [eKL] at ekv hk4
  rw [eSL] at esv
  subst esv
  subst ekv
  have HKL := hide (And.intro eKL eSL)
  have hNI1 : (1 : Int) ≤ (N : Int) := by omega
  have hNI : (N : Int) ≤ 16 := by omega
  have hm1 : 1 ≤ most := by omega
  have hm32 : most ≤ 32 := by omega
  have hKI : (KL : Int) ≤ 4096 := by omega
  clear TA hk1 hn hgood hml hkl hs hkv hris hmem hk'l q2 q3 hgS hbS eS hSl hk'r hLB hSgs hUs hnk eKL eSL
  go_wp2_with fail
  refine CO.mono ?_; rintro e w2 ⟨bb, rfl, ho2, hk2⟩
  obtain ⟨hSgs, hUs, hgS, hbS, hk'r, hLB, hSl, hris, hnk, hml⟩ := HA.out
  have MO := moves24 w2 (N : Int) most _ _ S k' (hSgs.nu hk2) (by omega) (hUs.nu hk2) (by have := HKL.out.1; omega) hk'r hnk
  have H2 := hide (And.intro ho2 hk2)
  clear CO ho2 hk2 hSgs hUs hgS hbS hk'r hLB hSl hris hnk hml
  go_wp2_with fail
  refine MO.mono ?_; rintro e w3 ⟨v, c, rfl, hMo, hk3⟩
  have hMo2 : c = 0 ∧ ∃ ms σ, Stps k' most (sg0 N (lays [] S) k') ms σ ∧ Fin σ ∧ Mvs w3 v ms ∧ ms.length ≤ 4096 := by
    rcases hMo with ⟨h, _⟩ | ⟨_, h, _⟩ | ⟨_, _, e, N', eN', ms, σ, h1, h2, h3, h4⟩
    · exact absurd ⟨⟨hNI1, by omega⟩, hm1, hm32⟩ h
    · exact absurd HA.out.2.2.2.2.2.1 h
    · have e3 : N = N' := by omega
      subst e3
      exact ⟨e, ms, σ, h1, h2, h3, h4⟩
  obtain ⟨rfl, ms, σ, hst, hfin, hmv, hms4⟩ := hMo2
  obtain ⟨R, o, o', hL⟩ := sll_of HA.out.2.2.1 HA.out.2.2.2.1 hN1 hN16 HA.out.2.2.2.2.2.2.2.1 HA.out.2.2.2.2.1 (by have := HKL.out.1; omega) hm1 hst hfin
  have hNs3 : Pn.Ns w3 (.slice (some ⟨bb, 0, none⟩) N N) o := by
    have h := H2.out.1
    rw [hL.eo] at h
    exact (Pn.Ns.of_own (B := w1.heap.size) (by rw [hL.len]; exact h)).nu hk3.toPn
  have SK := Pn.skew15 w3 _ o hNs3 (by have := hL.len; omega)
  have SP := spread16 w3 _ o hNs3 (by have := hL.len; omega) (by have := hL.len; omega) hL.b
  obtain ⟨va, vc, ev, hdm⟩ := id hmv
  clear hdm
  obtain ⟨ML, eML⟩ : ∃ ML, ms.length = ML := ⟨_, rfl⟩
  rw [eML] at ev hms4
  subst ev
  have H3 := hide (And.intro hmv (And.intro hL (And.intro hk3 eML)))
  have hMLI : (ML : Int) ≤ 4096 := by omega
  have NU := fun W => Pn.num12 W 0
  clear MO hMo hk3 hst hfin hmv hL eML hNs3
  go_wp2_with fail
  refine SK.mono ?_; rintro e w' ⟨hSk, hw⟩
  obtain rfl := hw.symm
  obtain ⟨x, rfl, hSv⟩ := hSk.val H3.out.2.1.mb
  have HX := hide hSv
  have hlt2 : ¬ FloatKind.f64.format.order x 4607182418800017408 = some Ordering.lt := fun e => by
    rcases Pn.order_two (x := x) (y := 4607182418800017408) (by have := hSv.bd; omega) hSv.bd.2 (by omega) (by omega) hSv.bd.1 with h | h
    · rw [show FloatKind.f64.format = Ieee.double from rfl, h] at e; cases e
    · rw [show FloatKind.f64.format = Ieee.double from rfl, h] at e; cases e
  have hlt : (FloatKind.f64.format.order x 4607182418800017408 == some Ordering.lt) = false := by simpa using hlt2
  clear SK hSk hSv
  go_wp2_with fail
  refine SP.mono ?_; rintro e w5 ⟨lo, hi, rfl, hSp, hk5⟩
  have H5 := hide hk5
  have hb2 : decide (hi - lo ≤ 1) = ((ML : Int) == 0) := by
    have hL := H3.out.2.1
    have eML := H3.out.2.2.2
    by_cases q : hi - lo ≤ 1
    · have : ms = [] := hL.nil.1 (fun x hx y hy => by have a := hSp.all x hx; have b := hSp.all y hy; omega)
      subst this
      have : ML = 0 := by simpa using eML.symm
      subst this
      simpa using q
    · have : ¬ ML = 0 := fun e => q (by
        have : ms = [] := List.eq_nil_of_length_eq_zero (by omega)
        exact hL.nil.2 this hi hSp.h lo hSp.l)
      have e1 : decide (hi - lo ≤ 1) = false := by simpa using q
      have e2 : ((ML : Int) == 0) = false := by simpa using (by omega : ¬ (ML : Int) = 0)
      rw [e1, e2]
  have PL := play15 w5 _ _ S ms (((HA.out.1.nu H2.out.2).nu H3.out.2.2.1).nu hk5) (by have := HA.out.2.2.2.2.2.2.1; have := HA.out.2.2.2.2.2.2.2.2.2; omega) (H3.out.1.nu hk5) (by have := H3.out.2.2.2; omega)
  clear SP hSp hk5
  obtain ⟨B, hB⟩ : ∃ B : Bool, ((ML : Int) == 0) = B := ⟨_, rfl⟩
  rw [hB] at hb2
  cases B
  all_goals
    go_wp2_with (first | (go_at_call 10; refine (NU _).mono ?_; rintro e w' ⟨rfl, hw'⟩; obtain rfl := hw'.symm))
    clear hb2 hlt hlt2 hB
    refine PL.mono ?_; rintro e w6 ⟨v, c, rfl, hP, hk6⟩
    have hP2 : c = 0 ∧ R.length ≤ 16384 ∧ w6.ownsRow w5.heap.size 38 3 v R.length (cells R) := by
      obtain ⟨_, _, _, _, _, hLB, _⟩ := HA.out
      have hE := H3.out.2.1.ev
      rcases hP with ⟨h, _⟩ | ⟨_, h, _⟩ | ⟨_, h0, R', h1, h2, h3⟩
      · exact absurd hLB.1 h
      · rw [hE.pl] at h; cases h
      · rw [hE.pl] at h1; cases h1; exact ⟨h0, h2, h3⟩
    obtain ⟨rfl, hRl, hRo⟩ := hP2
    have hRne := H3.out.2.1.ev.tab.ne
    obtain ⟨ra, rc, er⟩ := own_slice hRo
    obtain ⟨RL, eRL⟩ : ∃ RL, R.length = RL := ⟨_, rfl⟩
    have HR := hide (And.intro hRo (And.intro hk6 eRL))
    rw [eRL] at er hRl hRne
    subst er
    have hR0 : (0 : Int) < (RL : Int) := by omega
    have hR1 : ((RL : Int) == 0) = false := by simpa using (by omega : ¬ RL = 0)
    clear PL hP hRo hk6 eRL
    by_cases q4 : (RL : Int) > 4096
    · have d4 : decide ((RL : Int) > 4096) = true := by simpa using q4
      clear q4
      go_wp2_with (first | (go_at_call 10; refine (NU _).mono ?_; rintro e w' ⟨rfl, hw'⟩; obtain rfl := hw'.symm))
      go_ret
      exact ⟨rfl, (((H1.out.andNu H2.out.2).andNu H3.out.2.2.1).andNu H5.out).andNu HR.out.2.1⟩
    have d4 : decide ((RL : Int) > 4096) = false := by simpa using q4
    have hRl4 : RL ≤ 4096 := by omega
    clear q4
    go_wp2_with (first | (go_at_call 10; refine (NU _).mono ?_; rintro e w' ⟨rfl, hw'⟩; obtain rfl := hw'.symm))
    obtain ⟨hSgs, hUs, hgS, hbS, hk'r, hLB, hSl, hris, hnk, hml⟩ := HA.out
    obtain ⟨hmv, hL, hk3, eML⟩ := H3.out
    obtain ⟨hRo, hk6, eRL⟩ := HR.out
    have hRs : Sgs w6 (.slice ra RL rc) R := Sgs.of_own (B := w5.heap.size) (by rw [eRL]; rw [eRL] at hRo; exact hRo) hL.ev.tab.sgb
    have kA := ((H2.out.2.andNu hk3).andNu H5.out).andNu hk6
    have hU6 := hUs.nu kA
    have CO := counted23 w6 N _ _ R k' hRs hL.ev.tab.cov hL.ev.hs (by omega) hU6 hk'r (by have := HKL.out.1; omega) hN16
    rw [hL.eo'] at CO
    have H6 := hide (And.intro hRs (And.intro hU6 kA))
    clear hSgs hUs hgS hbS hk'r hLB hSl hris hnk hml hmv hL hk3 eML hRo hk6 eRL hRs kA hU6
    refine CO.mono ?_; rintro e w7 ⟨b7, rfl, ho7, hk7⟩
    have hL := H3.out.2.1
    have hNs7 : Pn.Ns w7 (.slice (some ⟨b7, 0, none⟩) N N) o' := Pn.Ns.of_own (B := w6.heap.size) (by rw [hL.len']; exact ho7)
    have SK := Pn.skew15 w7 _ o' hNs7 (by have := hL.len'; omega)
    have MO := moves24 w7 (N : Int) most _ _ R k' (H6.out.1.nu hk7) (by have := HR.out.2.2; omega) (H6.out.2.1.nu hk7) (by have := HKL.out.1; omega) HA.out.2.2.2.2.1 HA.out.2.2.2.2.2.2.2.2.1
    have H7 := hide hk7
    clear CO ho7 hk7 hL hNs7
    go_wp2_with fail
    refine SK.mono ?_; rintro e w' ⟨hSk, hw⟩
    obtain rfl := hw.symm
    obtain ⟨y, rfl, hSv⟩ := hSk.val H3.out.2.1.mb'
    have hyx : y ≤ x := by
      have hL := H3.out.2.1
      obtain ⟨m, hm⟩ := mx_exists (o := o) (by have := hL.len; omega)
      obtain ⟨m', hm'⟩ := mx_exists (o := o') (by have := hL.len'; omega)
      exact HX.out.mono hSv hL.sum (by rw [hL.len, hL.len']) hm hm' (hL.le m hm m' hm'.1)
    have HG := hide (Pn.order_two (x := y) (y := 4607182418800017408) (by have := hSv.bd; omega) hSv.bd.2 (by omega) (by omega) hSv.bd.1)
    have HLe := hide (Pn.order_word (x := y) (y := x) hyx (by have := hSv.bd; omega) HX.out.bd.2)
    clear SK hSk hSv hyx
    go_wp2_with fail
    refine MO.mono ?_; rintro e w8 ⟨v, c, rfl, hMo, hk8⟩
    have hMo2 : c = 0 ∧ Mvs w8 v [] := by
      have hL := H3.out.2.1
      have hLR : LayB (N : Int) R k' := tab_layB hL.ev.tab hL.ev.hs (by have := HR.out.2.2; omega) HA.out.2.2.2.2.2.2.2.1
      rcases hMo with ⟨h, _⟩ | ⟨_, h, _⟩ | ⟨_, _, e, N', eN', ms', σ', h1, h2, h3, h4⟩
      · exact absurd ⟨⟨hNI1, by omega⟩, hm1, hm32⟩ h
      · exact absurd hLR h
      · have e3 : N = N' := by omega
        subst e3
        have : ms' = [] := still_nil (S := R) hN1 h1 h2 (by rw [tab_lays hL.ev.tab, hL.eo']; exact hL.near)
        subst this
        exact ⟨e, h3⟩
    obtain ⟨rfl, hmn⟩ := hMo2
    obtain ⟨za, zc, ez, _⟩ := hmn
    simp only [List.length_nil] at ez
    subst ez
    have H8 := hide hk8
    clear MO hMo hk8
    have hge := HG.out
    have hle := HLe.out
    rw [show Ieee.double = FloatKind.f64.format from rfl] at hge hle
    rcases hge with hge | hge <;> rcases hle with hle | hle
    all_goals
     go_wp2_with (first | (go_at_call 10; refine (NU _).mono ?_; rintro e w' ⟨rfl, hw'⟩; obtain rfl := hw'.symm))
     go_ret
     exact ⟨rfl, (H1.out.andNu H6.out.2.2).andNu (H7.out.andNu H8.out)⟩
end Go.Proofs.YtbifmcadllilhaaGreat.Rg
namespace Go.Proofs.YtbifmcadllilhaaGreat.Rg
open Go.RowKit Go.Shelf Go.Sort
open Go.Proofs.YtbifmcadllilhaaGreat.It
set_option linter.unusedVariables false
/-- the keys as they are written over -/
def kys (k : List Int) (i : Nat) : List Int := (List.range i).map (fun j : Nat => (j : Int)) ++ k.drop i
theorem kys_zero (k : List Int) : kys k 0 = k := by simp [kys]
theorem kys_len {k : List Int} {i : Nat} (h : i ≤ k.length) : (kys k i).length = k.length := by
  unfold kys
  rw [List.length_append, List.length_map, List.length_range, List.length_drop]
  omega
theorem kys_set {k : List Int} {i : Nat} (h : i < k.length) : (kys k i).set i (i : Int) = kys k (i + 1) := by
  unfold kys
  have hl : ((List.range i).map (fun j : Nat => (j : Int))).length = i := by simp
  rw [List.set_append_right _ _ (by rw [hl]; exact Nat.le_refl _), hl, Nat.sub_self, List.range_succ, List.map_append, List.append_assoc]
  congr 1
  rw [List.drop_eq_getElem_cons h]
  rfl
/-- the keys 0, 1, .. -/
theorem kys_full (k : List Int) : kys k k.length = (List.range k.length).map (fun j : Nat => (j : Int)) := by
  unfold kys
  rw [List.drop_of_length_le (Nat.le_refl _), List.append_nil]
theorem kys_ris (n : Nat) : Ris ((List.range n).map (fun j : Nat => (j : Int))) := fun i x y hx hy => by
  have h1 : i + 1 < n := by
    have := (List.getElem?_eq_some_iff.1 hy).1
    simpa using this
  rw [List.getElem?_map, List.getElem?_range (by omega)] at hx
  rw [List.getElem?_map, List.getElem?_range h1] at hy
  simp only [Option.map_some, Option.some.injEq] at hx hy
  omega
theorem kys_bd {n : Nat} (hn : n ≤ 4096) : ∀ x ∈ (List.range n).map (fun j : Nat => (j : Int)), 0 ≤ x ∧ x < 18446744073709551616 := fun x hx => by
  obtain ⟨j, hj, rfl⟩ := List.mem_map.1 hx
  have := List.mem_range.1 hj
  omega
/-- rows of three askings: distinct -/
theorem En.three {w : World} {B t e : Nat} {v0 v1 v2 : Value} {n0 n1 n2 : Nat} {x0 x1 x2 : List Value} {b0 b1 b2 b3 : Nat} (h0 : w.ownsRow b0 t e v0 n0 x0) (h1 : w.ownsRow b1 t e v1 n1 x1) (h2 : w.ownsRow b2 t e v2 n2 x2) (hB : B ≤ b0) (l1 : ∀ g, v0.ownBlock = some g → g < b1) (l2 : ∀ g, v1.ownBlock = some g → g < b2) (hb1 : b0 ≤ b1) (hb2 : b1 ≤ b2) : En w B t e [v0, v1, v2] [n0, n1, n2] (fun j => [x0, x1, x2].getD j []) := by
  refine ⟨rfl, fun i v n hv hn => ?_, fun i j vi vj g hi hj hgi hgj => ?_⟩
  · match i, hv, hn with
    | 0, hv, hn => cases hv; cases hn; exact own_lower h0 hB
    | 1, hv, hn => cases hv; cases hn; exact own_lower h1 (by omega)
    | 2, hv, hn => cases hv; cases hn; exact own_lower h2 (by omega)
    | i + 3, hv, _ => simp at hv
  · match i, j, hi, hj with
    | 0, 0, _, _ => rfl
    | 1, 1, _, _ => rfl
    | 2, 2, _, _ => rfl
    | 0, 1, hi, hj => cases hi; cases hj; have := l1 g hgi; have := (h1.lt g hgj).1; omega
    | 1, 0, hi, hj => cases hi; cases hj; have := l1 g hgj; have := (h1.lt g hgi).1; omega
    | 0, 2, hi, hj => cases hi; cases hj; have := l1 g hgi; have := (h2.lt g hgj).1; omega
    | 2, 0, hi, hj => cases hi; cases hj; have := l1 g hgj; have := (h2.lt g hgi).1; omega
    | 1, 2, hi, hj => cases hi; cases hj; have := l2 g hgi; have := (h2.lt g hgj).1; omega
    | 2, 1, hi, hj => cases hi; cases hj; have := l2 g hgj; have := (h2.lt g hgi).1; omega
    | i + 3, _, hi, _ => simp at hi
    | _, j + 3, _, hj => simp at hj
/-- six rows, two of each asking -/
theorem En.six {w : World} {B t e : Nat} {v0 v1 v2 u0 u1 u2 : Value} {n : Nat} {x0 x1 x2 y0 y1 y2 : List Value} {b0 b1 b2 : Nat} (h0 : w.ownsRow b0 t e v0 n x0) (g0 : w.ownsRow b0 t e u0 n y0) (h1 : w.ownsRow b1 t e v1 n x1) (g1 : w.ownsRow b1 t e u1 n y1) (h2 : w.ownsRow b2 t e v2 n x2) (g2 : w.ownsRow b2 t e u2 n y2) (hB : B ≤ b0) (l1 : ∀ g, v0.ownBlock = some g ∨ u0.ownBlock = some g → g < b1) (l2 : ∀ g, v1.ownBlock = some g ∨ u1.ownBlock = some g → g < b2) (hb1 : b0 ≤ b1) (hb2 : b1 ≤ b2)
    (d0 : ∀ g, v0.ownBlock = some g → u0.ownBlock = some g → False) (d1 : ∀ g, v1.ownBlock = some g → u1.ownBlock = some g → False) (d2 : ∀ g, v2.ownBlock = some g → u2.ownBlock = some g → False) : En w B t e [v0, u0, v1, u1, v2, u2] [n, n, n, n, n, n] (fun j => [x0, y0, x1, y1, x2, y2].getD j []) := by
  have rows : ∀ (i : Nat) v m, [v0, u0, v1, u1, v2, u2][i]? = some v → [n, n, n, n, n, n][i]? = some m → w.ownsRow B t e v m ([x0, y0, x1, y1, x2, y2].getD i []) := fun i v m hv hn => by
    match i, hv, hn with
    | 0, hv, hn => cases hv; cases hn; exact own_lower h0 hB
    | 1, hv, hn => cases hv; cases hn; exact own_lower g0 hB
    | 2, hv, hn => cases hv; cases hn; exact own_lower h1 (by omega)
    | 3, hv, hn => cases hv; cases hn; exact own_lower g1 (by omega)
    | 4, hv, hn => cases hv; cases hn; exact own_lower h2 (by omega)
    | 5, hv, hn => cases hv; cases hn; exact own_lower g2 (by omega)
    | i + 6, hv, _ => simp at hv
  -- which asking, and which of its two
  have cls : ∀ (i : Nat) v g, [v0, u0, v1, u1, v2, u2][i]? = some v → v.ownBlock = some g → (i < 2 ∧ g < b1) ∨ (2 ≤ i ∧ i < 4 ∧ b1 ≤ g ∧ g < b2) ∨ (4 ≤ i ∧ i < 6 ∧ b2 ≤ g) := fun i v g hv hg => by
    match i, hv with
    | 0, hv => cases hv; exact .inl ⟨by omega, l1 g (.inl hg)⟩
    | 1, hv => cases hv; exact .inl ⟨by omega, l1 g (.inr hg)⟩
    | 2, hv => cases hv; exact .inr (.inl ⟨by omega, by omega, (h1.lt g hg).1, l2 g (.inl hg)⟩)
    | 3, hv => cases hv; exact .inr (.inl ⟨by omega, by omega, (g1.lt g hg).1, l2 g (.inr hg)⟩)
    | 4, hv => cases hv; exact .inr (.inr ⟨by omega, by omega, (h2.lt g hg).1⟩)
    | 5, hv => cases hv; exact .inr (.inr ⟨by omega, by omega, (g2.lt g hg).1⟩)
    | i + 6, hv => simp at hv
  refine ⟨rfl, rows, fun i j vi vj g hi hj hgi hgj => ?_⟩
  have ci := cls i vi g hi hgi
  have cj := cls j vj g hj hgj
  have same : (i = 0 ∧ j = 1) ∨ (i = 1 ∧ j = 0) ∨ (i = 2 ∧ j = 3) ∨ (i = 3 ∧ j = 2) ∨ (i = 4 ∧ j = 5) ∨ (i = 5 ∧ j = 4) ∨ i = j := by omega
  rcases same with ⟨rfl, rfl⟩ | ⟨rfl, rfl⟩ | ⟨rfl, rfl⟩ | ⟨rfl, rfl⟩ | ⟨rfl, rfl⟩ | ⟨rfl, rfl⟩ | h
  · cases hi; cases hj; exact (d0 g hgi hgj).elim
  · cases hi; cases hj; exact (d0 g hgj hgi).elim
  · cases hi; cases hj; exact (d1 g hgi hgj).elim
  · cases hi; cases hj; exact (d1 g hgj hgi).elim
  · cases hi; cases hj; exact (d2 g hgi hgj).elim
  · cases hi; cases hj; exact (d2 g hgj hgi).elim
  · exact h
/-- kept where no such block is touched -/
theorem AskR.keep {w w' w2 : World} {N : Nat} {S : List Sg} {k : List Int} {most : Int} {m s l t : Value} {ms : List Mv} {R : List Sg} (h : AskR w w' N S k most m s l t ms R) {T : Nat → Prop} (k2 : Kp T w' w2) (hT : ∀ (q : Nat) (c : Array Value) (ty : TypeId), w'.heap[q]? = some (.cells c ty (0, 0)) → ty = 41 ∨ ty = 38 ∨ ty = 3 → ¬ T q) : AskR w w2 N S k most m s l t ms R := by
  have rk : ∀ {B' ty e n : Nat} {v : Value} {xs : List Value}, w'.ownsRow B' ty e v n xs → (ty = 41 ∨ ty = 38 ∨ ty = 3) → w2.ownsRow B' ty e v n xs := fun hr ht => own_keep hr (fun g e => by
    obtain ⟨c, hc⟩ := own_obj hr e
    exact k2.block g (blk_lt hc) (hT g c _ hc ht))
  obtain ⟨xs, hmo⟩ := h.mo
  refine ⟨h.stp, h.pl, h.mv.keep (fun g e => ?_), h.ml, ⟨xs, rk hmo (.inl rfl)⟩, rk h.so (.inr (.inl rfl)), h.rl, rk h.lo (.inr (.inr rfl)), rk h.tg (.inr (.inr rfl)), h.ne⟩
  obtain ⟨c, hc⟩ := own_obj hmo e
  exact k2.block g (blk_lt hc) (hT g c _ hc (.inl rfl))
theorem AskR.nu {w w' w2 : World} {N : Nat} {S : List Sg} {k : List Int} {most : Int} {m s l t : Value} {ms : List Mv} {R : List Sg} (h : AskR w w' N S k most m s l t ms R) (k2 : Kp Nu w' w2) : AskR w w2 N S k most m s l t ms R := h.keep k2 (fun _ _ _ _ _ e => e)
theorem bc_no {w : World} {B b : Nat} {mv sv iv : Value} {ml sl il : List Value} (h : Bk w B b mv sv iv ml sl il) : ∀ (q : Nat) (c : Array Value) (ty : TypeId), w.heap[q]? = some (.cells c ty (0, 0)) → ty = 41 ∨ ty = 38 ∨ ty = 3 → ¬ Bc b mv sv iv q := fun q c ty hc ht => by
  refine h.other hc ?_ ?_ ?_ ?_ <;> (rcases ht with h | h | h <;> rw [h] <;> decide)
/-- two askings of the same -/
theorem AskR.two {w w' v v' : World} {N : Nat} {S : List Sg} {k : List Int} {most : Int} {m s l t m' s' l' t' : Value} {ms ms' : List Mv} {R R' : List Sg} (h : AskR w w' N S k most m s l t ms R) (h' : AskR v v' N S k most m' s' l' t' ms' R') : ms' = ms ∧ R' = R := by
  obtain ⟨σ, a1, a2⟩ := h.stp
  obtain ⟨σ', b1, b2⟩ := h'.stp
  have e := b1.same a1 b2 a2
  subst e
  have e2 := h'.pl
  rw [h.pl] at e2
  cases e2
  exact ⟨rfl, rfl⟩
theorem AskR.sgs {w w' : World} {N : Nat} {S : List Sg} {k : List Int} {most : Int} {m s l t : Value} {ms : List Mv} {R : List Sg} (h : AskR w w' N S k most m s l t ms R) (hR : ∀ s ∈ R, SgB s) : Sgs w' s R := Sgs.of_own h.so hR
theorem AskR.nl {w w' : World} {N : Nat} {S : List Sg} {k : List Int} {most : Int} {m s l t : Value} {ms : List Mv} {R : List Sg} (h : AskR w w' N S k most m s l t ms R) : Pn.Ns w' l (Pn.lds N (k.map (ow (lays [] S)))) := Pn.Ns.of_own (B := w.heap.size) (by rw [Pn.lds_len]; exact h.lo)
theorem AskR.nt {w w' : World} {N : Nat} {S : List Sg} {k : List Int} {most : Int} {m s l t : Value} {ms : List Mv} {R : List Sg} (h : AskR w w' N S k most m s l t ms R) : Pn.Ns w' t (Pn.tgs (Pn.lds N (k.map (ow (lays [] S)))) N) := Pn.Ns.of_own (B := w.heap.size) (by rw [Pn.tgs_len]; exact h.tg)
end Go.Proofs.YtbifmcadllilhaaGreat.Rg
namespace Go.Proofs.YtbifmcadllilhaaGreat
theorem dnq {w wr : World} (h : ∃ q, wr = w.drewN q) (m : Nat) : ∃ q, wr.drewN m = w.drewN q := by
  obtain ⟨q, rfl⟩ := h
  exact ⟨q + m, by rw [World.drewN_drewN]⟩
end Go.Proofs.YtbifmcadllilhaaGreat
namespace Go.Proofs.YtbifmcadllilhaaGreat.Pn
open Go.RowKit
set_option linter.unusedVariables false
theorem kq {w wr : World} (h : ∃ q, wr = w.drewN q) : Kp Nu w wr := by
  obtain ⟨q, rfl⟩ := h
  exact kp_dn w q
set_option maxRecDepth 100000 in
set_option maxHeartbeats 2000000 in
theorem same11q (w : World) (u v : Value) (o : List Int) (hu : Ns w u o) (hv : Ns w v o) (hN : o.length ≤ 140737488351232) : Calls Tryz.prog 18 #[u, v] w fun e w' => e = .returned (.bool true) ∧ ∃ q, w' = w.drewN q := by
  obtain ⟨a1, c1, rfl, _, _⟩ := id hu
  obtain ⟨a2, c2, rfl, _, _⟩ := id hv
  obtain ⟨N, eN⟩ : ∃ N, o.length = N := ⟨_, rfl⟩
  have HU := hide (And.intro hu (And.intro hv eN))
  rw [eN] at hN ⊢
  have hNI : (N : Int) ≤ 140737488351232 := by omega
  have hnn : ((N : Int) != (N : Int)) = false := by simp
  clear hu hv eN hN
  go_enter Tryz.func18, Tryz.ntmps18
  go_wp2
  go_loopw [5] (fun iv wr => ∃ i : Nat, iv = .int .i64 (i : Int) ∧ i ≤ N ∧ Hid (∃ q, wr = w.drewN q)) (fun iv _ => N - (intOf iv).toNat)
  case atStart => exact ⟨0, rfl, Nat.zero_le _, hide ⟨0, rfl⟩⟩
  case round =>
    obtain ⟨i, rfl, hi, hk⟩ := hrel
    have hi0 : (0 : Int) ≤ (i : Int) := by omega
    by_cases hlt : i < N
    · have hltI : (i : Int) < (N : Int) := by omega
      obtain ⟨x, hx⟩ : ∃ x, o[i]? = some x := ⟨_, List.getElem?_eq_getElem (by rw [HU.out.2.2]; exact hlt)⟩
      obtain ⟨b1, rfl, k1⟩ := (HU.out.1.nu (kq hk.out)).at_ hx
      obtain ⟨b2, rfl, k2⟩ := (HU.out.2.1.nu (kq hk.out)).at_ hx
      have eti : (i : Int).toNat = i := by omega
      have hne : (x != x) = false := by simp
      clear hx
      go_wp2_with fail
      go_quiet (fail)
      go_wp2
      exact ⟨⟨i + 1, by go_num, by omega, hide (dnq hk.out _)⟩, by simp [intOf]; omega⟩
    · have hge : ¬ (i : Int) < (N : Int) := by omega
      go_wp2
      go_ret
      exact ⟨rfl, hk.out⟩
end Go.Proofs.YtbifmcadllilhaaGreat.Pn
namespace Go.Proofs.YtbifmcadllilhaaGreat.Rg
open Go.RowKit Go.Shelf Go.Sort
set_option linter.unusedVariables false
theorem kq {w wr : World} (h : ∃ q, wr = w.drewN q) : Kp Nu w wr := by
  obtain ⟨q, rfl⟩ := h
  exact kp_dn w q
set_option maxRecDepth 100000 in
set_option maxHeartbeats 2000000 in
theorem same21q (w : World) (u v : Value) (o : List Int) (hu : Us w u o) (hv : Us w v o) (hN : o.length ≤ 140737488351232) : Calls Tryz.prog 20 #[u, v] w fun e w' => e = .returned (.bool true) ∧ ∃ q, w' = w.drewN q := by
  obtain ⟨a1, c1, rfl, _, _⟩ := id hu
  obtain ⟨a2, c2, rfl, _, _⟩ := id hv
  obtain ⟨N, eN⟩ : ∃ N, o.length = N := ⟨_, rfl⟩
  have HU := hide (And.intro hu (And.intro hv eN))
  rw [eN] at hN ⊢
  have hNI : (N : Int) ≤ 140737488351232 := by omega
  have hnn : ((N : Int) != (N : Int)) = false := by simp
  clear hu hv eN hN
  go_enter Tryz.func20, Tryz.ntmps20
  go_wp2
  go_loopw [5] (fun iv wr => ∃ i : Nat, iv = .int .i64 (i : Int) ∧ i ≤ N ∧ Hid (∃ q, wr = w.drewN q)) (fun iv _ => N - (intOf iv).toNat)
  case atStart => exact ⟨0, rfl, Nat.zero_le _, hide ⟨0, rfl⟩⟩
  case round =>
    obtain ⟨i, rfl, hi, hk⟩ := hrel
    have hi0 : (0 : Int) ≤ (i : Int) := by omega
    by_cases hlt : i < N
    · have hltI : (i : Int) < (N : Int) := by omega
      obtain ⟨x, hx⟩ : ∃ x, o[i]? = some x := ⟨_, List.getElem?_eq_getElem (by rw [HU.out.2.2]; exact hlt)⟩
      obtain ⟨b1, rfl, k1⟩ := (HU.out.1.nu (kq hk.out)).at_ hx
      obtain ⟨b2, rfl, k2⟩ := (HU.out.2.1.nu (kq hk.out)).at_ hx
      have eti : (i : Int).toNat = i := by omega
      have hne : (x != x) = false := by simp
      clear hx
      go_wp2_with fail
      go_quiet (fail)
      go_wp2
      exact ⟨⟨i + 1, by go_num, by omega, hide (dnq hk.out _)⟩, by simp [intOf]; omega⟩
    · have hge : ¬ (i : Int) < (N : Int) := by omega
      go_wp2
      go_ret
      exact ⟨rfl, hk.out⟩
set_option maxRecDepth 100000 in
set_option maxHeartbeats 2000000 in
theorem sameSegments17q (w : World) (u v : Value) (M : List Sg) (hu : Sgs w u M) (hv : Sgs w v M) (hN : M.length ≤ 5864062014634) : Calls Tryz.prog 13 #[u, v] w fun e w' => e = .returned (.bool true) ∧ ∃ q, w' = w.drewN q := by
  obtain ⟨a1, c1, e1⟩ := hu.slice
  obtain ⟨a2, c2, e2⟩ := hv.slice
  obtain ⟨N, eN⟩ : ∃ N, M.length = N := ⟨_, rfl⟩
  rw [eN] at e1 e2 hN
  subst e1 e2
  have HU := hide (And.intro hu (And.intro hv eN))
  have hNI : (N : Int) ≤ 5864062014634 := by omega
  have hnn : ((N : Int) != (N : Int)) = false := by simp
  clear hu hv eN hN
  go_enter Tryz.func13, Tryz.ntmps13
  go_wp2
  go_loopw [5] (fun iv wr => ∃ i : Nat, iv = .int .i64 (i : Int) ∧ i ≤ N ∧ Hid (∃ q, wr = w.drewN q)) (fun iv _ => N - (intOf iv).toNat)
  case atStart => exact ⟨0, rfl, Nat.zero_le _, hide ⟨0, rfl⟩⟩
  case round =>
    obtain ⟨i, rfl, hi, hk⟩ := hrel
    have hi0 : (0 : Int) ≤ (i : Int) := by omega
    by_cases hlt : i < N
    · have hltI : (i : Int) < (N : Int) := by omega
      obtain ⟨x, hx⟩ : ∃ x, M[i]? = some x := ⟨_, List.getElem?_eq_getElem (by rw [HU.out.2.2]; exact hlt)⟩
      obtain ⟨b1, o1, rfl, k1⟩ := (HU.out.1.nu (kq hk.out)).at_ hx
      obtain ⟨b2, o2, rfl, k2⟩ := (HU.out.2.1.nu (kq hk.out)).at_ hx
      obtain ⟨x0, x1, x2, _⟩ := k1
      obtain ⟨y0, y1, y2, _⟩ := k2
      have eti : (i : Int).toNat = i := by omega
      obtain ⟨lo, elo⟩ : ∃ lo, x.lo = lo := ⟨_, rfl⟩
      obtain ⟨h2, ehi⟩ : ∃ h2, x.hi = h2 := ⟨_, rfl⟩
      obtain ⟨ho, eho⟩ : ∃ ho, x.h = ho := ⟨_, rfl⟩
      rw [elo] at x0 y0
      rw [ehi] at x1 y1
      rw [eho] at x2 y2
      clear hx elo ehi eho
      go_wp2_with fail
      go_region
      go_wp2
      exact ⟨⟨i + 1, by go_num, by omega, hide (dnq hk.out 1)⟩, by simp [intOf]; omega⟩
    · have hge : ¬ (i : Int) < (N : Int) := by omega
      go_wp2
      go_ret
      exact ⟨rfl, hk.out⟩
set_option maxRecDepth 100000 in
set_option maxHeartbeats 2000000 in
theorem sameMoves18q (w : World) (u v : Value) (M : List Mv) (hu : Mvs w u M) (hv : Mvs w v M) (hN : M.length ≤ 5864062014634) : Calls Tryz.prog 21 #[u, v] w fun e w' => e = .returned (.bool true) ∧ ∃ q, w' = w.drewN q := by
  obtain ⟨a1, c1, e1, _⟩ := id hu
  obtain ⟨a2, c2, e2, _⟩ := id hv
  obtain ⟨N, eN⟩ : ∃ N, M.length = N := ⟨_, rfl⟩
  rw [eN] at e1 e2 hN
  subst e1 e2
  have HU := hide (And.intro hu (And.intro hv eN))
  have hNI : (N : Int) ≤ 5864062014634 := by omega
  have hnn : ((N : Int) != (N : Int)) = false := by simp
  clear hu hv eN hN
  go_enter Tryz.func21, Tryz.ntmps21
  go_wp2
  go_loopw [5] (fun iv wr => ∃ i : Nat, iv = .int .i64 (i : Int) ∧ i ≤ N ∧ Hid (∃ q, wr = w.drewN q)) (fun iv _ => N - (intOf iv).toNat)
  case atStart => exact ⟨0, rfl, Nat.zero_le _, hide ⟨0, rfl⟩⟩
  case round =>
    obtain ⟨i, rfl, hi, hk⟩ := hrel
    have hi0 : (0 : Int) ≤ (i : Int) := by omega
    by_cases hlt : i < N
    · have hltI : (i : Int) < (N : Int) := by omega
      obtain ⟨x, hx⟩ : ∃ x, M[i]? = some x := ⟨_, List.getElem?_eq_getElem (by rw [HU.out.2.2]; exact hlt)⟩
      obtain ⟨b1, o1, rfl, k1⟩ := (HU.out.1.nu (kq hk.out)).at_ hx
      obtain ⟨b2, o2, rfl, k2⟩ := (HU.out.2.1.nu (kq hk.out)).at_ hx
      obtain ⟨x0, x1, x2, x3, x4, _⟩ := k1
      obtain ⟨y0, y1, y2, y3, y4, _⟩ := k2
      have eti : (i : Int).toNat = i := by omega
      obtain ⟨q0, e0⟩ : ∃ q, x.f = q := ⟨_, rfl⟩
      obtain ⟨q1, e1⟩ : ∃ q, x.t = q := ⟨_, rfl⟩
      obtain ⟨q2, e2⟩ : ∃ q, x.lo = q := ⟨_, rfl⟩
      obtain ⟨q3, e3⟩ : ∃ q, x.hi = q := ⟨_, rfl⟩
      obtain ⟨q4, e4⟩ : ∃ q, x.n = q := ⟨_, rfl⟩
      rw [e0] at x0 y0
      rw [e1] at x1 y1
      rw [e2] at x2 y2
      rw [e3] at x3 y3
      rw [e4] at x4 y4
      clear hx e0 e1 e2 e3 e4
      go_wp2_with fail
      go_region
      go_wp2
      exact ⟨⟨i + 1, by go_num, by omega, hide (dnq hk.out 1)⟩, by simp [intOf]; omega⟩
    · have hge : ¬ (i : Int) < (N : Int) := by omega
      go_wp2
      go_ret
      exact ⟨rfl, hk.out⟩
end Go.Proofs.YtbifmcadllilhaaGreat.Rg
