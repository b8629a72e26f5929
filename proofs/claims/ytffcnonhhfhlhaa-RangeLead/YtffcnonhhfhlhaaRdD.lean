import Derived.Test.YtffcnonhhfhlhaaRdE
import Derived.Deep.QuietTactic
import Derived.BigQuiet
namespace Go.Proofs.Ytffcnonhhfhlhaa.Rg
open Go.RowKit Go.Shelf Go.Sort
open Go.Proofs.Ytffcnonhhfhlhaa.It
set_option linter.unusedVariables false

theorem kp_dN (w : World) (n : Nat) : Kp Nu w (w.drewN n) := by
  have := kp_grow w n #[]
  rwa [grow_empty] at this

set_option maxRecDepth 100000 in
set_option maxHeartbeats 4000000 in
theorem lead_walk (w : World) (u1 u2 : Value) (M1 M2 : List Sg) (h1 : Sgs w u1 M1) (h2 : Sgs w u2 M2) (hl1 : (M1.length : Int) ≤ 5864062014634) (hl2 : (M2.length : Int) ≤ 5864062014634) :
    Calls Try.prog 6 #[u1, u2] w fun e w' => e = .returned (.bool true) ∧ Kp Nu w w' := by
  have mixed : Try.prog.follows .mixedOrders = true := by kernel_rfl
  obtain ⟨ad1, cap1, hu1⟩ := h1.slice
  obtain ⟨ad2, cap2, hu2⟩ := h2.slice
  have FA := fault_ref w u1 M1 h1 hl1
  have FB := fun W (k : Kp Nu w W) => fault_ref W u2 M2 (h2.nu k) hl2
  obtain ⟨N1, hN1⟩ : ∃ N, M1.length = N := ⟨_, rfl⟩
  obtain ⟨N2, hN2⟩ : ∃ N, M2.length = N := ⟨_, rfl⟩
  have HM1 := hide h1
  have HM2 := hide h2
  have HN1 := hide hN1
  have HN2 := hide hN2
  rw [hN1] at hu1 hl1
  rw [hN2] at hu2 hl2
  subst hu1 hu2
  clear h1 h2 hN1 hN2
  have hw12 : IntKind.i64.wrap ((N1 : Int) + (N2 : Int)) = (N1 : Int) + (N2 : Int) := by rw [IntKind.wrap_i64]; omega
  go_enter Try.func6, Try.ntmps6
  go_wp2_with fail
  refine FA.mono ?_; rintro e w1 ⟨p1, c1, rfl, hc1, hk1⟩
  have FB1 := FB w1 hk1
  have HK1 := hide hk1
  clear FA FB hk1
  go_wp2_with fail
  refine FB1.mono ?_; rintro e w2 ⟨p2, c2, rfl, hc2, hk2⟩
  have HK2 := hide (HK1.out.andNu hk2)
  clear FB1 hk2 HK1
  by_cases q1 : c1 = 0
  · by_cases q2 : c2 = 0
    · by_cases q3 : (N1 : Int) + (N2 : Int) > 8192
      · have q3d : decide (8192 < (N1 : Int) + (N2 : Int)) = true := decide_eq_true q3
        subst q1 q2
        clear hc1 hc2
        go_wp2
        go_ret
        exact ⟨rfl, HK2.out⟩
      · have q3d : decide (8192 < (N1 : Int) + (N2 : Int)) = false := decide_eq_false q3
        have HG1 := hide (hc1 q1)
        have HG2 := hide (hc2 q2)
        subst q1 q2
        clear hc1 hc2
        obtain ⟨hGood1, hpos1⟩ := HG1.out
        obtain ⟨hGood2, hpos2⟩ := HG2.out
        have hll1 := lays_le M1 []
        have hll2 := lays_le M2 []
        simp at hll1 hll2
        have LO1 := Load_good w2 (.slice ad1 N1 cap1) M1 ((HM1.out.nu HK2.out).rs hpos1) hGood1 (by have := HN1.out; omega) ((N1 : Int) + N2) (by have := HN1.out; omega) (by omega) (by have := HN1.out; omega)
        have LO2 := fun W (k : Kp Nu w2 W) => Load_good W (.slice ad2 N2 cap2) M2 (((HM2.out.nu HK2.out).nu k).rs hpos2) hGood2 (by have := HN2.out; omega) (N2 : Int) (by have := HN2.out; omega) (by omega) (by have := HN2.out; omega)
        have HA := hide hGood1.tab
        have HE := hide hGood2.tab
        obtain ⟨A, hA⟩ : ∃ L, lays [] M1 = L := ⟨_, rfl⟩
        obtain ⟨E, hE⟩ : ∃ L, lays [] M2 = L := ⟨_, rfl⟩
        rw [hA] at LO1 HA hll1
        rw [hE] at LO2 HE hll2
        have HLL : Hid (A.length ≤ N1 ∧ E.length ≤ N2) := ⟨by have := HN1.out; omega, by have := HN2.out; omega⟩
        clear hGood1 hGood2 hpos1 hpos2 hll1 hll2 hA hE HG1 HG2
        go_wp2_with fail
        refine LO1.mono ?_; rintro e w3 ⟨b1, v1, rfl, hT1, hk3⟩
        have LO2' := LO2 w3 hk3
        have HT1 := hide (And.intro hT1 hk3)
        clear LO1 LO2 hT1 hk3
        go_wp2_with fail
        refine LO2'.mono ?_; rintro e w4 ⟨b2, v2, rfl, hT2, hk4⟩
        have hT1 := HT1.out.1.nu hk4
        have hk4' := HT1.out.2.andNu hk4
        have HB : Hid (w2.heap.size ≤ b1 ∧ b1 < w3.heap.size ∧ w3.heap.size ≤ b2 ∧ b2 < w4.heap.size) := ⟨HT1.out.1.low, blk_lt HT1.out.1.blk, hT2.low, blk_lt hT2.blk⟩
        have LI1 := list_any hT1
        have HT := hide (And.intro hT1 (And.intro hT2 hk4'))
        clear LO2' hT1 hT2 hk4 hk4' HT1
        go_wp2_with fail
        refine (num_any 0 _).mono ?_; rintro e wx ⟨rfl, hwx⟩
        obtain rfl := hwx.symm
        clear hwx
        go_wp2_with fail
        refine (num_any 0 _).mono ?_; rintro e wx ⟨rfl, hwx⟩
        obtain rfl := hwx.symm
        clear hwx
        go_wp2_with fail
        refine LI1.mono ?_; rintro e w5 ⟨ul1, rfl, hul1, hk5⟩
        have LI2 := list_any (HT.out.2.1.nu hk5)
        have HU1 := hide (And.intro hul1 hk5)
        obtain ⟨ad3, cap3, hue1⟩ := own_slice hul1
        obtain ⟨NA, hNA⟩ : ∃ N, A.length = N := ⟨_, rfl⟩
        have HNA := hide hNA
        rw [hNA] at hue1
        subst hue1
        clear LI1 hul1 hk5 hNA
        go_wp2_with fail
        refine LI2.mono ?_; rintro e w6 ⟨ul2, rfl, hul2, hk6⟩
        have DI := diff_any ((HT.out.1.nu HU1.out.2).nu hk6) (((HT.out.2.1.nu HU1.out.2).nu hk6).weak (by have := HB.out; omega))
        have HU2 := hide (And.intro hul2 hk6)
        obtain ⟨ad4, cap4, hue2⟩ := own_slice hul2
        obtain ⟨NE, hNE⟩ : ∃ N, E.length = N := ⟨_, rfl⟩
        have HNE := hide hNE
        rw [hNE] at hue2
        subst hue2
        clear LI2 hul2 hk6 hNE
        go_wp2_with fail
        refine DI.mono ?_; rintro e w7 ⟨ul3, rfl, hul3, hk7⟩
        have HCH := hide (diff_facts HA.out HE.out)
        have hdl := dst_len E _ A rfl
        have SA := same_any w7 (.slice ad3 NA cap3) (.slice ad4 NE cap4) A E ((rs_of_own HU1.out.1 HA.out.ne).nu (HU2.out.2.andNu hk7)) ((rs_of_own HU2.out.1 HE.out.ne).nu hk7) (by have := HLL.out; omega)
        obtain ⟨C, hC⟩ : ∃ C, (dst E A).2 = C := ⟨_, rfl⟩
        rw [hC] at hul3 HCH hdl
        have HU3 := hide (And.intro hul3 hk7)
        obtain ⟨ad5, cap5, hue3⟩ := own_slice hul3
        obtain ⟨NC, hNC⟩ : ∃ N, C.length = N := ⟨_, rfl⟩
        have HNC := hide hNC
        have HDL : Hid (NC ≤ 20000) := by
          show _ ≤ _
          have := HLL.out
          omega
        rw [hNC] at hue3
        subst hue3
        clear DI hul3 hk7 hC hNC hdl
        go_wp2_with fail
        refine SA.mono ?_; rintro e w8 ⟨al, rfl, hal, hk8⟩
        have hal2 : ((NC : Int) == 0) = al := by
          have h1 := HCH.out.alike HA.out HE.out
          have h2 := HNC.out
          rw [h2, ← hal] at h1
          cases al with
          | true => have : NC = 0 := h1.2 rfl; subst this; rfl
          | false =>
            have : NC ≠ 0 := fun e => by have := h1.1 e; cases this
            simpa using (by omega : ¬ (NC : Int) = 0)
        have hal3 : (al != al) = false := by simp
        -- the world at the loop
        have HW : Hid (Tb w2.heap.size w8 b1 ((N1 : Int) + N2) v1 A ∧ Tb w3.heap.size w8 b2 (N2 : Int) v2 E ∧ w8.ownsRow w6.heap.size 55 4 (.slice ad5 NC cap5) C.length (cellsC C) ∧ w8.ownsRow w5.heap.size 40 3 (.slice ad4 NE cap4) E.length (cells E) ∧ Kp Nu w w8 ∧ w4.heap.size ≤ w5.heap.size ∧ w5.heap.size ≤ w6.heap.size ∧ Kp Nu w2 w8) := by
          have k1 := (HU1.out.2.andNu HU2.out.2).andNu (HU3.out.2.andNu hk8)
          have k2 := HT.out.2.2.andNu k1
          have kk := HU3.out.2.andNu hk8
          refine ⟨HT.out.1.nu k1, HT.out.2.1.nu k1, own_keep HU3.out.1 (fun g e => hk8.block g (own_lt HU3.out.1 e) (fun h => h)), own_keep HU2.out.1 (fun g e => kk.block g (own_lt HU2.out.1 e) (fun h => h)), HK2.out.andNu k2, HU1.out.2.size, HU2.out.2.size, k2⟩
        clear SA hal hk8 HU1 HU2 HU3 HT
        go_wp2_with fail
        refine (num_any 0 _).mono ?_; rintro e wx ⟨rfl, hwx⟩
        obtain rfl := hwx.symm
        clear hwx
        go_wp2_with fail
        clear hal2 hal3
        go_loopw [18] (fun i wr => ∃ k : Nat, i = .int .i64 (k : Int) ∧ k ≤ NC ∧ Hid (∃ v Lc, Tb w2.heap.size wr b1 ((N1 : Int) + N2) v Lc ∧ Mx A E Lc (cut C k) ∧ Kp (fun k => k = b1) w8 wr)) (fun i _ => NC - (intOf i).toNat)
        case atStart => exact ⟨0, rfl, Nat.zero_le _, ⟨v1, A, HW.out.1, Chs.start HA.out, Kp.refl _ _⟩⟩
        case round =>
          obtain ⟨k, rfl, hk, hI⟩ := hrel
          by_cases hlt : k < NC
          · obtain ⟨v, Lc, hT, hM, hkp⟩ := hI.out
            obtain ⟨c, hc⟩ : ∃ c, C[k]? = some c := ⟨_, List.getElem?_eq_getElem (by rw [HNC.out]; exact hlt)⟩
            obtain ⟨s1, s2, s3, s4, s5, s6, s7, s8, s9, s10⟩ := HCH.out.step HA.out HE.out hc hM
            have hsz := hkp.size
            obtain ⟨hW1, hW2, hW3, hW4, hW5, hW6, hW7, hW8⟩ := HW.out
            obtain ⟨hB1, hB2, hB3, hB4⟩ := HB.out
            have hsz8 := hW8.size
            have hs68 : w6.heap.size ≤ w8.heap.size := by
              rcases hW3.2 with ⟨_, h0⟩ | ⟨r, cap, cur, e, hB, hg, _⟩
              · have := HNC.out; omega
              · have := blk_lt hg; omega
            have hrow := own_oth hW3 hkp (by omega)
            obtain ⟨r5, cap', e5, hr5, hr5', x0, x1, x2, x3⟩ := rowC_at hrow hc
            rw [HNC.out] at e5
            simp only [Value.slice.injEq] at e5
            obtain ⟨rfl, hq5⟩ := e5
            clear hq5
            have hT2 := hW2.oth hkp hB2
            have hne : wr.heap.size ≠ b1 := by omega
            have KA := Kp.alloc wr (.cells #[.int .u64 c.lo, .int .u64 c.hi, .int .u8 c.f, .int .u8 c.t] 55) Nu
            have hbox : ∀ W', Kp (fun k => k = b1) (wr.alloc (.cells #[.int .u64 c.lo, .int .u64 c.hi, .int .u8 c.f, .int .u8 c.t] 55)) W' → W'.heap[wr.heap.size]? = some (.cells #[.int .u64 c.lo, .int .u64 c.hi, .int .u8 c.f, .int .u8 c.t] 55 (0, 0)) := fun W' kk => (kk.block _ (by simp) hne).trans (heap_alloc_new wr _)
            have OW1 := fun W' (kk : Kp Nu wr W') => owns_any (hT.nu kk) c.lo c.hi c.f s5 s6 s7
            rw [owns_asg hT.tab s5 s6 s7 s3] at OW1
            have OW2 := fun W' (kk : Kp Nu wr W') => owns_any (hT2.nu kk) c.lo c.hi c.t s5 s6 s7
            rw [owns_asg hT2.tab s5 s6 s7 s4] at OW2
            have AS := fun W' (kk : Kp Nu wr W') => assign_ok (hT.nu kk) c.lo c.hi c.t s5 s6 s7 s8 s9 (by have := HLL.out; omega) (by have := kk.size; omega)
            have HFN := hide (And.intro KA (And.intro hbox (And.intro s1 hkp)))
            have HOW := hide (And.intro OW1 (And.intro OW2 AS))
            have z6 : ((c.f == c.t) = false) := by simpa using s10
            have z1 := (fun W' kk => cell4 (hbox W' kk)) _ (Kp.refl _ _)
            obtain ⟨z10, z11, z12, z13⟩ := z1
            have hltI : (k : Int) < (NC : Int) := by omega
            have hk0 : (0 : Int) ≤ (k : Int) := by omega
            have hkN : (k : Int) ≤ 20000 := by have := HDL.out; omega
            cases k with
            | zero =>
              have g0 : decide ((0 : Int) < ((0 : Nat) : Int)) = false := by decide
              clear hI hT hM hkp hrow hT2 KA hbox s1 s2 s3 s4 hW1 hW2 hW3 hW4 hW5 hW8 OW1 OW2 AS hc
              go_wp2_with fail
              go_quiet (fail)
              go_wp2_with fail
              have k0 : Kp Nu (wr.alloc (.cells #[.int .u64 c.lo, .int .u64 c.hi, .int .u8 c.f, .int .u8 c.t] 55)) ((wr.alloc (.cells #[.int .u64 c.lo, .int .u64 c.hi, .int .u8 c.f, .int .u8 c.t] 55)).drewN nq) := kp_dN _ _
              have kq : Kp Nu wr ((wr.alloc (.cells #[.int .u64 c.lo, .int .u64 c.hi, .int .u8 c.f, .int .u8 c.t] 55)).drewN nq) := HFN.out.1.andNu k0
              have OWa := HOW.out.1 _ kq
              refine OWa.mono ?_; rintro e w9 ⟨rfl, hk9⟩
              have k9 : Kp Nu wr w9 := kq.andNu hk9
              have k9' : Kp Nu (wr.alloc (.cells #[.int .u64 c.lo, .int .u64 c.hi, .int .u8 c.f, .int .u8 c.t] 55)) w9 := k0.andNu hk9
              have OWb := HOW.out.2.1 w9 k9
              obtain ⟨y10, y11, y12, y13⟩ := cell4 (HFN.out.2.1 w9 (k9'.mono (fun _ _ h => h.elim)))
              have HK9 := hide (And.intro k9 k9')
              clear OWa hk9 k9 k9' k0 kq z10 z11 z12 z13
              go_wp2_with fail
              refine OWb.mono ?_; rintro e w10 ⟨rfl, hk10⟩
              have k10 := HK9.out.1.andNu hk10
              have k10' := HK9.out.2.andNu hk10
              have ASc := HOW.out.2.2 w10 k10
              obtain ⟨t10, t11, t12, t13⟩ := cell4 (HFN.out.2.1 w10 (k10'.mono (fun _ _ h => h.elim)))
              have HK10 := hide (And.intro k10 k10')
              clear OWb hk10 k10 k10' y10 y11 y12 y13 HK9
              go_wp2_with fail
              refine ASc.mono ?_; rintro e w11 ⟨rfl, v11, hT11, hk11⟩
              obtain ⟨o10, o11, o12, o13⟩ := cell4 (HFN.out.2.1 w11 ((HK10.out.2.mono (fun _ _ h => h.elim)).trans hk11 (fun _ _ h => h)))
              have HE2 : Hid (∃ v Lc, Tb w2.heap.size w11 b1 ((N1 : Int) + N2) v Lc ∧ Mx A E Lc (cut C (0 + 1)) ∧ Kp (fun k => k = b1) w8 w11) := ⟨v11, _, hT11, HFN.out.2.2.1, (HFN.out.2.2.2.andNu HK10.out.1).trans hk11 (fun _ _ h => h)⟩
              clear ASc hT11 hk11 t10 t11 t12 t13 HK10
              go_wp2_with fail
              refine (num_any 0 _).mono ?_; rintro e wx ⟨rfl, hwx⟩
              obtain rfl := hwx.symm
              clear hwx
              go_wp2
              go_roundw
              case rel => exact ⟨0 + 1, by go_num, by omega, HE2⟩
              case measure => simp [intOf]; omega
            | succ j =>
              obtain ⟨d, hd⟩ : ∃ d, C[j]? = some d := ⟨_, List.getElem?_eq_getElem (by rw [HNC.out]; omega)⟩
              have hrow2 := hrow
              obtain ⟨r6, cap6, e6, hr6, hr6', d0, d1, d2, d3⟩ := rowC_at hrow2 hd
              rw [HNC.out] at e6
              simp only [Value.slice.injEq, Option.some.injEq, Addr.mk.injEq, and_true, true_and] at e6
              obtain ⟨rfl, hq6⟩ := e6
              clear hq6 hrow2
              obtain ⟨p1', p2'⟩ := HCH.out.pair hd hc
              have hc2 := hc
              have bd := HCH.out.all d (List.mem_of_getElem? hd)
              have g0 : decide ((0 : Int) < ((j + 1 : Nat) : Int)) = true := decide_eq_true (by omega)
              have g0' : decide ((0 : Int) < (j : Int) + 1) = true := decide_eq_true (by omega)
              have g1 : decide (d.hi ≥ c.lo) = false := decide_eq_false (by omega)
              have g1' : decide (c.lo ≤ d.hi) = false := g1
              have gw : IntKind.i64.wrap ((j : Int) + 1 - 1) = (j : Int) := by rw [IntKind.wrap_i64]; omega
              have gu : IntKind.u64.wrap (d.hi + 1) = d.hi + 1 := by rw [IntKind.wrap_u64]; have := bd.1; omega
              have hjI : (j : Int) < (NC : Int) := by omega
              have hj0 : (0 : Int) ≤ (j : Int) := by omega
              have hbl := Below.heap_alloc wr (.cells #[.int .u64 c.lo, .int .u64 c.hi, .int .u8 c.f, .int .u8 c.t] 55) _ hr5'
              have d1a : (wr.alloc (.cells #[.int .u64 c.lo, .int .u64 c.hi, .int .u8 c.f, .int .u8 c.t] 55)).cell? ⟨r5, j * 4 + 1, none⟩ = some (.int .u64 d.hi) := (World.cell?_of_block hbl).trans d1
              have d2a : (wr.alloc (.cells #[.int .u64 c.lo, .int .u64 c.hi, .int .u8 c.f, .int .u8 c.t] 55)).cell? ⟨r5, j * 4 + 2, none⟩ = some (.int .u8 d.f) := (World.cell?_of_block hbl).trans d2
              have d3a : (wr.alloc (.cells #[.int .u64 c.lo, .int .u64 c.hi, .int .u8 c.f, .int .u8 c.t] 55)).cell? ⟨r5, j * 4 + 3, none⟩ = some (.int .u8 d.t) := (World.cell?_of_block hbl).trans d3
              clear d0 d1 d2 d3 bd hbl
              by_cases r1 : d.hi + 1 = c.lo
              · by_cases r2 : d.f = c.f
                · have r3 : d.t ≠ c.t := fun e => p2' ⟨r1, r2, e⟩
                  have f1 : (d.hi + 1 == c.lo) = true := by simpa using r1
                  have f2 : (d.f == c.f) = true := by simpa using r2
                  have f3 : (d.t == c.t) = false := by simpa using r3
                  clear p2' r1 r2 r3
                  clear hI hT hM hkp hrow hT2 KA hbox s1 s2 s3 s4 hW1 hW2 hW3 hW4 hW5 hW8 OW1 OW2 AS hc hd hc2
                  go_wp2_with fail
                  go_quiet (fail)
                  go_wp2_with fail
                  have k0 : Kp Nu (wr.alloc (.cells #[.int .u64 c.lo, .int .u64 c.hi, .int .u8 c.f, .int .u8 c.t] 55)) ((wr.alloc (.cells #[.int .u64 c.lo, .int .u64 c.hi, .int .u8 c.f, .int .u8 c.t] 55)).drewN nq) := kp_dN _ _
                  have kq : Kp Nu wr ((wr.alloc (.cells #[.int .u64 c.lo, .int .u64 c.hi, .int .u8 c.f, .int .u8 c.t] 55)).drewN nq) := HFN.out.1.andNu k0
                  have OWa := HOW.out.1 _ kq
                  refine OWa.mono ?_; rintro e w9 ⟨rfl, hk9⟩
                  have k9 : Kp Nu wr w9 := kq.andNu hk9
                  have k9' : Kp Nu (wr.alloc (.cells #[.int .u64 c.lo, .int .u64 c.hi, .int .u8 c.f, .int .u8 c.t] 55)) w9 := k0.andNu hk9
                  have OWb := HOW.out.2.1 w9 k9
                  obtain ⟨y10, y11, y12, y13⟩ := cell4 (HFN.out.2.1 w9 (k9'.mono (fun _ _ h => h.elim)))
                  have HK9 := hide (And.intro k9 k9')
                  clear OWa hk9 k9 k9' k0 kq z10 z11 z12 z13
                  go_wp2_with fail
                  refine OWb.mono ?_; rintro e w10 ⟨rfl, hk10⟩
                  have k10 := HK9.out.1.andNu hk10
                  have k10' := HK9.out.2.andNu hk10
                  have ASc := HOW.out.2.2 w10 k10
                  obtain ⟨t10, t11, t12, t13⟩ := cell4 (HFN.out.2.1 w10 (k10'.mono (fun _ _ h => h.elim)))
                  have HK10 := hide (And.intro k10 k10')
                  clear OWb hk10 k10 k10' y10 y11 y12 y13 HK9
                  go_wp2_with fail
                  refine ASc.mono ?_; rintro e w11 ⟨rfl, v11, hT11, hk11⟩
                  obtain ⟨o10, o11, o12, o13⟩ := cell4 (HFN.out.2.1 w11 ((HK10.out.2.mono (fun _ _ h => h.elim)).trans hk11 (fun _ _ h => h)))
                  have HE2 : Hid (∃ v Lc, Tb w2.heap.size w11 b1 ((N1 : Int) + N2) v Lc ∧ Mx A E Lc (cut C ((j + 1) + 1)) ∧ Kp (fun k => k = b1) w8 w11) := ⟨v11, _, hT11, HFN.out.2.2.1, (HFN.out.2.2.2.andNu HK10.out.1).trans hk11 (fun _ _ h => h)⟩
                  clear ASc hT11 hk11 t10 t11 t12 t13 HK10
                  go_wp2_with fail
                  refine (num_any 0 _).mono ?_; rintro e wx ⟨rfl, hwx⟩
                  obtain rfl := hwx.symm
                  clear hwx
                  go_wp2
                  go_roundw
                  case rel => exact ⟨(j + 1) + 1, by go_num, by omega, HE2⟩
                  case measure => simp [intOf]; omega
                · have f1 : (d.hi + 1 == c.lo) = true := by simpa using r1
                  have f2 : (d.f == c.f) = false := by simpa using r2
                  clear p2' r1 r2
                  clear hI hT hM hkp hrow hT2 KA hbox s1 s2 s3 s4 hW1 hW2 hW3 hW4 hW5 hW8 OW1 OW2 AS hc hd hc2
                  go_wp2_with fail
                  go_quiet (fail)
                  go_wp2_with fail
                  have k0 : Kp Nu (wr.alloc (.cells #[.int .u64 c.lo, .int .u64 c.hi, .int .u8 c.f, .int .u8 c.t] 55)) ((wr.alloc (.cells #[.int .u64 c.lo, .int .u64 c.hi, .int .u8 c.f, .int .u8 c.t] 55)).drewN nq) := kp_dN _ _
                  have kq : Kp Nu wr ((wr.alloc (.cells #[.int .u64 c.lo, .int .u64 c.hi, .int .u8 c.f, .int .u8 c.t] 55)).drewN nq) := HFN.out.1.andNu k0
                  have OWa := HOW.out.1 _ kq
                  refine OWa.mono ?_; rintro e w9 ⟨rfl, hk9⟩
                  have k9 : Kp Nu wr w9 := kq.andNu hk9
                  have k9' : Kp Nu (wr.alloc (.cells #[.int .u64 c.lo, .int .u64 c.hi, .int .u8 c.f, .int .u8 c.t] 55)) w9 := k0.andNu hk9
                  have OWb := HOW.out.2.1 w9 k9
                  obtain ⟨y10, y11, y12, y13⟩ := cell4 (HFN.out.2.1 w9 (k9'.mono (fun _ _ h => h.elim)))
                  have HK9 := hide (And.intro k9 k9')
                  clear OWa hk9 k9 k9' k0 kq z10 z11 z12 z13
                  go_wp2_with fail
                  refine OWb.mono ?_; rintro e w10 ⟨rfl, hk10⟩
                  have k10 := HK9.out.1.andNu hk10
                  have k10' := HK9.out.2.andNu hk10
                  have ASc := HOW.out.2.2 w10 k10
                  obtain ⟨t10, t11, t12, t13⟩ := cell4 (HFN.out.2.1 w10 (k10'.mono (fun _ _ h => h.elim)))
                  have HK10 := hide (And.intro k10 k10')
                  clear OWb hk10 k10 k10' y10 y11 y12 y13 HK9
                  go_wp2_with fail
                  refine ASc.mono ?_; rintro e w11 ⟨rfl, v11, hT11, hk11⟩
                  obtain ⟨o10, o11, o12, o13⟩ := cell4 (HFN.out.2.1 w11 ((HK10.out.2.mono (fun _ _ h => h.elim)).trans hk11 (fun _ _ h => h)))
                  have HE2 : Hid (∃ v Lc, Tb w2.heap.size w11 b1 ((N1 : Int) + N2) v Lc ∧ Mx A E Lc (cut C ((j + 1) + 1)) ∧ Kp (fun k => k = b1) w8 w11) := ⟨v11, _, hT11, HFN.out.2.2.1, (HFN.out.2.2.2.andNu HK10.out.1).trans hk11 (fun _ _ h => h)⟩
                  clear ASc hT11 hk11 t10 t11 t12 t13 HK10
                  go_wp2_with fail
                  refine (num_any 0 _).mono ?_; rintro e wx ⟨rfl, hwx⟩
                  obtain rfl := hwx.symm
                  clear hwx
                  go_wp2
                  go_roundw
                  case rel => exact ⟨(j + 1) + 1, by go_num, by omega, HE2⟩
                  case measure => simp [intOf]; omega
              · have f1 : (d.hi + 1 == c.lo) = false := by simpa using r1
                clear p2' r1
                clear hI hT hM hkp hrow hT2 KA hbox s1 s2 s3 s4 hW1 hW2 hW3 hW4 hW5 hW8 OW1 OW2 AS hc hd hc2
                go_wp2_with fail
                go_quiet (fail)
                go_wp2_with fail
                have k0 : Kp Nu (wr.alloc (.cells #[.int .u64 c.lo, .int .u64 c.hi, .int .u8 c.f, .int .u8 c.t] 55)) ((wr.alloc (.cells #[.int .u64 c.lo, .int .u64 c.hi, .int .u8 c.f, .int .u8 c.t] 55)).drewN nq) := kp_dN _ _
                have kq : Kp Nu wr ((wr.alloc (.cells #[.int .u64 c.lo, .int .u64 c.hi, .int .u8 c.f, .int .u8 c.t] 55)).drewN nq) := HFN.out.1.andNu k0
                have OWa := HOW.out.1 _ kq
                refine OWa.mono ?_; rintro e w9 ⟨rfl, hk9⟩
                have k9 : Kp Nu wr w9 := kq.andNu hk9
                have k9' : Kp Nu (wr.alloc (.cells #[.int .u64 c.lo, .int .u64 c.hi, .int .u8 c.f, .int .u8 c.t] 55)) w9 := k0.andNu hk9
                have OWb := HOW.out.2.1 w9 k9
                obtain ⟨y10, y11, y12, y13⟩ := cell4 (HFN.out.2.1 w9 (k9'.mono (fun _ _ h => h.elim)))
                have HK9 := hide (And.intro k9 k9')
                clear OWa hk9 k9 k9' k0 kq z10 z11 z12 z13
                go_wp2_with fail
                refine OWb.mono ?_; rintro e w10 ⟨rfl, hk10⟩
                have k10 := HK9.out.1.andNu hk10
                have k10' := HK9.out.2.andNu hk10
                have ASc := HOW.out.2.2 w10 k10
                obtain ⟨t10, t11, t12, t13⟩ := cell4 (HFN.out.2.1 w10 (k10'.mono (fun _ _ h => h.elim)))
                have HK10 := hide (And.intro k10 k10')
                clear OWb hk10 k10 k10' y10 y11 y12 y13 HK9
                go_wp2_with fail
                refine ASc.mono ?_; rintro e w11 ⟨rfl, v11, hT11, hk11⟩
                obtain ⟨o10, o11, o12, o13⟩ := cell4 (HFN.out.2.1 w11 ((HK10.out.2.mono (fun _ _ h => h.elim)).trans hk11 (fun _ _ h => h)))
                have HE2 : Hid (∃ v Lc, Tb w2.heap.size w11 b1 ((N1 : Int) + N2) v Lc ∧ Mx A E Lc (cut C ((j + 1) + 1)) ∧ Kp (fun k => k = b1) w8 w11) := ⟨v11, _, hT11, HFN.out.2.2.1, (HFN.out.2.2.2.andNu HK10.out.1).trans hk11 (fun _ _ h => h)⟩
                clear ASc hT11 hk11 t10 t11 t12 t13 HK10
                go_wp2_with fail
                refine (num_any 0 _).mono ?_; rintro e wx ⟨rfl, hwx⟩
                obtain rfl := hwx.symm
                clear hwx
                go_wp2
                go_roundw
                case rel => exact ⟨(j + 1) + 1, by go_num, by omega, HE2⟩
                case measure => simp [intOf]; omega
          · have hge : ¬ (k : Int) < (NC : Int) := by omega
            obtain rfl : k = NC := by omega
            obtain ⟨v, Lc, hT, hM, hkp⟩ := hI.out
            rw [← HNC.out] at hM
            have hdone := HCH.out.done HE.out hM
            subst hdone
            obtain ⟨hW1, hW2, hW3, hW4, hW5, hW6, hW7, hW8⟩ := HW.out
            obtain ⟨hB1, hB2, hB3, hB4⟩ := HB.out
            have hrow := own_oth hW4 hkp (by omega)
            have LI := list_any hT
            have SA := fun W u2 (h : W.ownsRow wr.heap.size 40 3 u2 Lc.length (cells Lc)) (kk : Kp Nu wr W) => same_true W u2 (.slice ad4 NE cap4) Lc (rs_of_own h HE.out.ne) ((rs_of_own hrow HE.out.ne).nu kk) (by have := HLL.out; omega)
            have HF : Hid (Kp Nu w wr) := Kp.of_below (hW5.toBelow.trans (hkp.below w.heap.size hW5.size (fun j e => by have e2 : j = b1 := e; have := HK2.out.size; omega)))
            clear hI hT hM hkp hW1 hW2 hW3 hW4 hW5 hW8 hrow
            go_wp2_with fail
            refine LI.mono ?_; rintro e w9 ⟨u9, rfl, h9, hk9⟩
            obtain ⟨ad9, cp9, hu9⟩ := own_slice h9
            have SA1 := SA w9 u9 h9 hk9
            rw [HNE.out] at hu9
            have HF2 := hide (HF.out.andNu hk9)
            subst hu9
            clear LI SA h9 hk9
            go_wp2_with fail
            refine SA1.mono ?_; rintro e w10 ⟨rfl, hk10⟩
            clear SA1
            go_wp2
            go_ret
            exact ⟨rfl, HF2.out.andNu hk10⟩
    · have hcn : (c2 != 0) = true := by simpa using q2
      subst q1
      go_wp2
      go_ret
      exact ⟨rfl, HK2.out⟩
  · have hcn : (c1 != 0) = true := by simpa using q1
    go_wp2
    go_ret
    exact ⟨rfl, HK2.out⟩
end Go.Proofs.Ytffcnonhhfhlhaa.Rg
