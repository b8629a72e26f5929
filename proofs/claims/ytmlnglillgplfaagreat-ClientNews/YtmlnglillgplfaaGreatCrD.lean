import Derived.Test.YtmlnglillgplfaaGreatCrC
import Derived.Test.YtmlnglillgplfaaGreatCtI
namespace Go.Proofs.YtmlnglillgplfaaGreat.Cl
open Go.RowKit Go.Maps
set_option linter.unusedVariables false
theorem run_nth (hosts pat tries : Int) (hb mb : Nat) (k key hi : Int) (v o : Sl) (has : Bool) (lim : Int) : Cs.run hosts pat tries hb mb k key hi v o has lim = Cs.nth hosts pat tries hb mb k key hi v o has lim 1 0 := rfl
theorem out1_one (k key hi : Int) (v o : Sl) (has : Bool) (lim : Int) : (out1 k key hi v o has lim).all (·.oneCell') = true := by
  simp [out1, Sl.val, Value.oneCell']
theorem Cl.bt {w w' : World} {b nb z : Nat} {s : Cs} {D : DataW Unit} {V O : List Int} {c : Array Value} (h : Cl w b s nb D V O) (k : Kp (fun i => i = z) w w') (hz : w.heap[z]? = some (.cells c 41 (0, 0))) (h1 : b ≠ z) (h2 : s.mb ≠ z) : Cl w' b s nb D V O := by
  have nb5 : ∀ i, i = z → ∀ c, w.heap[i]? ≠ some (.cells c 5 (0, 0)) := fun i hi c hx => by rw [hi, hz] at hx; simp at hx
  exact ⟨h.cb.kp k h1, h.am.keep (k.block _ h.am.lt h2), h.v.kp k nb5, h.o.kp k nb5, h.lv, h.lo⟩
set_option maxRecDepth 100000 in
set_option maxHeartbeats 4000000 in
theorem round_walk (w : World) (hosts pat : Int) (k key hi lim : Int) (v o : Sl) (has : Bool) (V O : List Int) (hv : Ct w v V) (ho : Ct w o O) (hB : RqB k key hi lim) :
    Calls Tryz.prog 3 #[.int .i64 hosts, .int .i64 pat, .agg #[.int .u8 k, .int .u64 key, .int .u64 hi, v.val, o.val, .bool has, .int .u8 lim]] w fun e w' => e = .returned (.bool true) ∧ Kp Nu w w' := by
  have LI := fun W t => limits_any W hosts pat t
  have MB := fun W (kp : Kp Nu w W) => mayBe_any W k key hi lim v o has V O hB (hv.nu kp) (ho.nu kp)
  have BG := fun W (kp : Kp Nu w W) (L : Lim hosts pat (2 * hosts)) (hR : RqOk k key hi v o has lim) => begun_ok W hosts pat (2 * hosts) L.h0 L.h1 L.p0 L.p1 L.t0 L.t1 k key hi lim v o has V O (hv.nu kp) (ho.nu kp) hB hR
  clear hv ho hB
  unfold Sl.val at MB BG ⊢
  go_enter Tryz.func3, Tryz.ntmps3
  go_wp2_with fail
  refine (LI _ _).mono ?_; rintro e w' ⟨⟨bo, rfl, hL⟩, hw⟩
  obtain rfl := hw.symm
  have HL := hide hL
  clear LI hw hL
  go_wp2_with (guard_target =~ wpList _ _ _ ({ dst := _, op := Op.load 26 (Operand.tmp 5), type := _, pos := _, after := _, guard := _ } :: _) _ _; refine wpList_load_all 26 7 (.tmp 5) rfl rfl info26 _ Tryz.underlying26 rfl _ rfl (heap_new w _) rfl ?_)
  refine (MB _ (Kp.alloc _ _ _)).mono ?_; rintro e w1 ⟨⟨bm, rfl, hR⟩, hk1⟩
  have HR := hide hR
  have HA1 := hide (new_at w _ hk1)
  have HK1 := hide ((Kp.alloc w _ Nu).andNu hk1)
  clear MB hR hk1
  cases bo with
  | false =>
    go_wp2
    go_ret
    exact ⟨rfl, HK1.out⟩
  | true =>
  cases bm with
  | false =>
    go_wp2
    go_ret
    exact ⟨rfl, HK1.out⟩
  | true =>
  have L := HL.out rfl
  have e2 : RowKit.wrap64 (2 * hosts) = 2 * hosts := by
    have h0 := L.h0
    have h1 := L.h1
    unfold RowKit.wrap64
    omega
  rw [e2] at L
  have BG1 := BG w1 HK1.out L (HR.out rfl)
  have HLL := hide L
  clear BG L HL HR
  go_wp2_with (guard_target =~ wpList _ _ _ ({ dst := _, op := Op.load 26 (Operand.tmp 5), type := _, pos := _, after := _, guard := _ } :: _) _ _; refine wpList_load_all 26 7 (.tmp 5) rfl rfl info26 _ Tryz.underlying26 rfl _ rfl HA1.out rfl ?_)
  refine BG1.mono ?_; rintro e w2 ⟨b, hb, mb, v', o', v1, o1, nb, D, rfl, hcl, hv1, ho1, hbl, hml, hk2⟩
  rw [run_nth] at hcl
  have HCL := hide hcl
  have HK2 := hide (HK1.out.andNu hk2)
  have HBL := hide (And.intro hbl hml)
  clear BG1 hcl hv1 ho1 hbl hml hk2 HA1
  have y0 := fun q => cellAt (new12 w2 (.cells (out1 k key hi v1 o1 has lim) 38) q) 0 (v := .int .u8 0) rfl
  go_wp2_with (guard_target =~ wpList _ _ _ ({ dst := none, op := Op.store 38 (Operand.tmp 10) (Operand.tmp 39), type := _, pos := _, after := _, guard := _ } :: _) _ _; refine wpList_store_new 38 18 (.tmp 10) (.tmp 39) rfl rfl info38 _ _ _ rfl rfl (by simp) rfl rfl (out1_one _ _ _ _ _ _ _) ?_)
  obtain ⟨w3, hw3⟩ : ∃ w3, (w2.alloc (.cells (out1 k key hi v1 o1 has lim) 38)).alloc (.cells (tmL 1).toArray 41) = w3 := ⟨_, rfl⟩
  have hT3 : w3.heap[w2.heap.size + 1]? = some (.cells (tmL 1).toArray 41 (0, 0)) := by rw [← hw3]; exact new2 w2 _ _
  have k23 : Kp Nu w2 w3 := by rw [← hw3]; exact (Kp.alloc _ _ _).andAlloc _
  have hcl3 := HCL.out.nu k23
  have hbt : b < w2.heap.size := HCL.out.cb.lt
  have hmt : mb < w2.heap.size := HCL.out.am.lt
  have HK3 := hide (HK2.out.andNu k23)
  have HT3 := hide hT3
  have HCL3 := hide hcl3
  change Code.wp _ _ _ _ ((w2.alloc (.cells (out1 k key hi v1 o1 has lim) 38)).alloc (.cells (tmL 1).toArray 41))
  rw [hw3]
  obtain ⟨hh0, hh1, hp0, hp1, _, _⟩ := HLL.out
  obtain ⟨N, hN⟩ : ∃ N : Nat, (N : Int) = 2 * hosts := ⟨(2 * hosts).toNat, by omega⟩
  have hbm := HBL.out
  have hw1 := HK1.out.size
  generalize hbT : w2.heap.size + 1 = bT at *
  have HBT : Hid (b < bT ∧ mb < bT ∧ w.heap.size ≤ b ∧ w.heap.size ≤ mb ∧ w.heap.size ≤ bT) := by show _ ∧ _; omega
  clear hw3 hT3 k23 hcl3 hbt hmt y0 HCL hbm hw1 hbT HK2
  have HN := hide hN
  rw [← hN] at HCL3
  rw [← hN] at e2
  have hN2 : 1 ≤ N := by omega
  have hN3 : (N : Int) ≤ 32 := by omega
  clear hN
  go_loopw [13] (fun iv wr => ∃ i : Nat, iv = .int .i64 (i : Int) ∧ 1 ≤ i ∧ i ≤ N ∧ Hid ((∃ nb D, Cl wr b (Cs.nth hosts pat (N : Int) hb mb k key hi v' o' has lim i 0) nb D V O) ∧ wr.heap[bT]? = some (.cells (tmL i).toArray 41 (0, 0)) ∧ Kp Nu w wr)) (fun iv _ => N - (intOf iv).toNat)
  case atStart => exact ⟨1, rfl, Nat.le_refl _, by omega, ⟨⟨_, _, HCL3.out⟩, HT3.out, HK3.out⟩⟩
  case round =>
    obtain ⟨i, rfl, hi1, hiN, hI⟩ := hrel
    by_cases hlt : i < N
    · obtain ⟨⟨nb, D, hcl⟩, hta, hkw⟩ := hI.out
      have hltI : (i : Int) < (2 * hosts) := by have := HN.out; omega
      have hi0 : (0 : Int) ≤ (i : Int) := by omega
      have HCI := hide hcl
      have HTA := hide hta
      have HKW := hide hkw
      clear hI hcl hta hkw
      go_wp2_with fail
      obtain ⟨wl, rfl⟩ : ∃ wl : World, wl = wr := ⟨_, rfl⟩
      go_loopw [14] (fun kv wx => ∃ j : Nat, kv = .int .i64 (j : Int) ∧ 1 ≤ j ∧ (j : Int) ≤ pat ∧ Hid ((∃ nb D, Cl wx b (Cs.nth hosts pat (N : Int) hb mb k key hi v' o' has lim i ((j - 1 : Nat) : Int)) nb D V O) ∧ wx.heap[bT]? = some (.cells (tmL i).toArray 41 (0, 0)) ∧ Kp Nu w wx)) (fun kv _ => pat.toNat - (intOf kv).toNat)
      case atStart => exact ⟨1, rfl, Nat.le_refl _, by omega, ⟨⟨_, _, HCI.out⟩, HTA.out, HKW.out⟩⟩
      case round =>
        rename World => wx
        obtain ⟨j, rfl, hj1, hjp, hJ⟩ := hrel
        obtain ⟨⟨nbx, Dx, hclx⟩, htx, hkx⟩ := hJ.out
        have hbt := HBT.out
        have hj0 : (0 : Int) ≤ (j : Int) := by omega
        by_cases hlt2 : (j : Int) < pat
        · have TL := nth_less hclx (by omega) hp1 (by omega)
          have HTX := hide htx
          have HKX := hide hkx
          clear hJ hclx htx hkx
          go_wp2_with fail
          refine TL.mono ?_; rintro e w5 ⟨rfl, hcl5, hk5⟩
          have ej : (((j - 1 : Nat) : Int) + 1) = ((j + 1 - 1 : Nat) : Int) := by omega
          rw [ej] at hcl5
          have HC5 := hide hcl5
          have HT5 := hide ((hk5.block bT (blk_lt HTX.out) (fun e => by have e' : bT = b := e; omega)).trans HTX.out)
          have HK5 := hide (HKX.out.trans hk5 (fun q hq e => by have e' : q = b := e; omega))
          clear TL hcl5 hk5 ej
          go_wp2
          exact ⟨⟨j + 1, by go_num, by omega, by omega, ⟨⟨_, _, HC5.out⟩, HT5.out, HK5.out⟩⟩, by simp [intOf]; omega⟩
        · have ej : ((j - 1 : Nat) : Int) = pat - 1 := by omega
          rw [ej] at hclx
          have TA := nth_again hclx hh0 hh1 hp0 hp1 hi1 (by have := HN.out; omega) (by omega)
          have HTX := hide htx
          have HKX := hide hkx
          have hge : ¬ (j : Int) < pat := hlt2
          have hT16 : i / 2 < 16 := by omega
          have hTh : ¬ ((i / 2 : Nat) : Int) ≥ hosts := by have := HN.out; omega
          have eT := wrap64 (x := ((i / 2 : Nat) : Int)) (by omega) (by omega)
          have htmr : -1000000 ≤ tm i (i / 2) + 1 ∧ tm i (i / 2) + 1 ≤ 1000000 := by unfold tm; split <;> (try split) <;> omega
          have eM := wrap64 htmr.1 htmr.2
          clear hJ hclx htx hkx ej htmr
          go_wp2_with fail
          refine TA.mono ?_; rintro e w6 ⟨g, v6, o6, rfl, hg6, _, _, hgl6, ⟨nb6, D6, hcl6⟩, hk6⟩
          have hT6 := (hk6.block bT (blk_lt HTX.out) (fun e => Or.elim e (fun e => by have e' : bT = b := e; omega) (fun e => by have e' : bT = mb := e; omega))).trans HTX.out
          have q0 := cellAt hg6 0 (v := .int .u8 ((i / 2 : Nat) : Int)) rfl
          have q1 := cellAt hT6 (i / 2) (tm_at i (i / 2) hT16)
          have q2 := free3 hT6 (i / 2)
          have K6 : Kp Nu w w6 := HKX.out.trans hk6 (fun q hq e => Or.elim e (fun e => by have e' : q = b := e; omega) (fun e => by have e' : q = mb := e; omega))
          have hS := set3 hT6 (i / 2) (.int .i64 (tm i (i / 2) + 1))
          rw [tm_next i hT16] at hS
          have hK7 : Kp Nu w (w6.setCell ⟨bT, i / 2, none⟩ (.int .i64 (tm i (i / 2) + 1))) := K6.andSet _ _ (.inl hbt.2.2.2.2)
          have hC7 := hcl6.bt (w' := w6.setCell ⟨bT, i / 2, none⟩ (.int .i64 (tm i (i / 2) + 1))) (Kp.setCell w6 ⟨bT, i / 2, none⟩ (.int .i64 (tm i (i / 2) + 1))) hT6 (by show b ≠ bT; omega) (by show mb ≠ bT; omega)
          have HF := hide (And.intro hC7 (And.intro hS hK7))
          have hti : (0 : Int) ≤ ((i / 2 : Nat) : Int) := by omega
          have hti2 : ((i / 2 : Nat) : Int) < 16 := by omega
          clear TA hg6 hgl6 hcl6 hk6 hT6 K6 hS hK7 hC7
          go_wp2
          exact ⟨⟨i + 1, by go_num, by omega, by omega, ⟨⟨_, _, HF.out.1⟩, HF.out.2.1, HF.out.2.2⟩⟩, by simp [intOf]; omega⟩
    · obtain rfl : i = N := by omega
      obtain ⟨_, hta, hkw⟩ := hI.out
      have hge : ¬ (i : Int) < 2 * hosts := by have := HN.out; omega
      have HTA := hide hta
      have HKW := hide hkw
      clear hI hta hkw hlt
      go_wp2_with fail
      obtain ⟨wl, rfl⟩ : ∃ wl : World, wl = wr := ⟨_, rfl⟩
      go_loopw [17] (fun hv wx => ∃ h : Nat, hv = .int .i64 (h : Int) ∧ (h : Int) ≤ hosts ∧ wx = wl) (fun hv _ => hosts.toNat - (intOf hv).toNat)
      case atStart => exact ⟨0, rfl, by omega, rfl⟩
      case round =>
        rename World => wx
        obtain ⟨h, rfl, hhl, rfl⟩ := hrel
        have h0 : (0 : Int) ≤ (h : Int) := by omega
        by_cases hlt3 : (h : Int) < hosts
        · have h16 : (h : Int) < 16 := by omega
          have h16' : h < 16 := by omega
          have q1 := cellAt HTA.out h (tm_at i h h16')
          rw [tm_full (by have := HN.out; omega)] at q1
          go_wp2
          exact ⟨⟨h + 1, by go_num, by omega, trivial⟩, by simp [intOf]; omega⟩
        · go_wp2
          go_ret
          exact ⟨rfl, HKW.out⟩
end Go.Proofs.YtmlnglillgplfaaGreat.Cl
