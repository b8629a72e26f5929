import Derived.Test.YtmlnglillgplfaaGreatRcD
namespace Go.Proofs.YtmlnglillgplfaaGreat.Cl
open Go.RowKit
set_option linter.unusedVariables false
theorem mg_one (m : Mg) : m.cells.all (·.oneCell') = true := by
  simp [Mg.cells, Sl.val, Value.oneCell']
/-- what the document's Check answers -/
def ChkA (m : Mg) (e : Ending) : Prop := ∃ n : Int, e = .returned (.int .i64 n) ∧ (n = 0 → 1 ≤ m.k ∧ m.k ≤ 12 ∧ (∀ f ∈ ul m, m.rul f) ∧ Alike m ((Mg.bare m.k).lays m (ul m)))
set_option maxRecDepth 100000 in
set_option maxHeartbeats 4000000 in
theorem refCheck (w : World) (m : Mg) (ok : m.Ok) (hr : Rdm w m) : Calls Tryz.prog 47 #[.agg m.cells] w fun e w' => ChkA m e ∧ Kp Nu w w' := by
  have mixed : Tryz.prog.follows .mixedOrders = true := by kernel_rfl
  obtain ⟨wa, hwa⟩ : ∃ wa, w.alloc (.cells m.cells 36) = wa := ⟨_, rfl⟩
  have kwa : Kp Nu w wa := by rw [← hwa]; exact Kp.alloc _ _ _
  have hm1 : Blk wa w.heap.size m := by rw [← hwa]; exact heap_new w _
  have c0 := hm1.at 0 (.int .u8 m.k) rfl
  have e1 := wrapI ok.k
  have HKA := hide kwa
  have HM1 := hide hm1
  by_cases h1 : 1 ≤ m.k
  case neg =>
    have h1' : m.k < 1 := by omega
    have HN : Hid (ChkA m (.returned (.int .i64 32))) := ⟨32, rfl, fun h => by simp at h⟩
    clear hm1 kwa ok hr
    go_enter Tryz.func47, Tryz.ntmps47
    go_wp2
    go_ret
    exact ⟨HN.out, HKA.out⟩
  case pos =>
  by_cases h12 : m.k ≤ 12
  case neg =>
    have h1' : ¬ m.k < 1 := by omega
    have h2' : m.k > 12 := by omega
    have HN : Hid (ChkA m (.returned (.int .i64 32))) := ⟨32, rfl, fun h => by simp at h⟩
    clear hm1 kwa ok hr
    go_enter Tryz.func47, Tryz.ntmps47
    go_wp2
    go_ret
    exact ⟨HN.out, HKA.out⟩
  case pos =>
  have US := fun W => uses_any W m ok h1 h12
  have LA := fun W n f g1 g2 => lay_any W n m f g1 g2
  have RU := fun W f g1 g2 => rule_any W m ok hr.pa hr.se f g1 g2
  have OR := fun W f g2 => order_all W m hr.pa hr.se f g2
  have HR := hide hr
  have h1' : ¬ m.k < 1 := by omega
  have h2' : ¬ m.k > 12 := by omega
  have HK12 := hide (And.intro h1 h12)
  have HUF : Hid (∀ f ∈ ul m, 1 ≤ f ∧ f ≤ 15) := fun f hf => ul_fit hf
  have hul := ul_len m
  clear hm1 kwa ok hr h1 h12
  generalize hU : ul m = us at *
  have HU := hide hU
  clear hU
  go_enter Tryz.func47, Tryz.ntmps47
  go_wp2_with (guard_target =~ wpList _ _ _ ({ dst := _, op := Op.load 36 (Operand.tmp 1), type := _, pos := _, after := _, guard := _ } :: _) _ _; refine wpList_load_all 36 17 (.tmp 1) rfl rfl info36 _ Tryz.underlying36 rfl _ rfl HM1.out rfl ?_)
  refine (US _).mono ?_; rintro e w1 ⟨v, rfl, his, hk1⟩
  obtain ⟨r, cp, hv, hrb⟩ := his
  obtain ⟨N, hN⟩ : ∃ N, us.length = N := ⟨_, rfl⟩
  rw [hN] at hv hul
  have HN := hide hN
  have HM1' := hide (HM1.out.nu hk1)
  have HRB := hide hrb
  have HK1 := hide (HKA.out.andNu hk1)
  have c0' := (HM1.out.nu hk1).at 0 (.int .u8 m.k) rfl
  subst hv
  clear US hk1 hrb hN c0
  go_wp2_with (guard_target =~ wpList _ _ _ ({ dst := none, op := Op.store 36 (Operand.tmp 4) (Operand.tmp 24), type := _, pos := _, after := _, guard := _ } :: _) _ _; refine wpList_store_new 36 17 (.tmp 4) (.tmp 24) rfl rfl info36 _ _ _ rfl rfl (by simp) rfl rfl (by simp [Value.oneCell']) ?_)
  obtain ⟨w2, hw2⟩ : ∃ w2, w1.alloc (.cells (Mg.bare m.k).cells 36) = w2 := ⟨_, rfl⟩
  have hB2 : Blk w2 w1.heap.size (Mg.bare m.k) := by rw [← hw2]; exact heap_new w1 _
  have k12 : Kp Nu w1 w2 := by rw [← hw2]; exact Kp.alloc _ _ _
  have HB2 := hide hB2
  have HM2 := hide (HM1'.out.nu k12)
  have HR2 := hide ((k12.block _ (blk_lt HRB.out) (fun h => h)).trans HRB.out)
  have HK2 := hide (HK1.out.andNu k12)
  have hmb : w.heap.size < w1.heap.size := blk_lt HM1'.out
  have hrb : r < w1.heap.size := blk_lt HRB.out
  change Code.wp _ _ _ _ (w1.alloc (.cells (Mg.bare m.k).cells 36))
  rw [hw2]
  clear hB2 k12 hw2 c0' HM1' HRB HK1
  generalize w1.heap.size = b4 at *
  go_loopw [5, 6] (fun so i wr => ∃ k : Nat, so = .bool true ∧ i = .int .i64 (k : Int) ∧ k ≤ N ∧ Hid (Blk wr b4 ((Mg.bare m.k).lays m (us.take k)) ∧ (∀ f ∈ us.take k, m.rul f) ∧ Kp (fun i => i = b4) w2 wr)) (fun _ i _ => N - (intOf i).toNat)
  case atStart => exact ⟨0, rfl, rfl, Nat.zero_le _, ⟨HB2.out, fun f hf => (by simp at hf), Kp.refl _ _⟩⟩
  case round =>
    obtain ⟨k, rfl, rfl, hk, hI⟩ := hrel
    obtain ⟨hb, hru, hkp⟩ := hI.out
    by_cases hlt : k < N
    · obtain ⟨f, hfk⟩ : ∃ f, us[k]? = some f := ⟨_, List.getElem?_eq_getElem (by rw [HN.out]; exact hlt)⟩
      obtain ⟨f1, f15⟩ := HUF.out f (List.mem_of_getElem? hfk)
      have hrW := (hkp.block r (blk_lt HR2.out) (fun e => by have e : r = b4 := e; omega)).trans HR2.out
      have hcell := cellAt hrW k (v := .int .i64 (f : Int)) (by simp [hfk])
      have hmW : Blk wr w.heap.size m := HM2.out.kp hkp (fun e => by have e : w.heap.size = b4 := e; omega)
      have HL := hide (lays_take (n := Mg.bare m.k) (m := m) hfk)
      have HT : Hid (us.take (k + 1) = us.take k ++ [f]) := by
        show us.take (k + 1) = _
        rw [List.take_add_one, hfk, Option.toList_some]
      have HFK := hide hfk
      have HB := hide hb
      have HMW := hide hmW
      have HRU := hide hru
      have HKP := hide hkp
      have HCE := hide hcell
      have hltI : (k : Int) < (N : Int) := by omega
      have hk0 : (0 : Int) ≤ (k : Int) := by omega
      have hkN : (k : Int) ≤ 6 := by omega
      generalize (Mg.bare m.k).lays m (us.take k) = nn at *
      clear hI hb hru hkp hrW hmW hfk
      go_wp2_with fail
      refine wp_region_still_tail 6 mixed (by kernel_rfl) ?_
      simp only [List.take_succ_cons, List.take_zero, List.drop_succ_cons, List.drop_zero]
      refine wpStill_load 36 17 (.tmp 4) rfl rfl info36 _ Tryz.underlying36 rfl b4 0 rfl nn.cells.toList (range_drawn (range_of HB.out)) rfl ?_
      refine wpStill_load 36 17 (.tmp 1) rfl rfl info36 _ Tryz.underlying36 rfl w.heap.size 0 rfl m.cells.toList (range_drawn (range_of HMW.out)) rfl ?_
      still_step
      still_step
      still_step
      still_step
      refine wpStill_nil ?_
      have dk : Kp Nu wr { wr with drawn := wr.drawn + 1 } := ⟨rfl, rfl, rfl, Nat.le_refl _, fun _ _ _ => rfl⟩
      have LA1 := LA { wr with drawn := wr.drawn + 1 } nn f f1 f15
      generalize hwd : ({ wr with drawn := wr.drawn + 1 } : World) = wd at *
      have HKD := hide (HKP.out.andNu dk)
      have HBD := hide (HB.out.nu dk)
      have HMD := hide (HMW.out.nu dk)
      clear dk hwd LA hcell HB HMW HKP
      go_wp2_with fail
      refine LA1.mono ?_; rintro e w3 ⟨rfl, hk3⟩
      have HB3 := hide (HBD.out.nu hk3)
      have HM3 := hide (HMD.out.nu hk3)
      have HK3 := hide (HKD.out.andNu hk3)
      clear LA1 hk3 HBD HMD HKD
      go_wp2_with (guard_target =~ wpList _ _ _ ({ dst := none, op := Op.store 36 (Operand.tmp 4) (Operand.tmp 37), type := _, pos := _, after := _, guard := _ } :: _) _ _; refine wpList_store_all 36 17 (.tmp 4) (.tmp 37) rfl rfl info36 _ _ rfl rfl HB3.out rfl rfl (mg_one _) ?_; intro w4 hw4 hk4 _)
      have HB4 : Hid (Blk w4 b4 (nn.lay m f)) := hw4
      have HM4 := hide (HM3.out.kp hk4 (fun e => by have e : w.heap.size = b4 := e; omega))
      have HK4 : Hid (Kp (fun i => i = b4) w2 w4) := HK3.out.trans hk4 (fun _ _ e => e)
      have hcell4 := cellAt ((HK4.out.block r (blk_lt HR2.out) (fun e => by have e : r = b4 := e; omega)).trans HR2.out) k (v := .int .i64 (f : Int)) (by simp [HFK.out])
      clear hw4 hk4 HB3 HM3 HK3 HCE
      refine wp_region_still_tail 5 mixed (by kernel_rfl) ?_
      simp only [List.take_succ_cons, List.take_zero, List.drop_succ_cons, List.drop_zero]
      refine wpStill_load 36 17 (.tmp 1) rfl rfl info36 _ Tryz.underlying36 rfl w.heap.size 0 rfl m.cells.toList (range_drawn (range_of HM4.out)) rfl ?_
      still_step
      still_step
      still_step
      still_step
      refine wpStill_nil ?_
      have dk : Kp Nu w4 { w4 with drawn := w4.drawn + 1 } := ⟨rfl, rfl, rfl, Nat.le_refl _, fun _ _ _ => rfl⟩
      have RU1 := RU { w4 with drawn := w4.drawn + 1 } f f1 f15
      generalize hwd : ({ w4 with drawn := w4.drawn + 1 } : World) = wd at *
      have HBD := hide (HB4.out.nu dk)
      have HMD := hide (HM4.out.nu dk)
      have HKD := hide (HK4.out.andNu dk)
      clear dk hwd RU hcell4 HB4 HM4 HK4
      go_wp2_with fail
      refine RU1.mono ?_; rintro e w5 ⟨⟨bb, rfl, hbb⟩, hk5⟩
      have HB5 := hide (HBD.out.nu hk5)
      have HM5 := hide (HMD.out.nu hk5)
      have HK5 := hide (HKD.out.andNu hk5)
      have HBB := hide hbb
      clear RU1 hk5 HBD HMD HKD hbb
      cases bb with
      | false =>
        have HN35 : Hid (ChkA m (.returned (.int .i64 35))) := ⟨35, rfl, fun h => by simp at h⟩
        have HKF : Hid (Kp Nu w w5) := HK2.out.trans HK5.out (fun i hi e => by have e : i = b4 := e; omega)
        go_wp2
        go_ret
        exact ⟨HN35.out, HKF.out⟩
      | true =>
        have HRU2 : Hid (∀ f' ∈ us.take (k + 1), m.rul f') := by
          show ∀ f' ∈ us.take (k + 1), m.rul f'
          rw [HT.out]
          intro f' hf'
          rcases List.mem_append.1 hf' with h | h
          · exact HRU.out f' h
          · have h := List.mem_singleton.1 h
            rw [h]
            exact HBB.out rfl
        have hcell5 := cellAt ((HK5.out.block r (blk_lt HR2.out) (fun e => by have e : r = b4 := e; omega)).trans HR2.out) k (v := .int .i64 (f : Int)) (by simp [HFK.out])
        go_wp2_with fail
        refine wp_region_still_tail 5 mixed (by kernel_rfl) ?_
        simp only [List.take_succ_cons, List.take_zero, List.drop_succ_cons, List.drop_zero]
        refine wpStill_load 36 17 (.tmp 1) rfl rfl info36 _ Tryz.underlying36 rfl w.heap.size 0 rfl m.cells.toList (range_drawn (range_of HM5.out)) rfl ?_
        still_step
        still_step
        still_step
        still_step
        refine wpStill_nil ?_
        have dk : Kp Nu w5 { w5 with drawn := w5.drawn + 1 } := ⟨rfl, rfl, rfl, Nat.le_refl _, fun _ _ _ => rfl⟩
        have OR1 := OR { w5 with drawn := w5.drawn + 1 } f f15
        generalize hwd : ({ w5 with drawn := w5.drawn + 1 } : World) = wd at *
        have HBD := hide (HB5.out.nu dk)
        have HKD := hide (HK5.out.andNu dk)
        clear dk hwd OR hcell5 HB5 HM5 HK5
        go_wp2_with fail
        refine OR1.mono ?_; rintro e w6 ⟨rfl, hk6⟩
        have HB6 := hide (HBD.out.nu hk6)
        have HK6 := hide (HKD.out.andNu hk6)
        clear OR1 hk6 HBD HKD
        go_wp2
        exact ⟨⟨k + 1, by first | rfl | trivial | simp, by go_num, by omega, ⟨by rw [HL.out]; exact HB6.out, HRU2.out, HK6.out⟩⟩, by simp [intOf]; omega⟩
    · obtain rfl : k = N := by omega
      have hge : ¬ (k : Int) < (k : Int) := by omega
      rw [List.take_of_length_le (by rw [HN.out]; omega)] at hb hru
      have HB := hide hb
      have HMW := hide (HM2.out.kp hkp (fun e => by have e : w.heap.size = b4 := e; omega))
      have KF : Kp Nu w wr := HK2.out.trans hkp (fun i hi e => by have e : i = b4 := e; omega)
      have SM := sameM wr m _ (HR.out.nu KF) (lays_rdm (HR.out.nu KF) us (bare_rdm wr m.k))
      have HRU := hide hru
      have HKF := hide KF
      clear hI hb hru hkp KF
      go_wp2_with (first | (guard_target =~ wpList _ _ _ ({ dst := _, op := Op.load 36 (Operand.tmp 1), type := _, pos := _, after := _, guard := _ } :: _) _ _; refine wpList_load_all 36 17 (.tmp 1) rfl rfl info36 _ Tryz.underlying36 rfl _ rfl HMW.out rfl ?_) | (guard_target =~ wpList _ _ _ ({ dst := _, op := Op.load 36 (Operand.tmp 4), type := _, pos := _, after := _, guard := _ } :: _) _ _; refine wpList_load_all 36 17 (.tmp 4) rfl rfl info36 _ Tryz.underlying36 rfl _ rfl HB.out rfl ?_))
      refine SM.mono ?_; rintro e w3 ⟨rr, rfl, hrr, hk3⟩
      have HK3 := hide (HKF.out.andNu hk3)
      have HRR := hide hrr
      clear SM hk3 hrr
      cases rr with
      | false =>
        have HN35 : Hid (ChkA m (.returned (.int .i64 35))) := ⟨35, rfl, fun h => by simp at h⟩
        go_wp2
        go_ret
        exact ⟨HN35.out, HK3.out⟩
      | true =>
        have HN0 : Hid (ChkA m (.returned (.int .i64 0))) := ⟨0, rfl, fun _ => ⟨HK12.out.1, HK12.out.2, by rw [HU.out]; exact HRU.out, by rw [HU.out]; exact HRR.out rfl⟩⟩
        go_wp2
        go_ret
        exact ⟨HN0.out, HK3.out⟩
end Go.Proofs.YtmlnglillgplfaaGreat.Cl
