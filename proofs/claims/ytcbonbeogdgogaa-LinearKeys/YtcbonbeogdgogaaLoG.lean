import Derived.Test.YtcbonbeogdgogaaLoF
namespace Go.Proofs.Ytcbonbeogdgogaa.Li
open Go.RowKit
set_option linter.unusedVariables false
/-- the call of zeros -/
def zca : Ca := ⟨0, 0, 0, 0, 0, 0, 0, 0, 0, false, none, none, none, 0, 0, 0, [], [], []⟩
/-- where inTime stands: d begins last -/
structure It (w wr : World) (L : List Ca) (o : List Int) (i b : Nat) (d : Ca) : Prop where
  kp : Kp Nu w wr
  bx : wr.heap[b]? = some (.cells d.cells.toArray 30 (0, 0))
  up : ∀ q y c, q < i → o[q]? = some y → L[y.toNat]? = some c → c.beg ≤ d.beg
  is : d.beg = 0 ∨ ∃ q y c, q < i ∧ o[q]? = some y ∧ L[y.toNat]? = some c ∧ c.beg = d.beg
  nn : 0 ≤ d.beg
  inT : InT L o i
theorem It.bef {w wr : World} {L : List Ca} {o : List Int} {i b : Nat} {d : Ca} (h : It w wr L o i b d) {c : Ca} (hc : MBc c) : bef c d ↔ ∃ q y e, q < i ∧ o[q]? = some y ∧ L[y.toNat]? = some e ∧ bef c e := by
  constructor
  · rintro ⟨h1, h2⟩
    have hpos : 0 < c.en := by
      rcases hc.out with ⟨q, _⟩ | ⟨q, _⟩
      · exact absurd q h1
      · have := hc.at_; omega
    rcases h.is with h0 | ⟨q, y, e, hq, hy, he, hb⟩
    · omega
    · exact ⟨q, y, e, hq, hy, he, h1, by omega⟩
  · rintro ⟨q, y, e, hq, hy, he, h1, h2⟩
    have := h.up q y e hq hy he
    exact ⟨h1, by omega⟩
set_option maxRecDepth 100000 in
set_option maxHeartbeats 8000000 in
theorem inTime36 (w : World) (u v : Value) (L : List Ca) (o : List Int) (hL : Cls w u L) (hO : Ns w v o) (hN : L.length ≤ 400) (hM : o.length ≤ 400) (hAll : AllMB L) (hLst : Lst L o o.length) :
    Calls Try.prog 36 #[u, v] w fun e w' => Ans (InT L o o.length) e ∧ Kp Nu w w' := by
  have mixed : Try.prog.follows .mixedOrders = true := by kernel_rfl
  obtain ⟨ua, uc, rfl⟩ := hL.slice
  obtain ⟨va, vc, rfl, _, _⟩ := id hO
  obtain ⟨N, eN⟩ : ∃ N, L.length = N := ⟨_, rfl⟩
  obtain ⟨M, eM⟩ : ∃ M, o.length = M := ⟨_, rfl⟩
  have HL := hide (And.intro hL (And.intro eN (And.intro hO eM)))
  have HP := hide (And.intro hAll hLst)
  rw [eN] at hN ⊢
  rw [eM] at hM ⊢
  have hNI : (N : Int) ≤ 400 := by omega
  have hMI : (M : Int) ≤ 400 := by omega
  clear hL hO eN eM hAll hLst
  have H0 : Hid (It w (w.alloc (.cells #[.int .u8 0, .int .u64 0, .int .u8 0, .int .u64 0, .int .u64 0, .slice none 0 0, .slice none 0 0, .bool false, .int .u8 0, .int .u8 0, .slice none 0 0, .int .i64 0, .int .i64 0] 30)) L o 0 w.heap.size zca) := hide ⟨Kp.alloc _ _ _, heap_new w _, fun q y c hq => by omega, .inl rfl, by show (0 : Int) ≤ 0; omega, fun p q x y c d hp => by omega⟩
  go_enter Try.func36, Try.ntmps36
  go_wp2
  go_loopw [11] (fun iv wr => ∃ (i : Nat) (d : Ca), iv = .int .i64 (i : Int) ∧ i ≤ M ∧ Hid (It w wr L o i w.heap.size d)) (fun iv _ => M - (intOf iv).toNat)
  case atStart => exact ⟨0, zca, rfl, Nat.zero_le _, H0⟩
  case round =>
    obtain ⟨i, d, rfl, hi, hI⟩ := hrel
    have hi0 : (0 : Int) ≤ (i : Int) := by omega
    by_cases hlt : i < M
    · have hltI : (i : Int) < (M : Int) := by omega
      obtain ⟨x, hx⟩ : ∃ x, o[i]? = some x := ⟨_, List.getElem?_eq_getElem (by rw [HL.out.2.2.2]; exact hlt)⟩
      obtain ⟨hx0, hxN, c, hc, _⟩ := lst_call HP.out.2 hx
      rw [HL.out.2.1] at hxN
      obtain ⟨bL, off, rfl, hR, ok⟩ := call_at (HL.out.1.nu hI.out.kp) rfl hc
      obtain ⟨bO, rfl, kx⟩ := (HL.out.2.2.1.nu hI.out.kp).at_ hx
      have eti : (i : Int).toNat = i := by omega
      have hmb := HP.out.1 c (List.mem_of_getElem? hc)
      have BF := isBefore63 { wr with drawn := wr.drawn + 1 } c d
      have dk : Kp Nu wr { wr with drawn := wr.drawn + 1 } := ⟨rfl, rfl, rfl, Nat.le_refl _, fun _ _ _ => rfl⟩
      have HX := hide (And.intro hx (And.intro hc (And.intro hmb (And.intro dk hR))))
      clear hx hc hmb dk hR ok
      go_wp2_with fail
      refine wp_region_still_tail 5 mixed (by kernel_rfl) ?_
      simp only [List.take_succ_cons, List.take_zero, List.drop_succ_cons, List.drop_zero]
      still_step
      still_step
      still_step
      refine wpStill_load 30 13 (.tmp 17) rfl rfl info30 _ Try.underlying30 rfl bL (off + x.toNat * 13) rfl c.cells (range_drawn HX.out.2.2.2.2) rfl ?_
      refine wpStill_load 30 13 (.tmp 5) rfl rfl info30 _ Try.underlying30 rfl w.heap.size 0 rfl d.cells (range_drawn (range_of hI.out.bx)) rfl ?_
      refine wpStill_nil ?_
      go_wp2_with fail
      refine BF.mono ?_; rintro e w6 ⟨⟨bb, rfl, hbb⟩, hk6⟩
      have k6 := HX.out.2.2.2.1.andNu hk6
      have HB := hide (hbb.trans (hI.out.bef HX.out.2.2.1))
      have hR6 := rangeAt_nu HX.out.2.2.2.2 k6
      have hb6 := box_k hI.out.bx k6
      have H6 := hide (And.intro (hI.out.kp.andNu k6) hb6)
      obtain ⟨r0, r1, r2, r3, r4, r5, r6, r7, r8, r9, r10, r11, r12⟩ := range_cells hR6
      have d11 := cellAt hb6 11 (v := .int .i64 d.beg) rfl
      clear BF hbb hk6 k6 hR6 hb6 kx
      cases bb with
      | true =>
        go_wp2
        go_ret
        refine ⟨⟨false, rfl, ?_⟩, H6.out.1⟩
        simp
        intro h
        obtain ⟨q, y, e, hq, hy, he, hbe⟩ := HB.out.1 (by simp)
        exact h i q x y c e hlt hq HX.out.1 hy HX.out.2.1 he hbe
      | false =>
        have hinT : Hid (InT L o (i + 1)) := hide (fun p q x' y c' e hp hq hx' hy hc' he => by
          by_cases e1 : p = i
          · subst e1
            rw [HX.out.1] at hx'
            cases hx'
            rw [HX.out.2.1] at hc'
            cases hc'
            exact fun hb => by have := HB.out.2 ⟨q, y, e, hq, hy, he, hb⟩; simp at this
          · exact hI.out.inT p q x' y c' e (by omega) hq hx' hy hc' he)
        by_cases hgt : c.beg > d.beg
        · have g1 : decide (c.beg > d.beg) = true := by simpa using hgt
          have g2 : decide (d.beg < c.beg) = true := by simpa using hgt
          have HGT := hide hgt
          clear hgt
          go_wp2_with fail
          go_quiet (fail)
          go_wp2_with (guard_target =~ wpList _ _ _ ({ dst := none, op := Op.store 30 (Operand.tmp 5) (Operand.tmp 32), type := _, pos := _, after := _, guard := _ } :: _) _ _; refine wpList_store_all 30 13 (.tmp 5) (.tmp 32) rfl rfl info30 w.heap.size _ rfl rfl (show (w6.drewN nq).heap[w.heap.size]? = _ from H6.out.2) rfl rfl (by simp [Value.oneCell']) ?_)
          intro W hW kW sW
          have kf : Kp Nu w W := (H6.out.1.andNu (kp_dn w6 nq)).trans kW (fun q hq e => by have e' : q = w.heap.size := e; omega)
          have HW := hide (And.intro hW kf)
          clear hW kW sW kf r0 r1 r2 r3 r4 r5 r6 r7 r8 r9 r10 r11 r12 d11
          go_wp2
          refine ⟨⟨i + 1, c, by go_num, by omega, hide ⟨HW.out.2, HW.out.1, fun q y e hq hy he => ?_, .inr ⟨i, x, c, by omega, HX.out.1, HX.out.2.1, rfl⟩, HX.out.2.2.1.at_, hinT.out⟩⟩, by simp [intOf]; omega⟩
          by_cases e1 : q = i
          · subst e1
            rw [HX.out.1] at hy
            cases hy
            rw [HX.out.2.1] at he
            cases he
            exact Int.le_refl _
          · have h1 := hI.out.up q y e (by omega) hy he
            have h2 := HGT.out
            omega
        · have g1 : decide (c.beg > d.beg) = false := by simpa using hgt
          have g2 : decide (d.beg < c.beg) = false := by simpa using hgt
          have HGT := hide hgt
          clear hgt
          go_wp2_with fail
          go_quiet (fail)
          go_wp2
          have kf := H6.out.1.andNu (kp_dn w6 nq)
          refine ⟨⟨i + 1, d, by go_num, by omega, hide ⟨kf, H6.out.2, fun q y e hq hy he => ?_, ?_, hI.out.nn, hinT.out⟩⟩, by simp [intOf]; omega⟩
          · by_cases e1 : q = i
            · subst e1
              rw [HX.out.1] at hy
              cases hy
              rw [HX.out.2.1] at he
              cases he
              have := HGT.out
              omega
            · exact hI.out.up q y e (by omega) hy he
          · rcases hI.out.is with h0 | ⟨q, y, e, hq, hy, he, hb⟩
            · exact .inl h0
            · exact .inr ⟨q, y, e, by omega, hy, he, hb⟩
    · have hge : ¬ (i : Int) < (M : Int) := by omega
      obtain rfl : M = i := by omega
      go_wp2
      go_ret
      exact ⟨⟨true, rfl, by simp; exact hI.out.inT⟩, hI.out.kp⟩
end Go.Proofs.Ytcbonbeogdgogaa.Li
