import Derived.Test.YtgaehpdlljlliaaCwI
namespace Go.Proofs.Ytgaehpdlljlliaa.Cd
open Go.RowKit
set_option linter.unusedVariables false

theorem own_none (w : World) : w.ownsRow 0 5 1 (.slice none 0 0) ([] : List Int).length (cs []) := ⟨rfl, .inl ⟨rfl, rfl⟩⟩

set_option maxRecDepth 100000 in
set_option maxHeartbeats 1600000 in
theorem writes_bad {w : World} {v : Value} {S : List Stp} (lim : Int) (hl : lim < 0 ∨ lim > 16777216) (h : Scr w v S) (hSb : S.length ≤ 140737488351232) : Calls Try.prog 4 #[.int .i64 lim, v] w fun e w' => e = .returned (.bool true) ∧ Kp Nu w w' := by
  have NW := newWriter_bad w lim hl
  have NG := fun w => newWriting_bad w lim hl
  have nm := fun w => num_any 2 w
  obtain ⟨adS, capS, hv⟩ := h.slice
  subst hv
  have HS := hide h
  clear h
  obtain ⟨N, hN⟩ : ∃ N, S.length = N := ⟨_, rfl⟩
  have HN := hide hN
  rw [hN] at HS ⊢
  have HM : Hid (N ≤ 140737488351232) := by
    show _ ≤ _
    omega
  clear hN hSb hl
  go_enter Try.func4, Try.ntmps4
  go_wp2_with fail
  refine NW.mono ?_; rintro e w1 ⟨rfl, rfl⟩
  go_wp2_with fail
  refine (NG _).mono ?_; rintro e w2 ⟨rfl, hk2⟩
  go_wp2_with fail
  refine (nm _).mono ?_; rintro e w3 ⟨rfl, rfl⟩
  go_wp2_with fail
  have T0 : ∀ o, o = Obj.cells #[.bool false, .int .i64 0, .slice none 0 0, .int .i64 0] 32 (0, 0) → Non w1 (w2.alloc o) w2.heap.size (.slice none 0 0) := by
    rintro o rfl
    have hsz := hk2.size
    have hk := hk2.andAlloc (Obj.cells #[.bool false, .int .i64 0, .slice none 0 0, .int .i64 0] 32 (0, 0))
    exact ⟨⟨heap_alloc_new w2 _, own_none _⟩, (fun g hg => by cases hg), hk, hsz⟩
  have T1 := T0 _ rfl
  clear T0 hk2 NW NG
  generalize w2.heap.size = pb at *
  go_loopw [9] (fun i wr => ∃ K : Int, 0 ≤ K ∧ K ≤ 140737488351232 ∧ i = .int .i64 K ∧ Hid (K.toNat ≤ N) ∧ (∃ (v2 : Value), Non w1 wr pb v2)) (fun i _ => N - (intOf i).toNat)
  case atStart => exact ⟨0, by omega, by omega, rfl, Nat.zero_le _, _, T1⟩
  case round =>
    obtain ⟨K, hK0, hK1, rfl, HK, v2, hT2⟩ := hrel
    clear T1
    have hkp := hT2.kp
    by_cases hlt : K.toNat < N
    · rcases HS.out with ⟨e, e2⟩ | ⟨sb, off, cap', e, hc⟩
      · have := HN.out
        subst e2
        simp at this
        omega
      simp only [Value.slice.injEq] at e
      obtain ⟨e1, e2, e3⟩ := e
      clear e2
      subst e1 e3
      have hkS : K.toNat < S.length := by rw [HN.out]; exact hlt
      have HLT := hide hlt
      have hat := Scr.at hc hkp hkS
      have hfit := (hc K.toNat S[K.toNat] (List.getElem?_eq_getElem hkS)).fit
      obtain ⟨c0, c1, c2, c3, c4, hf⟩ := hat
      have hltI : K < (N : Int) := by omega
      have hKN : K < 140737488351232 := by have := HM.out; omega
      obtain ⟨ad', cp', hbv⟩ := hf.rd.slice
      generalize S[K.toNat] = s at *
      have IT := fun w => isThing_any s.kind w
      have TH := fun o => thing_at s (wr.alloc o) (hf.kp (Kp.alloc wr o Nu))
      rw [hbv] at c4 TH
      have hTA := fun o => hT2.keeps (Kp.alloc wr o Nu)
      clear hc hkS hlt hf
      generalize s.bs.length = SL at *
      by_cases hT : isT s.kind = true
      · rw [hT] at IT
        have TH' : ∀ o, Calls Try.prog 13 _ (wr.alloc o) fun e w' => e = .returned (.agg #[.int .i64 (th s).kind, .int .u64 (th s).N, .int .i64 (th s).I, .bool (th s).F, (th s).bv]) ∧ Kp Nu (wr.alloc o) w' := TH
        clear TH
        obtain ⟨ad2, cap2, hbv2⟩ := (th_fit s hfit).rd.slice
        have LAY := fun (w' : World) (h : Non w1 w' pb v2) => non_Lay h s hfit
        have lay := fun (w' : World) (v2' : Value) h => non_lay (w := w') (v2 := v2') (pb := pb) s hfit h
        clear hbv hT hfit hkp hT2
        go_wp2_with fail
        refine (IT _).mono ?_; rintro e w4 ⟨rfl, rfl⟩
        go_wp2_with fail
        refine Calls.mono (TH' _) ?_; rintro e w5 ⟨rfl, hk5⟩
        have T5 := (hTA _).keeps hk5
        have T6 := fun o => T5.keeps (Kp.alloc w5 o Nu)
        have hlt5 := T5.wg.lt
        have hown5 := fun g hg => (T5.wg.own.lt g hg).2
        clear TH' hTA IT T5 hk5
        generalize th s = t at *
        obtain ⟨kind, tN, tI, tF, bv, bs⟩ := t
        simp only at hbv2 LAY lay ⊢
        subst hbv2
        generalize bs.length = LL at *
        go_wp2_with fail
        refine (LAY _ (T6 _)).mono ?_; rintro e w6 ⟨rfl, v2', T7, hk7⟩
        have hbox : w6.heap[w5.heap.size]? = some (.cells #[.int .i64 kind, .int .u64 tN, .int .i64 tI, .bool tF, .slice ad2 LL cap2] 40 (0, 0)) := by
          refine (hk7.block w5.heap.size (by simp) ?_).trans (heap_alloc_new w5 _)
          rintro (e | e)
          · omega
          · have := hown5 _ e.symm; omega
        obtain ⟨b0, b1, b2, b3, b4⟩ := cell5 hbox
        have LY := lay _ _ T7
        clear LAY lay T6 hk7 hbox T7 hown5
        go_wp2_with fail
        refine LY.mono ?_; rintro e w7 ⟨rfl, hr7⟩
        go_wp2
        exact fin_writes hK0 hKN HLT.out hr7
      · have hT' : isT s.kind = false := by simpa using hT
        rw [hT'] at IT
        have AS := fun o => non_asked (hTA o) s.kind
        clear hT TH hfit hkp hT2 hTA
        go_wp2_with fail
        refine (IT _).mono ?_; rintro e w4 ⟨rfl, rfl⟩
        go_wp2_with fail
        refine (AS _).mono ?_; rintro e w7 ⟨rfl, hr7⟩
        go_wp2
        exact fin_writes hK0 hKN HLT.out ⟨_, hr7⟩
    · have hke : K.toNat = N := by have := HK.out; omega
      have hgeI : ¬ K < (N : Int) := by omega
      clear hlt hke
      go_wp2
      go_ret
      exact ⟨rfl, hkp⟩
end Go.Proofs.Ytgaehpdlljlliaa.Cd
