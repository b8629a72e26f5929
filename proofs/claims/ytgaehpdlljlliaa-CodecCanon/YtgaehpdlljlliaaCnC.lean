import Derived.Test.YtgaehpdlljlliaaCnB
namespace Go.Proofs.Ytgaehpdlljlliaa.Cd
open Go.RowKit
set_option linter.unusedVariables false

theorem fin_canon {K A A' : Int} {N : Nat} {P : Int → Prop} (h0 : 0 ≤ K) (h1 : K < 140737488351232) (hN : K.toNat < N) (hP : P A') :
    (∃ (K' A2 : Int), 0 ≤ K' ∧ K' ≤ 140737488351232 ∧ Value.int .i64 (K + 1) = .int .i64 K' ∧ Hid (K'.toNat ≤ N) ∧ Value.int .i64 A' = .int .i64 A2 ∧ P A2) ∧ N - (intOf (.int .i64 (K + 1))).toNat < N - (intOf (.int .i64 K)).toNat := by
  have e : (K + 1).toNat = K.toNat + 1 := by omega
  refine ⟨⟨K + 1, A', by omega, by omega, rfl, ?_, rfl, hP⟩, ?_⟩
  · show _ ≤ _
    omega
  · show N - (K + 1).toNat < N - K.toNat
    omega

set_option maxRecDepth 100000 in
set_option maxHeartbeats 4000000 in
theorem canon_walk {w : World} {d v : Value} {xs : List Int} {S : List Stp} (hd : Dt w d xs) (hB : Byt xs) (hxb : xs.length ≤ 140737488351232) (h : Scr w v S) (hSb : S.length ≤ 140737488351232) : Calls Try.prog 6 #[d, v] w fun e w' => e = .returned (.bool true) ∧ Kp Nu w w' := by
  obtain ⟨hrd, adD, capD, hdv, hcap⟩ := hd
  subst hdv
  obtain ⟨adS, capS, hv⟩ := h.slice
  subst hv
  have HS := hide h
  clear h
  obtain ⟨N, hN⟩ : ∃ N, S.length = N := ⟨_, rfl⟩
  have HN := hide hN
  rw [hN] at HS ⊢
  have HM : Hid (N ≤ 140737488351232) := by
    show _ ≤ _
    omega
  clear hN hSb
  by_cases hbig : (xs.length : Int) > 16777216
  · go_enter Try.func6, Try.ntmps6
    go_wp2
    go_ret
    exact ⟨rfl, Kp.refl _ _⟩
  have NR := newReader_ok hrd (by omega)
  have NW := fun w => newWriter_ok w (xs.length : Int) (by omega) (by omega)
  have nm := fun w => num_any 0 w
  obtain ⟨L, hL⟩ : ∃ L, xs.length = L := ⟨_, rfl⟩
  have HL := hide hL
  rw [hL] at NW ⊢
  rw [hL] at hrd
  have hbI : ¬ (L : Int) > 16777216 := by omega
  have hcapI : (L : Int) ≤ (capD : Int) := by omega
  have HCap := hide hcap
  rw [hL] at NR
  clear hL hbig hxb hcap
  go_enter Try.func6, Try.ntmps6
  go_wp2_with fail
  refine NR.mono ?_; rintro e w1 ⟨rb, rfl, hrb, hrr, hk1⟩
  obtain ⟨ru, hrr⟩ := hrr
  have hrlt := hrr.lt
  have hglt := hrr.glt
  clear NR
  go_wp2_with fail
  refine (NW _).mono ?_; rintro e w2 ⟨rfl, hww, hk2⟩
  have hrr2 := hrr.keeps hk2 (fun h => h) (fun h => h)
  have hk12 := hk1.trans hk2 (fun _ _ h => h)
  have hblt := hww.lt
  have hb0 : w.heap.size ≤ w1.heap.size := hk1.size
  obtain ⟨b, hbe⟩ : ∃ b, w1.heap.size = b := ⟨_, rfl⟩
  obtain ⟨g, hge⟩ : ∃ g, w.heap.size = g := ⟨_, rfl⟩
  have hrb1 : rb < b := by rw [← hbe]; exact hrlt
  have hg1 : g < b := by rw [← hbe, ← hge]; exact hglt
  rw [hbe] at hww hblt hb0
  rw [hge] at hrr2
  have HBB : Hid (w.heap.size ≤ b ∧ w.heap.size ≤ rb ∧ w.heap.size ≤ g) := ⟨hb0, hrb, by rw [hge]; exact Nat.le_refl _⟩
  clear hrr hk1 hk2 NW hrlt hglt hrb
  rw [hbe]
  clear hbe hge
  go_wp2_with fail
  refine (nm _).mono ?_; rintro e w3 ⟨rfl, rfl⟩
  go_wp2_with fail
  refine (nm _).mono ?_; rintro e w3 ⟨rfl, rfl⟩
  go_wp2
  go_loopw [9, 10] (fun a i wr => ∃ (K A : Int), 0 ≤ K ∧ K ≤ 140737488351232 ∧ i = .int .i64 K ∧ Hid (K.toNat ≤ N) ∧ a = .int .i64 A ∧ (0 ≤ A ∧ A ≤ (L : Int) ∧ (∃ u : Value, Rr wr rb g 0 u (xs.drop A.toNat)) ∧ (∃ u : Value, Wr wr b (L : Int) 0 u (xs.take A.toNat) ∧ OwnGe (b + 1) u) ∧ Kp Nu w wr)) (fun _ i _ => N - (intOf i).toNat)
  case atStart => exact ⟨0, 0, by omega, by omega, rfl, Nat.zero_le _, rfl, by omega, by omega, ⟨ru, by simpa using hrr2⟩, ⟨_, by simpa using hww, fun g hg => by cases hg⟩, hk12⟩
  case round =>
    obtain ⟨K, A, hK0, hK1, rfl, HK, rfl, hA0, hA1, ⟨u, hR⟩, ⟨v1, hW, hO⟩, hkp⟩ := hrel
    clear hrr2 hww hk12 hblt
    by_cases hlt : K.toNat < N
    · rcases HS.out with ⟨e, e2⟩ | ⟨sb, off, cap', e, hc⟩
      · have := HN.out
        subst e2
        simp at this
        omega
      simp only [Value.slice.injEq] at e
      obtain ⟨e1, e2, e3⟩ := e
      clear e2
      subst e1 e3
      have hkS : K.toNat < S.length := by rw [HN.out]; exact hlt
      have HLT := hide hlt
      have hat := Scr.at hc hkp hkS
      obtain ⟨c0, c1, c2, c3, c4, hf⟩ := hat
      have hltI : K < (N : Int) := by omega
      have hKN : K < 140737488351232 := by have := HM.out; omega
      obtain ⟨ad', cp', hbv⟩ := hf.rd.slice
      rw [hbv] at c4
      have n0 := hf.n0
      have n1 := hf.n1
      generalize S[K.toNat] = s at *
      obtain ⟨kind, sN, sI, sF, sbv, sbs⟩ := s
      simp only at c0 c1 c2 c3 c4 n0 n1
      clear hc hf hkS hbv hlt
      generalize sbs.length = SL at *
      have IT := fun w => isThing_any kind w
      by_cases hT : isT kind = true
      · rw [hT] at IT
        have hm : wrap64 sN ≤ 9223372036854775807 := by
          have := wrap64_wf sN
          have h2 : (-9223372036854775808 : Int) ≤ wrap64 sN ∧ wrap64 sN ≤ 9223372036854775807 := by simpa [Lit.wf, IntKind.min, IntKind.max, IntKind.signed, IntKind.bits] using this
          exact h2.2
        have hrlen : ((xs.drop A.toNat).length : Int) = (L : Int) - A := by rw [List.length_drop, HL.out]; omega
        have hrl2 : (xs.drop A.toNat).length ≤ 16777216 := by rw [List.length_drop, HL.out]; omega
        have T := fun o => take_any (hR.keeps (Kp.alloc wr o Nu) (fun h => h) (fun h => h)) (hB.drop A.toNat) kind (wrap64 sN) hm
        have hcan := fun u => tk_canon kind (wrap64 sN) (xs.drop A.toNat) u (hB.drop A.toNat) hT
        have herr := tk_err kind (wrap64 sN) (xs.drop A.toNat) hT
        have hfit := fun W u => tk_fit (W := W) kind (wrap64 sN) (xs.drop A.toNat) u (hB.drop A.toNat) hrl2
        have hsplit := fun p r (h : p ++ r = xs.drop A.toNat) => canon_split h (by rw [HL.out]; omega)
        have hrlt := hR.lt
        have hWlt := hW.lt
        have hown := fun g hg => (hW.own.lt g hg).2
        rw [hrlen] at herr
        have WRK := hide hW
        have HRlen := hide hrlen
        generalize tk kind (wrap64 sN) 0 (xs.drop A.toNat) = r at *
        obtain ⟨rN, rI, rF, rbs, rerr, rxs⟩ := r
        simp only at hcan herr hfit
        have HC := hide hcan
        have HE := hide herr
        have HF := hide hfit
        have HSp := hide hsplit
        have HOwn := hide hown
        clear hcan herr hfit hsplit hrl2 hrlen hR hW hown
        go_wp2_with fail
        refine (IT _).mono ?_; rintro e w4 ⟨rfl, rfl⟩
        go_wp2_with fail
        refine Calls.mono (T _) ?_; rintro e w2 ⟨u2, rfl, hu2, hfr2, hr2, hk2⟩
        have hfr : ∀ G, at? u2 = some G → wr.heap.size < G := by
          intro G hG
          rcases hfr2 with e | ⟨G', hG', e⟩
          · rw [e] at hG; cases hG
          · rw [e] at hG; cases hG; simp at hG'; omega
        have hbox : w2.heap[wr.heap.size]? = some (.cells #[.int .i64 kind, .int .u64 sN, .int .i64 sI, .bool sF, .slice ad' SL cp'] 38 (0, 0)) := by
          refine (hk2.block wr.heap.size (by simp) (fun e => ?_)).trans (heap_alloc_new wr _)
          have : wr.heap.size = rb := e
          omega
        have hW2 : Wr w2 b (L : Int) 0 v1 (xs.take A.toNat) := (WRK.out.keeps (Kp.alloc wr _ Nu) (fun h => h) (fun _ _ h => h)).keeps hk2 (fun e => by have : b = rb := e; omega) (fun g' hg' e => by have h1 := hO g' hg'; have : g' = rb := e; omega)
        have hkw2 : Kp Nu w w2 := (hkp.andAlloc _).trans hk2 (fun i hi e => by have : i = rb := e; have := HBB.out; omega)
        have hlt2 : wr.heap.size < w2.heap.size := block_lt hbox
        have hne2 : ¬ wr.heap.size = w2.heap.size := by omega
        obtain ⟨b0, b1, b2, b3, b4⟩ := cell5 hbox
        obtain ⟨u5, hr2⟩ := hr2
        obtain ⟨ad5, cap5, hu5⟩ := hu2.slice
        simp only at hr2 hu2 hu5
        have RE := fun o => rerr_any (hr2.keeps (Kp.alloc w2 o Nu) (fun h => h) (fun h => h))
        have LF := fun o => left_any (hr2.keeps (Kp.alloc w2 o Nu) (fun h => h) (fun h => h))
        have nme := fun w => num_any rerr w
        have FitT := HF.out
        generalize hbl : rbs.length = RL at hu5
        subst hu5
        clear T hfr2 hk2 hbox HF WRK hm
        generalize wrap64 sN = m at *
        by_cases he : rerr = 0
        · subst he
          have hcan := HC.out (.slice ad5 RL cap5) rfl
          obtain ⟨hs1, hs2, hs3⟩ := HSp.out _ _ hcan
          have hfresh : rbs ≠ [] → ∀ G, at? (.slice ad5 RL cap5) = some G → ¬ fp b v1 G := by
            intro _ G hG hfp
            have h1 := hfr G hG
            rcases hfp with e | e
            · omega
            · have := HOwn.out G e.symm; omega
          have LAY := fun o => canon_lay (t := ⟨kind, rN, rI, rF, .slice ad5 RL cap5, rbs⟩) (hW2.keeps (Kp.alloc w2 o Nu) (fun h => h) (fun _ _ h => h)) (FitT (w2.alloc o) _ (hu2.keeps (Kp.alloc w2 o Nu) (fun _ _ h => h))) hT hfresh (by omega) (by omega) (by rw [← hs1, List.length_take, HL.out]; omega)
          have AFT : ∀ (o : Obj) (w4 : World) (v4 : Value), Fr b v1 (w2.alloc o) w4 v4 → Rr w4 rb g 0 u5 rxs ∧ OwnGe (b + 1) v4 ∧ Kp Nu w w4 := by
            intro o w4 v4 fr
            have hb := HBB.out
            refine ⟨(hr2.keeps (Kp.alloc w2 o Nu) (fun h => h) (fun h => h)).keeps fr.kp ?_ ?_, ?_, (hkw2.andAlloc o).trans fr.kp ?_⟩
            · rintro (e | e)
              · omega
              · have := hO rb e.symm; omega
            · rintro (e | e)
              · omega
              · have := hO g e.symm; omega
            · intro k hk
              rcases fr.lie with e | ⟨g', hg', e⟩
              · exact hO k (e ▸ hk)
              · rw [e] at hk; cases hk
                simp at hg'
                omega
            · rintro i hi (e | e)
              · omega
              · have := hO i e.symm; omega
          have hlen2 : (xs.take (A.toNat + (tb ⟨kind, rN, rI, rF, .slice ad5 RL cap5, rbs⟩).length)).length = A.toNat + (tb ⟨kind, rN, rI, rF, .slice ad5 RL cap5, rbs⟩).length := by rw [List.length_take]; omega
          rw [HL.out] at hs3
          rw [← hs1] at LAY
          rw [← hs2] at AFT
          simp only at LAY
          generalize A.toNat + (tb ⟨kind, rN, rI, rF, .slice ad5 RL cap5, rbs⟩).length = A2 at *
          have hA2c : (A2 : Int) ≤ (capD : Int) := by omega
          have hA2L : ¬ (A2 : Int) > (L : Int) := by omega
          have hA2n : (0 : Int) ≤ (A2 : Int) := by omega
          have hlx : ((xs.drop A2).length : Int) = (L : Int) - (A2 : Int) := by rw [List.length_drop, HL.out]; omega
          have HS3 := hide hs3
          have HLX := hide hlx
          have HLEN2 := hide hlen2
          clear hs1 hs2 hs3 hlx hlen2 hcan hW2 hr2 hu2 HC HE HSp FitT LF hfresh hkp
          go_wp2_with fail
          refine (RE _).mono ?_; rintro e w4 ⟨rfl, rfl⟩
          go_wp2_with fail
          refine (nme _).mono ?_; rintro e w4 ⟨rfl, rfl⟩
          go_wp2_with fail
          refine (LAY _).mono ?_; rintro e w4 ⟨rfl, v4, hw4, fr4⟩
          obtain ⟨hr4, ho4, hk4⟩ := AFT _ _ _ fr4
          have LN := len_any hw4
          have OT := out_ok hw4 ⟨by omega, by omega, by rw [HLEN2.out]; have := HS3.out; omega⟩
          rw [HLEN2.out] at LN OT
          clear AFT LAY RE nme fr4
          go_wp2_with fail
          refine LN.mono ?_; rintro e w5 ⟨rfl, rfl⟩
          go_wp2_with fail
          refine OT.mono ?_; rintro e w5 ⟨rfl, hh5, hk5⟩
          have hk45 := hk4.trans hk5 (fun _ _ h => h)
          have rd5 := rd_new hh5
          rw [HLEN2.out] at rd5
          have SM := same_any rd5 (dt_take (hrd.below (Nat.le_refl _) hk45.toBelow) (by rw [HL.out]; exact HS3.out)) (by rw [HLEN2.out]; have := HS3.out; omega)
          rw [decide_self] at SM
          clear OT LN hh5
          go_wp2_with fail
          refine (nm _).mono ?_; rintro e w6 ⟨rfl, rfl⟩
          go_wp2_with fail
          refine SM.mono ?_; rintro e w7 ⟨rfl, hk7⟩
          have hk57 := hk5.trans hk7 (fun _ _ h => h)
          have hr7 := hr4.keeps hk57 (fun h => h) (fun h => h)
          have hw7 := hw4.keeps hk57 (fun h => h) (fun _ _ h => h)
          have hkw7 := hk4.trans hk57 (fun _ _ h => h)
          have LF7 := left_any hr7
          rw [HLX.out] at LF7
          have hself : (((L : Int) - (A2 : Int)) != ((L : Int) - (A2 : Int))) = false := by simp
          clear SM hk45 rd5 hk7 hk5 hr4 hw4 hk4
          go_wp2_with fail
          refine LF7.mono ?_; rintro e w8 ⟨rfl, rfl⟩
          go_wp2
          have hA2L' : (A2 : Int) ≤ (L : Int) := by have := HS3.out; omega
          refine fin_canon (A := A) (P := fun a => 0 ≤ a ∧ a ≤ (L : Int) ∧ (∃ u : Value, Rr _ rb g 0 u (xs.drop a.toNat)) ∧ (∃ u : Value, Wr _ b (L : Int) 0 u (xs.take a.toNat) ∧ OwnGe (b + 1) u) ∧ Kp Nu w _) hK0 hKN HLT.out ⟨hA2n, hA2L', ⟨u5, by rw [Int.toNat_natCast]; exact hr7⟩, ⟨v4, by rw [Int.toNat_natCast]; exact hw7, ho4⟩, hkw7⟩
        · have he' : (rerr != 0) = true := by simpa using he
          obtain ⟨hx, hmf⟩ := HE.out he
          have MU := fun w => must_any kind m ((L : Int) - A) w
          rw [hmf] at MU
          rw [hx, HRlen.out] at LF
          have hself : (((L : Int) - A) == ((L : Int) - A)) = true := by simp
          clear hx hmf hu2 hr2 HC HE hW2 HSp
          go_wp2_with fail
          refine (RE _).mono ?_; rintro e w4 ⟨rfl, rfl⟩
          go_wp2_with fail
          refine (nme _).mono ?_; rintro e w4 ⟨rfl, rfl⟩
          go_wp2_with fail
          refine (MU _).mono ?_; rintro e w4 ⟨rfl, rfl⟩
          go_wp2_with fail
          refine (LF _).mono ?_; rintro e w4 ⟨rfl, rfl⟩
          go_wp2
          go_ret
          exact ⟨rfl, hkw2.andAlloc _⟩
      · have hT' : isT kind = false := by simpa using hT
        rw [hT'] at IT
        clear hT
        go_wp2_with fail
        refine (IT _).mono ?_; rintro e w4 ⟨rfl, rfl⟩
        go_wp2
        refine fin_canon (A := A) (P := fun a => 0 ≤ a ∧ a ≤ (L : Int) ∧ (∃ u : Value, Rr _ rb g 0 u (xs.drop a.toNat)) ∧ (∃ u : Value, Wr _ b (L : Int) 0 u (xs.take a.toNat) ∧ OwnGe (b + 1) u) ∧ Kp Nu w _) hK0 hKN HLT.out ⟨hA0, hA1, ⟨u, hR.keeps (Kp.alloc _ _ Nu) (fun h => h) (fun h => h)⟩, ⟨v1, hW.keeps (Kp.alloc _ _ Nu) (fun h => h) (fun _ _ h => h), hO⟩, hkp.andAlloc _⟩
    · have hke : K.toNat = N := by have := HK.out; omega
      have hgeI : ¬ K < (N : Int) := by omega
      clear hlt hke
      go_wp2
      go_ret
      exact ⟨rfl, hkp⟩
end Go.Proofs.Ytgaehpdlljlliaa.Cd
