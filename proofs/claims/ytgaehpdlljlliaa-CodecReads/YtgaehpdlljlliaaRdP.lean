import Derived.Test.YtgaehpdlljlliaaRdO
import Derived.Test.YtgaehpdlljlliaaCwH
namespace Go.Proofs.Ytgaehpdlljlliaa.Cd
open Go.RowKit
set_option linter.unusedVariables false

theorem hd_rd {w : World} {H : Nat} {u v : Value} {xs : List Int} (h : Hd w H u v xs) : Rd w v xs := by
  rcases h with ⟨_, rfl, rfl⟩ | ⟨_, rfl, hg⟩
  · exact .inl ⟨rfl, rfl⟩
  · refine .inr ⟨_, _, rfl, fun j u hj => ?_⟩
    rw [addo]
    have : (cs (xs ++ marks))[j]? = some u := by
      rw [cs_append, List.getElem?_append_left (by rcases List.getElem?_eq_some_iff.1 hj with ⟨h, _⟩; exact h)]
      exact hj
    simpa [World.cell?, hg] using this
theorem hd_keeps {w w' : World} {H : Nat} {u v : Value} {xs : List Int} (h : Hd w H u v xs) (k : Kp Nu w w') : Hd w' H u v xs := by
  rcases h with h | ⟨h1, h2, hg⟩
  · exact .inl h
  · exact .inr ⟨h1, h2, (k.block H (block_lt hg) (fun h => h)).trans hg⟩

set_option maxRecDepth 100000 in
set_option maxHeartbeats 1600000 in
theorem creads_ok {w : World} {u v : Value} {xs : List Int} {S : List Stp} (hd : Rd w u xs) (hB : Byt xs) (hl : xs.length ≤ 16777216) (h : Scr w v S) (hSb : S.length ≤ 140737488351232) : Calls Try.prog 5 #[u, .bool false, v] w fun e w' => e = .returned (.bool true) ∧ Kp Nu w w' := by
  have HH := handed_any hd (by omega)
  have HL16 : Hid (xs.length ≤ 16777216) := hl
  have NR := fun w1 v1 (k : Kp Nu w w1) (hh : Hd w1 w.heap.size u v1 xs) => newReader_ok (hd_rd hh) hl
  have NG := fun w1 (k : Kp Nu w w1) => newReading_low (hd.keeps k (fun _ _ h => h)) hl
  have KE := fun w1 v1 (k : Kp Nu w w1) (hh : Hd w1 w.heap.size u v1 xs) => kept_any (hd.keeps k (fun _ _ h => h)) hh (by omega)
  have nm := fun w => num_any 0 w
  obtain ⟨adS, capS, hv⟩ := h.slice
  subst hv
  have HS := hide h
  clear h
  obtain ⟨N, hN⟩ : ∃ N, S.length = N := ⟨_, rfl⟩
  have HN := hide hN
  rw [hN] at HS ⊢
  have HM : Hid (N ≤ 140737488351232) := by
    show _ ≤ _
    omega
  have HBY := hide hB
  have HRD := hide hd
  have HU := hd.slice
  clear hN hSb hB hd hl
  go_enter Try.func5, Try.ntmps5
  go_wp2_with fail
  refine HH.mono ?_; rintro e w1 ⟨v1, rfl, hh1, hk1⟩
  have NR1 := NR _ _ hk1 hh1
  have hv1 := (hd_rd hh1).slice
  obtain ⟨ad1, cap1, rfl⟩ := hv1
  generalize hXL : xs.length = XL at *
  have HXL := hide hXL
  clear HH NR
  go_wp2_with fail
  refine NR1.mono ?_; rintro e w2 ⟨rb, rfl, hrb, ⟨vr, hrr⟩, hk2⟩
  have hk12 := hk1.trans hk2 (fun _ _ h => h)
  have hh2 := hd_keeps hh1 hk2
  have NG2 := NG _ hk12
  clear NR1 NG
  go_wp2_with fail
  refine NG2.mono ?_; rintro e w3 ⟨d, rfl, hnew, hcap, hlow⟩
  have hk3 := hnew.2.2
  have hk13 := hk12.trans hk3 (fun _ _ h => h)
  have hh3 := hd_keeps hh2 hk3
  obtain ⟨add, capd, hdd⟩ := hnew.1.slice
  have HDD := hide hdd
  have HNEW := hide hnew
  have HCAP := hide hcap
  have HLOW := hide hlow
  clear hdd hnew hcap hlow NG2
  have hdd := HDD.out
  rw [HXL.out] at hdd
  subst hdd
  have KE3 := KE _ _ (hk13.andAlloc (.cells #[.bool true, .slice add XL capd, .int .i64 0, .int .i64 0] 52)) (hd_keeps hh3 (Kp.alloc w3 _ Nu))
  clear KE hh1 hh2 hh3
  go_wp2_with fail
  refine (nm _).mono ?_; rintro e w4 ⟨rfl, rfl⟩
  go_wp2_with fail
  refine KE3.mono ?_; rintro e w5 ⟨rfl, hk5⟩
  have hbox5 := (hk5.block w3.heap.size (by simp) (fun h => h)).trans (heap_alloc_new w3 (.cells #[.bool true, .slice add XL capd, .int .i64 0, .int .i64 0] 52))
  have hk35 := (Kp.alloc w3 (.cells #[.bool true, .slice add XL capd, .int .i64 0, .int .i64 0] 52) Nu).trans hk5 (fun _ _ h => h)
  have hk15 := hk13.trans hk35 (fun _ _ h => h)
  have hsz13 := hk13.size
  have T1 : Rtw w w5 rb w1.heap.size w3.heap.size (.slice add XL capd) xs 0 0 := by
    have hnew := HNEW.out
    have hrr5 := (hrr.keeps hk3 (fun h => h) (fun h => h)).keeps hk35 (fun h => h) (fun h => h)
    have hrlt := (hrr.keeps hk3 (fun h => h) (fun h => h)).lt
    have hglt := (hrr.keeps hk3 (fun h => h) (fun h => h)).glt
    have hlow := HLOW.out
    have hxl := HXL.out
    have hk1s := hk1.size
    have hr2 := hrr.lt
    refine ⟨⟨vr, by simpa using hrr5⟩, ⟨hbox5, hnew.1.keeps hk35 (fun _ _ h => h), ?_, by omega, by simp, by rw [hxl]; exact HL16.out⟩, HCAP.out, HBY.out, hk15, by omega, hsz13, by omega, by omega, ?_⟩
    · intro e
      have := hlow _ e
      omega
    · intro e
      rcases hnew.2.1 with e2 | ⟨G, hG, e2⟩
      · rw [e2] at e; cases e
      · rw [e2] at e; cases e; omega
  clear HNEW HCAP HLOW hk12 hk13 hk35 hk15 hbox5 hk5 hrr hk3 hk1 hk2 KE3 hrb hsz13
  generalize w1.heap.size = gb at *
  generalize w3.heap.size = pb at *
  go_wp2_with fail
  go_loopw [12] (fun i wr => ∃ K : Int, 0 ≤ K ∧ K ≤ 140737488351232 ∧ i = .int .i64 K ∧ Hid (K.toNat ≤ N) ∧ (∃ A err, Rtw w wr rb gb pb (.slice add XL capd) xs A err)) (fun i _ => N - (intOf i).toNat)
  case atStart => exact ⟨0, by omega, by omega, rfl, Nat.zero_le _, 0, 0, T1⟩
  case round =>
    obtain ⟨K, hK0, hK1, rfl, HK, A, err, hT2⟩ := hrel
    clear T1
    have hkp := hT2.kp
    by_cases hlt : K.toNat < N
    · rcases HS.out with ⟨e, e2⟩ | ⟨sb, off, cap', e, hc⟩
      · have := HN.out
        subst e2
        simp at this
        omega
      simp only [Value.slice.injEq] at e
      obtain ⟨e1, e2, e3⟩ := e
      clear e2
      subst e1 e3
      have hkS : K.toNat < S.length := by rw [HN.out]; exact hlt
      have HLT := hide hlt
      have hat := Scr.at hc hkp hkS
      obtain ⟨c0, c1, c2, c3, c4, hf⟩ := hat
      have hltI : K < (N : Int) := by omega
      have hKN : K < 140737488351232 := by have := HM.out; omega
      obtain ⟨ad', cp', hbv⟩ := hf.rd.slice
      rw [hbv] at c4
      generalize S[K.toNat] = s at *
      obtain ⟨kind, sN, sI, sF, sbv, sbs⟩ := s
      simp only at c0 c1 c2 c3 c4
      clear hc hf hkS hbv hlt
      generalize sbs.length = SL at *
      have RS := reads_two hT2 kind sN sI sF ad' SL cp'
      clear hT2 hkp
      go_wp2_with fail
      refine RS.mono ?_; rintro e w7 ⟨rfl, hr7⟩
      go_wp2
      exact fin_writes hK0 hKN HLT.out hr7
    · have hke : K.toNat = N := by have := HK.out; omega
      have hgeI : ¬ K < (N : Int) := by omega
      clear hlt hke
      go_wp2
      go_ret
      exact ⟨rfl, hkp⟩
end Go.Proofs.Ytgaehpdlljlliaa.Cd
