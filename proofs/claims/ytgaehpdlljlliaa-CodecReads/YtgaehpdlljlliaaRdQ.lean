import Derived.Test.YtgaehpdlljlliaaRdP

namespace Go.Proofs.Ytgaehpdlljlliaa.Cd
open Go.RowKit
set_option linter.unusedVariables false


set_option maxRecDepth 100000 in
set_option maxHeartbeats 1600000 in
theorem creads_absent {w : World} {u v : Value} {xs : List Int} {S : List Stp} (hd : Rd w u xs) (hB : Byt xs) (hl : xs.length ≤ 16777216) (h : Scr w v S) (hSb : S.length ≤ 140737488351232) : Calls Try.prog 5 #[u, .bool true, v] w fun e w' => e = .returned (.bool true) ∧ Kp Nu w w' := by
  have HH := handed_any hd (by omega)
  have HL16 : Hid (xs.length ≤ 16777216) := hl
  have NR := fun w1 v1 (k : Kp Nu w w1) (hh : Hd w1 w.heap.size u v1 xs) => newReader_ok (hd_rd hh) hl
  have NG := fun w1 (k : Kp Nu w w1) => newReading_low (hd.keeps k (fun _ _ h => h)) hl
  have KE := fun w1 v1 (k : Kp Nu w w1) (hh : Hd w1 w.heap.size u v1 xs) => kept_any (hd.keeps k (fun _ _ h => h)) hh (by omega)
  have nm := fun w => num_any 0 w
  obtain ⟨adS, capS, hv⟩ := h.slice
  subst hv
  have HS := hide h
  clear h
  obtain ⟨N, hN⟩ : ∃ N, S.length = N := ⟨_, rfl⟩
  have HN := hide hN
  rw [hN] at HS ⊢
  have HM : Hid (N ≤ 140737488351232) := by
    show _ ≤ _
    omega
  have HBY := hide hB
  have HRD := hide hd
  have HU := hd.slice
  clear hN hSb hB hd hl
  go_enter Try.func5, Try.ntmps5
  go_wp2_with fail
  refine HH.mono ?_; rintro e w1 ⟨v1, rfl, hh1, hk1⟩
  have NR1 := NR _ _ hk1 hh1
  have hv1 := (hd_rd hh1).slice
  obtain ⟨ad1, cap1, rfl⟩ := hv1
  generalize hXL : xs.length = XL at *
  have HXL := hide hXL
  clear HH NR
  go_wp2_with fail
  refine NR1.mono ?_; rintro e w2 ⟨rb, rfl, hrb, ⟨vr, hrr⟩, hk2⟩
  have hk12 := hk1.trans hk2 (fun _ _ h => h)
  have hh2 := hd_keeps hh1 hk2
  have NG2 := NG _ hk12
  clear NR1 NG
  go_wp2_with fail
  refine NG2.mono ?_; rintro e w3 ⟨d, rfl, hnew, hcap, hlow⟩
  have hk3 := hnew.2.2
  have hk13 := hk12.trans hk3 (fun _ _ h => h)
  have hh3 := hd_keeps hh2 hk3
  obtain ⟨add, capd, hdd⟩ := hnew.1.slice
  have HDD := hide hdd
  have HNEW := hide hnew
  have HCAP := hide hcap
  have HLOW := hide hlow
  clear hdd hnew hcap hlow NG2
  have hdd := HDD.out
  rw [HXL.out] at hdd
  subst hdd
  have KE3 := KE _ _ (hk13.andAlloc (.cells #[.bool true, .slice add XL capd, .int .i64 0, .int .i64 0] 52)) (hd_keeps hh3 (Kp.alloc w3 _ Nu))
  clear KE hh1 hh2 hh3
  go_wp2_with fail
  refine (nm _).mono ?_; rintro e w4 ⟨rfl, rfl⟩
  go_wp2_with fail
  refine KE3.mono ?_; rintro e w5 ⟨rfl, hk5⟩
  have hbox5 := (hk5.block w3.heap.size (by simp) (fun h => h)).trans (heap_alloc_new w3 (.cells #[.bool true, .slice add XL capd, .int .i64 0, .int .i64 0] 52))
  have hk35 := (Kp.alloc w3 (.cells #[.bool true, .slice add XL capd, .int .i64 0, .int .i64 0] 52) Nu).trans hk5 (fun _ _ h => h)
  have hk15 := hk13.trans hk35 (fun _ _ h => h)
  have hsz13 := hk13.size
  obtain ⟨y0, y1, y2, y3⟩ := cell4 hbox5
  have f0 := free3 hbox5 0
  have f1 := free3 hbox5 1
  have f2 := free3 hbox5 2
  have f3 := free3 hbox5 3
  have s0 := set3 hbox5 0 (.bool false)
  have s1 := set3 s0 1 (.slice none 0 0)
  have s2 := set3 s1 2 (.int .i64 0)
  have s3 := set3 s2 3 (.int .i64 0)
  have T1 : Rnn w ((((w5.setCell ⟨w3.heap.size, 0, none⟩ (.bool false)).setCell ⟨w3.heap.size, 1, none⟩ (.slice none 0 0)).setCell ⟨w3.heap.size, 2, none⟩ (.int .i64 0)).setCell ⟨w3.heap.size, 3, none⟩ (.int .i64 0)) w3.heap.size := by
    refine ⟨⟨by simpa [Array.setIfInBounds] using s3, rd_nil _, by simp [at?], by omega, by simp, by simp⟩, ?_, hsz13⟩
    repeat (refine Kp.andSetS ?_ _ _ hsz13)
    exact hk15
  clear s0 s1 s2 s3 hbox5
  clear KE3 hk13 hk35 hk15 hk5
  clear HNEW HCAP hrr hrb hk12 hk2 HLOW hk3
  go_wp2_with fail
  go_loopw [12] (fun i wr => ∃ K : Int, 0 ≤ K ∧ K ≤ 140737488351232 ∧ i = .int .i64 K ∧ Hid (K.toNat ≤ N) ∧ (Rnn w wr w3.heap.size)) (fun i _ => N - (intOf i).toNat)
  case atStart => exact ⟨0, by omega, by omega, rfl, Nat.zero_le _, T1⟩
  case round =>
    obtain ⟨K, hK0, hK1, rfl, HK, hT2⟩ := hrel
    clear T1
    have hkp := hT2.kp
    by_cases hlt : K.toNat < N
    · rcases HS.out with ⟨e, e2⟩ | ⟨sb, off, cap', e, hc⟩
      · have := HN.out
        subst e2
        simp at this
        omega
      simp only [Value.slice.injEq] at e
      obtain ⟨e1, e2, e3⟩ := e
      clear e2
      subst e1 e3
      have hkS : K.toNat < S.length := by rw [HN.out]; exact hlt
      have HLT := hide hlt
      have hat := Scr.at hc hkp hkS
      obtain ⟨c0, c1, c2, c3, c4, hf⟩ := hat
      have hltI : K < (N : Int) := by omega
      have hKN : K < 140737488351232 := by have := HM.out; omega
      obtain ⟨ad', cp', hbv⟩ := hf.rd.slice
      rw [hbv] at c4
      generalize S[K.toNat] = s at *
      obtain ⟨kind, sN, sI, sF, sbv, sbs⟩ := s
      simp only at c0 c1 c2 c3 c4
      clear hc hf hkS hbv hlt
      generalize sbs.length = SL at *
      have RS := reads_non hT2 kind sN sI sF ad' SL cp'
      clear hT2 hkp
      go_wp2_with fail
      refine RS.mono ?_; rintro e w7 ⟨rfl, hr7⟩
      go_wp2
      exact fin_writes hK0 hKN HLT.out hr7
    · have hke : K.toNat = N := by have := HK.out; omega
      have hgeI : ¬ K < (N : Int) := by omega
      clear hlt hke
      go_wp2
      go_ret
      exact ⟨rfl, hkp⟩

set_option maxRecDepth 100000 in
set_option maxHeartbeats 1600000 in
theorem creads_big {w : World} {u v : Value} {xs : List Int} {S : List Stp} (hd : Rd w u xs) (hB : Byt xs) (hl : (xs.length : Int) > 16777216) (hxb : xs.length ≤ 140737488351232) (h : Scr w v S) (hSb : S.length ≤ 140737488351232) : Calls Try.prog 5 #[u, .bool false, v] w fun e w' => e = .returned (.bool true) ∧ Kp Nu w w' := by
  have HH := handed_any hd (by omega)
  have NR := fun w1 v1 (k : Kp Nu w w1) (hh : Hd w1 w.heap.size u v1 xs) => newReader_bad (hd_rd hh) hl
  have NG := fun w1 (k : Kp Nu w w1) => newReading_bad (hd.keeps k (fun _ _ h => h)) hl
  have KE := fun w1 v1 (k : Kp Nu w w1) (hh : Hd w1 w.heap.size u v1 xs) => kept_any (hd.keeps k (fun _ _ h => h)) hh (by omega)
  have nm := fun w => num_any 28 w
  obtain ⟨adS, capS, hv⟩ := h.slice
  subst hv
  have HS := hide h
  clear h
  obtain ⟨N, hN⟩ : ∃ N, S.length = N := ⟨_, rfl⟩
  have HN := hide hN
  rw [hN] at HS ⊢
  have HM : Hid (N ≤ 140737488351232) := by
    show _ ≤ _
    omega
  have HBY := hide hB
  have HRD := hide hd
  have HU := hd.slice
  clear hN hSb hB hd hl hxb
  go_enter Try.func5, Try.ntmps5
  go_wp2_with fail
  refine HH.mono ?_; rintro e w1 ⟨v1, rfl, hh1, hk1⟩
  have NR1 := NR _ _ hk1 hh1
  have hv1 := (hd_rd hh1).slice
  obtain ⟨ad1, cap1, rfl⟩ := hv1
  generalize hXL : xs.length = XL at *
  have HXL := hide hXL
  clear HH NR
  go_wp2_with fail
  refine NR1.mono ?_; rintro e w2 ⟨rfl, rfl⟩
  have hk12 := hk1
  have hh2 := hh1
  have NG2 := NG _ hk12
  clear NR1 NG
  go_wp2_with fail
  refine NG2.mono ?_; rintro e w3 ⟨rfl, hk3⟩
  have hk13 := hk12.trans hk3 (fun _ _ h => h)
  have hh3 := hd_keeps hh2 hk3
  clear NG2
  have KE3 := KE _ _ (hk13.andAlloc (.cells #[.bool false, .slice none 0 0, .int .i64 0, .int .i64 0] 52)) (hd_keeps hh3 (Kp.alloc w3 _ Nu))
  clear KE hh1 hh2 hh3
  go_wp2_with fail
  refine (nm _).mono ?_; rintro e w4 ⟨rfl, rfl⟩
  go_wp2_with fail
  refine KE3.mono ?_; rintro e w5 ⟨rfl, hk5⟩
  have hbox5 := (hk5.block w3.heap.size (by simp) (fun h => h)).trans (heap_alloc_new w3 (.cells #[.bool false, .slice none 0 0, .int .i64 0, .int .i64 0] 52))
  have hk35 := (Kp.alloc w3 (.cells #[.bool false, .slice none 0 0, .int .i64 0, .int .i64 0] 52) Nu).trans hk5 (fun _ _ h => h)
  have hk15 := hk13.trans hk35 (fun _ _ h => h)
  have hsz13 := hk13.size
  have T1 : Rnn w w5 w3.heap.size := ⟨⟨hbox5, rd_nil _, by simp [at?], by omega, by simp, by simp⟩, hk15, hsz13⟩
  clear hbox5
  clear KE3 hk13 hk35 hk15 hk5
  clear hk12
  go_wp2_with fail
  go_loopw [12] (fun i wr => ∃ K : Int, 0 ≤ K ∧ K ≤ 140737488351232 ∧ i = .int .i64 K ∧ Hid (K.toNat ≤ N) ∧ (Rnn w wr w3.heap.size)) (fun i _ => N - (intOf i).toNat)
  case atStart => exact ⟨0, by omega, by omega, rfl, Nat.zero_le _, T1⟩
  case round =>
    obtain ⟨K, hK0, hK1, rfl, HK, hT2⟩ := hrel
    clear T1
    have hkp := hT2.kp
    by_cases hlt : K.toNat < N
    · rcases HS.out with ⟨e, e2⟩ | ⟨sb, off, cap', e, hc⟩
      · have := HN.out
        subst e2
        simp at this
        omega
      simp only [Value.slice.injEq] at e
      obtain ⟨e1, e2, e3⟩ := e
      clear e2
      subst e1 e3
      have hkS : K.toNat < S.length := by rw [HN.out]; exact hlt
      have HLT := hide hlt
      have hat := Scr.at hc hkp hkS
      obtain ⟨c0, c1, c2, c3, c4, hf⟩ := hat
      have hltI : K < (N : Int) := by omega
      have hKN : K < 140737488351232 := by have := HM.out; omega
      obtain ⟨ad', cp', hbv⟩ := hf.rd.slice
      rw [hbv] at c4
      generalize S[K.toNat] = s at *
      obtain ⟨kind, sN, sI, sF, sbv, sbs⟩ := s
      simp only at c0 c1 c2 c3 c4
      clear hc hf hkS hbv hlt
      generalize sbs.length = SL at *
      have RS := reads_non hT2 kind sN sI sF ad' SL cp'
      clear hT2 hkp
      go_wp2_with fail
      refine RS.mono ?_; rintro e w7 ⟨rfl, hr7⟩
      go_wp2
      exact fin_writes hK0 hKN HLT.out hr7
    · have hke : K.toNat = N := by have := HK.out; omega
      have hgeI : ¬ K < (N : Int) := by omega
      clear hlt hke
      go_wp2
      go_ret
      exact ⟨rfl, hkp⟩

set_option maxRecDepth 100000 in
set_option maxHeartbeats 1600000 in
theorem creads_none {w : World} {u v : Value} {xs : List Int} {S : List Stp} (hd : Rd w u xs) (hB : Byt xs) (hl : (xs.length : Int) > 16777216) (hxb : xs.length ≤ 140737488351232) (h : Scr w v S) (hSb : S.length ≤ 140737488351232) : Calls Try.prog 5 #[u, .bool true, v] w fun e w' => e = .returned (.bool true) ∧ Kp Nu w w' := by
  have HH := handed_any hd (by omega)
  have NR := fun w1 v1 (k : Kp Nu w w1) (hh : Hd w1 w.heap.size u v1 xs) => newReader_bad (hd_rd hh) hl
  have NG := fun w1 (k : Kp Nu w w1) => newReading_bad (hd.keeps k (fun _ _ h => h)) hl
  have KE := fun w1 v1 (k : Kp Nu w w1) (hh : Hd w1 w.heap.size u v1 xs) => kept_any (hd.keeps k (fun _ _ h => h)) hh (by omega)
  have nm := fun w => num_any 28 w
  obtain ⟨adS, capS, hv⟩ := h.slice
  subst hv
  have HS := hide h
  clear h
  obtain ⟨N, hN⟩ : ∃ N, S.length = N := ⟨_, rfl⟩
  have HN := hide hN
  rw [hN] at HS ⊢
  have HM : Hid (N ≤ 140737488351232) := by
    show _ ≤ _
    omega
  have HBY := hide hB
  have HRD := hide hd
  have HU := hd.slice
  clear hN hSb hB hd hl hxb
  go_enter Try.func5, Try.ntmps5
  go_wp2_with fail
  refine HH.mono ?_; rintro e w1 ⟨v1, rfl, hh1, hk1⟩
  have NR1 := NR _ _ hk1 hh1
  have hv1 := (hd_rd hh1).slice
  obtain ⟨ad1, cap1, rfl⟩ := hv1
  generalize hXL : xs.length = XL at *
  have HXL := hide hXL
  clear HH NR
  go_wp2_with fail
  refine NR1.mono ?_; rintro e w2 ⟨rfl, rfl⟩
  have hk12 := hk1
  have hh2 := hh1
  have NG2 := NG _ hk12
  clear NR1 NG
  go_wp2_with fail
  refine NG2.mono ?_; rintro e w3 ⟨rfl, hk3⟩
  have hk13 := hk12.trans hk3 (fun _ _ h => h)
  have hh3 := hd_keeps hh2 hk3
  clear NG2
  have KE3 := KE _ _ (hk13.andAlloc (.cells #[.bool false, .slice none 0 0, .int .i64 0, .int .i64 0] 52)) (hd_keeps hh3 (Kp.alloc w3 _ Nu))
  clear KE hh1 hh2 hh3
  go_wp2_with fail
  refine (nm _).mono ?_; rintro e w4 ⟨rfl, rfl⟩
  go_wp2_with fail
  refine KE3.mono ?_; rintro e w5 ⟨rfl, hk5⟩
  have hbox5 := (hk5.block w3.heap.size (by simp) (fun h => h)).trans (heap_alloc_new w3 (.cells #[.bool false, .slice none 0 0, .int .i64 0, .int .i64 0] 52))
  have hk35 := (Kp.alloc w3 (.cells #[.bool false, .slice none 0 0, .int .i64 0, .int .i64 0] 52) Nu).trans hk5 (fun _ _ h => h)
  have hk15 := hk13.trans hk35 (fun _ _ h => h)
  have hsz13 := hk13.size
  obtain ⟨y0, y1, y2, y3⟩ := cell4 hbox5
  have f0 := free3 hbox5 0
  have f1 := free3 hbox5 1
  have f2 := free3 hbox5 2
  have f3 := free3 hbox5 3
  have s0 := set3 hbox5 0 (.bool false)
  have s1 := set3 s0 1 (.slice none 0 0)
  have s2 := set3 s1 2 (.int .i64 0)
  have s3 := set3 s2 3 (.int .i64 0)
  have T1 : Rnn w ((((w5.setCell ⟨w3.heap.size, 0, none⟩ (.bool false)).setCell ⟨w3.heap.size, 1, none⟩ (.slice none 0 0)).setCell ⟨w3.heap.size, 2, none⟩ (.int .i64 0)).setCell ⟨w3.heap.size, 3, none⟩ (.int .i64 0)) w3.heap.size := by
    refine ⟨⟨by simpa [Array.setIfInBounds] using s3, rd_nil _, by simp [at?], by omega, by simp, by simp⟩, ?_, hsz13⟩
    repeat (refine Kp.andSetS ?_ _ _ hsz13)
    exact hk15
  clear s0 s1 s2 s3 hbox5
  clear KE3 hk13 hk35 hk15 hk5
  clear hk12
  go_wp2_with fail
  go_loopw [12] (fun i wr => ∃ K : Int, 0 ≤ K ∧ K ≤ 140737488351232 ∧ i = .int .i64 K ∧ Hid (K.toNat ≤ N) ∧ (Rnn w wr w3.heap.size)) (fun i _ => N - (intOf i).toNat)
  case atStart => exact ⟨0, by omega, by omega, rfl, Nat.zero_le _, T1⟩
  case round =>
    obtain ⟨K, hK0, hK1, rfl, HK, hT2⟩ := hrel
    clear T1
    have hkp := hT2.kp
    by_cases hlt : K.toNat < N
    · rcases HS.out with ⟨e, e2⟩ | ⟨sb, off, cap', e, hc⟩
      · have := HN.out
        subst e2
        simp at this
        omega
      simp only [Value.slice.injEq] at e
      obtain ⟨e1, e2, e3⟩ := e
      clear e2
      subst e1 e3
      have hkS : K.toNat < S.length := by rw [HN.out]; exact hlt
      have HLT := hide hlt
      have hat := Scr.at hc hkp hkS
      obtain ⟨c0, c1, c2, c3, c4, hf⟩ := hat
      have hltI : K < (N : Int) := by omega
      have hKN : K < 140737488351232 := by have := HM.out; omega
      obtain ⟨ad', cp', hbv⟩ := hf.rd.slice
      rw [hbv] at c4
      generalize S[K.toNat] = s at *
      obtain ⟨kind, sN, sI, sF, sbv, sbs⟩ := s
      simp only at c0 c1 c2 c3 c4
      clear hc hf hkS hbv hlt
      generalize sbs.length = SL at *
      have RS := reads_non hT2 kind sN sI sF ad' SL cp'
      clear hT2 hkp
      go_wp2_with fail
      refine RS.mono ?_; rintro e w7 ⟨rfl, hr7⟩
      go_wp2
      exact fin_writes hK0 hKN HLT.out hr7
    · have hke : K.toNat = N := by have := HK.out; omega
      have hgeI : ¬ K < (N : Int) := by omega
      clear hlt hke
      go_wp2
      go_ret
      exact ⟨rfl, hkp⟩
end Go.Proofs.Ytgaehpdlljlliaa.Cd
