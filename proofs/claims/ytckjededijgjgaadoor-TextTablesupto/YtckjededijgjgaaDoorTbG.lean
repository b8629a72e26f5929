import Derived.Test.YtckjededijgjgaaDoorTbE
namespace Go.Proofs.YtckjededijgjgaaDoor.Tb
open Go.RowKit
open Go.Proofs.YtckjededijgjgaaDoor.Pc (P4 pieces)
open Go.Proofs.YtckjededijgjgaaDoor.Wd (wS Cols refWidth_of wS_range)
set_option linter.unusedVariables false

set_option maxRecDepth 100000 in
set_option maxHeartbeats 2000000 in
theorem refRowFault_of (CO : Cols) (row : List ByteArray) (hz : ∀ c ∈ row, c.size ≤ 1048576) (w : World) (ad : Option Addr) (cap : Nat) (hV : Sv w ad row) :
    Calls Tryd.prog 84 #[.slice ad row.length cap] w fun e w' => e = .returned (.int .i64 (rf row)) ∧ Below w.heap.size w w' := by
  unfold rf
  by_cases hbig : 16 < row.length
  · rw [if_pos hbig]
    have hbI : (16 : Int) < (row.length : Int) := by omega
    clear hz hV
    generalize row.length = N at *
    go_enter Tryd.func84, Tryd.ntmps84
    go_wp2
    go_ret
    exact ⟨rfl, Below.refl _ _⟩
  rw [if_neg hbig]
  have HCF := hide (fun k (hk : k < row.length) (W : World) => refCellFault_of CO row[k] (hz _ (List.getElem_mem hk)) W)
  have HRD := hide (fun k (hk : k < row.length) => rf_drop hk)
  have HRE := hide (fun k (hk : row.length ≤ k) => rf_end hk)
  have HVV := hide hV
  have HR0 : Hid (rfL (row.drop 0) = rfL row) := by show _ = _; rw [List.drop_zero]
  clear hz hV
  generalize rfL row = F at *
  obtain ⟨N, hN⟩ : ∃ N, row.length = N := ⟨_, rfl⟩
  have HN := hide hN
  rw [hN] at hbig ⊢
  clear hN
  have hNI : (N : Int) ≤ 16 := by omega
  go_enter Tryd.func84, Tryd.ntmps84
  go_wp2_with fail
  go_loopw [3] (fun kv wr => ∃ k : Nat, kv = .int .i64 (k : Int) ∧ k ≤ N ∧ Below w.heap.size w wr ∧ Hid (rfL (row.drop k) = F)) (fun kv _ => N - (intOf kv).toNat)
  case atStart => exact ⟨0, rfl, by omega, Below.refl _ _, HR0⟩
  case round =>
    obtain ⟨k, rfl, hk, hB, HI⟩ := hrel
    by_cases hlt : k < N
    · have hkl : k < row.length := by rw [HN.out]; exact hlt
      obtain ⟨g, o, rfl, hg, c0⟩ := (HVV.out.below hB (Nat.le_refl _)) k hkl
      have hltI : (k : Int) < (N : Int) := by omega
      have CF := HCF.out k hkl wr
      have HI2 : Hid (F = if cf row[k] ≠ 0 then cf row[k] else rfL (row.drop (k + 1))) := by
        show _ = _
        rw [← HI.out]; exact HRD.out k hkl
      generalize row[k] = c at *
      generalize cf c = ec at *
      clear HI HCF HRD HRE HVV HR0
      by_cases he : ec = 0
      · have be : (ec != 0) = false := by rw [he]; rfl
        have HI3 : Hid (rfL (row.drop (k + 1)) = F) := by show _ = _; rw [HI2.out, if_neg (by simp [he])]
        clear HI2 he
        go_wp2_with fail
        refine CF.mono ?_; rintro e w2 ⟨rfl, hb2⟩
        go_wp2
        exact ⟨⟨k + 1, by go_num, by omega, hB.trans (hb2.mono hB.size), HI3⟩, by simp [intOf]; omega⟩
      · have be : (ec != 0) = true := by rw [bne_iff_ne]; exact he
        have HE : Hid (F = ec) := by show _ = _; rw [HI2.out, if_pos he]
        clear HI2 he
        go_wp2_with fail
        refine CF.mono ?_; rintro e w2 ⟨rfl, hb2⟩
        go_wp2
        go_ret
        exact ⟨by rw [HE.out]; rfl, hB.trans (hb2.mono hB.size)⟩
    · have hge : ¬ (k : Int) < (N : Int) := by omega
      have HE : Hid (F = 0) := by show _ = _; rw [← HI.out]; exact HRE.out k (by rw [HN.out]; omega)
      clear HI HCF HRD HRE HVV HR0
      go_wp2
      go_ret
      exact ⟨by rw [HE.out]; rfl, hB⟩

set_option maxRecDepth 100000 in
set_option maxHeartbeats 2000000 in
theorem refColumnWidth_of (CO : Cols) (rows : List (List ByteArray)) (hn : rows.length ≤ 256) (hr : ∀ r ∈ rows, r.length ≤ 16 ∧ ∀ c ∈ r, c.size ≤ 1048576) (j : Nat) (hj : j < 16) (w : World) (ad : Option Addr) (cap : Nat) (hV : Rs w ad rows) :
    Calls Tryd.prog 85 #[.slice ad rows.length cap, .int .i64 (j : Int)] w fun e w' => e = .returned (.int .i64 (cw rows j)) ∧ Below w.heap.size w w' := by
  have HWD := hide (fun (c : ByteArray) (hc : c.size ≤ 1048576) (W : World) => refWidth_of CO c hc W)
  have HRR := hide (fun i (hi : i < rows.length) => hr rows[i] (List.getElem_mem hi))
  have HTK := hide (fun i (hi : i < rows.length) => (List.take_succ_eq_append_getElem hi : rows.take (i + 1) = _))
  have HTT : Hid (rows.take rows.length = rows) := by show _ = _; rw [List.take_length]
  have HVV := hide hV
  have HCP := hide (fun i => cw_pos (rows.take i) j)
  clear hr hV
  obtain ⟨A, hA⟩ : ∃ A, cw rows j = A := ⟨_, rfl⟩
  have HA := hide hA
  rw [hA]
  clear hA
  obtain ⟨N, hN⟩ : ∃ N, rows.length = N := ⟨_, rfl⟩
  have HN := hide hN
  rw [hN] at hn ⊢
  clear hN
  have hNI : (N : Int) ≤ 256 := by omega
  have hjI : (j : Int) < 16 := by omega
  go_enter Tryd.func85, Tryd.ntmps85
  go_wp2_with fail
  go_loopw [5, 6] (fun bv kv wr => ∃ (i : Nat) (b : Int), kv = .int .i64 (i : Int) ∧ bv = .int .i64 b ∧ i ≤ N ∧ Below w.heap.size w wr ∧ Hid (b = cw (rows.take i) j)) (fun _ kv _ => N - (intOf kv).toNat)
  case atStart => exact ⟨0, 0, rfl, rfl, by omega, Below.refl _ _, rfl⟩
  case round =>
    obtain ⟨i, b, rfl, rfl, hi, hB, HF⟩ := hrel
    by_cases hlt : i < N
    · have hil : i < rows.length := by rw [HN.out]; exact hlt
      have hltI : (i : Int) < (N : Int) := by omega
      obtain ⟨g, o, adr, cp, rfl, hg, c00, hv⟩ := HVV.out i hil
      have c0 := (hB.cell (p := ⟨g, o + i, none⟩) hg).trans c00
      obtain ⟨hr16, hcs⟩ := HRR.out i hil
      have HF2 : Hid (cw (rows.take (i + 1)) j = max b (wAt rows[i] j)) := by
        show _ = _
        rw [HTK.out i hil, cw_snoc, ← HF.out]
      have hb0 : 0 ≤ b := by rw [HF.out]; exact HCP.out i
      have HSV := hide hv
      generalize rows[i] = row at *
      have HCS := hide hcs
      clear hv hcs c00 HVV HRR HTK HF
      obtain ⟨M, hM⟩ : ∃ M, row.length = M := ⟨_, rfl⟩
      have HM := hide hM
      rw [hM] at c0 hr16
      clear hM
      have hMI : (M : Int) ≤ 16 := by omega
      by_cases hjl : j < M
      · have hjr : j < row.length := by rw [HM.out]; exact hjl
        have hjMI : (j : Int) < (M : Int) := by omega
        obtain ⟨g2, o2, rfl, hg2, d0⟩ := (HSV.out.below hB (Nat.le_refl _)) j hjr
        have WD := HWD.out row[j] (HCS.out row[j] (List.getElem_mem hjr)) wr
        rw [wAt_in hjr] at HF2
        have hwr := wS_range (pieces row[j])
        generalize wS (pieces row[j]) = ww at *
        generalize row[j] = c at *
        clear HSV HCS HWD
        by_cases hgt : ww > b
        · have hgt' : b < ww := hgt
          have HF3 : Hid (ww = cw (rows.take (i + 1)) j) := by show _ = _; rw [HF2.out]; omega
          clear HF2
          go_wp2_with fail
          refine WD.mono ?_; rintro e w2 ⟨rfl, hb2⟩
          go_wp2
          exact ⟨⟨i + 1, ww, by go_num, rfl, by omega, hB.trans (hb2.mono hB.size), HF3⟩, by simp only [intOf]; omega⟩
        · have hgt' : ¬ b < ww := hgt
          have HF3 : Hid (b = cw (rows.take (i + 1)) j) := by show _ = _; rw [HF2.out]; omega
          clear HF2
          go_wp2_with fail
          refine WD.mono ?_; rintro e w2 ⟨rfl, hb2⟩
          go_wp2
          exact ⟨⟨i + 1, b, by go_num, rfl, by omega, hB.trans (hb2.mono hB.size), HF3⟩, by simp only [intOf]; omega⟩
      · have hjMI : ¬ (j : Int) < (M : Int) := by omega
        have HF3 : Hid (b = cw (rows.take (i + 1)) j) := by
          show _ = _
          rw [HF2.out, wAt_out (by rw [HM.out]; omega)]
          omega
        clear HF2 HSV HCS HWD
        go_wp2
        exact ⟨⟨i + 1, b, by go_num, rfl, by omega, hB, HF3⟩, by simp only [intOf]; omega⟩
    · have hge : ¬ (i : Int) < (N : Int) := by omega
      have hiN : i = N := by omega
      have HE : Hid (b = A) := by
        show _ = _
        rw [HF.out, hiN, ← HN.out, HTT.out]; exact HA.out
      clear HF HVV HRR HTK HTT HWD hiN
      go_wp2
      go_ret
      exact ⟨by rw [HE.out]; rfl, hB⟩
end Go.Proofs.YtckjededijgjgaaDoor.Tb
