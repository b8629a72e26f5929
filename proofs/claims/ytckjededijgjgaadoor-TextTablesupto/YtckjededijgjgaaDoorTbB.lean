import Derived.Test.YtckjededijgjgaaDoorTbA
import Derived.Test.YtckjededijgjgaaDoorWdI
import Derived.Test.YtckjededijgjgaaDoorUrA
import Derived.Test.YtckjededijgjgaaDoorEncC
namespace Go.Proofs.YtckjededijgjgaaDoor.Tb
open Go.RowKit
open Go.Proofs.YtckjededijgjgaaDoor.Pc (P4 pieces)
open Go.Proofs.YtckjededijgjgaaDoor.Enc (Spans plainF hidB hidden_any)
open Go.Proofs.YtckjededijgjgaaDoor.Wd (wS Cols refWidth_of)
open Go.Proofs.YtckjededijgjgaaDoor.Ur (Lp lp_of)
set_option linter.unusedVariables false

theorem cellFault_any (s : ByteArray) (hs : s.size ≤ 1048576) (w : World) (R off cap : Nat) (hS : Spans w R off cap) :
    Calls Tryd.prog 110 #[.string s] w fun e W' => e = .returned (.int .i64 (cf s)) ∧ Below w.heap.size w W' :=
  (callsIn_wide (n := 4)).1 (cellFault_in 4 (by omega) s hs w R off cap hS)

theorem meas1 {N k : Nat} (h : N - (k + 1) < N - k) : N - ((k : Int) + 1).toNat < N - ((k : Int)).toNat := by
  rw [show ((k : Int) + 1).toNat = k + 1 by omega, show ((k : Int)).toNat = k by omega]; exact h
/-- texts in memory -/
def Sv (w : World) (ad : Option Addr) (vs : List ByteArray) : Prop := ∀ k (hk : k < vs.length), ∃ g off, ad = some ⟨g, off, none⟩ ∧ g < w.heap.size ∧ w.cell? ⟨g, off + k, none⟩ = some (.string vs[k])
theorem Sv.below {w w' : World} {ad : Option Addr} {vs : List ByteArray} {B : Nat} (h : Sv w ad vs) (hb : Below B w w') (hB : w.heap.size ≤ B) : Sv w' ad vs := by
  intro k hk
  obtain ⟨g, off, h0, h1, c0⟩ := h k hk
  exact ⟨g, off, h0, Nat.lt_of_lt_of_le h1 hb.size, (hb.cell (p := ⟨g, off + k, none⟩) (Nat.lt_of_lt_of_le h1 hB)).trans c0⟩

/-- a row's fault -/
def rfL : List ByteArray → Int
  | [] => 0
  | c :: t => if cf c ≠ 0 then cf c else rfL t
def rf (row : List ByteArray) : Int := if 16 < row.length then 18 else rfL row
theorem rf_drop {row : List ByteArray} {k : Nat} (h : k < row.length) : rfL (row.drop k) = if cf row[k] ≠ 0 then cf row[k] else rfL (row.drop (k + 1)) := by
  rw [List.drop_eq_getElem_cons h, rfL]
theorem rf_end {row : List ByteArray} {k : Nat} (h : row.length ≤ k) : rfL (row.drop k) = 0 := by
  rw [List.drop_of_length_le h]; rfl

set_option maxRecDepth 100000 in
set_option maxHeartbeats 2000000 in
theorem rowFault_any (row : List ByteArray) (hz : ∀ c ∈ row, c.size ≤ 1048576) (w : World) (ad : Option Addr) (cap : Nat) (hV : Sv w ad row) (R off cap' : Nat) (hS : Spans w R off cap') :
    Calls Tryd.prog 86 #[.slice ad row.length cap] w fun e w' => e = .returned (.int .i64 (rf row)) ∧ Below w.heap.size w w' := by
  unfold rf
  by_cases hbig : 16 < row.length
  · rw [if_pos hbig]
    have hbI : (16 : Int) < (row.length : Int) := by omega
    clear hz hV
    generalize row.length = N at *
    go_enter Tryd.func86, Tryd.ntmps86
    go_wp2
    go_ret
    exact ⟨rfl, Below.refl _ _⟩
  rw [if_neg hbig]
  have HCF := hide (fun k (hk : k < row.length) (W : World) (hb : Below w.heap.size w W) => cellFault_any row[k] (hz _ (List.getElem_mem hk)) W R off cap' (hS.below hb (Nat.le_refl _)))
  have HRD := hide (fun k (hk : k < row.length) => rf_drop hk)
  have HRE := hide (fun k (hk : row.length ≤ k) => rf_end hk)
  have HVV := hide hV
  have HR0 : Hid (rfL (row.drop 0) = rfL row) := by show _ = _; rw [List.drop_zero]
  clear hz hV hS
  generalize rfL row = F at *
  obtain ⟨N, hN⟩ : ∃ N, row.length = N := ⟨_, rfl⟩
  have HN := hide hN
  rw [hN] at hbig ⊢
  clear hN
  have hNI : (N : Int) ≤ 16 := by omega
  go_enter Tryd.func86, Tryd.ntmps86
  go_wp2_with fail
  go_loopw [11] (fun kv wr => ∃ k : Nat, kv = .int .i64 (k : Int) ∧ k ≤ N ∧ Below w.heap.size w wr ∧ Hid (rfL (row.drop k) = F)) (fun kv _ => N - (intOf kv).toNat)
  case atStart => exact ⟨0, rfl, by omega, Below.refl _ _, HR0⟩
  case round =>
    obtain ⟨k, rfl, hk, hB, HI⟩ := hrel
    by_cases hlt : k < N
    · have hkl : k < row.length := by rw [HN.out]; exact hlt
      obtain ⟨g, o, rfl, hg, c0⟩ := (HVV.out.below hB (Nat.le_refl _)) k hkl
      have hltI : (k : Int) < (N : Int) := by omega
      have CF := HCF.out k hkl wr hB
      have HI2 : Hid (F = if cf row[k] ≠ 0 then cf row[k] else rfL (row.drop (k + 1))) := by
        show _ = _
        rw [← HI.out]; exact HRD.out k hkl
      generalize row[k] = c at *
      generalize cf c = ec at *
      clear HI HCF HRD HRE HVV HR0
      by_cases he : ec = 0
      · have be : (ec != 0) = false := by rw [he]; rfl
        have HI3 : Hid (rfL (row.drop (k + 1)) = F) := by show _ = _; rw [HI2.out, if_neg (by simp [he])]
        clear HI2 he
        go_wp2_with fail
        refine CF.mono ?_; rintro e w2 ⟨rfl, hb2⟩
        go_wp2
        exact ⟨⟨k + 1, by go_num, by omega, hB.trans (hb2.mono hB.size), HI3⟩, by simp [intOf]; omega⟩
      · have be : (ec != 0) = true := by rw [bne_iff_ne]; exact he
        have HE : Hid (F = ec) := by show _ = _; rw [HI2.out, if_pos he]
        clear HI2 he
        go_wp2_with fail
        refine CF.mono ?_; rintro e w2 ⟨rfl, hb2⟩
        go_wp2
        go_ret
        exact ⟨by rw [HE.out]; rfl, hB.trans (hb2.mono hB.size)⟩
    · have hge : ¬ (k : Int) < (N : Int) := by omega
      have HE : Hid (F = 0) := by show _ = _; rw [← HI.out]; exact HRE.out k (by rw [HN.out]; omega)
      clear HI HCF HRD HRE HVV HR0
      go_wp2
      go_ret
      exact ⟨by rw [HE.out]; rfl, hB⟩

theorem brk_take {l : List P4} {k : Nat} (h : k < l.length) : brk (l.take (k + 1)) = (brk (l.take k) || l[k].2.2.2) := by rw [List.take_succ_eq_append_getElem h, brk_snoc]
theorem hid_take {l : List P4} {k : Nat} (h : k < l.length) : hid (l.take (k + 1)) = (hid (l.take k) || !plainF l[k].1) := by rw [List.take_succ_eq_append_getElem h, hid_snoc]
theorem brk_of {l : List P4} {k : Nat} (h : k < l.length) (hb : l[k].2.2.2 = true) : brk l = true := by
  unfold brk
  rw [List.any_eq_true]
  exact ⟨l[k], List.getElem_mem h, hb⟩

set_option maxRecDepth 100000 in
set_option maxHeartbeats 2000000 in
theorem refCellFault_of (CO : Cols) (s : ByteArray) (hs : s.size ≤ 1048576) (w : World) :
    Calls Tryd.prog 109 #[.string s] w fun e w' => e = .returned (.int .i64 (cf s)) ∧ Below w.heap.size w w' := by
  have RP := Rp.refPieces_any s hs w
  have HW := hide (fun W => refWidth_of CO s hs W)
  have hpl := Wd.pieces_len s
  have HB1 := hide (fun k (hk : k < (pieces s).length) (hb : (pieces s)[k].2.2.2 = true) => brk_of hk hb)
  have HB2 := hide (fun k (hk : k < (pieces s).length) => brk_take hk)
  have HB3 := hide (fun k (hk : k < (pieces s).length) => hid_take hk)
  have HTT : Hid ((pieces s).take (pieces s).length = pieces s) := by show _ = _; rw [List.take_length]
  have HCF : Hid (cf s = if brk (pieces s) = true then 13 else if hid (pieces s) = true then 14 else if 400 < wS (pieces s) then 10 else 0) := rfl
  generalize cf s = F at *
  go_enter Tryd.func109, Tryd.ntmps109
  go_wp2_with fail
  refine RP.mono ?_; rintro e w1 ⟨v, rfl, hrow, hb1⟩
  obtain ⟨ad, cap, rfl, hL⟩ := lp_of hrow
  have HL := hide hL
  clear RP hrow hL
  obtain ⟨N, hN⟩ : ∃ N, (pieces s).length = N := ⟨_, rfl⟩
  have HN := hide hN
  rw [hN] at hpl ⊢
  clear hN
  have hNI : (N : Int) ≤ 1048576 := by omega
  have HNB : Hid (N ≤ 1048576) := by show _ ≤ _; omega
  clear hpl
  go_wp2_with fail
  go_loop [4, 5] (fun hv kv => ∃ (k : Nat), kv = .int .i64 (k : Int) ∧ hv = .bool (hid ((pieces s).take k)) ∧ Hid (k ≤ N) ∧ Hid (brk ((pieces s).take k) = false)) (fun _ kv => N - (intOf kv).toNat)
  case atStart => exact ⟨0, rfl, rfl, by show _ ≤ _; omega, rfl⟩
  case round =>
    obtain ⟨k, rfl, rfl, HK, HBK⟩ := hrel
    by_cases hlt : k < N
    · have hkl : k < (pieces s).length := by rw [HN.out]; exact hlt
      obtain ⟨g, rfl, hg, c0, c1, c2, c3⟩ := HL.out k hkl
      have hltI : (k : Int) < (N : Int) := by omega
      have hb2 := HB2.out k hkl
      have hh3 := HB3.out k hkl
      have hb1' := HB1.out k hkl
      rw [HBK.out, Bool.false_or] at hb2
      have HH3 := hide hh3
      have HBB := hide hb2
      have HB1' := hide hb1'
      have HLT := hide hlt
      clear hh3 hb2 hb1' hlt
      have H := hidden_any (pieces s)[k].1 w1
      have hpf : ∀ r, plainF r = !hidB r := fun _ => rfl
      have HPF := hide hpf
      clear hpf
      generalize (pieces s)[k] = x at *
      obtain ⟨r, pl, sz, br⟩ := x
      simp only at c0 c1 c2 c3 H
      cases br
      · generalize hid ((pieces s).take k) = hk0 at *
        have HI2 : Hid (hid ((pieces s).take (k + 1)) = (hk0 || hidB r)) := by
          show _ = _
          rw [HH3.out, HPF.out]; simp
        have HBN : Hid (brk ((pieces s).take (k + 1)) = false) := HBB.out
        have HKN : Hid (k + 1 ≤ N) := by have := HLT.out; show _ ≤ _; omega
        have HM : Hid (N - (k + 1) < N - k) := by have := HLT.out; show _ < _; omega
        clear HB1 HB2 HB3 HTT HCF HL HH3 HBB HB1' HPF HBK
        generalize hidB r = hb at *
        cases hk0
        · go_wp2_with fail
          refine H.mono ?_; rintro e w2 ⟨rfl, hw⟩; obtain rfl := hw.symm
          go_wp2
          exact ⟨⟨k + 1, by go_num, by rw [HI2.out]; rfl, HKN, HBN⟩, by simp only [intOf]; exact meas1 HM.out⟩
        · go_wp2_with fail
          refine H.mono ?_; rintro e w2 ⟨rfl, hw⟩; obtain rfl := hw.symm
          go_wp2
          exact ⟨⟨k + 1, by go_num, by rw [HI2.out]; rfl, HKN, HBN⟩, by simp only [intOf]; exact meas1 HM.out⟩
      · have HE : Hid (F = 13) := by
          show _ = _
          rw [HCF.out, if_pos (HB1'.out rfl)]
        clear HB1 HB2 HB3 HTT HCF HL HH3 HBB HB1' HPF
        go_wp2
        go_ret
        exact ⟨by rw [HE.out]; rfl, hb1⟩
    · have hge : ¬ (k : Int) < (N : Int) := by omega
      have hkN : k = N := by have := HK.out; omega
      have et : (pieces s).take k = pieces s := by rw [hkN, ← HN.out]; exact HTT.out
      have hbk := HBK.out
      rw [et] at hbk ⊢
      have HC2 : Hid (F = if hid (pieces s) = true then 14 else if 400 < wS (pieces s) then 10 else 0) := by
        show _ = _
        rw [HCF.out, hbk, if_neg (by simp)]
      have W1 := HW.out w1
      clear HB1 HB2 HB3 HTT HCF HL HBK et hbk hkN HW
      generalize hid (pieces s) = hh at *
      generalize wS (pieces s) = ww at *
      cases hh
      · by_cases h4 : 400 < ww
        · have HE : Hid (F = 10) := by show _ = _; rw [HC2.out, if_neg (by simp), if_pos h4]
          clear HC2
          go_wp2_with fail
          refine W1.mono ?_; rintro e w2 ⟨rfl, hb2⟩
          go_wp2
          go_ret
          exact ⟨by rw [HE.out]; rfl, hb1.trans (hb2.mono hb1.size)⟩
        · have h4' : ¬ 400 < ww := h4
          have HE : Hid (F = 0) := by show _ = _; rw [HC2.out, if_neg (by simp), if_neg h4]
          clear HC2
          go_wp2_with fail
          refine W1.mono ?_; rintro e w2 ⟨rfl, hb2⟩
          go_wp2
          go_ret
          exact ⟨by rw [HE.out]; rfl, hb1.trans (hb2.mono hb1.size)⟩
      · have HE : Hid (F = 14) := by show _ = _; rw [HC2.out, if_pos rfl]
        clear HC2
        go_wp2
        go_ret
        exact ⟨by rw [HE.out]; rfl, hb1⟩
end Go.Proofs.YtckjededijgjgaaDoor.Tb
