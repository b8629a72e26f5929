import Derived.Test.YtckjededijgjgaaDoorTbF
import Derived.Test.YtckjededijgjgaaDoorTbG
namespace Go.Proofs.YtckjededijgjgaaDoor.Tb
open Go.RowKit
open Go.Proofs.YtckjededijgjgaaDoor.Pc (P4 pieces)
open Go.Proofs.YtckjededijgjgaaDoor.Wd (wS Cols refWidth_of wS_range bl bl_len)
set_option linter.unusedVariables false

theorem info3 : (Tryd.prog.info? 3).map (fun i => (i.zero, i.size, i.bytes)) = some (some (.int .i64 0), 1, 8) := by kernel_rfl
/-- cells of the widths -/
def wCs (f : Nat → Int) (n : Nat) : List Value := (List.range n).map fun j => Value.int .i64 (f j)
theorem wCs_snoc (f : Nat → Int) (n : Nat) : wCs f (n + 1) = wCs f n ++ [.int .i64 (f n)] := by simp [wCs, List.range_succ]
theorem newI (W : World) (z : Int) (j : Nat) (u : Value) (h : ([.int .i64 z] : List Value)[j]? = some u) : (W.alloc (.cells #[.int .i64 z] 3)).cell? ((⟨W.heap.size, 0, none⟩ : Addr).add j) = some u := by
  rw [Pc.addP, World.cell?_alloc_new, Nat.zero_add]
  simpa using h
theorem newS (W : World) (z : ByteArray) (j : Nat) (u : Value) (h : ([.string z] : List Value)[j]? = some u) : (W.alloc (.cells #[.string z] 9)).cell? ((⟨W.heap.size, 0, none⟩ : Addr).add j) = some u := by
  rw [Pc.addP, World.cell?_alloc_new, Nat.zero_add]
  simpa using h
theorem ownT_below {w w' : World} {base n : Nat} {t : TypeId} {v : Value} {l : List Value} (h : w.ownsRow base t 1 v n l) (hb : Below w.heap.size w w') : w'.ownsRow base t 1 v n l := by
  obtain ⟨hl, ho⟩ := h
  refine ⟨hl, ?_⟩
  rcases ho with ho | ⟨g, cap, cur, e1, e2, hg, e3⟩
  · exact .inl ho
  · exact .inr ⟨g, cap, cur, e1, e2, (hb.block g (Array.getElem?_eq_some_iff.1 hg).1).trans hg, e3⟩
theorem ownT_grown {w w0 w1 : World} {base n : Nat} {t : TypeId} {v : Value} {l : List Value} (hrow : w0.ownsRow base t 1 v n l) (hB : Below base w w0) (hs : base ≤ w0.heap.size) (hgrow : w0.grownBy w1 v.ownBlock) : Below base w w1 :=
  hB.grown hgrow hs (fun j ej => by
    rcases hrow.2 with ⟨hv0, _⟩ | ⟨g, cap, cur, hv0, hgb, _⟩
    · rw [hv0] at ej; cases ej
    · rw [hv0] at ej; cases ej; exact hgb)
theorem ownT_base {w : World} {base base' n : Nat} {v : Value} {l : List Value} {t : TypeId} (h : w.ownsRow base t 1 v n l) (hb : base' ≤ base) : w.ownsRow base' t 1 v n l := by
  obtain ⟨hl, ho⟩ := h
  refine ⟨hl, ?_⟩
  rcases ho with ho | ⟨g, cap, cur, e1, e2, e3⟩
  · exact .inl ho
  · exact .inr ⟨g, cap, cur, e1, Nat.le_trans hb e2, e3⟩
/-- sixteen widths, to be read -/
theorem wide_of {w : World} {base : Nat} {v : Value} {f : Nat → Int} (h : w.ownsRow base 3 1 v 16 (wCs f 16)) : ∃ g cap, v = .slice (some ⟨g, 0, none⟩) 16 cap ∧ g < w.heap.size ∧ ∀ j, j < 16 → w.cell? ⟨g, j, none⟩ = some (.int .i64 (f j)) := by
  obtain ⟨hl, ho⟩ := h
  rcases ho with ⟨_, e⟩ | ⟨g, cap, cur, e, hgb, hg, h1, h2, h3, h4⟩
  · cases e
  · refine ⟨g, cap, e, (Array.getElem?_eq_some_iff.1 hg).1, fun j hj => ?_⟩
    have : w.cell? ⟨g, j, none⟩ = (wCs f 16)[j]? := by
      rw [← h4, List.getElem?_take_of_lt (by omega), Array.getElem?_toList]
      simp [World.cell?, hg]
    rw [this]
    simp [wCs, hj]

set_option maxRecDepth 100000 in
set_option maxHeartbeats 16000000 in
theorem refTable_of (CO : Cols) (rows : List (List ByteArray)) (hz : ∀ r ∈ rows, ∀ c ∈ r, c.size ≤ 1048576) (w : World) (ad : Option Addr) (cap : Nat) (hV : Rs w ad rows) :
    Calls Tryd.prog 45 #[.slice ad rows.length cap] w fun e w' => TA w (tableG rows) e w' := by
  obtain ⟨i0, hi0, hz0, hz1, hz2⟩ := info_parts info9
  obtain ⟨j0, hj0, jz0, jz1, jz2⟩ := info_parts info3
  by_cases hbig : 256 < rows.length
  · rw [tableG_many hbig]
    have hbI : (256 : Int) < (rows.length : Int) := by omega
    clear hV hz
    generalize rows.length = N at *
    go_enter Tryd.func45, Tryd.ntmps45
    go_wp2
    go_ret3
    exact TA.none (Below.refl _ _)
  have HBD := hide (fun k hk hb hx => tableG_bad (rows := rows) (k := k) hbig hk hb hx)
  have HGD := hide (fun hb => tableG_good (rows := rows) hbig hb)
  have HRF := hide (fun i (hi : i < rows.length) (W : World) (adr : Option Addr) (cp : Nat) (hv : Sv W adr rows[i]) => refRowFault_of CO rows[i] (hz _ (List.getElem_mem hi)) W adr cp hv)
  have HFT := hide (fun (h : ∀ r ∈ rows, rf r = 0) => fits_of hz h)
  have HCW := hide (fun (h : ∀ r ∈ rows, Fits (cw rows) r) (j : Nat) (hj : j < 16) (W : World) (hb : Below w.heap.size w W) => refColumnWidth_of CO rows (by omega) (fun r hr => ⟨(h r hr).len, (h r hr).cells⟩) j hj W ad cap (hV.below hb (Nat.le_refl _)))
  have HWD := hide (fun (c : ByteArray) (hc : c.size ≤ 1048576) (W : World) => refWidth_of CO c hc W)
  have HCP := hide (fun j => cw_pos rows j)
  have HVV := hide hV
  have HMM : Hid (∀ i (hi : i < rows.length), rows[i] ∈ rows) := fun i hi => List.getElem_mem hi
  clear hz hV
  obtain ⟨J, hJ⟩ : ∃ J, tableG rows = J := ⟨_, rfl⟩
  have HJ := hide hJ
  rw [hJ]
  clear hJ
  obtain ⟨N, hN⟩ : ∃ N, rows.length = N := ⟨_, rfl⟩
  have HN := hide hN
  rw [hN] at hbig HCW ⊢
  clear hN
  have hNI : (N : Int) ≤ 256 := by omega
  have hn256 : N ≤ 256 := by omega
  clear hbig
  go_enter Tryd.func45, Tryd.ntmps45
  go_wp2_with fail
  go_loopw [5] (fun kv wr => ∃ k : Nat, kv = .int .i64 (k : Int) ∧ k ≤ N ∧ Below w.heap.size w wr ∧ Hid (∀ j (hj : j < rows.length), j < k → rf rows[j] = 0)) (fun kv _ => N - (intOf kv).toNat)
  case atStart => exact ⟨0, rfl, by omega, Below.refl _ _, fun j hj h => by omega⟩
  case round =>
    obtain ⟨k, rfl, hk, hB, HI⟩ := hrel
    by_cases hlt : k < N
    · have hkl : k < rows.length := by rw [HN.out]; exact hlt
      have hltI : (k : Int) < (N : Int) := by omega
      obtain ⟨g, o, adr, cp, rfl, hg, c00, hv⟩ := HVV.out k hkl
      have c0 := (hB.cell (p := ⟨g, o + k, none⟩) hg).trans c00
      have RF := HRF.out k hkl wr adr cp (hv.below hB (Nat.le_refl _))
      have HNX : Hid (rf rows[k] = 0 → ∀ j (hj : j < rows.length), j < k + 1 → rf rows[j] = 0) := by
        intro hx j hj hjk
        by_cases e : j = k
        · subst e; exact hx
        · exact HI.out j hj (by omega)
      have HBX : Hid (rf rows[k] ≠ 0 → J = ([], (k : Int), rf rows[k])) := by
        intro hx
        rw [← HJ.out]
        exact HBD.out k hkl HI.out hx
      generalize rows[k] = row at *
      generalize rf row = er at *
      generalize row.length = M at *
      clear HI HBD HGD HRF HFT HCW HWD HCP HVV HMM c00 hv
      by_cases he : er = 0
      · have be : (er != 0) = false := by rw [he]; rfl
        have HI2 := hide (HNX.out he)
        clear HNX HBX he
        go_wp2_with fail
        refine RF.mono ?_; rintro e w2 ⟨rfl, hb2⟩
        go_wp2
        exact ⟨⟨k + 1, by go_num, by omega, hB.trans (hb2.mono hB.size), HI2⟩, by simp [intOf]; omega⟩
      · have be : (er != 0) = true := by rw [bne_iff_ne]; exact he
        have HE := hide (HBX.out he)
        clear HNX HBX he
        go_wp2_with fail
        refine RF.mono ?_; rintro e w2 ⟨rfl, hb2⟩
        go_wp2
        go_ret3
        rw [HE.out]
        exact TA.none (hB.trans (hb2.mono hB.size))
    · have hge : ¬ (k : Int) < (N : Int) := by omega
      have hall : ∀ j (hj : j < rows.length), rf rows[j] = 0 := fun j hj => HI.out j hj (by rw [HN.out] at hj; omega)
      have hft := HFT.out (fun r hr => by obtain ⟨j, hj, rfl⟩ := List.mem_iff_getElem.1 hr; exact hall j hj)
      have HE : Hid (J = (rows.map (tl (cw rows)), 0, 0)) := by
        show _ = _
        rw [← HJ.out]; exact HGD.out hall
      have HC2 := hide (HCW.out hft)
      have HFF := hide hft
      clear HI HBD HGD HRF HFT HCW hall hft HJ hlt hk
      generalize hf : cw rows = f at *
      clear hf
      go_wp2_with fail
      go_loopw [7, 8] (fun v kv wr => ∃ (j : Nat), kv = .int .i64 (j : Int) ∧ j ≤ 16 ∧ Below w.heap.size w wr ∧ wr.ownsRow w.heap.size 3 1 v j (wCs f j)) (fun _ kv _ => 16 - (intOf kv).toNat)
      case atStart => exact ⟨0, rfl, by omega, hB, World.ownsRow_nil _ _ _ _⟩
      case round =>
        obtain ⟨j, rfl, hj, hB', hrow⟩ := hrel
        by_cases hlt : j < 16
        · have hltI : (j : Int) < 16 := by omega
          have CW := HC2.out j hlt wr hB'
          have HSN := hide (wCs_snoc f j)
          generalize hfj : f j = fj at *
          have hBs' := hB'.size
          clear HC2 HFF HVV HWD HMM HCP
          go_wp2_with fail
          refine CW.mono ?_; rintro e w2 ⟨rfl, hb2⟩
          have hrow2 := ownT_below hrow hb2
          have hB2 := hB'.trans (hb2.mono hB'.size)
          have hBs2 := hB2.size
          clear CW hfj
          go_wp2_with (at_builtin; refine wpList_append_own _ rfl _ _ 119 rfl w.heap.size 3 j0 _ 1 8 Tryd.underlying119 hj0 jz0 jz1 jz2 rfl (by decide) _ _ _ rfl (hrow2.alloc _) ⟨w2.heap.size, 0, none⟩ 1 1 [.int .i64 fj] rfl rfl (newI _ _) (by simp [Value.oneCell']) ?p1 ?p2 ?p3 ?_; rotate_left 3; intro v' w3 hown' hgrow _)
          · have hB3 := ownT_grown (hrow2.alloc _) (hB2.alloc hB2.size _) (by simp; omega) hgrow
            exact ⟨⟨j + 1, by go_num, by omega, hB3, by rw [HSN.out]; exact hown'⟩, by simp only [intOf]; omega⟩
          all_goals (try (case p1 => unfold maxLen; omega))
          all_goals (try (case p2 => omega))
          all_goals (try (case p3 => (try simp); omega))
        · have hge : ¬ (j : Int) < 16 := by omega
          have hj16 : j = 16 := by omega
          subst hj16
          obtain ⟨gw, cpw, rfl, hgw, hwc⟩ := wide_of hrow
          have HWC := hide hwc
          have hge16 : ¬ (16 : Int) < 16 := by omega
          clear hwc hrow HC2 hge hlt hj
          have hBs' := hB'.size
          go_wp2_with fail
          generalize wr = wB at *
          go_loopw [10, 11] (fun v kv wl => ∃ (i : Nat), kv = .int .i64 (i : Int) ∧ i ≤ N ∧ Below wB.heap.size wB wl ∧ wl.ownsRow wB.heap.size 9 1 v i (sCs ((rows.take i).map (tl f)))) (fun _ kv _ => N - (intOf kv).toNat)
          case atStart => exact ⟨0, rfl, by omega, Below.refl _ _, World.ownsRow_nil _ _ _ _⟩
          case round =>
            generalize wr = wl at *
            obtain ⟨i, rfl, hi, hBl, hrow⟩ := hrel
            by_cases hlt : i < N
            · have hil : i < rows.length := by rw [HN.out]; exact hlt
              have hltI : (i : Int) < (N : Int) := by omega
              obtain ⟨g, o, adr, cp, rfl, hg, c00, hv⟩ := HVV.out i hil
              have HFI := hide (HFF.out _ (List.getElem_mem hil))
              have hM16 := (HFF.out _ (List.getElem_mem hil)).len
              have HSN : Hid (sCs ((rows.take (i + 1)).map (tl f)) = sCs ((rows.take i).map (tl f)) ++ [.string (tl f rows[i])]) := by
                show _ = _
                rw [List.take_succ_eq_append_getElem hil]
                simp only [sCs, List.map_append, List.map_cons, List.map_nil]
              generalize hS2e : sCs ((rows.take (i + 1)).map (tl f)) = S2 at *
              have HS2e := hide hS2e
              clear hS2e
              generalize sCs ((rows.take i).map (tl f)) = S1 at *
              have hgr : g < wB.heap.size := Nat.lt_of_lt_of_le hg hBs'
              have c01 := (hB'.cell (p := ⟨g, o + i, none⟩) hg).trans c00
              have HSV := hide (hv.below hB' (Nat.le_refl _))
              generalize rows[i] = row at *
              obtain ⟨M, hM⟩ : ∃ M, row.length = M := ⟨_, rfl⟩
              have HM := hide hM
              rw [hM] at c01 hM16
              clear hM c00 hv HFF HVV HMM
              have hMI : (M : Int) ≤ 16 := by omega
              have hBls := hBl.size
              have hNI2 : (N : Int) ≤ 256 := hNI
              go_wp2_with fail
              go_loopw [12, 13] (fun lv kv wq => ∃ (j : Nat) (L : ByteArray), kv = .int .i64 (j : Int) ∧ lv = .string L ∧ j ≤ M ∧ Below wl.heap.size wl wq ∧ (L.size : Int) ≤ 17000000 ∧ Hid (L.data.toList = tlP f row j)) (fun _ kv _ => M - (intOf kv).toNat)
              case atStart => exact ⟨0, ⟨#[]⟩, rfl, rfl, by omega, Below.refl _ _, by decide, rfl⟩
              case round =>
                generalize wr = wq at *
                obtain ⟨j, L, rfl, rfl, hj, hBq, hLs, HL⟩ := hrel
                have hBq2 := hBl.trans (hBq.mono hBl.size)
                have c0 := (hBq2.cell (p := ⟨g, o + i, none⟩) hgr).trans c01
                by_cases hltj : j < M
                · have hjr : j < row.length := by rw [HM.out]; exact hltj
                  have hjI : (j : Int) < (M : Int) := by omega
                  obtain ⟨g2, o2, rfl, hg2, d00⟩ := HSV.out j hjr
                  have d0 := (hBq2.cell (p := ⟨g2, o2 + j, none⟩) hg2).trans d00
                  have hcz := HFI.out.cells row[j] (List.getElem_mem hjr)
                  have hczI : (row[j].size : Int) ≤ 1048576 := by omega
                  have htl := tlP_len HFI.out j (by omega)
                  have htl2 := tlP_len HFI.out (j + 1) (by omega)
                  have hlo := HFI.out.lo j hjr
                  have hhi := HFI.out.hi j hjr
                  have hwp := wAt_pos row j
                  have hwi := wAt_in hjr
                  have hgap : (gap f row j : Int) = f j - wAt row j + 2 := by unfold gap; omega
                  rw [hwi] at hlo hgap hwp
                  have hgn : gap f row j ≤ 1000 := by omega
                  have HT2 : Hid (tlP f row (j + 1) = tlP f row j ++ row[j].data.toList ++ (if j + 1 < M then bl (gap f row j) else [])) := by
                    show _ = _
                    rw [tlP, List.getD_eq_getElem?_getD, List.getElem?_eq_getElem hjr, HM.out]
                    rfl
                  have hwk := (hBq2.cell (p := ⟨gw, j, none⟩) hgw).trans (HWC.out j (by omega))
                  have WD := HWD.out row[j] hcz wq
                  generalize tlP f row j = T1 at *
                  generalize hT2e : tlP f row (j + 1) = T2 at *
                  have HT2e := hide hT2e
                  clear hT2e
                  generalize gap f row j = gp at *
                  generalize wS (pieces row[j]) = ww at *
                  generalize row[j] = c at *
                  generalize f j = fj at *
                  have hLl : L.size = T1.length := by rw [← HL.out]; simp
                  have HTB := hide (⟨htl, htl2, hLl⟩ : T1.length ≤ j * 1049000 ∧ T2.length ≤ (j + 1) * 1049000 ∧ L.size = T1.length)
                  have hLz : (L.size : Int) ≤ 16000000 := by omega
                  clear htl htl2 hLl hwi HWD HSV HFI HWC d00 hcz
                  by_cases hl1 : j + 1 < M
                  · have hl1I : (j : Int) < (M : Int) - 1 := by omega
                    have hl1J : (j : Int) + 1 < (M : Int) := by omega
                    rw [if_pos hl1] at HT2
                    have HL2 : Hid ((L ++ c ++ (⟨(bl gp).toArray⟩ : ByteArray)).data.toList = T2) := by
                      show _ = _
                      rw [HT2.out, ← HL.out]; simp
                    have hz2 : ((L ++ c ++ (⟨(bl gp).toArray⟩ : ByteArray)).size : Int) ≤ 17000000 := by
                      have : (L ++ c ++ (⟨(bl gp).toArray⟩ : ByteArray)).size = T2.length := by rw [← HL2.out, Array.length_toList]; rfl
                      have := HTB.out.2.1
                      omega
                    have hlcz : ((L ++ c).size : Int) ≤ 17100000 := by rw [ByteArray.size_append]; omega
                    have SP : ∀ W, Calls Tryd.prog 82 #[.int .i64 (fj - ww + 2)] W fun e W' => e = .returned (.string ⟨(bl gp).toArray⟩) ∧ Below W.heap.size W W' := fun W => by rw [← hgap]; exact spaces_big gp hgn W
                    have hbz : ((⟨(bl gp).toArray⟩ : ByteArray).size : Int) ≤ 1000 := by
                      have : (⟨(bl gp).toArray⟩ : ByteArray).size = gp := by show (bl gp).toArray.size = _; simp [bl_len]
                      omega
                    generalize (⟨(bl gp).toArray⟩ : ByteArray) = bb at *
                    clear HT2 HL hgap
                    go_wp2_with fail
                    refine WD.mono ?_; rintro e w2 ⟨rfl, hb2⟩
                    have hwk2 := (hb2.cell (p := ⟨gw, j, none⟩) (Nat.lt_of_lt_of_le hgw hBq2.size)).trans hwk
                    clear WD
                    go_wp2_with fail
                    refine (SP w2).mono ?_; rintro e w3 ⟨rfl, hb3⟩
                    clear SP
                    go_wp2
                    exact ⟨⟨j + 1, _, by go_num, rfl, by omega, (hBq.trans (hb2.mono hBq.size)).trans (hb3.mono (Nat.le_trans hBq.size hb2.size)), hz2, by show _ = _; rw [HT2e.out]; exact HL2.out⟩, by simp only [intOf]; omega⟩
                  · have hl1I : ¬ (j : Int) < (M : Int) - 1 := by omega
                    have hl1J : ¬ (j : Int) + 1 < (M : Int) := by omega
                    rw [if_neg hl1, List.append_nil] at HT2
                    have HL2 : Hid ((L ++ c).data.toList = T2) := by
                      show _ = _
                      rw [HT2.out, ← HL.out]; simp
                    have hz2 : ((L ++ c).size : Int) ≤ 17000000 := by
                      have : (L ++ c).size = T2.length := by rw [← HL2.out, Array.length_toList]; rfl
                      have := HTB.out.2.1
                      omega
                    clear HT2 HL hgap WD
                    go_wp2
                    exact ⟨⟨j + 1, _, by go_num, rfl, by omega, hBq, hz2, by show _ = _; rw [HT2e.out]; exact HL2.out⟩, by simp only [intOf]; omega⟩
                · have hge : ¬ (j : Int) < (M : Int) := by omega
                  have HE2 : Hid (L = tl f row) := by
                    show _ = _
                    have e : j = row.length := by rw [HM.out]; omega
                    unfold tl
                    rw [← e, ← HL.out]
                  have hrow2 := ownT_below hrow hBq
                  have hBqs := hBq.size
                  rw [← HE2.out] at HSN
                  clear HL HE2 HWD HSV HFI HWC
                  go_wp2_with (at_builtin; refine wpList_append_own _ rfl _ _ 34 rfl wB.heap.size 9 i0 _ 1 16 Tryd.underlying34 hi0 hz0 hz1 hz2 rfl (by decide) _ _ _ rfl (hrow2.alloc _) ⟨wq.heap.size, 0, none⟩ 1 1 [.string L] rfl rfl (newS _ _) (by simp [Value.oneCell']) ?r1 ?r2 ?r3 ?_; rotate_left 3; intro v' w3 hown' hgrow _)
                  · have hB3 := ownT_grown (hrow2.alloc _) (hBq2.alloc hBq2.size _) (by simp; omega) hgrow
                    exact ⟨⟨i + 1, by go_num, by omega, hB3, by rw [HS2e.out, HSN.out]; exact hown'⟩, by simp only [intOf]; omega⟩
                  all_goals (try (case r1 => unfold maxLen; omega))
                  all_goals (try (case r2 => omega))
                  all_goals (try (case r3 => (try simp); omega))
            · have hge : ¬ (i : Int) < (N : Int) := by omega
              have hiN : i = rows.length := by rw [HN.out]; omega
              have HL : Hid ((rows.map (tl f)).length = i) := by show _ = _; rw [List.length_map]; exact hiN.symm
              rw [hiN, List.take_length, ← hiN] at hrow
              have hrow2 := ownT_base hrow hB'.size
              clear HVV HFF HWD HWC HMM hiN hrow
              go_wp2
              go_ret3
              rw [HE.out]
              refine ⟨_, rfl, ?_, hB'.trans (hBl.mono hB'.size)⟩
              show World.ownsRow _ _ _ _ _ (rows.map (tl f)).length _
              rw [HL.out]
              exact hrow2
end Go.Proofs.YtckjededijgjgaaDoor.Tb
