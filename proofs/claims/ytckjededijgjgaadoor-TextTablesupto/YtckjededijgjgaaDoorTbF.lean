import Derived.Test.YtckjededijgjgaaDoorTbE
import Derived.OwnWalk
namespace Go.Proofs.YtckjededijgjgaaDoor.Tb
open Go.RowKit
open Go.Proofs.YtckjededijgjgaaDoor.Pc (P4 pieces)
open Go.Proofs.YtckjededijgjgaaDoor.Enc (Spans)
set_option linter.unusedVariables false

/-- what Table answers, in memory -/
def TA (w : World) (R : List ByteArray × Int × Int) (e : Ending) (w' : World) : Prop :=
  ∃ v, e = .returned (.tuple #[v, .int .i64 R.2.1, .int .i64 R.2.2]) ∧ w'.ownsRow w.heap.size 9 1 v R.1.length (sCs R.1) ∧ Below w.heap.size w w'
theorem TA.none {w w' : World} {a e : Int} (hb : Below w.heap.size w w') : TA w ([], a, e) (.returned (.tuple #[.slice none 0 0, .int .i64 a, .int .i64 e])) w' :=
  ⟨_, rfl, World.ownsRow_nil _ _ _ _, hb⟩
theorem lines_eq {rows : List (List ByteArray)} {f : Nat → Int} {xs : List Value} (hl : xs.length = rows.length) (h : ∀ j (hj : j < rows.length), xs[j]? = some (.string (tl f rows[j]))) : xs = sCs (rows.map (tl f)) := by
  apply List.ext_getElem?
  intro j
  by_cases hj : j < rows.length
  · rw [h j hj]
    simp [sCs, hj]
  · rw [List.getElem?_eq_none (by omega), List.getElem?_eq_none (by simp [sCs]; omega)]

set_option maxRecDepth 100000 in
set_option maxHeartbeats 8000000 in
theorem table_any (rows : List (List ByteArray)) (hz : ∀ r ∈ rows, ∀ c ∈ r, c.size ≤ 1048576) (w : World) (ad : Option Addr) (cap : Nat) (hV : Rs w ad rows) (R off cap' : Nat) (hS : Spans w R off cap') :
    Calls Tryd.prog 46 #[.slice ad rows.length cap] w fun e w' => TA w (tableG rows) e w' := by
  obtain ⟨i0, hi0, hz0, hz1, hz2⟩ := info_parts info9
  by_cases hbig : 256 < rows.length
  · rw [tableG_many hbig]
    have hbI : (256 : Int) < (rows.length : Int) := by omega
    clear hV hz
    generalize rows.length = N at *
    go_enter Tryd.func46, Tryd.ntmps46
    go_wp2
    go_ret3
    exact TA.none (Below.refl _ _)
  have HBD := hide (fun k hk hb hx => tableG_bad (rows := rows) (k := k) hbig hk hb hx)
  have HGD := hide (fun hb => tableG_good (rows := rows) hbig hb)
  have HRF := hide (fun i (hi : i < rows.length) (W : World) (hb : Below w.heap.size w W) (adr : Option Addr) (cp : Nat) (hv : Sv W adr rows[i]) => rowFault_any rows[i] (hz _ (List.getElem_mem hi)) W adr cp hv R off cap' (hS.below hb (Nat.le_refl _)))
  have HFT := hide (fun (h : ∀ r ∈ rows, rf r = 0) => fits_of hz h)
  have HCW := hide (fun (h : ∀ r ∈ rows, Fits (cw rows) r) (W : World) (hb : Below w.heap.size w W) => columnWidths_any rows (by omega) (fun r hr => ⟨(h r hr).len, (h r hr).cells⟩) W ad cap (hV.below hb (Nat.le_refl _)) R off cap' (hS.below hb (Nat.le_refl _)))
  have HTL := hide (fun (h : ∀ r ∈ rows, Fits (cw rows) r) i (hi : i < rows.length) (W : World) (hb : Below w.heap.size w W) (adr : Option Addr) (cp : Nat) (hv : Sv W adr rows[i]) => tableLine_any (cw rows) rows[i] (h _ (List.getElem_mem hi)) W adr cp hv R off cap' (hS.below hb (Nat.le_refl _)))
  have HVV := hide hV
  have HMM : Hid (∀ i (hi : i < rows.length), rows[i] ∈ rows) := fun i hi => List.getElem_mem hi
  clear hz hV hS
  obtain ⟨J, hJ⟩ : ∃ J, tableG rows = J := ⟨_, rfl⟩
  have HJ := hide hJ
  rw [hJ]
  clear hJ
  obtain ⟨N, hN⟩ : ∃ N, rows.length = N := ⟨_, rfl⟩
  have HN := hide hN
  rw [hN] at hbig HCW ⊢
  clear hN
  have hNI : (N : Int) ≤ 256 := by omega
  have hn256 : N ≤ 256 := by omega
  clear hbig
  go_enter Tryd.func46, Tryd.ntmps46
  go_wp2_with fail
  go_loopw [17] (fun kv wr => ∃ k : Nat, kv = .int .i64 (k : Int) ∧ k ≤ N ∧ Below w.heap.size w wr ∧ Hid (∀ j (hj : j < rows.length), j < k → rf rows[j] = 0)) (fun kv _ => N - (intOf kv).toNat)
  case atStart => exact ⟨0, rfl, by omega, Below.refl _ _, fun j hj h => by omega⟩
  case round =>
    obtain ⟨k, rfl, hk, hB, HI⟩ := hrel
    by_cases hlt : k < N
    · have hkl : k < rows.length := by rw [HN.out]; exact hlt
      have hltI : (k : Int) < (N : Int) := by omega
      obtain ⟨g, o, adr, cp, rfl, hg, c00, hv⟩ := HVV.out k hkl
      have c0 := (hB.cell (p := ⟨g, o + k, none⟩) hg).trans c00
      have RF := HRF.out k hkl wr hB adr cp (hv.below hB (Nat.le_refl _))
      have HNX : Hid (rf rows[k] = 0 → ∀ j (hj : j < rows.length), j < k + 1 → rf rows[j] = 0) := by
        intro hx j hj hjk
        by_cases e : j = k
        · subst e; exact hx
        · exact HI.out j hj (by omega)
      have HBX : Hid (rf rows[k] ≠ 0 → J = ([], (k : Int), rf rows[k])) := by
        intro hx
        rw [← HJ.out]
        exact HBD.out k hkl HI.out hx
      generalize rows[k] = row at *
      generalize rf row = er at *
      generalize row.length = M at *
      clear HI HBD HGD HRF HFT HCW HTL HVV HMM c00 hv
      by_cases he : er = 0
      · have be : (er != 0) = false := by rw [he]; rfl
        have HI2 := hide (HNX.out he)
        clear HNX HBX he
        go_wp2_with fail
        refine RF.mono ?_; rintro e w2 ⟨rfl, hb2⟩
        go_wp2
        exact ⟨⟨k + 1, by go_num, by omega, hB.trans (hb2.mono hB.size), HI2⟩, by simp [intOf]; omega⟩
      · have be : (er != 0) = true := by rw [bne_iff_ne]; exact he
        have HE := hide (HBX.out he)
        clear HNX HBX he
        go_wp2_with fail
        refine RF.mono ?_; rintro e w2 ⟨rfl, hb2⟩
        go_wp2
        go_ret3
        rw [HE.out]
        exact TA.none (hB.trans (hb2.mono hB.size))
    · have hge : ¬ (k : Int) < (N : Int) := by omega
      have hall : ∀ j (hj : j < rows.length), rf rows[j] = 0 := fun j hj => HI.out j hj (by rw [HN.out] at hj; omega)
      have hft := HFT.out (fun r hr => by obtain ⟨j, hj, rfl⟩ := List.mem_iff_getElem.1 hr; exact hall j hj)
      have HE : Hid (J = (rows.map (tl (cw rows)), 0, 0)) := by
        show _ = _
        rw [← HJ.out]; exact HGD.out hall
      have CW := HCW.out hft wr hB
      have HT2 := hide (HTL.out hft)
      unfold A16 at CW
      clear HI HBD HGD HRF HFT HCW HTL hall hft HJ hlt hk
      go_wp2_with fail
      refine CW.mono ?_; rintro e w2 ⟨rfl, hb2⟩
      have hB2 := hB.trans (hb2.mono hB.size)
      have hBs2 := hB2.size
      clear CW
      have hA : Ar (w2.alloc (.cells #[.int .i64 (cw rows 0), .int .i64 (cw rows 1), .int .i64 (cw rows 2), .int .i64 (cw rows 3), .int .i64 (cw rows 4), .int .i64 (cw rows 5), .int .i64 (cw rows 6), .int .i64 (cw rows 7), .int .i64 (cw rows 8), .int .i64 (cw rows 9), .int .i64 (cw rows 10), .int .i64 (cw rows 11), .int .i64 (cw rows 12), .int .i64 (cw rows 13), .int .i64 (cw rows 14), .int .i64 (cw rows 15)] 122)) w2.heap.size (cw rows) := World.alloc_heap_new w2 _
      have hB3 := hB2.alloc hB2.size (.cells #[.int .i64 (cw rows 0), .int .i64 (cw rows 1), .int .i64 (cw rows 2), .int .i64 (cw rows 3), .int .i64 (cw rows 4), .int .i64 (cw rows 5), .int .i64 (cw rows 6), .int .i64 (cw rows 7), .int .i64 (cw rows 8), .int .i64 (cw rows 9), .int .i64 (cw rows 10), .int .i64 (cw rows 11), .int .i64 (cw rows 12), .int .i64 (cw rows 13), .int .i64 (cw rows 14), .int .i64 (cw rows 15)] 122)
      have hsz3 : (w2.alloc (.cells #[.int .i64 (cw rows 0), .int .i64 (cw rows 1), .int .i64 (cw rows 2), .int .i64 (cw rows 3), .int .i64 (cw rows 4), .int .i64 (cw rows 5), .int .i64 (cw rows 6), .int .i64 (cw rows 7), .int .i64 (cw rows 8), .int .i64 (cw rows 9), .int .i64 (cw rows 10), .int .i64 (cw rows 11), .int .i64 (cw rows 12), .int .i64 (cw rows 13), .int .i64 (cw rows 14), .int .i64 (cw rows 15)] 122)).heap.size = w2.heap.size + 1 := by simp
      generalize hf : cw rows = f at *
      go_wp2_with (at_make; refine wpList_make_full _ rfl _ _ 34 rfl w.heap.size 9 i0 _ 1 Tryd.underlying34 hi0 hz0 hz1 _ _ _ _ N rfl rfl rfl rfl (by rw [hz2]; omega) (by unfold maxLen; omega) (by omega) ?_; intro w4 hrow4 hgr4)
      have hb34 : Below w.heap.size w w4 := hB3.grown hgr4 (by omega) (fun j ej => by cases ej)
      have hA4 : Ar w4 w2.heap.size f := (hgr4.block w2.heap.size (by omega) (fun e => by cases e)).trans hA
      rw [hsz3] at hrow4
      try rw [hsz3]
      clear hgr4 hA hB3 hsz3 hf
      generalize hb8 : w2.heap.size = b8 at *
      obtain ⟨xs0, hxs0⟩ : ∃ xs, (madeCells (Value.string ⟨#[]⟩).cells (N * 1)).toList = xs := ⟨_, rfl⟩
      have hrow5 : w4.ownsRow w.heap.size 9 1 (.slice (some ⟨b8 + 1, 0, none⟩) N N) N xs0 := by rw [← hxs0]; exact hrow4
      clear hrow4 hxs0 hb8
      go_loopw [36] (fun kv wr => ∃ (k : Nat) (xs : List Value), kv = .int .i64 (k : Int) ∧ k ≤ N ∧ Below w.heap.size w wr ∧ Ar wr b8 f ∧ wr.ownsRow w.heap.size 9 1 (.slice (some ⟨b8 + 1, 0, none⟩) N N) N xs ∧ Hid (∀ j (hj : j < rows.length), j < k → xs[j]? = some (.string (tl f rows[j])))) (fun kv _ => N - (intOf kv).toNat)
      case atStart => exact ⟨0, xs0, rfl, by omega, hb34, hA4, hrow5, fun j hj h => by omega⟩
      case round =>
        clear hrow5 hA4 hb34
        obtain ⟨k, xs, rfl, hk, hB', hA', hrow, HI⟩ := hrel
        by_cases hlt : k < N
        · have hkl : k < rows.length := by rw [HN.out]; exact hlt
          have hltI : (k : Int) < (N : Int) := by omega
          obtain ⟨g, o, adr, cp, rfl, hg, c00, hv⟩ := HVV.out k hkl
          have c0 := (hB'.cell (p := ⟨g, o + k, none⟩) hg).trans c00
          have TL := HT2.out k hkl wr hB' adr cp (hv.below hB' (Nat.le_refl _))
          unfold A16 at TL
          have a0 := hA'.cell 0 (by omega)
          have a1 := hA'.cell 1 (by omega)
          have a2 := hA'.cell 2 (by omega)
          have a3 := hA'.cell 3 (by omega)
          have a4 := hA'.cell 4 (by omega)
          have a5 := hA'.cell 5 (by omega)
          have a6 := hA'.cell 6 (by omega)
          have a7 := hA'.cell 7 (by omega)
          have a8 := hA'.cell 8 (by omega)
          have a9 := hA'.cell 9 (by omega)
          have a10 := hA'.cell 10 (by omega)
          have a11 := hA'.cell 11 (by omega)
          have a12 := hA'.cell 12 (by omega)
          have a13 := hA'.cell 13 (by omega)
          have a14 := hA'.cell 14 (by omega)
          have a15 := hA'.cell 15 (by omega)
          have hxl : xs.length = N := by have := hrow.1; omega
          have HI2 : Hid (∀ j (hj : j < rows.length), j < k + 1 → (xs.set k (.string (tl f rows[k])))[j]? = some (.string (tl f rows[j]))) := by
            intro j hj hjk
            by_cases e : j = k
            · subst e
              rw [List.getElem?_set_self (by omega)]
            · rw [List.getElem?_set_ne (fun h => e h.symm)]
              exact HI.out j hj (by omega)
          generalize rows[k] = row at *
          generalize tl f row = LT at *
          generalize row.length = M at *
          have hAlt := hA'.lt
          clear HI c00 hv HVV HT2
          go_wp2_with fail
          refine TL.mono ?_; rintro e w5 ⟨rfl, hb5⟩
          have hrow6 := own1_below hrow hb5
          obtain ⟨k0, z0⟩ := own1_cell hrow6 hlt
          obtain ⟨u0, hu0⟩ : ∃ u, xs[k]? = some u := ⟨_, List.getElem?_eq_getElem (by omega)⟩
          rw [hu0] at k0
          have hB6 := (hB'.trans (hb5.mono hB'.size)).setCell (p := ⟨b8 + 1, k, none⟩) (by show w.heap.size ≤ b8 + 1; omega) (.string LT)
          have hA6 := (hA'.below hb5).other (b' := b8 + 1) (by omega) k (.string LT)
          have hrow7 := own1_set hrow6 k hlt (.string LT)
          clear TL
          go_wp2
          exact ⟨⟨k + 1, _, by go_num, by omega, hB6, hA6, hrow7, HI2⟩, by simp only [intOf]; omega⟩
        · have hge : ¬ (k : Int) < (N : Int) := by omega
          have hxl : xs.length = rows.length := by rw [HN.out]; have := hrow.1; omega
          have hxe := lines_eq (f := f) hxl (fun j hj => HI.out j hj (by rw [HN.out] at hj; omega))
          have HL : Hid ((rows.map (tl f)).length = N) := by show _ = _; rw [List.length_map]; exact HN.out
          rw [hxe] at hrow
          clear HI HVV HT2 hxe hxl
          go_wp2
          go_ret3
          rw [HE.out]
          refine ⟨_, rfl, ?_, hB'⟩
          show World.ownsRow _ _ _ _ _ (rows.map (tl f)).length _
          rw [HL.out]
          exact hrow
end Go.Proofs.YtckjededijgjgaaDoor.Tb
