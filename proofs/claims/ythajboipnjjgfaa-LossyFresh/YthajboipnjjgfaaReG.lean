import Derived.Test.YthajboipnjjgfaaReF
namespace Go.Proofs.Ythajboipnjjgfaa.Ly
open Go.RowKit Go.Maps
set_option linter.unusedVariables false

section
variable {B p : Nat} {w w' : World} {there : Bool} {room : Int} {bs : Nat → Bool} {v : Value} {c : Ct} {H : List Hg}


set_option maxRecDepth 100000 in
set_option maxHeartbeats 1000000 in
theorem enter_ok0 (h : Rn B w p true room bs v c H) (hH : (H.length : Int) ≤ 1599289640400) (hc : Far c) (f t : Int) (f0 : 0 ≤ f) (f1 : f < 256) (t0 : 0 ≤ t) (t1 : t < 256) (a : Addr) (ys : List Int) (n cap : Nat) (hys : ys.length = n) (hdat : ∀ j x, (cs ys)[j]? = some x → w.cell? (a.add j) = some x) (hap : a.block ≠ p) (hf : ¬ f ≥ 33) (hn0 : 0 < n) (hn1 : n ≤ 1024) (hbar : bs (f.toNat * 256 + t.toNat) = false) (hfull : ((pls 0 H).length : Int) < room) : Calls Try.prog 68 #[.pointer (some ⟨p, 0, none⟩), .int .i64 f, .int .i64 t, .slice (some a) n cap, .bool false] w fun e w' => e = .returned (.int .i64 0) ∧ ∃ v' d', Rn B w' p true room bs v' { c with s := c.s + 1 } (H ++ [⟨f, t, d', ys, false⟩]) ∧ Fq p v w w' v' := by
  have mixed : Try.prog.follows .mixedOrders = true := by kernel_rfl
  have c0 := h.c0
  have c1 := h.c1
  have cb := h.cb (bidx f0 f1 t0 t1)
  rw [hbar, ← Nat.add_assoc] at cb
  have PL : ∀ W, Kp Nu w W → Calls Try.prog 84 #[.pointer (some ⟨p, 0, none⟩)] W fun e w' => ∃ ad' cap', e = .returned (.slice ad' (pls 0 H).length cap') ∧ Kp Nu w w' := fun W k => (places_any (h.nu k) hH).mono (by
    rintro e w' ⟨u, rfl, ho, hk⟩
    obtain ⟨ad', cap', rfl⟩ := own_slice ho
    exact ⟨ad', cap', rfl, k.andNu hk⟩)
  have HS : ∀ W, Kp Nu w W → W.cell? ⟨p, 1, none⟩ = some (.int .i64 room) := fun W k => (h.nu k).c1
  have HH := hide h
  have KA := Kp.refl Nu w
  have h1 : ((n : Int) == 0) = false := by simp; omega
  have h2 : ¬ (n : Int) > 1024 := by omega
  have h3 : ¬ ((pls 0 H).length : Int) ≥ room := by omega
  have hb0 := hc.s0
  have hb1 : c.s ≤ 4611686018427387000 := hc.s1
  have HD := hide hdat
  have HY := hide hys
  have HHH := hide hH
  have HAP := hide hap
  have HFT := hide (And.intro (And.intro f0 f1) (And.intro t0 t1))
  obtain ⟨i5, hi5, hz50, hz51, hz52⟩ := info_parts info5
  obtain ⟨i12, hi12, hz120, hz121, hz122⟩ := info_parts info120
  generalize hM : (pls 0 H).length = M at *
  clear hbar hc h hfull hH hM hys hdat hap
  go_enter Try.func68, Try.ntmps68
  go_wp2_with fail
  go_region_held3 (fun W => W.cell? ⟨p, 1, none⟩ = some (.int .i64 room)) (first | (refine HS _ ?_; repeat (first | assumption | exact Kp.refl _ _ | apply Kp.andAlloc | apply Kp.drew))) (first | (go_at_call 84; refine (PL _ ?_).mono ?_; (repeat (first | assumption | exact Kp.refl _ _ | apply Kp.andAlloc | apply Kp.drew)); rintro e w2 ⟨ad', cap', rfl, hk2⟩))
  clear PL HS KA c0 c1 cb
  have hR := HH.out.nu hk2
  have e5 : w2.cell? ⟨p, 65539, none⟩ = some (.int .i64 c.s) := hR.cc (j := 0) rfl
  have f5 := hR.free 65539
  have HX : Hid (Rn B (w2.setCell ⟨p, 65539, none⟩ (.int .i64 (c.s + 1))) p true room bs v { c with s := c.s + 1 } H) := hR.set 65539 (.int .i64 (c.s + 1)) (fun cur hc => hc.setC (j := 0) (by omega) rfl)
  have HF : Hid (Fq p v w (w2.setCell ⟨p, 65539, none⟩ (.int .i64 (c.s + 1))) v) := (Fq.of_nu hk2).set _ _
  have HDD : Hid (∀ j x, (cs ys)[j]? = some x → (w2.setCell ⟨p, 65539, none⟩ (.int .i64 (c.s + 1))).cell? (a.add j) = some x) := fun j x hj => by
    have h1 := HD.out j x hj
    have hb : (a.add j).block ≠ p := by rw [add_block]; exact HAP.out
    rw [World.cell?_of_block (Below.heap_setCell _ _ _ _ hb)]
    exact (World.cell?_of_block (hk2.block _ (World.block_lt_of_cell? w _ h1) (fun h => h))).trans h1
  clear hR hk2 HH HD
  go_wp2_with fail
  generalize w2.setCell ⟨p, 65539, none⟩ (.int .i64 (c.s + 1)) = w3 at HX HF HDD ⊢
  clear e5 f5
  have hn2 : (n : Int) ≤ 1024 := by omega
  go_loopw [11, 12] (fun l i wr => ∃ (k : Nat) (adl : Option Addr) (cpl : Nat), k ≤ n ∧ i = .int .i64 (k : Int) ∧ l = .slice adl k cpl ∧ Hid (wr.ownsRow w3.heap.size 5 1 (.slice adl k cpl) k (cs (ys.take k)) ∧ Kp Nu w3 wr)) (fun _ i _ => n - (intOf i).toNat)
  case atStart => exact ⟨0, none, 0, by omega, rfl, rfl, ⟨⟨by simp [cs], .inl ⟨rfl, rfl⟩⟩, Kp.refl _ _⟩⟩
  case round =>
    obtain ⟨k, adl, cpl, hk, rfl, rfl, hI⟩ := hrel
    by_cases hlt : k < n
    · have hkM : k < ys.length := by rw [HY.out]; exact hlt
      obtain ⟨y, hy⟩ : ∃ y, ys[k]? = some y := ⟨_, List.getElem?_eq_getElem hkM⟩
      have hltI : (k : Int) < (n : Int) := by omega
      have hk0 : (0 : Int) ≤ (k : Int) := by omega
      have hcell : wr.cell? (a.add k) = some (.int .u8 y) := by
        have h1 := HDD.out k (.int .u8 y) (by simp [cs, hy])
        exact (World.cell?_of_block (hI.out.2.block _ (World.block_lt_of_cell? w3 _ h1) (fun h => h))).trans h1
      have HST : Hid (ys.take (k + 1) = ys.take k ++ [y]) := by
        show _ = _
        rw [List.take_add_one, hy]
        rfl
      have hrow := hI.out.1
      have HK := hide hI.out.2
      have hsz := HK.out.size
      clear hI hy hkM
      go_wp2_with (first
        | (at_builtin; refine wpList_append_own _ rfl _ _ 25 rfl w3.heap.size 5 i5 (.int .u8 0) 1 1 Try.underlying25 hi5 hz50 hz51 hz52 rfl (by decide) _ _ _ rfl (hrow.alloc _) ⟨wr.heap.size, 0, none⟩ 1 1 [.int .u8 y] rfl rfl (cell_one_new _ _ _) (by simp [Value.oneCell']) (by unfold maxLen; omega) (by omega) (by simp; omega) ?_; intro v' w4 hown' hg3 hnil3; obtain ⟨ad3, cp3, ev3⟩ := own_slice hown'; have HO := hide hown'; have HG3 := hide hg3; subst ev3; clear hown' hg3 hnil3)
        | go_in)
      have HF2 : Hid (w4.ownsRow w3.heap.size 5 1 (.slice ad3 (k + 1) cp3) (k + 1) (cs (ys.take (k + 1))) ∧ Kp Nu w3 w4) := by
        refine ⟨?_, ?_⟩
        · have h1 := HO.out
          rw [HST.out]
          simpa [cs] using h1
        · exact (HK.out.andAlloc _).trans (Kp.of_grown HG3.out) (fun i hi e => by
            have := (hrow.lt i e.symm).1
            omega)
      go_wp2
      exact ⟨⟨k + 1, ad3, cp3, by omega, by go_num, rfl, HF2⟩, by simp [intOf]; omega⟩
    · have hge : ¬ (k : Int) < (n : Int) := by omega
      obtain rfl : k = n := by omega
      have eT : ys.take k = ys := by rw [← HY.out]; simp
      have h1 := hI.out.1
      rw [eT] at h1
      have HOW := hide h1
      have HK := hide hI.out.2
      have hR := HX.out.nu HK.out
      have c2 := hR.c2
      obtain ⟨adv, capv, hvl⟩ := own_slice hR.own
      obtain ⟨LH, hLH⟩ : ∃ LH, H.length = LH := ⟨_, rfl⟩
      have HLH := hide hLH
      rw [hLH] at hvl
      have hrow := hR.own
      rw [hLH, hvl] at hrow
      have HV := hide hvl
      rw [hvl] at c2
      have HR := hide hR
      have HHB : Hid (LH + 1 ≤ 1599289640401) := by show _ ≤ _; have := HHH.out; have := HLH.out; omega
      have HB3 : Hid (B ≤ w3.heap.size) := by show _ ≤ _; have := HX.out.hb; have := HX.out.lt; omega
      have HBs : Hid (B ≤ wr.heap.size) := by show _ ≤ _; have := hR.hb; have := hR.lt; omega
      clear hI h1 eT hR hLH hvl
      go_wp2_with (first
        | (at_builtin; refine wpList_append_own_at _ rfl _ _ 112 rfl B 120 i12 (.agg #[.int .i64 0, .int .i64 0, .slice none 0 0, .bool false]) 4 48 Try.underlying112 hi12 hz120 hz121 hz122 rfl (by decide) _ _ _ rfl (hrow.alloc _) ⟨wr.heap.size, 0, none⟩ 1 1 [.int .i64 f, .int .i64 t, .slice adl k cpl, .bool false] rfl rfl (cell_four_new _ _ _ _ _ _) (by simp [Value.oneCell']) (by have := HHB.out; unfold maxLen; omega) (by have := HHB.out; omega) (by have := HBs.out; simp; omega) ?_; intro v' w4 hown' hg3 hnil3 hlie3; have HO := hide hown'; have HG3 := hide hg3; have HL3 := hide hlie3; obtain ⟨ad3, cp3, ev3⟩ := own_slice hown'; have HP : Hid _ := Rn.push (o := .cells #[.int .i64 f, .int .i64 t, .slice adl k cpl, .bool false] 120) (ys := ys) HR.out HFT.out.1.1 HFT.out.1.2 HFT.out.2.1 HFT.out.2.2 (by rw [HY.out]; omega) (by rw [HY.out]; omega) (by rw [HY.out]; exact own_base HOW.out HB3.out) (by rw [HV.out]; exact HG3.out) (by rw [HV.out]; exact HL3.out) (by rw [HLH.out]; exact HO.out); have cc2 := HP.out.1; have ff2 := HP.out.2.1; rw [HV.out] at cc2; subst ev3; clear hown' hg3 hnil3 hlie3)
        | go_in)
      go_ret
      exact ⟨rfl, _, ⟨_, HP.out.2.2.1⟩, (HF.out.trans (Fq.of_nu HK.out)).trans HP.out.2.2.2⟩

set_option maxRecDepth 100000 in
set_option maxHeartbeats 1000000 in
theorem enter_ok1 (h : Rn B w p true room bs v c H) (hH : (H.length : Int) ≤ 1599289640400) (hc : Far c) (f t : Int) (f0 : 0 ≤ f) (f1 : f < 256) (t0 : 0 ≤ t) (t1 : t < 256) (a : Addr) (ys : List Int) (n cap : Nat) (hys : ys.length = n) (hdat : ∀ j x, (cs ys)[j]? = some x → w.cell? (a.add j) = some x) (hap : a.block ≠ p) (hf : f ≥ 33) (hn0 : 0 < n) (hn1 : n ≤ 1024) (hbar : bs (f.toNat * 256 + t.toNat) = false) (hfull : ((pls 0 H).length : Int) < room) : Calls Try.prog 68 #[.pointer (some ⟨p, 0, none⟩), .int .i64 f, .int .i64 t, .slice (some a) n cap, .bool true] w fun e w' => e = .returned (.int .i64 0) ∧ ∃ v' d', Rn B w' p true room bs v' { c with i := c.i + 1 } (H ++ [⟨f, t, d', ys, false⟩]) ∧ Fq p v w w' v' := by
  have mixed : Try.prog.follows .mixedOrders = true := by kernel_rfl
  have c0 := h.c0
  have c1 := h.c1
  have cb := h.cb (bidx f0 f1 t0 t1)
  rw [hbar, ← Nat.add_assoc] at cb
  have PL : ∀ W, Kp Nu w W → Calls Try.prog 84 #[.pointer (some ⟨p, 0, none⟩)] W fun e w' => ∃ ad' cap', e = .returned (.slice ad' (pls 0 H).length cap') ∧ Kp Nu w w' := fun W k => (places_any (h.nu k) hH).mono (by
    rintro e w' ⟨u, rfl, ho, hk⟩
    obtain ⟨ad', cap', rfl⟩ := own_slice ho
    exact ⟨ad', cap', rfl, k.andNu hk⟩)
  have HS : ∀ W, Kp Nu w W → W.cell? ⟨p, 1, none⟩ = some (.int .i64 room) := fun W k => (h.nu k).c1
  have HH := hide h
  have KA := Kp.refl Nu w
  have h1 : ((n : Int) == 0) = false := by simp; omega
  have h2 : ¬ (n : Int) > 1024 := by omega
  have h3 : ¬ ((pls 0 H).length : Int) ≥ room := by omega
  have hb0 := hc.i0
  have hb1 : c.i ≤ 4611686018427387000 := hc.i1
  have HD := hide hdat
  have HY := hide hys
  have HHH := hide hH
  have HAP := hide hap
  have HFT := hide (And.intro (And.intro f0 f1) (And.intro t0 t1))
  obtain ⟨i5, hi5, hz50, hz51, hz52⟩ := info_parts info5
  obtain ⟨i12, hi12, hz120, hz121, hz122⟩ := info_parts info120
  generalize hM : (pls 0 H).length = M at *
  clear hbar hc h hfull hH hM hys hdat hap
  go_enter Try.func68, Try.ntmps68
  go_wp2_with fail
  go_region_held3 (fun W => W.cell? ⟨p, 1, none⟩ = some (.int .i64 room)) (first | (refine HS _ ?_; repeat (first | assumption | exact Kp.refl _ _ | apply Kp.andAlloc | apply Kp.drew))) (first | (go_at_call 84; refine (PL _ ?_).mono ?_; (repeat (first | assumption | exact Kp.refl _ _ | apply Kp.andAlloc | apply Kp.drew)); rintro e w2 ⟨ad', cap', rfl, hk2⟩))
  clear PL HS KA c0 c1 cb
  have hR := HH.out.nu hk2
  have e5 : w2.cell? ⟨p, 65540, none⟩ = some (.int .i64 c.i) := hR.cc (j := 1) rfl
  have f5 := hR.free 65540
  have HX : Hid (Rn B (w2.setCell ⟨p, 65540, none⟩ (.int .i64 (c.i + 1))) p true room bs v { c with i := c.i + 1 } H) := hR.set 65540 (.int .i64 (c.i + 1)) (fun cur hc => hc.setC (j := 1) (by omega) rfl)
  have HF : Hid (Fq p v w (w2.setCell ⟨p, 65540, none⟩ (.int .i64 (c.i + 1))) v) := (Fq.of_nu hk2).set _ _
  have HDD : Hid (∀ j x, (cs ys)[j]? = some x → (w2.setCell ⟨p, 65540, none⟩ (.int .i64 (c.i + 1))).cell? (a.add j) = some x) := fun j x hj => by
    have h1 := HD.out j x hj
    have hb : (a.add j).block ≠ p := by rw [add_block]; exact HAP.out
    rw [World.cell?_of_block (Below.heap_setCell _ _ _ _ hb)]
    exact (World.cell?_of_block (hk2.block _ (World.block_lt_of_cell? w _ h1) (fun h => h))).trans h1
  clear hR hk2 HH HD
  go_wp2_with fail
  generalize w2.setCell ⟨p, 65540, none⟩ (.int .i64 (c.i + 1)) = w3 at HX HF HDD ⊢
  clear e5 f5
  have hn2 : (n : Int) ≤ 1024 := by omega
  go_loopw [11, 12] (fun l i wr => ∃ (k : Nat) (adl : Option Addr) (cpl : Nat), k ≤ n ∧ i = .int .i64 (k : Int) ∧ l = .slice adl k cpl ∧ Hid (wr.ownsRow w3.heap.size 5 1 (.slice adl k cpl) k (cs (ys.take k)) ∧ Kp Nu w3 wr)) (fun _ i _ => n - (intOf i).toNat)
  case atStart => exact ⟨0, none, 0, by omega, rfl, rfl, ⟨⟨by simp [cs], .inl ⟨rfl, rfl⟩⟩, Kp.refl _ _⟩⟩
  case round =>
    obtain ⟨k, adl, cpl, hk, rfl, rfl, hI⟩ := hrel
    by_cases hlt : k < n
    · have hkM : k < ys.length := by rw [HY.out]; exact hlt
      obtain ⟨y, hy⟩ : ∃ y, ys[k]? = some y := ⟨_, List.getElem?_eq_getElem hkM⟩
      have hltI : (k : Int) < (n : Int) := by omega
      have hk0 : (0 : Int) ≤ (k : Int) := by omega
      have hcell : wr.cell? (a.add k) = some (.int .u8 y) := by
        have h1 := HDD.out k (.int .u8 y) (by simp [cs, hy])
        exact (World.cell?_of_block (hI.out.2.block _ (World.block_lt_of_cell? w3 _ h1) (fun h => h))).trans h1
      have HST : Hid (ys.take (k + 1) = ys.take k ++ [y]) := by
        show _ = _
        rw [List.take_add_one, hy]
        rfl
      have hrow := hI.out.1
      have HK := hide hI.out.2
      have hsz := HK.out.size
      clear hI hy hkM
      go_wp2_with (first
        | (at_builtin; refine wpList_append_own _ rfl _ _ 25 rfl w3.heap.size 5 i5 (.int .u8 0) 1 1 Try.underlying25 hi5 hz50 hz51 hz52 rfl (by decide) _ _ _ rfl (hrow.alloc _) ⟨wr.heap.size, 0, none⟩ 1 1 [.int .u8 y] rfl rfl (cell_one_new _ _ _) (by simp [Value.oneCell']) (by unfold maxLen; omega) (by omega) (by simp; omega) ?_; intro v' w4 hown' hg3 hnil3; obtain ⟨ad3, cp3, ev3⟩ := own_slice hown'; have HO := hide hown'; have HG3 := hide hg3; subst ev3; clear hown' hg3 hnil3)
        | go_in)
      have HF2 : Hid (w4.ownsRow w3.heap.size 5 1 (.slice ad3 (k + 1) cp3) (k + 1) (cs (ys.take (k + 1))) ∧ Kp Nu w3 w4) := by
        refine ⟨?_, ?_⟩
        · have h1 := HO.out
          rw [HST.out]
          simpa [cs] using h1
        · exact (HK.out.andAlloc _).trans (Kp.of_grown HG3.out) (fun i hi e => by
            have := (hrow.lt i e.symm).1
            omega)
      go_wp2
      exact ⟨⟨k + 1, ad3, cp3, by omega, by go_num, rfl, HF2⟩, by simp [intOf]; omega⟩
    · have hge : ¬ (k : Int) < (n : Int) := by omega
      obtain rfl : k = n := by omega
      have eT : ys.take k = ys := by rw [← HY.out]; simp
      have h1 := hI.out.1
      rw [eT] at h1
      have HOW := hide h1
      have HK := hide hI.out.2
      have hR := HX.out.nu HK.out
      have c2 := hR.c2
      obtain ⟨adv, capv, hvl⟩ := own_slice hR.own
      obtain ⟨LH, hLH⟩ : ∃ LH, H.length = LH := ⟨_, rfl⟩
      have HLH := hide hLH
      rw [hLH] at hvl
      have hrow := hR.own
      rw [hLH, hvl] at hrow
      have HV := hide hvl
      rw [hvl] at c2
      have HR := hide hR
      have HHB : Hid (LH + 1 ≤ 1599289640401) := by show _ ≤ _; have := HHH.out; have := HLH.out; omega
      have HB3 : Hid (B ≤ w3.heap.size) := by show _ ≤ _; have := HX.out.hb; have := HX.out.lt; omega
      have HBs : Hid (B ≤ wr.heap.size) := by show _ ≤ _; have := hR.hb; have := hR.lt; omega
      clear hI h1 eT hR hLH hvl
      go_wp2_with (first
        | (at_builtin; refine wpList_append_own_at _ rfl _ _ 112 rfl B 120 i12 (.agg #[.int .i64 0, .int .i64 0, .slice none 0 0, .bool false]) 4 48 Try.underlying112 hi12 hz120 hz121 hz122 rfl (by decide) _ _ _ rfl (hrow.alloc _) ⟨wr.heap.size, 0, none⟩ 1 1 [.int .i64 f, .int .i64 t, .slice adl k cpl, .bool false] rfl rfl (cell_four_new _ _ _ _ _ _) (by simp [Value.oneCell']) (by have := HHB.out; unfold maxLen; omega) (by have := HHB.out; omega) (by have := HBs.out; simp; omega) ?_; intro v' w4 hown' hg3 hnil3 hlie3; have HO := hide hown'; have HG3 := hide hg3; have HL3 := hide hlie3; obtain ⟨ad3, cp3, ev3⟩ := own_slice hown'; have HP : Hid _ := Rn.push (o := .cells #[.int .i64 f, .int .i64 t, .slice adl k cpl, .bool false] 120) (ys := ys) HR.out HFT.out.1.1 HFT.out.1.2 HFT.out.2.1 HFT.out.2.2 (by rw [HY.out]; omega) (by rw [HY.out]; omega) (by rw [HY.out]; exact own_base HOW.out HB3.out) (by rw [HV.out]; exact HG3.out) (by rw [HV.out]; exact HL3.out) (by rw [HLH.out]; exact HO.out); have cc2 := HP.out.1; have ff2 := HP.out.2.1; rw [HV.out] at cc2; subst ev3; clear hown' hg3 hnil3 hlie3)
        | go_in)
      go_ret
      exact ⟨rfl, _, ⟨_, HP.out.2.2.1⟩, (HF.out.trans (Fq.of_nu HK.out)).trans HP.out.2.2.2⟩
end
end Go.Proofs.Ythajboipnjjgfaa.Ly
