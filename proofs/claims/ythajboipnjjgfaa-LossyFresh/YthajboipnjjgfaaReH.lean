import Derived.Test.YthajboipnjjgfaaReG
namespace Go.Proofs.Ythajboipnjjgfaa.Ly
open Go.RowKit Go.Maps
set_option linter.unusedVariables false

/-- what a sweep takes, by its place in the history -/
def swH (n m : Int) (H : List Hg) (j : Nat) : Bool := match H[j]? with
  | some h => stF n h.f && stF m h.t
  | none => false
theorem Mk.next {P : Nat → Bool} {H Hc : List Hg} {k : Nat} (h : Mk (fun j => decide (j < k) && P j) H Hc) {g : Hg} (hg : H[k]? = some g) :
    Hc[k]? = some g ∧ (g.gone = true ∨ P k = false → Mk (fun j => decide (j < k + 1) && P j) H Hc) ∧ (P k = true → Mk (fun j => decide (j < k + 1) && P j) H (goneAt Hc k)) := by
  refine ⟨?_, fun hs => ?_, fun hp => ?_⟩
  · rw [h.at' k g hg]
    simp
  · refine h.congr (fun j y hy hgo => ?_)
    by_cases e : j = k
    · subst e
      rw [hg] at hy
      obtain rfl : g = y := by simpa using hy
      rcases hs with hs | hs
      · rw [hs] at hgo; cases hgo
      · simp [hs]
    · have : decide (j < k + 1) = decide (j < k) := by simp; omega
      rw [this]
  · refine (h.one k).congr (fun j y hy hgo => ?_)
    by_cases e : j = k
    · subst e
      simp [hp]
    · have : decide (j < k + 1) = decide (j < k) := by simp; omega
      simp [this, e]

section
variable {B p : Nat} {w w' : World} {there : Bool} {room : Int} {bs : Nat → Bool} {v : Value} {c : Ct} {H : List Hg}

set_option maxRecDepth 100000 in
set_option maxHeartbeats 1000000 in
theorem refSweep_any (h : Rn B w p there room bs v c H) (hH : (H.length : Int) ≤ 1599289640400) (n m : Int) (hx0 : 0 ≤ c.x) (hx1 : c.x < 4611686018427387000) :
    Calls Try.prog 75 #[.pointer (some ⟨p, 0, none⟩), .int .i64 n, .int .i64 m] w fun e w' => ∃ (q : Nat) (H' : List Hg), e = .returned (.int .i64 (q : Int)) ∧ q + (liv H').length = (liv H).length ∧ Mk (swH n m H) H H' ∧ Rn B w' p there room bs v { c with x := c.x + (q : Int) } H' ∧ Fq p v w w' v := by
  have ME := meets_any
  obtain ⟨ad, cap, hvl⟩ := own_slice h.own
  obtain ⟨N, hN⟩ : ∃ N, H.length = N := ⟨_, rfl⟩
  have HH := hide h
  have HN := hide hN
  rw [hN] at hvl hH
  have HV := hide hvl
  have HX := hide (And.intro hx0 hx1)
  clear h hN hvl hx0 hx1
  go_enter Try.func75, Try.ntmps75
  go_wp2_with fail
  go_loopw [7, 8] (fun l i wr => ∃ (k q : Nat) (Hc : List Hg), k ≤ N ∧ q ≤ k ∧ i = .int .i64 (k : Int) ∧ l = .int .i64 (q : Int) ∧ Hid (Rn B wr p there room bs v c Hc ∧ Mk (fun j => decide (j < k) && swH n m H j) H Hc ∧ q + (liv Hc).length = (liv H).length ∧ Fq p v w wr v)) (fun _ i _ => N - (intOf i).toNat)
  case atStart => exact ⟨0, 0, H, by omega, by omega, rfl, rfl, ⟨HH.out, (Mk.refl H).congr (fun j y hy hg => by simp), by omega, Fq.refl _ _ _⟩⟩
  case round =>
    obtain ⟨k, q, Hc, hk, hqk, rfl, rfl, hI⟩ := hrel
    have hR := hI.out.1
    have c2 := hR.c2
    rw [HV.out] at c2
    have hkN : (k : Int) ≤ 1599289640400 := by omega
    have hq0 : (0 : Int) ≤ (q : Int) := by omega
    have hqN : (q : Int) ≤ 1599289640400 := by omega
    by_cases hlt : k < N
    · have hkM : k < H.length := by rw [HN.out]; exact hlt
      obtain ⟨g, hg⟩ : ∃ g, H[k]? = some g := ⟨_, List.getElem?_eq_getElem hkM⟩
      have hltI : (k : Int) < (N : Int) := by omega
      have hk0 : (0 : Int) ≤ (k : Int) := by omega
      obtain ⟨hgc, hsk, hmk⟩ := hI.out.2.1.next hg
      have hlc : Hc.length = N := by rw [hI.out.2.1.len]; exact HN.out
      obtain ⟨r, cap', hv, x0, x1, x2, x3⟩ := hrow_at hR.own hgc
      have HV2 := hide hv
      rw [HV.out, hlc] at hv
      simp only [Value.slice.injEq] at hv
      obtain ⟨hv1, hv2, hv3⟩ := hv
      clear hv2
      subst hv1 hv3
      have hsw : swH n m H k = (stF n g.f && stF m g.t) := by simp [swH, hg]
      cases hgo : g.gone
      · rw [hgo] at x3
        cases h1 : stF n g.f
        · have HF : Hid (Rn B wr p there room bs v c Hc ∧ Mk (fun j => decide (j < k + 1) && swH n m H j) H Hc ∧ q + (liv Hc).length = (liv H).length ∧ Fq p v w wr v) := ⟨hR, hsk (.inr (by rw [hsw, h1]; rfl)), hI.out.2.2⟩
          have M1 := ME n g.f wr
          rw [h1] at M1
          clear hR hg hI hgo x2 hgc hsk hmk hsw hlc
          go_wp2_with fail
          refine M1.mono ?_; rintro e w2 ⟨rfl, hw2⟩
          obtain rfl := hw2.symm
          clear hw2 M1
          go_wp2
          exact ⟨⟨k + 1, q, Hc, by omega, by omega, by go_num, rfl, HF⟩, by simp [intOf]; omega⟩
        · cases h2 : stF m g.t
          · have HF : Hid (Rn B wr p there room bs v c Hc ∧ Mk (fun j => decide (j < k + 1) && swH n m H j) H Hc ∧ q + (liv Hc).length = (liv H).length ∧ Fq p v w wr v) := ⟨hR, hsk (.inr (by rw [hsw, h1, h2]; rfl)), hI.out.2.2⟩
            have M1 := ME n g.f wr
            have M2 := ME m g.t wr
            rw [h1] at M1
            rw [h2] at M2
            clear hR hg hI hgo x2 hgc hsk hmk hsw hlc
            go_wp2_with fail
            refine M1.mono ?_; rintro e w2 ⟨rfl, hw2⟩
            obtain rfl := hw2.symm
            clear hw2 M1
            go_wp2_with fail
            refine M2.mono ?_; rintro e w2 ⟨rfl, hw2⟩
            obtain rfl := hw2.symm
            clear hw2 M2
            go_wp2
            exact ⟨⟨k + 1, q, Hc, by omega, by omega, by go_num, rfl, HF⟩, by simp [intOf]; omega⟩
          · obtain ⟨R1, k1, fr⟩ := hR.mark (j := k) (by rw [hlc]; exact hlt) HV2.out
            have HF : Hid (Rn B (wr.setCell ⟨r, k * 4 + 3, none⟩ (.bool true)) p there room bs v c (goneAt Hc k) ∧ Mk (fun j => decide (j < k + 1) && swH n m H j) H (goneAt Hc k) ∧ (q + 1) + (liv (goneAt Hc k)).length = (liv H).length ∧ Fq p v w (wr.setCell ⟨r, k * 4 + 3, none⟩ (.bool true)) v) := by
              refine ⟨R1, hmk (by rw [hsw, h1, h2]; rfl), ?_, hI.out.2.2.2.trans (Fq.of_kp k1)⟩
              have := liv_gone hgc hgo
              have := hI.out.2.2.1
              omega
            have M1 := ME n g.f wr
            have M2 := ME m g.t wr
            rw [h1] at M1
            rw [h2] at M2
            clear hR hg hI hgo x2 hgc hsk hmk hsw hlc R1 k1
            go_wp2_with fail
            refine M1.mono ?_; rintro e w2 ⟨rfl, hw2⟩
            obtain rfl := hw2.symm
            clear hw2 M1
            go_wp2_with fail
            refine M2.mono ?_; rintro e w2 ⟨rfl, hw2⟩
            obtain rfl := hw2.symm
            clear hw2 M2
            go_wp2
            exact ⟨⟨k + 1, q + 1, _, by omega, by omega, by go_num, by go_num, HF⟩, by simp [intOf]; omega⟩
      · rw [hgo] at x3
        have HF : Hid (Rn B wr p there room bs v c Hc ∧ Mk (fun j => decide (j < k + 1) && swH n m H j) H Hc ∧ q + (liv Hc).length = (liv H).length ∧ Fq p v w wr v) := ⟨hR, hsk (.inl hgo), hI.out.2.2⟩
        clear hR hg hI hgo x0 x1 x2 hgc hsk hmk hsw hlc
        go_wp2
        exact ⟨⟨k + 1, q, Hc, by omega, by omega, by go_num, rfl, HF⟩, by simp [intOf]; omega⟩
    · have hge : ¬ (k : Int) < (N : Int) := by omega
      have e4 : wr.cell? ⟨p, 65543, none⟩ = some (.int .i64 c.x) := hR.cc (j := 4) rfl
      have f4 := hR.free 65543
      have hx0 := HX.out.1
      have hx1 := HX.out.2
      have HF : Hid (∃ H', q + (liv H').length = (liv H).length ∧ Mk (swH n m H) H H' ∧ Rn B (wr.setCell ⟨p, 65543, none⟩ (.int .i64 (c.x + (q : Int)))) p there room bs v { c with x := c.x + (q : Int) } H' ∧ Fq p v w (wr.setCell ⟨p, 65543, none⟩ (.int .i64 (c.x + (q : Int)))) v) := by
        refine ⟨Hc, hI.out.2.2.1, hI.out.2.1.congr (fun j y hy hgo => ?_), hR.set 65543 _ (fun cur hc => hc.setC (j := 4) (by omega) rfl), hI.out.2.2.2.set _ _⟩
        have : j < k := by
          have h1 := (List.getElem?_eq_some_iff.1 hy).1
          have := HN.out
          omega
        simp [this]
      clear hI hR
      go_wp2
      go_ret
      obtain ⟨H', a1, a2, a3, a4⟩ := HF.out
      exact ⟨q, rfl, H', a1, a2, a3, a4⟩

set_option maxRecDepth 100000 in
set_option maxHeartbeats 1000000 in
theorem refList_any (h : Rn B w p there room bs v c H) (hH : (H.length : Int) ≤ 1599289640400) :
    Calls Try.prog 89 #[.pointer (some ⟨p, 0, none⟩)] w fun e w' => ∃ u, e = .returned u ∧ w'.ownsRow w.heap.size 120 4 u (liv H).length (hcells (liv H)) ∧ Kp Nu w w' := by
  obtain ⟨i0, hi, hz0, hz1, hz2⟩ := info_parts info120
  have PL := places_any h hH
  obtain ⟨ad, cap, hvl⟩ := own_slice h.own
  have HH := hide h
  have HV := hide hvl
  have HM := hide hH
  obtain ⟨N, hN⟩ : ∃ N, (pls 0 H).length = N := ⟨_, rfl⟩
  have HN := hide hN
  have hNb : (N : Int) ≤ 1599289640400 := by
    have h1 : (liv H).length ≤ H.length := List.length_filter_le _ _
    rw [← pls_length H 0] at h1
    omega
  rw [hN] at PL
  clear h hvl hH hN
  go_enter Try.func89, Try.ntmps89
  go_wp2_with fail
  refine PL.mono ?_; rintro e w2 ⟨u, rfl, ho, hk2⟩
  obtain ⟨adu, capu, hu⟩ := own_slice ho
  subst hu
  have HO2 := hide ho
  have HK2 := hide hk2
  clear PL ho hk2
  go_wp2_with fail
  go_loopw [3, 9] (fun l i wr => ∃ (k : Nat) (adl : Option Addr) (cpl : Nat), k ≤ N ∧ i = .int .i64 (k : Int) ∧ l = .slice adl k cpl ∧ Hid (wr.ownsRow w2.heap.size 120 4 (.slice adl k cpl) k (hcells ((liv H).take k)) ∧ Kp Nu w2 wr)) (fun _ i _ => N - (intOf i).toNat)
  case atStart => exact ⟨0, none, 0, by omega, rfl, rfl, ⟨⟨by simp [hcells], .inl ⟨rfl, rfl⟩⟩, Kp.refl _ _⟩⟩
  case round =>
    obtain ⟨k, adl, cpl, hk, rfl, rfl, hI⟩ := hrel
    by_cases hlt : k < N
    · have hkM : k < (pls 0 H).length := by rw [HN.out]; exact hlt
      obtain ⟨j, hj⟩ : ∃ j, (pls 0 H)[k]? = some j := ⟨_, List.getElem?_eq_getElem hkM⟩
      have hltI : (k : Int) < (N : Int) := by omega
      have hk0 : (0 : Int) ≤ (k : Int) := by omega
      have hkN : (k : Int) ≤ 1599289640400 := by omega
      obtain ⟨_, hl1, g, hg, hgo⟩ := pls_at H 0 k j hj
      rw [Nat.sub_zero] at hl1 hg
      rw [hg] at hl1
      have hR := (HH.out.nu HK2.out).nu hI.out.2
      have c2 := hR.c2
      obtain ⟨r, cap', hv, x0, x1, x2, x3⟩ := hrow_at hR.own hg
      rw [hv] at c2
      obtain ⟨r2, cap2, hv2, y0⟩ := int_at (own_keep HO2.out (fun g hg' => hI.out.2.block g (own_lt HO2.out hg') (fun h => h))) hj
      simp only [Value.slice.injEq] at hv2
      obtain ⟨hv1, hv2, hv3⟩ := hv2
      clear hv2 hv3
      subst hv1
      obtain ⟨kd, capd, hgd⟩ := (hR.dat g (List.mem_of_getElem? hg)).slice
      have hgd' : g.d = .slice (some ⟨kd, 0, none⟩) g.ys.length capd := hgd
      have HC : Hid (g.cells = [.int .i64 g.f, .int .i64 g.t, .slice (some ⟨kd, 0, none⟩) g.ys.length capd, .bool g.gone]) := by
        show _ = _
        rw [← hgd']; rfl
      rw [hgd'] at x2
      have hjl : (j : Int) < (H.length : Int) := by have := (List.getElem?_eq_some_iff.1 hg).1; omega
      have hj0 : (0 : Int) ≤ (j : Int) := by omega
      have HST : Hid ((liv H).take (k + 1) = (liv H).take k ++ [g]) := by
        show _ = _
        rw [List.take_add_one, ← hl1]
        rfl
      have hrow := hI.out.1
      have HK := hide hI.out.2
      have hsz := HK.out.size
      generalize H.length = LH at *
      generalize g.ys.length = LY at *
      clear hI hR hl1 hg hgo hv hgd hgd' hj hkM
      go_wp2_with (first
        | (at_builtin; refine wpList_append_own _ rfl _ _ 112 rfl w2.heap.size 120 i0 (.agg #[.int .i64 0, .int .i64 0, .slice none 0 0, .bool false]) 4 48 Try.underlying112 hi hz0 hz1 hz2 rfl (by decide) _ _ _ rfl (hrow.alloc _) ⟨wr.heap.size, 0, none⟩ 1 1 [.int .i64 g.f, .int .i64 g.t, .slice (some ⟨kd, 0, none⟩) LY capd, .bool g.gone] rfl rfl (cell_four_new _ _ _ _ _ _) (by simp [Value.oneCell']) (by unfold maxLen; omega) (by omega) (by simp; omega) ?_; intro v' w3 hown' hg3 hnil3; obtain ⟨ad3, cp3, ev3⟩ := own_slice hown'; have HO := hide hown'; have HG3 := hide hg3; subst ev3; clear hown' hg3 hnil3)
        | go_in)
      have HF : Hid (w3.ownsRow w2.heap.size 120 4 (.slice ad3 (k + 1) cp3) (k + 1) (hcells ((liv H).take (k + 1))) ∧ Kp Nu w2 w3) := by
        refine ⟨?_, ?_⟩
        · have h1 := HO.out
          rw [← HC.out] at h1
          rw [HST.out, hcells_append]
          simpa [hcells] using h1
        · exact (HK.out.andAlloc _).trans (Kp.of_grown HG3.out) (fun i hi e => by
            have := (hrow.lt i e.symm).1
            omega)
      go_wp2
      exact ⟨⟨k + 1, ad3, cp3, by omega, by go_num, rfl, HF⟩, by simp [intOf]; omega⟩
    · have hge : ¬ (k : Int) < (N : Int) := by omega
      obtain rfl : k = N := by omega
      have HF : Hid (wr.ownsRow w.heap.size 120 4 (.slice adl k cpl) (liv H).length (hcells (liv H)) ∧ Kp Nu w wr) := by
        have h1 := hI.out.1
        have e0 : (liv H).length = k := by rw [← pls_length H 0]; exact HN.out
        rw [show (liv H).take k = liv H by rw [← e0]; simp] at h1
        rw [e0]
        exact ⟨own_base h1 HK2.out.size, HK2.out.andNu hI.out.2⟩
      clear hI
      go_wp2
      go_ret
      exact ⟨_, rfl, HF.out⟩
end
end Go.Proofs.Ythajboipnjjgfaa.Ly
