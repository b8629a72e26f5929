import Derived.Test.YtbhdhoeaogbfbaaGnJ
namespace Go.Proofs.Ytbhdhoeaogbfbaa.Xo
open Go.RowKit
set_option linter.unusedVariables false
/-- the early frames of a state may be; last: how far above dl the one before was -/
def okE (dl wn : Int) : Int → List Fm → Bool
  | _, [] => true
  | last, f :: r => (decide (f.seq > dl) && (decide (f.seq - dl > last) && (decide (f.seq - dl ≤ wn) && !unf f.ys))) && okE dl wn (f.seq - dl) r
theorem okE_len {dl wn : Int} : ∀ (es : List Fm) (last : Int), okE dl wn last es = true → es = [] ∨ last + es.length ≤ wn
  | [], _, _ => .inl rfl
  | f :: r, last, h => by
    simp only [okE, Bool.and_eq_true, decide_eq_true_eq] at h
    obtain ⟨⟨h1, h2, h3, h4⟩, h5⟩ := h
    rcases okE_len r _ h5 with rfl | h6
    · right; simp; omega
    · right; simp only [List.length_cons]; omega
theorem okE_pay {dl wn : Int} : ∀ (es : List Fm) (last : Int), okE dl wn last es = true → ∀ x ∈ es, unf x.ys = false
  | [], _, _, x, hx => by simp at hx
  | f :: r, last, h, x, hx => by
    simp only [okE, Bool.and_eq_true] at h
    obtain ⟨⟨h1, h2, h3, h4⟩, h5⟩ := h
    rcases List.mem_cons.1 hx with rfl | hx
    · simpa using h4
    · exact okE_pay r _ h5 x hx
set_option maxRecDepth 100000 in
set_option maxHeartbeats 4000000 in
theorem loadIn_scan {w : World} {pb : Nat} {ps : List Pr} (h : Row w pb 123 ps) (k : Nat) (p : Pr) (hk : ps[k]? = some p) (s a m dl wn : Int) (q : Value) (re off ce n : Nat) (es : List Fm) (hn : es.length = n) (hn0 : 0 < n) (hnb : n ≤ 140737488351232) (he : Rfl w re off es) (hre : re ≠ pb) (hpv : ∀ x ∈ es, ∀ aa nn cc, x.v = .slice (some aa) nn cc → aa.block ≠ pb) (hdl0 : 0 ≤ dl) (hdl1 : dl ≤ 18446744073709551615) (hsq : ∀ x ∈ es, 0 ≤ x.seq ∧ x.seq ≤ 18446744073709551615) (hw1 : 1 ≤ wn) (hw2 : wn ≤ 16) (hqq : ∃ aq nq cq, q = .slice aq nq cq) (hno : okE dl wn 1 es = false) :
    Calls Try.prog 64 #[.pointer (some ⟨pb, k * 6 + 4, none⟩), .agg #[.int .u64 s, .int .u64 a, q, .int .u64 m, .int .u64 dl, .slice (some ⟨re, off, none⟩) n ce], .int .i64 wn] w fun e w' => e = .returned (.bool false) ∧ Kp (fun i => i = pb) w w' := by
  obtain ⟨aq, nq, cq, rfl⟩ := hqq
  have hne : w.heap.size ≠ pb := by have := blk_lt h; omega
  have hb : Row (w.alloc (.cells #[.int .u64 s, .int .u64 a, .slice aq nq cq, .int .u64 m, .int .u64 dl, .slice (some ⟨re, off, none⟩) n ce] 66)) pb 123 ps := h.keep (Below.heap_alloc _ _ _ (blk_lt h))
  have z4 := (hb.at hk).2.2.2.2.1
  have f4 := hb.free (k * 6 + 4)
  have hr := hb.set hk 4 (by omega) (.int .u64 dl) ⟨p.sent, p.acked, p.q, p.qs, p.mask, dl, p.e⟩ rfl
  have hbx := heap_alloc_new w (.cells #[.int .u64 s, .int .u64 a, .slice aq nq cq, .int .u64 m, .int .u64 dl, .slice (some ⟨re, off, none⟩) n ce] 66)
  have KB : Kp (fun i => i = pb) w ((w.alloc (.cells #[.int .u64 s, .int .u64 a, .slice aq nq cq, .int .u64 m, .int .u64 dl, .slice (some ⟨re, off, none⟩) n ce] 66)).setCell ⟨pb, k * 6 + 4, none⟩ (.int .u64 dl)) := ((Kp.refl _ w).andAlloc _).put
  have hbx1 : ((w.alloc (.cells #[.int .u64 s, .int .u64 a, .slice aq nq cq, .int .u64 m, .int .u64 dl, .slice (some ⟨re, off, none⟩) n ce] 66)).setCell ⟨pb, k * 6 + 4, none⟩ (.int .u64 dl)).heap[w.heap.size]? = some (.cells #[.int .u64 s, .int .u64 a, .slice aq nq cq, .int .u64 m, .int .u64 dl, .slice (some ⟨re, off, none⟩) n ce] 66 (0, 0)) := (Below.heap_setCell _ _ _ _ hne).trans hbx
  have x5 := (cell6 hbx1).2.2.2.2.2
  generalize hW1 : (w.alloc (.cells #[.int .u64 s, .int .u64 a, .slice aq nq cq, .int .u64 m, .int .u64 dl, .slice (some ⟨re, off, none⟩) n ce] 66)).setCell ⟨pb, k * 6 + 4, none⟩ (.int .u64 dl) = W1 at *
  have HB := hide (And.intro hb (And.intro hr (And.intro hbx1 KB)))
  have HE := hide (And.intro he (And.intro hre (And.intro hpv hsq)))
  have HN := hide (And.intro hn (And.intro hn0 hnb))
  have HD := hide (And.intro hdl0 (And.intro hdl1 (And.intro hw1 hw2)))
  have HO := hide hno
  clear h hb hr hbx hbx1 KB he hre hpv hsq hn hn0 hnb hdl0 hdl1 hw1 hw2 hno
  go_enter Try.func64, Try.ntmps64
  go_wp2
  go_loopw [7, 18] (fun la i wr => ∃ (j : Nat) (L : Int), j ≤ n ∧ i = .int .i64 (j : Int) ∧ la = .int .u64 L ∧ Hid (Kp Nu W1 wr ∧ 0 ≤ L ∧ L ≤ 16 ∧ okE dl wn L (es.drop j) = false)) (fun _ i _ => n - (intOf i).toNat)
  case atStart => exact ⟨0, 1, by omega, rfl, rfl, Kp.refl _ _, by omega, by omega, by simpa using HO.out⟩
  case round =>
    obtain ⟨j, L, hjn, rfl, rfl, HI⟩ := hrel
    have hlt : j < n := by
      rcases Nat.lt_or_ge j n with h | h
      · exact h
      · exfalso
        have := HI.out.2.2.2
        rw [List.drop_eq_nil_of_le (by rw [HN.out.1]; exact h)] at this
        simp [okE] at this
    have hjv : j < es.length := by rw [HN.out.1]; exact hlt
    obtain ⟨x, hx⟩ : ∃ x, es[j]? = some x := ⟨es[j], List.getElem?_eq_getElem hjv⟩
    have hxm := List.mem_of_getElem? hx
    obtain ⟨hkI, hL0, hL1, hoI⟩ := HI.out
    obtain ⟨hb, hr, hbx1, KB⟩ := HB.out
    obtain ⟨he, hre, hpv, hsq⟩ := HE.out
    obtain ⟨hdl0, hdl1, hw1, hw2⟩ := HD.out
    have hdrop : es.drop j = x :: es.drop (j + 1) := by rw [List.drop_eq_getElem_cons hjv]; rw [List.getElem?_eq_getElem hjv] at hx; cases hx; rfl
    rw [hdrop] at hoI
    obtain ⟨hsq0, hsq1⟩ := hsq x hxm
    obtain ⟨h1w, h2w, hrd⟩ := he j x hx
    have kw1 : Kp (fun i => i = pb) w wr := KB.andNu hkI
    have c1 : wr.cell? ⟨re, off + j * 2, none⟩ = some (.int .u64 x.seq) := (World.cell?_of_block (kw1.block _ (World.block_lt_of_cell? w _ h1w) (fun e => hre e))).trans h1w
    have c2 : wr.cell? ⟨re, off + j * 2 + 1, none⟩ = some x.v := (World.cell?_of_block (kw1.block _ (World.block_lt_of_cell? w _ h2w) (fun e => hre e))).trans h2w
    obtain ⟨ax, cx, ex⟩ := hrd.slice
    rw [ex] at c2
    have UF := fun W => unfit_gen ax cx x.ys W
    generalize hnx : x.ys.length = nx at *
    have hbf := heap_alloc_new wr (.cells #[.int .u64 x.seq, .slice ax nx cx] 133)
    have hpb := (hkI.block _ (blk_lt hbx1) (fun h => h)).trans hbx1
    have hplt : w.heap.size < wr.heap.size := blk_lt hpb
    have HS : ∀ W, Kp Nu (wr.alloc (.cells #[.int .u64 x.seq, .slice ax nx cx] 133)) W → W.cell? ⟨wr.heap.size, 0, none⟩ = some (.int .u64 x.seq) ∧ W.cell? ⟨wr.heap.size, 1, none⟩ = some (.slice ax nx cx) ∧ W.cell? ⟨w.heap.size, 4, none⟩ = some (.int .u64 dl) := fun W kW => by
      have hb1 := (kW.block _ (blk_lt hbf) (fun h => h)).trans hbf
      have hb2 := (kW.block _ (by simp; omega) (fun h => h)).trans ((Below.heap_alloc wr _ _ hplt).trans hpb)
      exact ⟨cellAt hb1 0 rfl, cellAt hb1 1 rfl, cellAt hb2 4 rfl⟩
    have hrr : Row wr pb 123 (ps.set k ⟨p.sent, p.acked, p.q, p.qs, p.mask, dl, p.e⟩) := hr.keep (hkI.block _ (blk_lt hr) (fun h => h))
    have hwn : IntKind.u64.wrap wn = wn := by rw [IntKind.wrap_u64]; omega
    have FA : ∀ W, Kp Nu (wr.alloc (.cells #[.int .u64 x.seq, .slice ax nx cx] 133)) W → Calls Try.prog 88 #[.pointer (some ⟨pb, k * 6 + 4, none⟩), .int .u64 x.seq, .int .i64 wn] W fun e w' => e = .returned (.bool (decide (x.seq > dl) && decide (x.seq - dl > wn))) ∧ Kp Nu (wr.alloc (.cells #[.int .u64 x.seq, .slice ax nx cx] 133)) w' := fun W kW => by
      have hc := ((hrr.keep ((((Kp.refl Nu wr).andAlloc _).andNu kW).block _ (blk_lt hrr) (fun h => h))).at (set_self hk _)).2.2.2.2.1
      exact (far_any W pb (k * 6 + 4) dl x.seq wn hc hwn (x.seq - dl) (fun hgt => by rw [IntKind.wrap_u64]; omega)).mono (by rintro e w' ⟨rfl, hk'⟩; exact ⟨rfl, kW.andNu hk'⟩)
    have HKK : ∀ W, Kp Nu (wr.alloc (.cells #[.int .u64 x.seq, .slice ax nx cx] 133)) W → Kp (fun i => i = pb) w W := fun W kW => (kw1.andAlloc _).andNu kW
    have hltI : (j : Int) < (n : Int) := by omega
    have hj0 : (0 : Int) ≤ (j : Int) := by omega
    have hwk : Hid (wrap64 ((j : Int) + 1) = ((j + 1 : Nat) : Int)) := by have := HN.out.2.2; show wrap64 _ = _; unfold wrap64; omega
    generalize hU : unf x.ys = U at *
    obtain ⟨y0, y1, y4⟩ := HS _ (Kp.refl _ _)
    have eD : x.seq > dl → IntKind.u64.wrap (x.seq - dl) = x.seq - dl := fun hgt => by rw [IntKind.wrap_u64]; omega
    have hok := hoI
    simp only [okE] at hok
    have HLL := hide (And.intro hL0 (And.intro hL1 (And.intro hw2 hkI)))
    clear hsq0 hsq1 h1w h2w hrd ex hbf hpb hplt hrr hwn hb hr hbx1 KB he hre hpv hsq hdl0 hdl1 hw1 hw2 hL0 hL1 hkI hdrop hxm kw1 hnx hjv
    have HU := hide hU
    clear hU
    by_cases d1 : x.seq ≤ dl
    · clear eD FA UF hok hoI
      go_wp2
      go_ret
      exact ⟨rfl, HKK _ (Kp.refl _ _)⟩
    have d1' : x.seq > dl := by omega
    have eD2 := eD d1'
    clear eD
    have b1 : decide (x.seq > dl) = true := by simp; omega
    rw [b1] at FA hok
    simp only [Bool.true_and] at FA hok
    by_cases d2 : x.seq - dl ≤ L
    · clear FA UF hok hoI b1 d1'
      go_wp2
      go_ret
      exact ⟨rfl, HKK _ (Kp.refl _ _)⟩
    by_cases d3 : x.seq - dl > wn
    · have b3 : decide (x.seq - dl > wn) = true := by simp; omega
      rw [b3] at FA
      clear UF hok hoI b1 d1' b3
      go_wp2_with (first | (go_at_call 88; refine (FA _ (Kp.refl _ _)).mono ?_; rintro e w3 ⟨rfl, hk3⟩; obtain ⟨v0, v1, v4⟩ := HS w3 hk3) | (go_at_call 54; refine (UF _).mono ?_; rintro e w4 ⟨rfl, hw4⟩; obtain rfl := hw4.symm))
      go_ret
      exact ⟨rfl, HKK _ hk3⟩
    have b3 : decide (x.seq - dl > wn) = false := by simp; omega
    rw [b3] at FA
    cases U with
    | true =>
      clear hok hoI b1 d1' b3
      go_wp2_with (first | (go_at_call 88; refine (FA _ (Kp.refl _ _)).mono ?_; rintro e w3 ⟨rfl, hk3⟩; obtain ⟨v0, v1, v4⟩ := HS w3 hk3) | (go_at_call 54; refine (UF _).mono ?_; rintro e w4 ⟨rfl, hw4⟩; obtain rfl := hw4.symm))
      go_ret
      exact ⟨rfl, HKK _ hk3⟩
    | false =>
      have hz : okE dl wn (x.seq - dl) (es.drop (j + 1)) = false := by
        have a1 : decide (x.seq - dl > L) = true := by simp; omega
        have a2 : decide (x.seq - dl ≤ wn) = true := by simp; omega
        rw [a1, a2] at hok
        have hu := HU.out
        simpa [hu] using hok
      have HZ := hide hz
      have HD3 := hide (And.intro d1' d3)
      clear hok hoI b1 d1' b3 hz
      go_wp2_with (first | (go_at_call 88; refine (FA _ (Kp.refl _ _)).mono ?_; rintro e w3 ⟨rfl, hk3⟩; obtain ⟨v0, v1, v4⟩ := HS w3 hk3) | (go_at_call 54; refine (UF _).mono ?_; rintro e w4 ⟨rfl, hw4⟩; obtain rfl := hw4.symm))
      have hkk := (((Kp.refl Nu wr).andAlloc _).andNu hk3)
      obtain ⟨l0, l1, l2, l3⟩ := HLL.out
      obtain ⟨r1, r2⟩ := HD3.out
      exact ⟨⟨j + 1, _, hlt, by rw [hwk.out], rfl, l3.andNu hkk, by omega, by omega, HZ.out⟩, lt_m _ hwk.out hlt⟩
end Go.Proofs.Ytbhdhoeaogbfbaa.Xo
