import Derived.Test.YtbhdhoeaogbfbaaXgK
import Derived.Test.YtbhdhoeaogbfbaaGnL
import Derived.Test.YtbhdhoeaogbfbaaGnO
namespace Go.Proofs.Ytbhdhoeaogbfbaa.Xo
open Go.RowKit
set_option linter.unusedVariables false
set_option maxRecDepth 100000 in
set_option maxHeartbeats 4000000 in
theorem loadIn_scan2 {w : World} {pb : Nat} {ps : List Pr} (h : Row w pb 123 ps) (k : Nat) (p : Pr) (hk : ps[k]? = some p) (s a m dl wn : Int) (q : Value) (re off ce n : Nat) (es : List Fm) (hn : es.length = n) (hn0 : 0 < n) (hnb : n ≤ 140737488351232) (he : Rfl w re off es) (hre : re ≠ pb) (hpv : ∀ x ∈ es, x.ys ≠ [] → ∀ aa nn cc, x.v = .slice (some aa) nn cc → aa.block ≠ pb) (hdl0 : 0 ≤ dl) (hdl1 : dl ≤ 18446744073709551615) (hsq : ∀ x ∈ es, 0 ≤ x.seq ∧ x.seq ≤ 18446744073709551615) (hw1 : 1 ≤ wn) (hw2 : wn ≤ 16) (hqq : ∃ aq nq cq, q = .slice aq nq cq) (hno : okE dl wn 1 es = false) :
    Calls Try.prog 64 #[.pointer (some ⟨pb, k * 6 + 4, none⟩), .agg #[.int .u64 s, .int .u64 a, q, .int .u64 m, .int .u64 dl, .slice (some ⟨re, off, none⟩) n ce], .int .i64 wn] w fun e w' => e = .returned (.bool false) ∧ Kp (fun i => i = pb) w w' := by
  obtain ⟨aq, nq, cq, rfl⟩ := hqq
  have hne : w.heap.size ≠ pb := by have := blk_lt h; omega
  have hb : Row (w.alloc (.cells #[.int .u64 s, .int .u64 a, .slice aq nq cq, .int .u64 m, .int .u64 dl, .slice (some ⟨re, off, none⟩) n ce] 66)) pb 123 ps := h.keep (Below.heap_alloc _ _ _ (blk_lt h))
  have z4 := (hb.at hk).2.2.2.2.1
  have f4 := hb.free (k * 6 + 4)
  have hr := hb.set hk 4 (by omega) (.int .u64 dl) ⟨p.sent, p.acked, p.q, p.qs, p.mask, dl, p.e⟩ rfl
  have hbx := heap_alloc_new w (.cells #[.int .u64 s, .int .u64 a, .slice aq nq cq, .int .u64 m, .int .u64 dl, .slice (some ⟨re, off, none⟩) n ce] 66)
  have KB : Kp (fun i => i = pb) w ((w.alloc (.cells #[.int .u64 s, .int .u64 a, .slice aq nq cq, .int .u64 m, .int .u64 dl, .slice (some ⟨re, off, none⟩) n ce] 66)).setCell ⟨pb, k * 6 + 4, none⟩ (.int .u64 dl)) := ((Kp.refl _ w).andAlloc _).put
  have hbx1 : ((w.alloc (.cells #[.int .u64 s, .int .u64 a, .slice aq nq cq, .int .u64 m, .int .u64 dl, .slice (some ⟨re, off, none⟩) n ce] 66)).setCell ⟨pb, k * 6 + 4, none⟩ (.int .u64 dl)).heap[w.heap.size]? = some (.cells #[.int .u64 s, .int .u64 a, .slice aq nq cq, .int .u64 m, .int .u64 dl, .slice (some ⟨re, off, none⟩) n ce] 66 (0, 0)) := (Below.heap_setCell _ _ _ _ hne).trans hbx
  have x5 := (cell6 hbx1).2.2.2.2.2
  generalize hW1 : (w.alloc (.cells #[.int .u64 s, .int .u64 a, .slice aq nq cq, .int .u64 m, .int .u64 dl, .slice (some ⟨re, off, none⟩) n ce] 66)).setCell ⟨pb, k * 6 + 4, none⟩ (.int .u64 dl) = W1 at *
  have HB := hide (And.intro hb (And.intro hr (And.intro hbx1 KB)))
  have HE := hide (And.intro he (And.intro hre (And.intro hpv hsq)))
  have HN := hide (And.intro hn (And.intro hn0 hnb))
  have HD := hide (And.intro hdl0 (And.intro hdl1 (And.intro hw1 hw2)))
  have HO := hide hno
  clear h hb hr hbx hbx1 KB he hre hpv hsq hn hn0 hnb hdl0 hdl1 hw1 hw2 hno
  go_enter Try.func64, Try.ntmps64
  go_wp2
  go_loopw [7, 18] (fun la i wr => ∃ (j : Nat) (L : Int), j ≤ n ∧ i = .int .i64 (j : Int) ∧ la = .int .u64 L ∧ Hid (Kp Nu W1 wr ∧ 0 ≤ L ∧ L ≤ 16 ∧ okE dl wn L (es.drop j) = false)) (fun _ i _ => n - (intOf i).toNat)
  case atStart => exact ⟨0, 1, by omega, rfl, rfl, Kp.refl _ _, by omega, by omega, by simpa using HO.out⟩
  case round =>
    obtain ⟨j, L, hjn, rfl, rfl, HI⟩ := hrel
    have hlt : j < n := by
      rcases Nat.lt_or_ge j n with h | h
      · exact h
      · exfalso
        have := HI.out.2.2.2
        rw [List.drop_eq_nil_of_le (by rw [HN.out.1]; exact h)] at this
        simp [okE] at this
    have hjv : j < es.length := by rw [HN.out.1]; exact hlt
    obtain ⟨x, hx⟩ : ∃ x, es[j]? = some x := ⟨es[j], List.getElem?_eq_getElem hjv⟩
    have hxm := List.mem_of_getElem? hx
    obtain ⟨hkI, hL0, hL1, hoI⟩ := HI.out
    obtain ⟨hb, hr, hbx1, KB⟩ := HB.out
    obtain ⟨he, hre, hpv, hsq⟩ := HE.out
    obtain ⟨hdl0, hdl1, hw1, hw2⟩ := HD.out
    have hdrop : es.drop j = x :: es.drop (j + 1) := by rw [List.drop_eq_getElem_cons hjv]; rw [List.getElem?_eq_getElem hjv] at hx; cases hx; rfl
    rw [hdrop] at hoI
    obtain ⟨hsq0, hsq1⟩ := hsq x hxm
    obtain ⟨h1w, h2w, hrd⟩ := he j x hx
    have kw1 : Kp (fun i => i = pb) w wr := KB.andNu hkI
    have c1 : wr.cell? ⟨re, off + j * 2, none⟩ = some (.int .u64 x.seq) := (World.cell?_of_block (kw1.block _ (World.block_lt_of_cell? w _ h1w) (fun e => hre e))).trans h1w
    have c2 : wr.cell? ⟨re, off + j * 2 + 1, none⟩ = some x.v := (World.cell?_of_block (kw1.block _ (World.block_lt_of_cell? w _ h2w) (fun e => hre e))).trans h2w
    obtain ⟨ax, cx, ex⟩ := hrd.slice
    rw [ex] at c2
    have UF := fun W => unfit_gen ax cx x.ys W
    generalize hnx : x.ys.length = nx at *
    have hbf := heap_alloc_new wr (.cells #[.int .u64 x.seq, .slice ax nx cx] 133)
    have hpb := (hkI.block _ (blk_lt hbx1) (fun h => h)).trans hbx1
    have hplt : w.heap.size < wr.heap.size := blk_lt hpb
    have HS : ∀ W, Kp Nu (wr.alloc (.cells #[.int .u64 x.seq, .slice ax nx cx] 133)) W → W.cell? ⟨wr.heap.size, 0, none⟩ = some (.int .u64 x.seq) ∧ W.cell? ⟨wr.heap.size, 1, none⟩ = some (.slice ax nx cx) ∧ W.cell? ⟨w.heap.size, 4, none⟩ = some (.int .u64 dl) := fun W kW => by
      have hb1 := (kW.block _ (blk_lt hbf) (fun h => h)).trans hbf
      have hb2 := (kW.block _ (by simp; omega) (fun h => h)).trans ((Below.heap_alloc wr _ _ hplt).trans hpb)
      exact ⟨cellAt hb1 0 rfl, cellAt hb1 1 rfl, cellAt hb2 4 rfl⟩
    have hrr : Row wr pb 123 (ps.set k ⟨p.sent, p.acked, p.q, p.qs, p.mask, dl, p.e⟩) := hr.keep (hkI.block _ (blk_lt hr) (fun h => h))
    have hwn : IntKind.u64.wrap wn = wn := by rw [IntKind.wrap_u64]; omega
    have FA : ∀ W, Kp Nu (wr.alloc (.cells #[.int .u64 x.seq, .slice ax nx cx] 133)) W → Calls Try.prog 88 #[.pointer (some ⟨pb, k * 6 + 4, none⟩), .int .u64 x.seq, .int .i64 wn] W fun e w' => e = .returned (.bool (decide (x.seq > dl) && decide (x.seq - dl > wn))) ∧ Kp Nu (wr.alloc (.cells #[.int .u64 x.seq, .slice ax nx cx] 133)) w' := fun W kW => by
      have hc := ((hrr.keep ((((Kp.refl Nu wr).andAlloc _).andNu kW).block _ (blk_lt hrr) (fun h => h))).at (set_self hk _)).2.2.2.2.1
      exact (far_any W pb (k * 6 + 4) dl x.seq wn hc hwn (x.seq - dl) (fun hgt => by rw [IntKind.wrap_u64]; omega)).mono (by rintro e w' ⟨rfl, hk'⟩; exact ⟨rfl, kW.andNu hk'⟩)
    have HKK : ∀ W, Kp Nu (wr.alloc (.cells #[.int .u64 x.seq, .slice ax nx cx] 133)) W → Kp (fun i => i = pb) w W := fun W kW => (kw1.andAlloc _).andNu kW
    have hltI : (j : Int) < (n : Int) := by omega
    have hj0 : (0 : Int) ≤ (j : Int) := by omega
    have hwk : Hid (wrap64 ((j : Int) + 1) = ((j + 1 : Nat) : Int)) := by have := HN.out.2.2; show wrap64 _ = _; unfold wrap64; omega
    generalize hU : unf x.ys = U at *
    obtain ⟨y0, y1, y4⟩ := HS _ (Kp.refl _ _)
    have eD : x.seq > dl → IntKind.u64.wrap (x.seq - dl) = x.seq - dl := fun hgt => by rw [IntKind.wrap_u64]; omega
    have hok := hoI
    simp only [okE] at hok
    have HLL := hide (And.intro hL0 (And.intro hL1 (And.intro hw2 hkI)))
    clear hsq0 hsq1 h1w h2w hrd ex hbf hpb hplt hrr hwn hb hr hbx1 KB he hre hpv hsq hdl0 hdl1 hw1 hw2 hL0 hL1 hkI hdrop hxm kw1 hnx hjv
    have HU := hide hU
    clear hU
    by_cases d1 : x.seq ≤ dl
    · clear eD FA UF hok hoI
      go_wp2
      go_ret
      exact ⟨rfl, HKK _ (Kp.refl _ _)⟩
    have d1' : x.seq > dl := by omega
    have eD2 := eD d1'
    clear eD
    have b1 : decide (x.seq > dl) = true := by simp; omega
    rw [b1] at FA hok
    simp only [Bool.true_and] at FA hok
    by_cases d2 : x.seq - dl ≤ L
    · clear FA UF hok hoI b1 d1'
      go_wp2
      go_ret
      exact ⟨rfl, HKK _ (Kp.refl _ _)⟩
    by_cases d3 : x.seq - dl > wn
    · have b3 : decide (x.seq - dl > wn) = true := by simp; omega
      rw [b3] at FA
      clear UF hok hoI b1 d1' b3
      go_wp2_with (first | (go_at_call 88; refine (FA _ (Kp.refl _ _)).mono ?_; rintro e w3 ⟨rfl, hk3⟩; obtain ⟨v0, v1, v4⟩ := HS w3 hk3) | (go_at_call 54; refine (UF _).mono ?_; rintro e w4 ⟨rfl, hw4⟩; obtain rfl := hw4.symm))
      go_ret
      exact ⟨rfl, HKK _ hk3⟩
    have b3 : decide (x.seq - dl > wn) = false := by simp; omega
    rw [b3] at FA
    cases U with
    | true =>
      clear hok hoI b1 d1' b3
      go_wp2_with (first | (go_at_call 88; refine (FA _ (Kp.refl _ _)).mono ?_; rintro e w3 ⟨rfl, hk3⟩; obtain ⟨v0, v1, v4⟩ := HS w3 hk3) | (go_at_call 54; refine (UF _).mono ?_; rintro e w4 ⟨rfl, hw4⟩; obtain rfl := hw4.symm))
      go_ret
      exact ⟨rfl, HKK _ hk3⟩
    | false =>
      have hz : okE dl wn (x.seq - dl) (es.drop (j + 1)) = false := by
        have a1 : decide (x.seq - dl > L) = true := by simp; omega
        have a2 : decide (x.seq - dl ≤ wn) = true := by simp; omega
        rw [a1, a2] at hok
        have hu := HU.out
        simpa [hu] using hok
      have HZ := hide hz
      have HD3 := hide (And.intro d1' d3)
      clear hok hoI b1 d1' b3 hz
      go_wp2_with (first | (go_at_call 88; refine (FA _ (Kp.refl _ _)).mono ?_; rintro e w3 ⟨rfl, hk3⟩; obtain ⟨v0, v1, v4⟩ := HS w3 hk3) | (go_at_call 54; refine (UF _).mono ?_; rintro e w4 ⟨rfl, hw4⟩; obtain rfl := hw4.symm))
      have hkk := (((Kp.refl Nu wr).andAlloc _).andNu hk3)
      obtain ⟨l0, l1, l2, l3⟩ := HLL.out
      obtain ⟨r1, r2⟩ := HD3.out
      exact ⟨⟨j + 1, _, hlt, by rw [hwk.out], rfl, l3.andNu hkk, by omega, by omega, HZ.out⟩, lt_m _ hwk.out hlt⟩
theorem Rd.off2 {w W : World} {u : Value} {ys : List Int} {pb : Nat} (h : Rd w u ys) (k : Kp (fun i => i = pb) w W) (hu : ys ≠ [] → ∀ a n c, u = .slice (some a) n c → a.block ≠ pb) : Rd W u ys := by
  rcases h with h | ⟨a, c, e, hc⟩
  · exact .inl h
  · refine .inr ⟨a, c, e, fun j x hj => ?_⟩
    have h1 := hc j x hj
    have hb := hu (fun e0 => by rw [e0] at hj; simp [cs] at hj) a _ c e
    exact (World.cell?_of_block (k.block _ (World.block_lt_of_cell? w _ h1) (fun e => hb (by rw [add_block] at e; exact e)))).trans h1
set_option maxRecDepth 100000 in
set_option maxHeartbeats 4000000 in
theorem loadIn_ok2 {w : World} {pb : Nat} {ps : List Pr} (h : Row w pb 123 ps) (k : Nat) (p : Pr) (hk : ps[k]? = some p) (s a m dl wn : Int) (q : Value) (re off ce n : Nat) (es : List Fm) (hn : es.length = n) (hn0 : 0 < n) (hnb : n ≤ 140737488351232) (he : Rfl w re off es) (hre : re ≠ pb) (hpv : ∀ x ∈ es, x.ys ≠ [] → ∀ aa nn cc, x.v = .slice (some aa) nn cc → aa.block ≠ pb) (hdl0 : 0 ≤ dl) (hdl1 : dl ≤ 18446744073709551615) (hsq : ∀ x ∈ es, 0 ≤ x.seq ∧ x.seq ≤ 18446744073709551615) (hw1 : 1 ≤ wn) (hw2 : wn ≤ 16) (hqq : ∃ aq nq cq, q = .slice aq nq cq) (hno : okE dl wn 1 es = true) :
    Calls Try.prog 64 #[.pointer (some ⟨pb, k * 6 + 4, none⟩), .agg #[.int .u64 s, .int .u64 a, q, .int .u64 m, .int .u64 dl, .slice (some ⟨re, off, none⟩) n ce], .int .i64 wn] w fun e w' => e = .returned (.bool true) ∧ Kp (fun i => i = pb) w w' ∧ ∃ g ds W w2, Kp (fun i => i = pb) w W ∧ Cf W w2 g es ds n ∧ Kp (fun i => i = pb) w2 w' ∧ Row w' pb 123 (ps.set k ⟨p.sent, p.acked, p.q, p.qs, p.mask, dl, .slice (some ⟨g, 0, none⟩) n n⟩) := by
  obtain ⟨aq, nq, cq, rfl⟩ := hqq
  have hne : w.heap.size ≠ pb := by have := blk_lt h; omega
  have hb : Row (w.alloc (.cells #[.int .u64 s, .int .u64 a, .slice aq nq cq, .int .u64 m, .int .u64 dl, .slice (some ⟨re, off, none⟩) n ce] 66)) pb 123 ps := h.keep (Below.heap_alloc _ _ _ (blk_lt h))
  have z4 := (hb.at hk).2.2.2.2.1
  have f4 := hb.free (k * 6 + 4)
  have hr := hb.set hk 4 (by omega) (.int .u64 dl) ⟨p.sent, p.acked, p.q, p.qs, p.mask, dl, p.e⟩ rfl
  have hbx := heap_alloc_new w (.cells #[.int .u64 s, .int .u64 a, .slice aq nq cq, .int .u64 m, .int .u64 dl, .slice (some ⟨re, off, none⟩) n ce] 66)
  have KB : Kp (fun i => i = pb) w ((w.alloc (.cells #[.int .u64 s, .int .u64 a, .slice aq nq cq, .int .u64 m, .int .u64 dl, .slice (some ⟨re, off, none⟩) n ce] 66)).setCell ⟨pb, k * 6 + 4, none⟩ (.int .u64 dl)) := ((Kp.refl _ w).andAlloc _).put
  have hbx1 : ((w.alloc (.cells #[.int .u64 s, .int .u64 a, .slice aq nq cq, .int .u64 m, .int .u64 dl, .slice (some ⟨re, off, none⟩) n ce] 66)).setCell ⟨pb, k * 6 + 4, none⟩ (.int .u64 dl)).heap[w.heap.size]? = some (.cells #[.int .u64 s, .int .u64 a, .slice aq nq cq, .int .u64 m, .int .u64 dl, .slice (some ⟨re, off, none⟩) n ce] 66 (0, 0)) := (Below.heap_setCell _ _ _ _ hne).trans hbx
  have x5 := (cell6 hbx1).2.2.2.2.2
  generalize hW1 : (w.alloc (.cells #[.int .u64 s, .int .u64 a, .slice aq nq cq, .int .u64 m, .int .u64 dl, .slice (some ⟨re, off, none⟩) n ce] 66)).setCell ⟨pb, k * 6 + 4, none⟩ (.int .u64 dl) = W1 at *
  have HB := hide (And.intro hb (And.intro hr (And.intro hbx1 KB)))
  have hn16 : n ≤ 16 := by
    rcases okE_len es 1 hno with h | h
    · rw [h] at hn; simp at hn; omega
    · omega
  have hpay := okE_pay es 1 hno
  have FR : ∀ W, Kp Nu W1 W → Calls Try.prog 80 #[.slice (some ⟨re, off, none⟩) n ce] W fun e w' => ∃ g ds, e = .returned (.slice (some ⟨g, 0, none⟩) n n) ∧ Cf W w' g es ds n := fun W kW => by
    have kw := KB.andNu kW
    refine copiedFrames_any W re off ce es n hn hn16 (fun i x hi => ?_)
    obtain ⟨q1, q2, q3⟩ := he i x hi
    have hxm := List.mem_of_getElem? hi
    have hu := hpay x hxm
    simp [unf] at hu
    exact ⟨(World.cell?_of_block (kw.block _ (World.block_lt_of_cell? w _ q1) (fun e => hre e))).trans q1, (World.cell?_of_block (kw.block _ (World.block_lt_of_cell? w _ q2) (fun e => hre e))).trans q2, q3.off2 kw (hpv x hxm), by omega, by omega⟩
  have CR := fun W (kW : Kp Nu W1 W) => hr.keep (kW.block _ (blk_lt hr) (fun h => h))
  have HCR := hide CR
  clear CR hn16 hpay
  have HE := hide (And.intro he (And.intro hre (And.intro hpv hsq)))
  have HN := hide (And.intro hn (And.intro hn0 hnb))
  have HD := hide (And.intro hdl0 (And.intro hdl1 (And.intro hw1 hw2)))
  have HO := hide hno
  clear h hb hr hbx hbx1 KB he hre hpv hsq hn hn0 hnb hdl0 hdl1 hw1 hw2 hno
  go_enter Try.func64, Try.ntmps64
  go_wp2
  go_loopw [7, 18] (fun la i wr => ∃ (j : Nat) (L : Int), j ≤ n ∧ i = .int .i64 (j : Int) ∧ la = .int .u64 L ∧ Hid (Kp Nu W1 wr ∧ 0 ≤ L ∧ L ≤ 16 ∧ okE dl wn L (es.drop j) = true)) (fun _ i _ => n - (intOf i).toNat)
  case atStart => exact ⟨0, 1, by omega, rfl, rfl, Kp.refl _ _, by omega, by omega, by simpa using HO.out⟩
  case round =>
    obtain ⟨j, L, hjn, rfl, rfl, HI⟩ := hrel
    by_cases hlt : j < n
    case neg =>
      obtain rfl : j = n := by omega
      have hkI := HI.out.1
      have FRw := FR wr hkI
      have y5 : wr.cell? ⟨w.heap.size, 5, none⟩ = some (.slice (some ⟨re, off, none⟩) j ce) := (World.cell?_of_block (hkI.block _ (blk_lt HB.out.2.2.1) (fun h => h))).trans x5
      have HKI := hide hkI
      clear hkI hlt FR
      go_wp2_with (go_at_call 80; refine FRw.mono ?_; rintro e w3 ⟨g, ds, rfl, hcf⟩; have z5 := ((HCR.out w3 (HKI.out.andNu hcf.kp)).at (set_self hk _)).2.2.2.2.2; have f5 := (HCR.out w3 (HKI.out.andNu hcf.kp)).free (k * 6 + 5); have HCF := hide hcf; clear hcf)
      go_ret
      have hcf := HCF.out
      have hR := (HCR.out w3 (HKI.out.andNu hcf.kp)).set (set_self hk _) 5 (by omega) (.slice (some ⟨g, 0, none⟩) j j) ⟨p.sent, p.acked, p.q, p.qs, p.mask, dl, .slice (some ⟨g, 0, none⟩) j j⟩ rfl
      rw [List.set_set] at hR
      have kp5 : Kp (fun i => i = pb) w3 (w3.setCell ⟨pb, k * 6 + 5, none⟩ (.slice (some ⟨g, 0, none⟩) j j)) := (Kp.refl _ _).put
      have kwr : Kp (fun i => i = pb) w wr := HB.out.2.2.2.andNu HKI.out
      exact ⟨rfl, (kwr.andNu hcf.kp).trans kp5 (fun _ _ e => e), g, ds, wr, w3, kwr, hcf, kp5, hR⟩
    have hjv : j < es.length := by rw [HN.out.1]; exact hlt
    obtain ⟨x, hx⟩ : ∃ x, es[j]? = some x := ⟨es[j], List.getElem?_eq_getElem hjv⟩
    have hxm := List.mem_of_getElem? hx
    obtain ⟨hkI, hL0, hL1, hoI⟩ := HI.out
    obtain ⟨hb, hr, hbx1, KB⟩ := HB.out
    obtain ⟨he, hre, hpv, hsq⟩ := HE.out
    obtain ⟨hdl0, hdl1, hw1, hw2⟩ := HD.out
    have hdrop : es.drop j = x :: es.drop (j + 1) := by rw [List.drop_eq_getElem_cons hjv]; rw [List.getElem?_eq_getElem hjv] at hx; cases hx; rfl
    rw [hdrop] at hoI
    obtain ⟨hsq0, hsq1⟩ := hsq x hxm
    obtain ⟨h1w, h2w, hrd⟩ := he j x hx
    have kw1 : Kp (fun i => i = pb) w wr := KB.andNu hkI
    have c1 : wr.cell? ⟨re, off + j * 2, none⟩ = some (.int .u64 x.seq) := (World.cell?_of_block (kw1.block _ (World.block_lt_of_cell? w _ h1w) (fun e => hre e))).trans h1w
    have c2 : wr.cell? ⟨re, off + j * 2 + 1, none⟩ = some x.v := (World.cell?_of_block (kw1.block _ (World.block_lt_of_cell? w _ h2w) (fun e => hre e))).trans h2w
    obtain ⟨ax, cx, ex⟩ := hrd.slice
    rw [ex] at c2
    have UF := fun W => unfit_gen ax cx x.ys W
    generalize hnx : x.ys.length = nx at *
    have hbf := heap_alloc_new wr (.cells #[.int .u64 x.seq, .slice ax nx cx] 133)
    have hpb := (hkI.block _ (blk_lt hbx1) (fun h => h)).trans hbx1
    have hplt : w.heap.size < wr.heap.size := blk_lt hpb
    have HS : ∀ W, Kp Nu (wr.alloc (.cells #[.int .u64 x.seq, .slice ax nx cx] 133)) W → W.cell? ⟨wr.heap.size, 0, none⟩ = some (.int .u64 x.seq) ∧ W.cell? ⟨wr.heap.size, 1, none⟩ = some (.slice ax nx cx) ∧ W.cell? ⟨w.heap.size, 4, none⟩ = some (.int .u64 dl) := fun W kW => by
      have hb1 := (kW.block _ (blk_lt hbf) (fun h => h)).trans hbf
      have hb2 := (kW.block _ (by simp; omega) (fun h => h)).trans ((Below.heap_alloc wr _ _ hplt).trans hpb)
      exact ⟨cellAt hb1 0 rfl, cellAt hb1 1 rfl, cellAt hb2 4 rfl⟩
    have hrr : Row wr pb 123 (ps.set k ⟨p.sent, p.acked, p.q, p.qs, p.mask, dl, p.e⟩) := hr.keep (hkI.block _ (blk_lt hr) (fun h => h))
    have hwn : IntKind.u64.wrap wn = wn := by rw [IntKind.wrap_u64]; omega
    have FA : ∀ W, Kp Nu (wr.alloc (.cells #[.int .u64 x.seq, .slice ax nx cx] 133)) W → Calls Try.prog 88 #[.pointer (some ⟨pb, k * 6 + 4, none⟩), .int .u64 x.seq, .int .i64 wn] W fun e w' => e = .returned (.bool (decide (x.seq > dl) && decide (x.seq - dl > wn))) ∧ Kp Nu (wr.alloc (.cells #[.int .u64 x.seq, .slice ax nx cx] 133)) w' := fun W kW => by
      have hc := ((hrr.keep ((((Kp.refl Nu wr).andAlloc _).andNu kW).block _ (blk_lt hrr) (fun h => h))).at (set_self hk _)).2.2.2.2.1
      exact (far_any W pb (k * 6 + 4) dl x.seq wn hc hwn (x.seq - dl) (fun hgt => by rw [IntKind.wrap_u64]; omega)).mono (by rintro e w' ⟨rfl, hk'⟩; exact ⟨rfl, kW.andNu hk'⟩)
    have HKK : ∀ W, Kp Nu (wr.alloc (.cells #[.int .u64 x.seq, .slice ax nx cx] 133)) W → Kp (fun i => i = pb) w W := fun W kW => (kw1.andAlloc _).andNu kW
    have hltI : (j : Int) < (n : Int) := by omega
    have hj0 : (0 : Int) ≤ (j : Int) := by omega
    have hwk : Hid (wrap64 ((j : Int) + 1) = ((j + 1 : Nat) : Int)) := by have := HN.out.2.2; show wrap64 _ = _; unfold wrap64; omega
    generalize hU : unf x.ys = U at *
    obtain ⟨y0, y1, y4⟩ := HS _ (Kp.refl _ _)
    have eD : x.seq > dl → IntKind.u64.wrap (x.seq - dl) = x.seq - dl := fun hgt => by rw [IntKind.wrap_u64]; omega
    have hok := hoI
    simp only [okE] at hok
    have HLL := hide (And.intro hL0 (And.intro hL1 (And.intro hw2 hkI)))
    clear hsq0 hsq1 h1w h2w hrd ex hbf hpb hplt hrr hwn hb hr hbx1 KB he hre hpv hsq hdl0 hdl1 hw1 hw2 hL0 hL1 hkI hdrop hxm kw1 hnx hjv
    have HU := hide hU
    clear hU
    clear FR
    simp only [Bool.and_eq_true, decide_eq_true_eq] at hok
    obtain ⟨⟨d1', d2, d3, d4⟩, hz⟩ := hok
    have hUf : U = false := by rw [← HU.out]; simpa using d4
    subst hUf
    have d1 : ¬ x.seq ≤ dl := by omega
    have d2n : ¬ x.seq - dl ≤ L := by omega
    have eD2 := eD d1'
    have b1 : decide (x.seq > dl) = true := by simp; omega
    have b3 : decide (x.seq - dl > wn) = false := by simp; omega
    rw [b1, b3] at FA
    simp only [Bool.and_false] at FA
    have HZ := hide hz
    have HD3 := hide (And.intro d1' d3)
    clear eD hoI b1 d1' b3 hz d2 d3 d4
    go_wp2_with (first | (go_at_call 88; refine (FA _ (Kp.refl _ _)).mono ?_; rintro e w3 ⟨rfl, hk3⟩; obtain ⟨v0, v1, v4⟩ := HS w3 hk3) | (go_at_call 54; refine (UF _).mono ?_; rintro e w4 ⟨rfl, hw4⟩; obtain rfl := hw4.symm))
    have hkk := (((Kp.refl Nu wr).andAlloc _).andNu hk3)
    obtain ⟨l0, l1, l2, l3⟩ := HLL.out
    obtain ⟨r1, r2⟩ := HD3.out
    exact ⟨⟨j + 1, _, hlt, by rw [hwk.out], rfl, l3.andNu hkk, by omega, by omega, HZ.out⟩, lt_m _ hwk.out hlt⟩
end Go.Proofs.Ytbhdhoeaogbfbaa.Xo
namespace Go.Proofs.Ytbhdhoeaogbfbaa.Xo
open Go.RowKit
set_option linter.unusedVariables false
set_option linter.unusedSimpArgs false
set_option maxHeartbeats 1000000 in
theorem loadIn_zero {w : World} {pb : Nat} {ps : List Pr} (h : Row w pb 123 ps) (k : Nat) (p : Pr) (hk : ps[k]? = some p) (s a m dl wn : Int) (aq ae : Option Addr) (nq cq ce : Nat) : Calls Try.prog 64 #[.pointer (some ⟨pb, k * 6 + 4, none⟩), .agg #[.int .u64 s, .int .u64 a, .slice aq nq cq, .int .u64 m, .int .u64 dl, .slice ae 0 ce], .int .i64 wn] w fun e w' => e = .returned (.bool true) ∧ ∃ g, w.heap.size ≤ g ∧ w'.heap[g]? = some (.cells #[] 133 (0, 0)) ∧ Row w' pb 123 (ps.set k ⟨p.sent, p.acked, p.q, p.qs, p.mask, dl, .slice (some ⟨g, 0, none⟩) 0 0⟩) ∧ Kp (fun i => i = pb) w w' := by
  have FP := frames_new ae ce
  have hne : w.heap.size ≠ pb := by have := blk_lt h; omega
  have hb : Row (w.alloc (.cells #[.int .u64 s, .int .u64 a, .slice aq nq cq, .int .u64 m, .int .u64 dl, .slice ae 0 ce] 66)) pb 123 ps := h.keep (Below.heap_alloc _ _ _ (blk_lt h))
  have z4 := (hb.at hk).2.2.2.2.1
  have f4 := hb.free (k * 6 + 4)
  have hr := hb.set hk 4 (by omega) (.int .u64 dl) ⟨p.sent, p.acked, p.q, p.qs, p.mask, dl, p.e⟩ rfl
  have x5 : ((w.alloc (.cells #[.int .u64 s, .int .u64 a, .slice aq nq cq, .int .u64 m, .int .u64 dl, .slice ae 0 ce] 66)).setCell ⟨pb, k * 6 + 4, none⟩ (.int .u64 dl)).cell? ⟨w.heap.size, 5, none⟩ = some (.slice ae 0 ce) := by
    rw [World.cell?_of_block (Below.heap_setCell (w.alloc (.cells #[.int .u64 s, .int .u64 a, .slice aq nq cq, .int .u64 m, .int .u64 dl, .slice ae 0 ce] 66)) ⟨pb, k * 6 + 4, none⟩ _ _ hne)]
    exact (cell6 (heap_alloc_new w _)).2.2.2.2.2
  have CR := fun W (kw : Kp Nu ((w.alloc (.cells #[.int .u64 s, .int .u64 a, .slice aq nq cq, .int .u64 m, .int .u64 dl, .slice ae 0 ce] 66)).setCell ⟨pb, k * 6 + 4, none⟩ (.int .u64 dl)) W) => hr.keep (kw.block _ (blk_lt hr) (fun h => h))
  have CP2 := fun W kw => ((CR W kw).at (set_self hk _)).2.2.2.2.2
  have CF := fun W kw => (CR W kw).free (k * 6 + 5)
  have KB : Kp (fun i => i = pb) w ((w.alloc (.cells #[.int .u64 s, .int .u64 a, .slice aq nq cq, .int .u64 m, .int .u64 dl, .slice ae 0 ce] 66)).setCell ⟨pb, k * 6 + 4, none⟩ (.int .u64 dl)) := ((Kp.refl _ w).andAlloc _).put
  have HCR := hide CR
  have HKB := hide KB
  clear h hb hr CR KB
  go_enter Try.func64, Try.ntmps64
  go_wp2
  go_loopw [18] (fun i wr => i = .int .i64 0 ∧ wr = (w.alloc (.cells #[.int .u64 s, .int .u64 a, .slice aq nq cq, .int .u64 m, .int .u64 dl, .slice ae 0 ce] 66)).setCell ⟨pb, k * 6 + 4, none⟩ (.int .u64 dl)) (fun _ _ => 0)
  case atStart => exact ⟨rfl, rfl⟩
  case round =>
    obtain ⟨rfl, rfl⟩ := hrel
    go_wp2_with (go_at_call 80; refine (FP _).mono ?_; rintro e w3 ⟨g, rfl, hg3, hb3, hk3⟩; have z5 := CP2 w3 hk3; have f5 := CF w3 hk3)
    go_ret
    have hR := (HCR.out w3 hk3).set (set_self hk _) 5 (by omega) (.slice (some ⟨g, 0, none⟩) 0 0) ⟨p.sent, p.acked, p.q, p.qs, p.mask, dl, .slice (some ⟨g, 0, none⟩) 0 0⟩ rfl
    rw [List.set_set] at hR
    have hgp : g ≠ pb := fun e => by
      have h1 : w3.heap[pb]? = some _ := HCR.out w3 hk3
      rw [← e, hb3] at h1
      have := (Obj.cells.inj (Option.some.inj h1)).2.1
      cases this
    exact ⟨rfl, g, Nat.le_trans HKB.out.size hg3, (Below.heap_setCell _ ⟨pb, k * 6 + 5, none⟩ _ g hgp).trans hb3, hR, (HKB.out.andNu hk3).put⟩

/-- the program's half that comes in, loaded -/
theorem loadIn_gen {w : World} {pb : Nat} {ps : List Pr} (h : Row w pb 123 ps) (k : Nat) (p : Pr) (hk : ps[k]? = some p) (s a m dl wn : Int) (q e : Value) (es : List Fm) (he : Le w e es) (hnb : es.length ≤ 140737488351232) (hpe : es ≠ [] → ∀ r off n c, e = .slice (some ⟨r, off, none⟩) n c → r ≠ pb) (hpv : ∀ x ∈ es, x.ys ≠ [] → ∀ aa nn cc, x.v = .slice (some aa) nn cc → aa.block ≠ pb) (hdl0 : 0 ≤ dl) (hdl1 : dl ≤ 18446744073709551615) (hsq : ∀ x ∈ es, 0 ≤ x.seq ∧ x.seq ≤ 18446744073709551615) (hw1 : 1 ≤ wn) (hw2 : wn ≤ 16) (hqq : ∃ aq nq cq, q = .slice aq nq cq) (hok : okE dl wn 1 es = true) :
    Calls Try.prog 64 #[.pointer (some ⟨pb, k * 6 + 4, none⟩), .agg #[.int .u64 s, .int .u64 a, q, .int .u64 m, .int .u64 dl, e], .int .i64 wn] w fun e' w' => e' = .returned (.bool true) ∧ ∃ u ds, Row w' pb 123 (ps.set k ⟨p.sent, p.acked, p.q, p.qs, p.mask, dl, u⟩) ∧ Kp (fun i => i = pb) w w' ∧ w'.ownsRow w.heap.size 133 2 u ds.length (ff ds) ∧ ds.map fse = es.map fse ∧ ∀ f ∈ ds, w'.ownsRow w.heap.size 5 1 f.v f.ys.length (cs f.ys) := by
  rcases he with ⟨ad, cap, rfl, rfl⟩ | ⟨r, off, cap, rfl, hrf⟩
  · obtain ⟨aq, nq, cq, rfl⟩ := hqq
    refine (loadIn_zero h k p hk s a m dl wn aq ad nq cq cap).mono ?_
    rintro e' w' ⟨rfl, g, hg, hb, hr, kp⟩
    exact ⟨rfl, _, [], hr, kp, ⟨rfl, .inr ⟨g, 0, #[], rfl, hg, hb, Nat.le_refl _, by unfold maxLen; omega, rfl, rfl⟩⟩, rfl, fun f hf => by cases hf⟩
  · by_cases h0 : es.length = 0
    · obtain rfl : es = [] := List.eq_nil_of_length_eq_zero h0
      obtain ⟨aq, nq, cq, rfl⟩ := hqq
      refine (loadIn_zero h k p hk s a m dl wn aq (some ⟨r, off, none⟩) nq cq cap).mono ?_
      rintro e' w' ⟨rfl, g, hg, hb, hr, kp⟩
      exact ⟨rfl, _, [], hr, kp, ⟨rfl, .inr ⟨g, 0, #[], rfl, hg, hb, Nat.le_refl _, by unfold maxLen; omega, rfl, rfl⟩⟩, rfl, fun f hf => by cases hf⟩
    · refine (loadIn_ok2 h k p hk s a m dl wn q r off cap es.length es rfl (by omega) hnb hrf (hpe (fun e0 => h0 (by rw [e0]; rfl)) r off _ cap rfl) hpv hdl0 hdl1 hsq hw1 hw2 hqq hok).mono ?_
      rintro e' w' ⟨rfl, kp, g, ds, W, w2, k1, hcf, k2, hr⟩
      have h16 : es.length ≤ 16 := by
        rcases okE_len es 1 hok with e1 | e1
        · rw [e1] at h0; exact absurd rfl h0
        · omega
      have hce := hcf.ce rfl h16
      have hne : ∀ {e sz n : Nat} {v : Value} {l : List Value}, w2.ownsRow W.heap.size e sz v n l → w'.ownsRow W.heap.size e sz v n l := fun ho => own_keep ho (fun g2 hg2 => k2.block g2 (own_lt ho hg2) (fun e1 => by
        have e1 : g2 = pb := e1
        have h1 := own_ge' ho hg2
        have h2 := blk_lt h
        have h3 := k1.size
        omega))
      have e1 : ds.map fse = es.map fse := by
        refine List.ext_getElem? (fun i => ?_)
        rw [List.getElem?_map, List.getElem?_map]
        by_cases h1 : i < ds.length
        · have h2 : i < es.length := by rw [← hce.len]; exact h1
          rw [List.getElem?_eq_getElem h1, List.getElem?_eq_getElem h2]
          obtain ⟨o1, o2, _⟩ := hce.pay i _ _ (List.getElem?_eq_getElem h1) (List.getElem?_eq_getElem h2)
          exact congrArg some (Prod.ext o1 o2)
        · rw [List.getElem?_eq_none (by omega), List.getElem?_eq_none (by rw [← hce.len]; omega)]
      refine ⟨rfl, _, ds, hr, kp, own_base (hne hce.own) k1.size, e1, fun f hf => ?_⟩
      obtain ⟨i, hi⟩ := List.mem_iff_getElem?.1 hf
      have h2 : i < es.length := by rw [← hce.len]; exact (List.getElem?_eq_some_iff.1 hi).1
      exact own_base (hne (hce.pay i f _ hi (List.getElem?_eq_getElem h2)).2.2) k1.size
/-- the program's half that goes out, loaded -/
theorem loadOut_gen {w : World} {pb : Nat} {ps : List Pr} (h : Row w pb 123 ps) (k : Nat) (p : Pr) (hk : ps[k]? = some p) (s a m d qn : Int) (q e : Value) (qs : List (Value × List Int)) (hq : Lq w q qs) (hqn : qn ≤ 16) (h0 : 0 ≤ m) (hm : m ≤ 18446744073709551615) (hee : ∃ ae ne ce, e = .slice ae ne ce) (hok : okO s a m qn (IntKind.u64.wrap (s - a)) qs = true) :
    Calls Try.prog 63 #[.pointer (some ⟨pb, k * 6, none⟩), .agg #[.int .u64 s, .int .u64 a, q, .int .u64 m, .int .u64 d, e], .int .i64 qn] w fun e' w' => e' = .returned (.bool true) ∧ ∃ u xs, Row w' pb 123 (ps.set k ⟨s, a, u, xs, m, p.dlv, p.e⟩) ∧ Kp (fun i => i = pb) w w' ∧ w'.ownsRow w.heap.size 45 1 u xs.length (xs.map Prod.fst) ∧ xs.map Prod.snd = qs.map Prod.snd ∧ ∀ y ∈ xs, w'.ownsRow w.heap.size 5 1 y.1 y.2.length (cs y.2) := by
  have hok' := hok
  unfold okO at hok
  simp only [Bool.and_eq_true, decide_eq_true_eq, beq_iff_eq, Bool.not_eq_true'] at hok
  obtain ⟨h1, h2, h3, h4, h5⟩ := hok
  have hu : ∀ x ∈ qs, unf x.2 = false := fun x hx => by
    have := List.any_eq_false.1 h5 x hx
    simpa using this
  refine (loadOut_ok h k p hk s a m d qn q e qs hq qs.length rfl h1 h2 hqn h3.symm h0 hm (by rw [h3]; exact h4) hu hee).mono ?_
  rintro e' w' ⟨rfl, u, xs, W, k1, hcq, ⟨g, hug, hg⟩, hr, k2⟩
  have hne : ∀ {e sz n : Nat} {v : Value} {l : List Value}, W.ownsRow w.heap.size e sz v n l → w'.ownsRow w.heap.size e sz v n l := fun ho => own_keep ho (fun g2 hg2 => k2.block g2 (own_lt ho hg2) (fun e1 => by
    have e1 : g2 = pb := e1
    have h1 := own_ge' ho hg2
    have h2 := blk_lt h
    omega))
  refine ⟨rfl, u, xs, hr, (k1.mono (fun _ _ e => e.elim)).trans k2 (fun _ _ e => e), hne hcq.own, ?_, fun y hy => ?_⟩
  · refine List.ext_getElem? (fun i => ?_)
    rw [List.getElem?_map, List.getElem?_map]
    by_cases g1 : i < xs.length
    · have g2 : i < qs.length := by rw [← hcq.len]; exact g1
      rw [List.getElem?_eq_getElem g1, List.getElem?_eq_getElem g2]
      exact congrArg some (hcq.pay i _ _ (List.getElem?_eq_getElem g1) (List.getElem?_eq_getElem g2)).1
    · rw [List.getElem?_eq_none (by omega), List.getElem?_eq_none (by rw [← hcq.len]; omega)]
  · obtain ⟨i, hi⟩ := List.mem_iff_getElem?.1 hy
    have g2 : i < qs.length := by rw [← hcq.len]; exact (List.getElem?_eq_some_iff.1 hi).1
    exact hne (hcq.pay i y _ hi (List.getElem?_eq_getElem g2)).2
/-- the program's half that comes in, refused -/
theorem loadIn_no {w : World} {pb : Nat} {ps : List Pr} (h : Row w pb 123 ps) (k : Nat) (p : Pr) (hk : ps[k]? = some p) (s a m dl wn : Int) (q e : Value) (es : List Fm) (he : Le w e es) (hnb : es.length ≤ 140737488351232) (hpe : es ≠ [] → ∀ r off n c, e = .slice (some ⟨r, off, none⟩) n c → r ≠ pb) (hpv : ∀ x ∈ es, x.ys ≠ [] → ∀ aa nn cc, x.v = .slice (some aa) nn cc → aa.block ≠ pb) (hdl0 : 0 ≤ dl) (hdl1 : dl ≤ 18446744073709551615) (hsq : ∀ x ∈ es, 0 ≤ x.seq ∧ x.seq ≤ 18446744073709551615) (hw1 : 1 ≤ wn) (hw2 : wn ≤ 16) (hqq : ∃ aq nq cq, q = .slice aq nq cq) (hno : okE dl wn 1 es = false) :
    Calls Try.prog 64 #[.pointer (some ⟨pb, k * 6 + 4, none⟩), .agg #[.int .u64 s, .int .u64 a, q, .int .u64 m, .int .u64 dl, e], .int .i64 wn] w fun e' w' => e' = .returned (.bool false) ∧ Kp (fun i => i = pb) w w' := by
  rcases he with ⟨ad, cap, rfl, rfl⟩ | ⟨r, off, cap, rfl, hrf⟩
  · cases hno
  · by_cases h0 : es.length = 0
    · obtain rfl : es = [] := List.eq_nil_of_length_eq_zero h0
      cases hno
    · exact loadIn_scan2 h k p hk s a m dl wn q r off cap es.length es rfl (by omega) hnb hrf (hpe (fun e0 => h0 (by rw [e0]; rfl)) r off _ cap rfl) hpv hdl0 hdl1 hsq hw1 hw2 hqq hno
end Go.Proofs.Ytbhdhoeaogbfbaa.Xo
