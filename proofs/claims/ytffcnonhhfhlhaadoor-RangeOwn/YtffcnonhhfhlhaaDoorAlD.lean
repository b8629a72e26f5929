import Derived.Test.YtffcnonhhfhlhaaDoorAlC
namespace Go.Proofs.YtffcnonhhfhlhaaDoor.Rg
open Go.RowKit Go.Shelf Go.Sort
open Go.Proofs.YtffcnonhhfhlhaaDoor.It
open Go.BigFrame
set_option linter.unusedVariables false
/-- what Cost tells of a step -/
def cosN (L : List Sg) (s : Sp) : Int := if s.lo ≤ s.hi ∧ s.h < 16 then costB L s.lo s.hi s.h else 0
def cosE (s : Sp) : Int := if s.hi < s.lo then 60 else if ¬ s.h < 16 then 2 else 0
theorem cost_all {B b : Nat} {w : World} {lim : Int} {v : Value} {L : List Sg} (h : Tb B w b lim v L) (s : Sp) (f : SpB s) :
    Calls Tryd.prog 18 #[.pointer (some ⟨b, 0, none⟩), .int .u64 s.lo, .int .u64 s.hi, .int .u8 s.h] w fun e w' => e = .returned (.tuple #[.int .i64 (cosN L s), .int .i64 (cosE s)]) ∧ Kp Nu w w' := by
  unfold cosN cosE
  by_cases h1 : s.hi < s.lo
  · rw [if_neg (by omega), if_pos h1]
    refine (cost_bad h s.lo s.hi s.h h1).mono ?_
    rintro e w' ⟨rfl, rfl⟩
    exact ⟨rfl, Kp.refl _ _⟩
  · by_cases h2 : s.h < 16
    · rw [if_pos ⟨by omega, h2⟩, if_neg h1, if_neg (fun x => x h2)]
      exact cost_ok h s.lo s.hi s.h f.1 (by omega) f.2.2.2.1 h2
    · rw [if_neg (by omega), if_neg h1, if_pos h2]
      refine (cost_arg h s.lo s.hi s.h (by omega) h2).mono ?_
      rintro e w' ⟨rfl, rfl⟩
      exact ⟨rfl, Kp.refl _ _⟩
theorem refCost_all {w : World} {rv : Value} {L : List Sg} {lim : Int} (hrs : Rs w rv L) (hT : Tab L) (hl : L.length ≤ 8192) (s : Sp) (f : SpB s) :
    Calls Tryd.prog 48 #[.agg #[.int .i64 lim, rv], .int .u64 s.lo, .int .u64 s.hi, .int .u8 s.h] w fun e w' => e = .returned (.tuple #[.int .i64 (cosN L s), .int .i64 (cosE s)]) ∧ Kp Nu w w' := by
  unfold cosN cosE
  by_cases h1 : s.hi < s.lo
  · rw [if_neg (by omega), if_pos h1]
    exact refCost_bad hrs s.lo s.hi s.h h1
  · by_cases h2 : s.h < 16
    · rw [if_pos ⟨by omega, h2⟩, if_neg h1, if_neg (fun x => x h2)]
      exact refCost_ok hrs hT hl s.lo s.hi s.h f.1 (by omega) f.2.2.2.1 f.2.2.2.2.1 h2
    · rw [if_neg (by omega), if_neg h1, if_pos h2]
      exact refCost_arg hrs s.lo s.hi s.h (by omega) h2
theorem info27p : (Tryd.prog.info? 27).map (fun i => (i.zero, i.size, i.bytes)) = some (some (.pointer none), 1, 8) := by kernel_rfl
theorem info29p : (Tryd.prog.info? 29).map (fun i => (i.zero, i.size, i.bytes)) = some (some (.agg #[.int .i64 0, .slice none 0 0]), 2, 32) := by kernel_rfl
theorem Rs.uniq {w : World} {u : Value} {A C : List Sg} (h : Rs w u A) (k : Rs w u C) : A = C := by
  obtain ⟨r, off, cap, e, hc⟩ := h
  obtain ⟨r', off', cap', e', hc'⟩ := k
  rw [e] at e'
  simp only [Value.slice.injEq, Option.some.injEq, Addr.mk.injEq] at e'
  obtain ⟨⟨e1, e2, _⟩, e3, _⟩ := e'
  subst e1; subst e2
  refine List.ext_getElem? (fun i => ?_)
  by_cases hi : i < A.length
  · obtain ⟨a, ha⟩ : ∃ a, A[i]? = some a := ⟨_, List.getElem?_eq_getElem hi⟩
    obtain ⟨c, hcc⟩ : ∃ c, C[i]? = some c := ⟨_, List.getElem?_eq_getElem (by omega)⟩
    obtain ⟨x0, x1, x2⟩ := hc i a ha
    obtain ⟨y0, y1, y2⟩ := hc' i c hcc
    rw [x0] at y0; rw [x1] at y1; rw [x2] at y2
    simp only [Option.some.injEq, Value.int.injEq, true_and] at y0 y1 y2
    rw [ha, hcc]
    obtain ⟨a0, a1, a2⟩ := a
    obtain ⟨c0, c1, c2⟩ := c
    simp only at y0 y1 y2
    rw [y0, y1, y2]
  · rw [List.getElem?_eq_none (by omega), List.getElem?_eq_none (by omega)]
theorem rt_assign {w w' : World} {rv u' : Value} {L L' : List Sg} {B : Nat} (h : Rt w rv L) (k : Kp Nu w w') (hu : Rs w' u' L') (hor : u' = rv ∨ w'.ownsRow B 26 3 u' L'.length (cells L')) (hne : 0 < L'.length) : Rt w' u' L' := by
  rcases hor with e | e
  · subst e
    have := (h.nu k).rs.uniq hu
    rw [← this]; exact h.nu k
  · exact Rt.of_own e hne
theorem own_cl {w : World} {B t e n g cap : Nat} {xs : List Value} (h : w.ownsRow B t e (.slice (some ⟨g, 0, none⟩) n cap) n xs) {j : Nat} {u : Value} (hj : xs[j]? = some u) : w.cell? ⟨g, j, none⟩ = some u := by
  rcases h.2 with ⟨h1, h0⟩ | ⟨r, cap', cur, e1, hB, hg, h1, h2, h3, h4⟩
  · cases h1
  · simp only [Value.slice.injEq, Option.some.injEq, Addr.mk.injEq] at e1
    obtain ⟨⟨e2, _⟩, _⟩ := e1
    subst e2
    have hl : j < xs.length := (List.getElem?_eq_some_iff.1 hj).1
    rw [← h4] at hj hl
    rw [List.length_take] at hl
    rw [List.getElem?_take_of_lt (by omega)] at hj
    simp only [World.cell?, hg]
    simpa using hj
theorem own_some {w : World} {B t e n : Nat} {a : Option Addr} {c : Nat} {xs : List Value} (h : w.ownsRow B t e (.slice a n c) n xs) (hn : 0 < n) : ∃ g, a = some ⟨g, 0, none⟩ := by
  rcases h.2 with ⟨h1, h0⟩ | ⟨r, cap', cur, e1, _⟩
  · omega
  · simp only [Value.slice.injEq] at e1
    exact ⟨r, e1.1⟩
theorem wup1 {j m : Nat} (h : j < m) (hm : (m : Int) ≤ 4398046510976) : wrap64 ((j : Int) + 1) = (j : Int) + 1 := by unfold wrap64; omega
theorem jlt {j m : Nat} (h : j < m) : (j : Int) < (m : Int) := by omega
theorem jge {j m : Nat} (h : ¬ j < m) : ¬ (j : Int) < (m : Int) := by omega
theorem jmeas {j m : Nat} (h : j < m) : m - (intOf (.int .i64 ((j : Int) + 1))).toNat < m - (intOf (.int .i64 (j : Int))).toNat := by simp [intOf]; omega
theorem jins (j : Nat) : Value.int .i64 ((j : Int) + 1) = .int .i64 (((j + 1 : Nat)) : Int) := by simp
theorem ptrs_at {bs : List Nat} {j b : Nat} (h : bs[j]? = some b) : (ptrs bs)[j]? = some (.pointer (some ⟨b, 0, none⟩)) := by simp [ptrs, h]
/-- where the script stands -/
def PyI (w wr : World) (b0 b : Nat) (lim : Int) (la : Option Addr) (ln lc : Nat) (wa : Option Addr) (wc i : Nat) : Prop :=
  ∃ bs rs ra rn rc L, bs.length = ln ∧ ln ≤ i ∧ Pe w wr b0 b lim (.slice la ln lc) (.slice wa ln wc) bs rs ∧ Pc wr w.heap.size b lim (.slice ra rn rc) L
set_option maxRecDepth 100000 in
set_option maxHeartbeats 8000000 in
theorem play_any (w0 w : World) (hk0 : Kp (fun k => w0.heap.size ≤ k) w0 w) (b0 : Nat) (hb0 : w0.heap.size ≤ b0) (lim : Int) (B : Nat) (v : Value) (L0 : List Sg) (ht : Tb B w b0 lim v L0) (ra0 : Option Addr) (rn0 rc0 : Nat) (hrs : Rt w (.slice ra0 rn0 rc0) L0) (sv : Value) (S : List Sp) (hS : Scr w0 sv S) (hSl : (S.length : Int) ≤ 4398046510976) (hp : PowB w0.heap.size w0) :
    Calls Tryd.prog 39 #[.pointer (some ⟨b0, 0, none⟩), .agg #[.int .i64 lim, .slice ra0 rn0 rc0], sv] w fun e w' => e = .returned (.bool true) ∧ Kp (fun k => k = b0) w w' := by
  have mixed : Tryd.prog.follows .mixedOrders = true := by kernel_rfl
  obtain ⟨i27, hi27, hz27, hy27, hw27⟩ := info_parts info27p
  obtain ⟨i29, hi29, hz29, hy29, hw29⟩ := info_parts info29p
  obtain ⟨w1, hw1⟩ : ∃ w1, w.alloc (.cells #[.int .i64 lim, .slice ra0 rn0 rc0] 29) = w1 := ⟨_, rfl⟩
  have K1 : Kp Nu w w1 := by rw [← hw1]; exact Kp.alloc w _ Nu
  have b1 : w1.heap[w.heap.size]? = some (.cells #[.int .i64 lim, .slice ra0 rn0 rc0] 29 (0, 0)) := by rw [← hw1]; exact heap_alloc_new w _
  have P0 : Hid (PyI w w1 b0 b0 lim none 0 0 none 0 0) := hide ⟨[], [], ra0, rn0, rc0, L0, rfl, Nat.le_refl _, ⟨K1.mono (fun _ _ e => e.elim), .inl rfl, rfl, World.ownsRow_nil _ _ _ _, World.ownsRow_nil _ _ _ _, fun j bj rj h => by simp at h⟩, ⟨⟨B, v, ht.nu K1⟩, b1, hrs.nu K1⟩⟩
  have HP : Hid (∀ V, Kp (fun k => k = b0) w V → PowB V.heap.size V) := hide (fun V hV => by
    have kk : Kp (fun k => w0.heap.size ≤ k) w0 V := hk0.trans hV (fun i hi e => by have e : i = b0 := e; omega)
    have bel := kk.below w0.heap.size (Nat.le_refl _) (fun k h => h)
    exact fun W hW => hp W (bel.trans (hW.mono bel.size)))
  have HS : Hid (∀ V, Kp (fun k => k = b0) w V → ∀ i s, S[i]? = some s → ∃ bS off cap, sv = .slice (some ⟨bS, off, none⟩) S.length cap ∧ SpAt V bS (off + i * 4) s) := hide (fun V hV i s hs => by
    have kk : Kp (fun k => w0.heap.size ≤ k) w0 V := hk0.trans hV (fun i hi e => by have e : i = b0 := e; omega)
    rcases hS with ⟨_, h⟩ | ⟨bS, off, cap, e, h⟩
    · rw [h] at hs; simp at hs
    · exact ⟨bS, off, cap, e, (h i s hs).keep (w' := w0) (B := 0) (b := 0) kk⟩)
  obtain ⟨sa, sc, esv⟩ := hS.slice
  obtain ⟨n, en⟩ : ∃ n, S.length = n := ⟨_, rfl⟩
  have HN := hide en
  rw [en] at esv hSl
  subst esv
  clear hk0 ht hrs hS hp K1 b1 en
  go_enter Tryd.func39, Tryd.ntmps39
  go_wp2_with fail
  clear hw1
  go_loopw [0, 7, 8, 9] (fun tv lv wv iv wr => ∃ (i b : Nat) (la : Option Addr) (ln lc : Nat) (wa : Option Addr) (wc : Nat), tv = .pointer (some ⟨b, 0, none⟩) ∧ lv = .slice la ln lc ∧ wv = .slice wa ln wc ∧ iv = .int .i64 (i : Int) ∧ i ≤ n ∧ Hid (PyI w wr b0 b lim la ln lc wa wc i)) (fun _ _ _ iv _ => n - (intOf iv).toNat)
  case atStart => exact ⟨0, b0, none, 0, 0, none, 0, rfl, rfl, rfl, rfl, Nat.zero_le _, P0⟩
  case round =>
    obtain ⟨i, b, la, ln, lc, wa, wc, rfl, rfl, rfl, rfl, hi, hP⟩ := hrel
    have hi0 : (0 : Int) ≤ (i : Int) := by omega
    clear P0
    by_cases hlt : i < n
    · have hltI : (i : Int) < (n : Int) := by omega
      have hwi : wrap64 ((i : Int) + 1) = (i : Int) + 1 := by unfold wrap64; omega
      obtain ⟨bs, rs, ra, rn, rc, L, ebs, hln, hPe, hPc⟩ := hP.out
      obtain ⟨s, hs⟩ : ∃ s, S[i]? = some s := ⟨_, List.getElem?_eq_getElem (by rw [HN.out]; exact hlt)⟩
      obtain ⟨bS, off, cap, eS, hsp⟩ := HS.out wr hPe.kp i s hs
      rw [HN.out] at eS
      simp only [Value.slice.injEq, true_and] at eS
      obtain ⟨eS1, eS2⟩ := eS
      have y0 := hsp.c0
      have y1 := hsp.c1
      have y2 := hsp.c2
      have y3 := hsp.c3
      have fs : SpB s := hsp.fit
      obtain ⟨bx, hbx⟩ : ∃ bx, wr.heap.size = bx := ⟨_, rfl⟩
      obtain ⟨W1, hW1⟩ : ∃ W1, wr.alloc (.cells #[.int .i64 s.kind, .int .u64 s.lo, .int .u64 s.hi, .int .u8 s.h] 36) = W1 := ⟨_, rfl⟩
      have kW1 : Kp Nu wr W1 := by rw [← hW1]; exact Kp.alloc wr _ Nu
      have xW1 : W1.heap[bx]? = some (.cells #[.int .i64 s.kind, .int .u64 s.lo, .int .u64 s.hi, .int .u8 s.h] 36 (0, 0)) := by rw [← hW1, ← hbx]; exact heap_alloc_new wr _
      have HPe := hide (hPe.nu kW1)
      have HPc := hide (hPc.nu kW1)
      have HX := hide xW1
      have HF := hide (And.intro fs (And.intro ebs (And.intro hln (And.intro hlt kW1))))
      obtain ⟨z0, z1, z2, z3⟩ := cell4' xW1
      obtain ⟨rb0, rb1⟩ := cell2' HPc.out.bx
      subst eS1
      clear hPe hPc hP hs hsp fs ebs hln hlt kW1 xW1 eS2 hi
      by_cases e1 : s.kind = 1
      · have q1 : (s.kind == 1) = true := by simpa using e1
        clear e1
        obtain ⟨B', v', ht⟩ := HPc.out.tb
        have AS := assign_any ht s HF.out.1 (Nat.le_trans ht.low (Nat.le_of_lt (blk_lt ht.blk)))
        have HT := hide ht
        clear ht
        go_wp2_with fail
        refine AS.mono ?_; rintro e W2 ⟨rfl, v2, ht2, k2⟩
        have xW2 := (k2.block _ (blk_lt HX.out) (fun e => HT.out.ne3 HX.out (by decide) e)).trans HX.out
        have bW2 := (k2.block _ (blk_lt HPc.out.bx) (fun e => HT.out.ne3 HPc.out.bx (by decide) e)).trans HPc.out.bx
        have rs2 : Rt W2 (.slice ra rn rc) L := HPc.out.rt.keep k2 (fun g c hc e => by have e : g = b := e; rw [e, HT.out.blk] at hc; cases hc)
        obtain ⟨a0, a1, a2, a3⟩ := cell4' xW2
        obtain ⟨c0, c1⟩ := cell2' bW2
        have RA := refAssign_any rs2.rs HT.out.tab HT.out.len HT.out.lim1 s HF.out.1
        have H2 := hide (And.intro ht2 (And.intro (HPe.out.turn HT.out k2) (And.intro bW2 rs2)))
        clear AS ht2 k2 xW2 bW2 rs2
        go_wp2_with fail
        refine RA.mono ?_; rintro e W3 ⟨u', rfl, hu', hor, k3⟩
        have hrt := rt_assign H2.out.2.2.2 k3 hu' hor H2.out.1.tab.ne
        obtain ⟨qr, qo, qc, equ, _⟩ := id hu'
        obtain ⟨qn, eqn⟩ : ∃ n, (stp L lim s).length = n := ⟨_, rfl⟩
        rw [eqn] at equ
        subst equ
        clear eqn
        have k4 : Kp Nu W3 (W3.alloc (.cells #[.int .i64 lim, .slice (some ⟨qr, qo, none⟩) qn qc] 29)) := Kp.alloc W3 _ Nu
        obtain ⟨d0, d1⟩ := cell2' (heap_alloc_new W3 (.cells #[.int .i64 lim, .slice (some ⟨qr, qo, none⟩) qn qc] 29))
        have bW4 := ((k3.andNu k4).block _ (blk_lt H2.out.2.2.1) (fun h => h)).trans H2.out.2.2.1
        obtain ⟨g0, g1⟩ := cell2' bW4
        have f0 := free3 bW4 0
        have f1 := free3 bW4 1
        have NU := fun W => num_any (cod L lim s) W
        have t1 : (cod L lim s == cod L lim s) = true := by simp
        clear RA
        go_wp2_with (go_at_call 29; refine (NU _).mono ?_; rintro e w' ⟨rfl, hw'⟩; obtain rfl := hw'.symm)
        have HE : Hid (PyI w (((W3.alloc (.cells #[.int .i64 lim, .slice (some ⟨qr, qo, none⟩) qn qc] 29)).setCell ⟨w.heap.size, 0, none⟩ (.int .i64 lim)).setCell ⟨w.heap.size, 1, none⟩ (.slice (some ⟨qr, qo, none⟩) qn qc)) b0 b lim la ln lc wa wc (i + 1)) := by
          obtain ⟨ht2, hpe2, bW2, rs2⟩ := H2.out
          have kS : Kp (fun q => q = w.heap.size) (W3.alloc (.cells #[.int .i64 lim, .slice (some ⟨qr, qo, none⟩) qn qc] 29)) (((W3.alloc (.cells #[.int .i64 lim, .slice (some ⟨qr, qo, none⟩) qn qc] 29)).setCell ⟨w.heap.size, 0, none⟩ (.int .i64 lim)).setCell ⟨w.heap.size, 1, none⟩ (.slice (some ⟨qr, qo, none⟩) qn qc)) := (Kp.setCell _ ⟨w.heap.size, 0, none⟩ _).trans (Kp.setCell _ ⟨w.heap.size, 1, none⟩ _) (fun _ _ e => e)
          have n26 : ∀ (g : Nat) (c : Array Value), (W3.alloc (.cells #[.int .i64 lim, .slice (some ⟨qr, qo, none⟩) qn qc] 29)).heap[g]? = some (.cells c 26 (0, 0)) → ¬ g = w.heap.size := fun g c hc e => by rw [e, bW4] at hc; cases hc
          refine hide ⟨bs, rs, some ⟨qr, qo, none⟩, qn, qc, stp L lim s, HF.out.2.1, by have := HF.out.2.2.1; omega, (hpe2.nu (k3.andNu k4)).setr bW4 kS, ⟨⟨B', v2, (ht2.nu (k3.andNu k4)).keepT kS (fun e => (ht2.nu (k3.andNu k4)).ne3 bW4 (by decide) (show w.heap.size = b from (show b = w.heap.size from e).symm)) n26⟩, ?_, (hrt.nu k4).keep kS n26⟩⟩
          rw [set3 (set3 bW4 0 _) 1 _]; rfl
        exact ⟨⟨i + 1, b, la, ln, lc, wa, wc, rfl, rfl, rfl, by go_num, by have := HF.out.2.2.2.1; omega, HE⟩, by simp [intOf]; have := HF.out.2.2.2.1; omega⟩
      have q1 : (s.kind == 1) = false := by simpa using e1
      by_cases e10 : s.kind = 10
      · have q10 : (s.kind == 10) = true := by simpa using e10
        clear e1 e10
        obtain ⟨B', v', ht⟩ := HPc.out.tb
        have CL := clone_any ht
        have HT := hide ht
        clear ht
        go_wp2_with fail
        refine CL.mono ?_; rintro e W2 ⟨b', vc, rfl, htc, k2⟩
        have AS := assign_any (HT.out.nu k2) s HF.out.1 (Nat.le_trans HT.out.low (Nat.le_of_lt (blk_lt (HT.out.nu k2).blk)))
        have xW2 := (k2.block _ (blk_lt HX.out) (fun h => h)).trans HX.out
        obtain ⟨a0, a1, a2, a3⟩ := cell4' xW2
        have H2 := hide (And.intro htc (And.intro k2 xW2))
        clear CL htc k2 xW2
        go_wp2_with fail
        refine AS.mono ?_; rintro e W3 ⟨rfl, v3, ht3, k3⟩
        have ht2 := HT.out.nu H2.out.2.1
        have hPc2 := HPc.out.nu H2.out.2.1
        have xW3 := (k3.block _ (blk_lt H2.out.2.2) (fun e => ht2.ne3 H2.out.2.2 (by decide) e)).trans H2.out.2.2
        have bW3 := (k3.block _ (blk_lt hPc2.bx) (fun e => ht2.ne3 hPc2.bx (by decide) e)).trans hPc2.bx
        have n26 : ∀ (g : Nat) (c : Array Value), W2.heap[g]? = some (.cells c 26 (0, 0)) → ¬ g = b := fun g c hc e => by rw [e, ht2.blk] at hc; cases hc
        have rt3 : Rt W3 (.slice ra rn rc) L := hPc2.rt.keep k3 n26
        have hbb : b ≠ b' := fun e => by
          have h1 := blk_lt HT.out.blk
          have h2 := H2.out.1.low
          omega
        have htc3 := H2.out.1.keepT k3 (fun e => hbb (show b' = b from e).symm) n26
        have hpe3 := (HPe.out.nu H2.out.2.1).turn ht2 k3
        have RA := refAssign_any rt3.rs HT.out.tab HT.out.len HT.out.lim1 s HF.out.1
        obtain ⟨g0, g1, g2, g3⟩ := cell4' xW3
        obtain ⟨c0, c1⟩ := cell2' bW3
        have H3 := hide (And.intro ht3 (And.intro htc3 (And.intro hpe3 (And.intro bW3 (And.intro rt3 (And.intro hbb (And.intro H2.out.1.low (And.intro H2.out.2.1.size k3.size))))))))
        clear AS ht3 k3 ht2 hPc2 xW3 bW3 n26 rt3 hbb htc3 hpe3
        go_wp2_with fail
        refine RA.mono ?_; rintro e W4 ⟨u', rfl, hu', hor, k4⟩
        have hrt := rt_assign H3.out.2.2.2.2.1 k4 hu' hor H3.out.1.tab.ne
        obtain ⟨qr, qo, qc, equ, _⟩ := id hu'
        obtain ⟨qn, eqn⟩ : ∃ n, (stp L lim s).length = n := ⟨_, rfl⟩
        rw [eqn] at equ
        subst equ
        clear eqn hor hu'
        obtain ⟨W5, hW5⟩ : ∃ W5, W4.alloc (.cells #[.int .i64 lim, .slice (some ⟨qr, qo, none⟩) qn qc] 29) = W5 := ⟨_, rfl⟩
        have k5 : Kp Nu W4 W5 := by rw [← hW5]; exact Kp.alloc W4 _ Nu
        have x5 : W5.heap[W4.heap.size]? = some (.cells #[.int .i64 lim, .slice (some ⟨qr, qo, none⟩) qn qc] 29 (0, 0)) := by rw [← hW5]; exact heap_alloc_new W4 _
        obtain ⟨bq, hbq⟩ : ∃ bq, W4.heap.size = bq := ⟨_, rfl⟩
        rw [hbq] at x5
        have NU := fun W => num_any (cod L lim s) W
        have t1 : (cod L lim s == cod L lim s) = true := by simp
        have H5 := hide (And.intro hrt (And.intro (k4.andNu k5) (And.intro x5 k5)))
        clear RA k4 hrt k5 x5
        go_wp2_with (first | (go_at_call 29; refine (NU _).mono ?_; rintro e w' ⟨rfl, hw'⟩; obtain rfl := hw'.symm) | (at_builtin; refine unhid ?_))
        clear hW5
        have hpe5 := H3.out.2.2.1.nu H5.out.2.1
        have kA : Kp Nu W5 (W5.alloc (.cells #[.pointer (some ⟨b, 0, none⟩)] 27)) := Kp.alloc W5 _ Nu
        have hz5 : w.heap.size + 1 ≤ W5.heap.size := by
          have h1 := blk_lt HPc.out.bx
          have h2 := H3.out.2.2.2.2.2.2.2.1
          have h3 := H3.out.2.2.2.2.2.2.2.2
          have h4 := H5.out.2.1.size
          omega
        have hln : ln ≤ i := HF.out.2.2.1
        have hin : i < n := HF.out.2.2.2.1
        refine wpList_append_own_at _ rfl _ _ 122 rfl (w.heap.size + 1) 27 i27 (.pointer none) 1 8 Tryd.underlying122 hi27 hz27 hy27 hw27 rfl (by decide) _ ln (ptrs bs) rfl (by have h := (hpe5.nu kA).lft; rw [HF.out.2.1] at h; exact h) ⟨W5.heap.size, 0, none⟩ 1 1 [.pointer (some ⟨b, 0, none⟩)] rfl rfl (World.news_of_block (heap_alloc_new W5 _)) (by simp [Value.oneCell']) (by unfold maxLen; omega) (by omega) (by simp; omega) ?_
        intro lv' W7 hown7 hg7 _ hbl7
        obtain ⟨la', lc', elv⟩ := own_slice hown7
        have kG := Kp.of_grown hg7
        have nq7 : ¬ some bq = (Value.slice la ln lc).ownBlock := fun e => by
          obtain ⟨_, c, hc⟩ := own_t (hpe5.nu kA).lft e.symm
          have h := (kA.block _ (blk_lt H5.out.2.2.1) (fun h => h)).trans H5.out.2.2.1
          rw [h] at hc; cases hc
        have x7 := (kG.block _ (blk_lt ((kA.block _ (blk_lt H5.out.2.2.1) (fun h => h)).trans H5.out.2.2.1)) nq7).trans ((kA.block _ (blk_lt H5.out.2.2.1) (fun h => h)).trans H5.out.2.2.1)
        obtain ⟨m0, m1⟩ := cell2' x7
        subst elv
        have H7 := hide (And.intro hown7 (And.intro kG (And.intro hbl7 (And.intro hpe5 (And.intro kA (And.intro hz5 (And.intro hln hin)))))))
        clear hown7 hg7 hbl7 kG nq7 x7 hpe5 kA hz5 hln hin
        go_wp2_with (at_builtin; refine unhid ?_)
        have kB : Kp Nu W7 (W7.alloc (.cells #[.int .i64 lim, .slice (some ⟨qr, qo, none⟩) qn qc] 29)) := Kp.alloc W7 _ Nu
        obtain ⟨hown7, kG, hbl7, hpe5, kA, hz5, hln, hin⟩ := H7.out
        have n27 : ∀ (g : Nat) (c : Array Value) (t : TypeId), (W5.alloc (.cells #[.pointer (some ⟨b, 0, none⟩)] 27)).heap[g]? = some (.cells c t (0, 0)) → t ≠ 27 → ¬ some g = (Value.slice la ln lc).ownBlock := fun g c t hc htt e => by
          obtain ⟨_, c', hc'⟩ := own_t (hpe5.nu kA).lft e.symm
          rw [hc] at hc'; cases hc'; exact htt rfl
        have was7 : W7.ownsRow (w.heap.size + 1) 29 2 (.slice wa ln wc) bs.length (refs lim rs) := own_keep (hpe5.nu kA).was (fun g e => by
          obtain ⟨_, c, hc⟩ := own_t (hpe5.nu kA).was e
          exact kG.block g (own_lt (hpe5.nu kA).was e) (n27 g c _ hc (by decide)))
        have was8 := own_keep was7 (fun g e => kB.block g (own_lt was7 e) (fun h => h))
        rw [HF.out.2.1] at was8
        have hz7 : w.heap.size + 1 ≤ W7.heap.size := Nat.le_trans hz5 (Nat.le_trans kA.size kG.size)
        refine wpList_append_own_at _ rfl _ _ 123 rfl (w.heap.size + 1) 29 i29 (.agg #[.int .i64 0, .slice none 0 0]) 2 32 Tryd.underlying123 hi29 hz29 hy29 hw29 rfl (by decide) _ ln (refs lim rs) rfl was8 ⟨W7.heap.size, 0, none⟩ 1 1 [.int .i64 lim, .slice (some ⟨qr, qo, none⟩) qn qc] rfl rfl (World.news_of_block (heap_alloc_new W7 _)) (by simp [Value.oneCell']) (by unfold maxLen; omega) (by omega) (by simp; omega) ?_
        intro wv' W9 hown9 hg9 _ _
        obtain ⟨wa', wc', ewv⟩ := own_slice hown9
        have kH := Kp.of_grown hg9
        have HE : Hid (PyI w W9 b0 b' lim la' (ln + 1) lc' wa' wc' (i + 1)) := by
          obtain ⟨ht3, htc3, hpe3, bW3, rt3, hbb, hlb, hs12, hs23⟩ := H3.out
          obtain ⟨hrt, k45, x5, k5⟩ := H5.out
          have eln := HF.out.2.1
          have n29 : ∀ (g : Nat) (c : Array Value) (t : TypeId), (W7.alloc (.cells #[.int .i64 lim, .slice (some ⟨qr, qo, none⟩) qn qc] 29)).heap[g]? = some (.cells c t (0, 0)) → t ≠ 29 → ¬ some g = (Value.slice wa ln wc).ownBlock := fun g c t hc htt e => by
            obtain ⟨_, c', hc'⟩ := own_t was8 e.symm
            rw [hc] at hc'; cases hc'; exact htt rfl
          have htc5 := (htc3.nu k45).nu kA
          have htc7 := htc5.keepT kG (n27 _ _ _ htc5.blk (by decide)) (fun g c hc => n27 g c _ hc (by decide))
          have htc8 := htc7.nu kB
          have htc9 := htc8.keepT kH (n29 _ _ _ htc8.blk (by decide)) (fun g c hc => n29 g c _ hc (by decide))
          have rt8 := ((((rt3.nu k45).nu kA)).keep kG (fun g c hc => n27 g c _ hc (by decide))).nu kB
          have rt9 := rt8.keep kH (fun g c hc => n29 g c _ hc (by decide))
          have bx6 := ((k45.andNu kA).block _ (blk_lt bW3) (fun h => h)).trans bW3
          have bx7 := (kG.block _ (blk_lt bx6) (n27 _ _ _ bx6 (by decide))).trans bx6
          have bx8 := (kB.block _ (blk_lt bx7) (fun h => h)).trans bx7
          have bx9 := (kH.block _ (blk_lt bx8) (fun e => by
            have h1 := (own_t was8 (Eq.symm e)).1
            omega)).trans bx8
          have hW1w : w.heap.size ≤ W1.heap.size := HPe.out.kp.size
          have P := hpe5.push (b' := b') (ht3.nu k45) (hrt.nu k5) kA kG (by rw [eln]; exact hown7) hbl7 kB kH (by rw [eln]; exact hown9) (.inr ⟨fun e => hbb e.symm, by omega, fun j bj hj => by
            obtain ⟨rj, hrj⟩ : ∃ rj, rs[j]? = some rj := ⟨_, List.getElem?_eq_getElem (by rw [HPe.out.len]; exact (List.getElem?_eq_some_iff.1 hj).1)⟩
            obtain ⟨_, _, _, _, _, t1, _⟩ := HPe.out.each j bj rj hj hrj
            have := blk_lt t1.blk
            omega⟩) (by omega)
          rw [ewv] at P
          refine hide ⟨bs ++ [b], rs ++ [.slice (some ⟨qr, qo, none⟩) qn qc], ra, rn, rc, L, by simp [eln], by omega, P, ⟨⟨_, _, htc9⟩, bx9, rt9⟩⟩
        have HIN := hide hin
        subst ewv
        clear hown7 kG hbl7 hpe5 kA hz5 hln hin n27 was7 was8 hz7 kB hown9 hg9 kH H7
        go_wp2
        exact ⟨⟨i + 1, b', la', ln + 1, lc', wa', wc', rfl, rfl, rfl, by go_num, by have := HIN.out; omega, HE⟩, by simp [intOf]; have := HIN.out; omega⟩
      have q10 : (s.kind == 10) = false := by simpa using e10
      by_cases e2 : s.kind = 2
      · have q2 : (s.kind == 2) = true := by simpa using e2
        clear e1 e10 e2
        obtain ⟨B', v', ht⟩ := HPc.out.tb
        have CO := cost_all ht s HF.out.1
        have HT := hide ht
        clear ht
        go_wp2_with fail
        refine CO.mono ?_; rintro e W2 ⟨rfl, k2⟩
        obtain ⟨a0, a1, a2, a3⟩ := cell4' ((k2.block _ (blk_lt HX.out) (fun h => h)).trans HX.out)
        obtain ⟨c0, c1⟩ := cell2' (HPc.out.nu k2).bx
        have RC := refCost_all (lim := lim) (HPc.out.nu k2).rt.rs HT.out.tab (by have := HT.out.len; have := HT.out.lim1; omega) s HF.out.1
        have H2 := hide k2
        clear CO k2
        go_wp2_with fail
        refine RC.mono ?_; rintro e W3 ⟨rfl, k3⟩
        have t0 : (cosN L s == cosN L s) = true := by simp
        have t1 : (cosE s == cosE s) = true := by simp
        have NU := num_any (cosE s) W3
        have HE : Hid (PyI w W3 b0 b lim la ln lc wa wc (i + 1)) := hide ⟨bs, rs, ra, rn, rc, L, HF.out.2.1, by have := HF.out.2.2.1; omega, HPe.out.nu (H2.out.andNu k3), HPc.out.nu (H2.out.andNu k3)⟩
        clear RC k3
        go_wp2_with (go_at_call 29; refine NU.mono ?_; rintro e w' ⟨rfl, rfl⟩)
        exact ⟨⟨i + 1, b, la, ln, lc, wa, wc, rfl, rfl, rfl, by go_num, by have := HF.out.2.2.2.1; omega, HE⟩, by simp [intOf]; have := HF.out.2.2.2.1; omega⟩
      have q2 : (s.kind == 2) = false := by simpa using e2
      by_cases e39 : 3 ≤ s.kind ∧ s.kind ≤ 9
      · have q3 : s.kind ≥ 3 := e39.1
        have q9 : s.kind ≤ 9 := e39.2
        have d3 : decide (3 ≤ s.kind) = true := by simpa using e39.1
        have d9 : decide (s.kind ≤ 9) = true := by simpa using e39.2
        clear e1 e10 e2 e39
        obtain ⟨B', v', ht⟩ := HPc.out.tb
        have LK := looks_any ht (HP.out W1 HPe.out.kp) _ HPc.out.rt.rs s HF.out.1
        clear ht
        go_wp2_with fail
        refine LK.mono ?_; rintro e W2 ⟨rfl, k2⟩
        have HE : Hid (PyI w W2 b0 b lim la ln lc wa wc (i + 1)) := hide ⟨bs, rs, ra, rn, rc, L, HF.out.2.1, by have := HF.out.2.2.1; omega, HPe.out.nu k2, HPc.out.nu k2⟩
        clear LK k2
        go_wp2
        exact ⟨⟨i + 1, b, la, ln, lc, wa, wc, rfl, rfl, rfl, by go_num, by have := HF.out.2.2.2.1; omega, HE⟩, by simp [intOf]; have := HF.out.2.2.2.1; omega⟩
      · have HE : Hid (PyI w W1 b0 b lim la ln lc wa wc (i + 1)) := hide ⟨bs, rs, ra, rn, rc, L, HF.out.2.1, by have := HF.out.2.2.1; omega, HPe.out, HPc.out⟩
        by_cases g3 : 3 ≤ s.kind
        · have d3 : decide (3 ≤ s.kind) = true := by simpa using g3
          have g9 : ¬ s.kind ≤ 9 := fun h => e39 ⟨g3, h⟩
          have d9 : decide (s.kind ≤ 9) = false := by simpa using g9
          clear e1 e10 e2 e39
          go_wp2
          exact ⟨⟨i + 1, b, la, ln, lc, wa, wc, rfl, rfl, rfl, by go_num, by have := HF.out.2.2.2.1; omega, HE⟩, by simp [intOf]; have := HF.out.2.2.2.1; omega⟩
        · have d3 : decide (3 ≤ s.kind) = false := by simpa using g3
          clear e1 e10 e2 e39
          go_wp2
          exact ⟨⟨i + 1, b, la, ln, lc, wa, wc, rfl, rfl, rfl, by go_num, by have := HF.out.2.2.2.1; omega, HE⟩, by simp [intOf]; have := HF.out.2.2.2.1; omega⟩
    · have hge : ¬ (i : Int) < (n : Int) := by omega
      obtain ⟨bs, rs, ra, rn, rc, L, ebs, hln, hPe, hPc⟩ := hP.out
      have HPe := hide hPe
      have HPc := hide hPc
      have hlnI : (ln : Int) ≤ 4398046510976 := by omega
      have HLN := hide ebs
      clear hPe hPc hP hln hlt
      generalize wr = wA at *
      go_wp2_with fail
      go_loopw [23] (fun jv wi => ∃ j : Nat, jv = .int .i64 (j : Int) ∧ j ≤ ln ∧ Hid (Kp Nu wA wi)) (fun jv _ => ln - (intOf jv).toNat)
      case atStart => exact ⟨0, rfl, Nat.zero_le _, hide (Kp.refl _ _)⟩
      case round =>
        obtain ⟨j, rfl, hj, hK⟩ := hrel
        generalize wr = wi at *
        have hj0 : (0 : Int) ≤ (j : Int) := Int.natCast_nonneg j
        by_cases hltj : j < ln
        · have hltjI := jlt hltj
          have HWJ := hide (wup1 hltj hlnI)
          have HJ := hide hltj
          have hpe := (HPe.out.nu hK.out).nu (Kp.refl Nu wi).drew
          obtain ⟨bj, hbj⟩ : ∃ bj, bs[j]? = some bj := ⟨_, List.getElem?_eq_getElem (by rw [HLN.out]; exact hltj)⟩
          obtain ⟨rj, hrj⟩ : ∃ rj, rs[j]? = some rj := ⟨_, List.getElem?_eq_getElem (by rw [hpe.len, HLN.out]; exact hltj)⟩
          have hlf := hpe.lft
          have hws := hpe.was
          rw [HLN.out] at hlf hws
          obtain ⟨gl, egl⟩ := own_some hlf (Nat.lt_of_le_of_lt (Nat.zero_le _) hltj)
          obtain ⟨gw, egw⟩ := own_some hws (Nat.lt_of_le_of_lt (Nat.zero_le _) hltj)
          subst egl
          subst egw
          have x0 := own_cl hlf (ptrs_at hbj)
          obtain ⟨f0, f1⟩ := refs_at (lim := lim) hrj
          have y0 := own_cl hws f0
          have y1 := own_cl hws f1
          obtain ⟨_, _, Bj, vj, Lj, t1, t2⟩ := hpe.each j bj rj hbj hrj
          have ST := stands_any t1 (HP.out wi.drew hpe.kp) rj t2.rs
          have HK := hide (hK.out.andNu (Kp.refl Nu wi).drew)
          obtain ⟨qr, qo, qc, cc, erj, _⟩ := t2
          obtain ⟨qn, eqn⟩ : ∃ n, Lj.length = n := ⟨_, rfl⟩
          rw [eqn] at erj
          subst erj
          clear hpe hbj hrj hlf hws f0 f1 t1 hK eqn hltj hj hlnI hSl hge hi hi0
          go_wp2_with fail
          go_still_tail 8, mixed
          change wpList _ _ _ _ _ wi.drew
          go_wp2_with fail
          refine ST.mono ?_; rintro e W5 ⟨rfl, k5⟩
          have HK5 := hide (HK.out.andNu k5)
          clear ST k5
          go_wp2
          rw [HWJ.out]
          exact ⟨⟨j + 1, jins j, HJ.out, HK5⟩, jmeas HJ.out⟩
        · have hgej := jge hltj
          have hpc := HPc.out.nu hK.out
          have hpe := HPe.out.nu hK.out
          obtain ⟨B', v', ht⟩ := hpc.tb
          obtain ⟨c0, c1⟩ := cell2' hpc.bx
          have ST := stands_any ht (HP.out wi hpe.kp) _ hpc.rt.rs
          have HK := hide hpe.kp
          clear hpc hpe ht hK
          go_wp2_with fail
          refine ST.mono ?_; rintro e W5 ⟨rfl, k5⟩
          have HK5 := hide (HK.out.andNu k5)
          clear ST k5
          go_wp2
          go_ret
          exact ⟨rfl, HK5.out⟩
end Go.Proofs.YtffcnonhhfhlhaaDoor.Rg
