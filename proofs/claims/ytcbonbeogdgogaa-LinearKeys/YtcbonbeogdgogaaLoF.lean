import Derived.Test.YtcbonbeogdgogaaLoD
namespace Go.Proofs.Ytcbonbeogdgogaa.Li
open Go.RowKit
set_option linter.unusedVariables false
theorem info4z : (Try.prog.info? 4).map (fun i => (i.zero, i.size, i.bytes)) = some (some (.bool false), 1, 1) := by kernel_rfl
/-- which numbers stand -/
structure Bo (w : World) (g N : Nat) (s : List Int) : Prop where
  mem : ∃ cur : Array Value, w.heap[g]? = some (.cells cur 4 (0, 0)) ∧ cur.size = N ∧ ∀ q, q < N → cur[q]? = some (.bool (inB (q : Int) s))
theorem Bo.lt {w : World} {g N : Nat} {s : List Int} (h : Bo w g N s) : g < w.heap.size := by
  obtain ⟨cur, h1, _⟩ := h.mem
  exact blk_lt h1
theorem Bo.nu {w w' : World} {g N : Nat} {s : List Int} (h : Bo w g N s) (k : Kp Nu w w') : Bo w' g N s := by
  obtain ⟨cur, h1, h2, h3⟩ := h.mem
  exact ⟨cur, box_k h1 k, h2, h3⟩
theorem Bo.at_ {w : World} {g N : Nat} {s : List Int} (h : Bo w g N s) {x : Int} (h0 : 0 ≤ x) (h1 : x < (N : Int)) : w.cell? ⟨g, x.toNat, none⟩ = some (.bool (inB x s)) := by
  obtain ⟨cur, p1, p2, p3⟩ := h.mem
  have := p3 x.toNat (by omega)
  rw [show ((x.toNat : Nat) : Int) = x by omega] at this
  exact cellAt p1 _ this
theorem Bo.free {w : World} {g N : Nat} {s : List Int} (h : Bo w g N s) (o : Nat) : w.frozen? ⟨g, o, none⟩ = false := by
  obtain ⟨cur, h1, _⟩ := h.mem
  exact free3 h1 o
theorem Bo.set {w : World} {g N : Nat} {s : List Int} (h : Bo w g N s) {x : Int} (h0 : 0 ≤ x) (h1 : x < (N : Int)) : Bo (w.setCell ⟨g, x.toNat, none⟩ (.bool true)) g N (s ++ [x]) := by
  obtain ⟨cur, p1, p2, p3⟩ := h.mem
  refine ⟨_, set3 p1 _ _, by simp [p2], fun q hq => ?_⟩
  by_cases e : q = x.toNat
  · subst e
    rw [Array.getElem?_setIfInBounds_self_of_lt (by omega)]
    have : inB ((x.toNat : Nat) : Int) (s ++ [x]) = true := by
      rw [show ((x.toNat : Nat) : Int) = x by omega]
      simp [inB]
    rw [this]
  · rw [Array.getElem?_setIfInBounds_ne (fun e' => e e'.symm), p3 q hq]
    have : ¬ (q : Int) = x := by omega
    simp [inB, this]
theorem bo_made {w1 : World} {base g N : Nat} (h : w1.ownsRow base 4 1 (.slice (some ⟨g, 0, none⟩) N N) N (madeCells (Value.bool false).cells (N * 1)).toList) : Bo w1 g N [] := by
  rcases h.2 with ⟨e, _⟩ | ⟨g', cap, cur, e, hb', hg, h1, h2, h3, h4⟩
  · cases e
  · cases e
    have hz : (Value.bool false).cells = #[.bool false] := rfl
    rw [hz, toList_madeCells_one, Nat.mul_one] at h4
    have hsz : cur.size = N := by
      have := congrArg List.length h4
      rw [List.length_take] at this
      simp at this
      omega
    refine ⟨cur, hg, hsz, fun q hq => ?_⟩
    have e := congrArg (fun l => l[q]?) h4
    rw [List.getElem?_take_of_lt hq, List.getElem?_replicate] at e
    simp only [hq, if_true] at e
    simpa [inB] using e
theorem take_snoc {o : List Int} {i : Nat} {x : Int} (hx : o[i]? = some x) : o.take (i + 1) = o.take i ++ [x] := by
  rw [List.take_add_one, hx]
  rfl
set_option maxRecDepth 100000 in
set_option maxHeartbeats 8000000 in
theorem stand35 (w : World) (u v : Value) (L : List Ca) (o : List Int) (hL : Cls w u L) (hO : Ns w v o) (hN : L.length ≤ 400) (hM : o.length ≤ 400) (bS : Nat) (hS : w.cell? ⟨bS, 0, none⟩ = some v) :
    Calls Try.prog 35 #[u, .slice (some ⟨bS, 0, none⟩) 1 1] w fun e w' => Ans (Lst L o o.length ∧ Whl L o L.length) e ∧ Kp Nu w w' := by
  obtain ⟨ua, uc, rfl⟩ := hL.slice
  obtain ⟨va, vc, rfl, _, _⟩ := id hO
  obtain ⟨N, eN⟩ : ∃ N, L.length = N := ⟨_, rfl⟩
  obtain ⟨M, eM⟩ : ∃ M, o.length = M := ⟨_, rfl⟩
  have HL := hide (And.intro hL (And.intro eN (And.intro hO eM)))
  rw [eN] at hN ⊢
  rw [eM] at hM hS ⊢
  have hNI : (N : Int) ≤ 400 := by omega
  have hMI : (M : Int) ≤ 400 := by omega
  have HS := hide hS
  clear hL hO eN eM hS
  have bad : ∀ (P : Prop), (Lst L o M ∧ Whl L o N → P) → ¬ P → ∀ (e : Ending) (W : World), e = .returned (.bool false) → Kp Nu w W → Ans (Lst L o M ∧ Whl L o N) e ∧ Kp Nu w W := fun P h1 h2 e W he hk => ⟨⟨false, he, by simp; exact fun h h' => h2 (h1 ⟨h, h'⟩)⟩, hk⟩
  have HBad := hide bad
  clear bad
  obtain ⟨z0, hzi, hz0, hz1, hz2⟩ := info_parts info4z
  go_enter Try.func35, Try.ntmps35
  go_wp2_with (at_make; refine wpList_make_full _ rfl _ _ 95 rfl w.heap.size 4 z0 _ 1 Try.underlying95 hzi hz0 hz1 _ _ _ _ N rfl rfl rfl rfl (by rw [hz2]; omega) (by unfold maxLen; omega) (Nat.le_refl _) ?_; intro w4 hrow4 hgr4)
  have H4 := hide (And.intro (Kp.of_grown hgr4) (bo_made hrow4))
  have k4 : Kp Nu w w4 := H4.out.1.mono (fun _ _ e => by cases e)
  have HB4 := hide (And.intro k4 H4.out.2)
  have hS4 := (World.cell?_of_block (k4.block _ (World.block_lt_of_cell? w _ HS.out) (fun h => h))).trans HS.out
  clear hrow4 hgr4 H4 k4
  go_loopw [17] (fun rv wr => ∃ r : Nat, rv = .int .i64 (r : Int) ∧ r ≤ 1 ∧ Hid (Kp Nu w wr ∧ Bo wr w.heap.size N (o.take (r * M)) ∧ Lst L o (r * M)) ∧ wr.cell? ⟨bS, 0, none⟩ = some (.slice va M vc)) (fun rv _ => 1 - (intOf rv).toNat)
  case atStart => exact ⟨0, rfl, by omega, hide ⟨HB4.out.1, by simpa using HB4.out.2, fun j x hj => by omega⟩, hS4⟩
  case round =>
    obtain ⟨r, rfl, hr, hI, hSr⟩ := hrel
    obtain ⟨wl, rfl⟩ : ∃ wl : World, wl = wr := ⟨_, rfl⟩
    have hr0 : (0 : Int) ≤ (r : Int) := by omega
    by_cases hr1 : r = 1
    · subst hr1
      have hge : ¬ (((1 : Nat) : Int) < 1) := by omega
      go_wp2
      go_loopw [55] (fun jv wr => ∃ j : Nat, jv = .int .i64 (j : Int) ∧ j ≤ N ∧ Hid (Kp Nu w wr ∧ Bo wr w.heap.size N o ∧ Whl L o j)) (fun jv _ => N - (intOf jv).toNat)
      case atStart => exact ⟨0, rfl, by omega, hide ⟨hI.out.1, by have h := hI.out.2.1; rw [Nat.one_mul, List.take_of_length_le (by rw [HL.out.2.2.2]; exact Nat.le_refl _)] at h; exact h, fun j x hj => by omega⟩⟩
      case round =>
        obtain ⟨j, rfl, hj, hJ⟩ := hrel
        have hj0 : (0 : Int) ≤ (j : Int) := by omega
        by_cases hlt : j < N
        · have hltI : (j : Int) < (N : Int) := by omega
          obtain ⟨c, hc⟩ : ∃ c, L[j]? = some c := ⟨_, List.getElem?_eq_getElem (by rw [HL.out.2.1]; exact hlt)⟩
          obtain ⟨bL, off, rfl, hR, ok⟩ := call_at (HL.out.1.nu hJ.out.1) rfl hc
          obtain ⟨r0, r1, r2, r3, r4, r5, r6, r7, r8, r9, r10, r11, r12⟩ := range_cells hR
          have etj : (j : Int).toNat = j := by omega
          have kA : Kp Nu wr (wr.alloc (.cells #[.int .u8 c.who, .int .u64 c.seq, .int .u8 c.k, .int .u64 c.key, .int .u64 c.hi, .slice c.va c.V.length c.vc, .slice c.oa c.O.length c.oc, .bool c.has, .int .u8 c.lim, .int .u8 c.st, .slice c.ya c.Y.length c.yc, .int .i64 c.beg, .int .i64 c.en] 30)) := Kp.alloc _ _ _
          have HA := hide (heap_new wr (.cells #[.int .u8 c.who, .int .u64 c.seq, .int .u8 c.k, .int .u64 c.key, .int .u64 c.hi, .slice c.va c.V.length c.vc, .slice c.oa c.O.length c.oc, .bool c.has, .int .u8 c.lim, .int .u8 c.st, .slice c.ya c.Y.length c.yc, .int .i64 c.beg, .int .i64 c.en] 30))
          have KN := known54 (wr.alloc (.cells #[.int .u8 c.who, .int .u64 c.seq, .int .u8 c.k, .int .u64 c.key, .int .u64 c.hi, .slice c.va c.V.length c.vc, .slice c.oa c.O.length c.oc, .bool c.has, .int .u8 c.lim, .int .u8 c.st, .slice c.ya c.Y.length c.yc, .int .i64 c.beg, .int .i64 c.en] 30)) c.who c.seq c.k c.key c.hi c.lim c.st c.beg c.en c.has c.va c.oa c.ya c.V.length c.vc c.O.length c.oc c.Y.length c.yc
          have HC := hide (And.intro hc (And.intro (hJ.out.1.andNu kA) (hJ.out.2.1.nu kA)))
          clear hc hR ok kA
          have good : (¬ c.en = -1 → ¬ c.k = 5 → (j : Int) ∈ o) → Whl L o (j + 1) := fun h q d hq hd h1 h2 => by
            by_cases e : q = j
            · subst e
              rw [HC.out.1] at hd
              cases hd
              exact h h1 h2
            · exact hJ.out.2.2 q d (by omega) hd h1 h2
          have HGood := hide good
          clear good
          go_wp2_with (guard_target =~ wpList _ _ _ ({ dst := _, op := Op.load 30 (Operand.tmp 11), type := _, pos := _, after := _, guard := _ } :: _) _ _; refine wpList_load_all 30 13 (.tmp 11) rfl rfl info30 _ Try.underlying30 rfl _ rfl HA.out rfl ?_)
          refine KN.mono ?_; rintro e w1 ⟨rfl, hk1⟩
          have hA1 := box_k HA.out hk1
          have a0 := cellAt hA1 0 (v := .int .u8 c.who) rfl
          have a1 := cellAt hA1 1 (v := .int .u64 c.seq) rfl
          have a2 := cellAt hA1 2 (v := .int .u8 c.k) rfl
          have a3 := cellAt hA1 3 (v := .int .u64 c.key) rfl
          have a4 := cellAt hA1 4 (v := .int .u64 c.hi) rfl
          have a5 := cellAt hA1 5 (v := .slice c.va c.V.length c.vc) rfl
          have a6 := cellAt hA1 6 (v := .slice c.oa c.O.length c.oc) rfl
          have a7 := cellAt hA1 7 (v := .bool c.has) rfl
          have a8 := cellAt hA1 8 (v := .int .u8 c.lim) rfl
          have a9 := cellAt hA1 9 (v := .int .u8 c.st) rfl
          have a10 := cellAt hA1 10 (v := .slice c.ya c.Y.length c.yc) rfl
          have a11 := cellAt hA1 11 (v := .int .i64 c.beg) rfl
          have a12 := cellAt hA1 12 (v := .int .i64 c.en) rfl
          have SC := scan28 w1 c.who c.seq c.k c.key c.hi c.lim c.st c.beg c.en c.has c.va c.oa c.ya c.V.length c.vc c.O.length c.oc c.Y.length c.yc
          have HK1 := hide (And.intro (HC.out.2.1.andNu hk1) (HC.out.2.2.nu hk1))
          clear KN hA1 hk1 r0 r1 r2 r3 r4 r5 r6 r7 r8 r9 r10 r11 r12
          by_cases hen : c.en = -1
          · have hn : (c.en != -1) = false := by simpa using hen
            have HE := hide hen
            clear hen SC
            go_wp2
            exact ⟨⟨j + 1, by go_num, by omega, hide ⟨HK1.out.1, HK1.out.2, HGood.out (fun h => absurd HE.out h)⟩⟩, by simp [intOf]; omega⟩
          have hn : (c.en != -1) = true := by simpa using hen
          have HE := hide hen
          clear hen
          go_wp2_with fail
          refine SC.mono ?_; rintro e w2 ⟨rfl, hk2⟩
          have hbo := HK1.out.2.nu hk2
          have tj := hbo.at_ hj0 hltI
          have HK2 := hide (And.intro (HK1.out.1.andNu hk2) hbo)
          rw [etj] at tj
          clear SC hk2 hbo a0 a1 a2 a3 a4 a5 a6 a7 a8 a9 a10 a11 a12
          by_cases h5 : c.k = 5
          · have e5 : (c.k == 5) = true := by simpa using h5
            have H5 := hide h5
            clear h5
            go_wp2
            exact ⟨⟨j + 1, by go_num, by omega, hide ⟨HK2.out.1, HK2.out.2, HGood.out (fun _ h => absurd H5.out h)⟩⟩, by simp [intOf]; omega⟩
          have e5 : (c.k == 5) = false := by simpa using h5
          have H5 := hide h5
          clear h5
          cases h3 : inB (j : Int) o with
          | true =>
            rw [h3] at tj
            have H3 := hide h3
            clear h3
            go_wp2
            exact ⟨⟨j + 1, by go_num, by omega, hide ⟨HK2.out.1, HK2.out.2, HGood.out (fun _ _ => of_decide_eq_true H3.out)⟩⟩, by simp [intOf]; omega⟩
          | false =>
            rw [h3] at tj
            have H3 := hide h3
            clear h3
            go_wp2
            go_ret
            exact HBad.out _ (fun h => h.2 j c hlt HC.out.1 HE.out H5.out) (of_decide_eq_false H3.out) _ _ rfl HK2.out.1
        · have hge2 : ¬ (j : Int) < (N : Int) := by omega
          obtain rfl : N = j := by omega
          go_wp2
          go_ret
          refine ⟨⟨true, rfl, ?_⟩, hJ.out.1⟩
          simp
          exact ⟨by have h := hI.out.2.2; rw [Nat.one_mul] at h; exact h, hJ.out.2.2⟩
    · obtain rfl : r = 0 := by omega
      have hlt0 : (((0 : Nat) : Int) < 1) := by omega
      rw [show ((0 : Nat) : Int) = (0 : Int) from rfl]
      go_wp2
      go_loopw [23] (fun iv wr => ∃ i : Nat, iv = .int .i64 (i : Int) ∧ i ≤ M ∧ Hid (Kp Nu w wr ∧ Bo wr w.heap.size N (o.take i) ∧ Lst L o i)) (fun iv _ => M - (intOf iv).toNat)
      case atStart => exact ⟨0, rfl, by omega, hide ⟨hI.out.1, by simpa using hI.out.2.1, fun j x hj => by omega⟩⟩
      case round =>
        obtain ⟨i, rfl, hi, hJ⟩ := hrel
        have hi0 : (0 : Int) ≤ (i : Int) := by omega
        by_cases hlt : i < M
        · have hltI : (i : Int) < (M : Int) := by omega
          obtain ⟨x, hx⟩ : ∃ x, o[i]? = some x := ⟨_, List.getElem?_eq_getElem (by rw [HL.out.2.2.2]; exact hlt)⟩
          obtain ⟨bO, rfl, kx⟩ := (HL.out.2.2.1.nu hJ.out.1).at_ hx
          have eti : (i : Int).toNat = i := by omega
          have HX := hide hx
          clear hx
          by_cases h1 : x < 0
          · have d1 : decide (x < 0) = true := by simpa using h1
            have H1 := hide h1
            clear h1
            go_wp2
            go_ret
            exact HBad.out (0 ≤ x) (fun h => (h.1 i x hlt HX.out).1) (by have := H1.out; omega) _ _ rfl hJ.out.1
          have d1 : decide (x < 0) = false := by simpa using h1
          by_cases h2 : x ≥ (N : Int)
          · have d2 : decide (x ≥ (N : Int)) = true := by simpa using h2
            have d2' : decide ((N : Int) ≤ x) = true := by simpa using h2
            have H2 := hide (And.intro h1 h2)
            clear h1 h2
            go_wp2
            go_ret
            refine HBad.out _ (fun h => (h.1 i x hlt HX.out).2.1) ?_ _ _ rfl hJ.out.1
            rintro ⟨c, hc, _⟩
            have := (List.getElem?_eq_some_iff.1 hc).1
            have := HL.out.2.1
            have := H2.out
            omega
          have d2 : decide (x ≥ (N : Int)) = false := by simpa using h2
          have d2' : decide ((N : Int) ≤ x) = false := by simpa using h2
          have hx0 : 0 ≤ x := by omega
          have hxN : x < (N : Int) := by omega
          obtain ⟨c, hc⟩ : ∃ c, L[x.toNat]? = some c := ⟨_, List.getElem?_eq_getElem (by rw [HL.out.2.1]; omega)⟩
          obtain ⟨bL, off, rfl, hR, ok⟩ := call_at (HL.out.1.nu hJ.out.1) rfl hc
          obtain ⟨r0, r1, r2, r3, r4, r5, r6, r7, r8, r9, r10, r11, r12⟩ := range_cells hR
          have sx := hJ.out.2.1.at_ hx0 hxN
          have SC := scan28 wr c.who c.seq c.k c.key c.hi c.lim c.st c.beg c.en c.has c.va c.oa c.ya c.V.length c.vc c.O.length c.oc c.Y.length c.yc
          have HC := hide hc
          clear hc hR ok h1 h2
          cases h3 : inB x (o.take i) with
          | true =>
            rw [h3] at sx
            have H3 := hide h3
            clear h3 SC
            go_wp2
            go_ret
            exact HBad.out _ (fun h => (h.1 i x hlt HX.out).2.2) (by have := of_decide_eq_true H3.out; simpa using this) _ _ rfl hJ.out.1
          | false =>
            rw [h3] at sx
            have H3 := hide h3
            clear h3
            go_wp2_with fail
            refine SC.mono ?_; rintro e w1 ⟨rfl, hk1⟩
            have hbo := hJ.out.2.1.nu hk1
            have tx := hbo.at_ hx0 hxN
            have tf := hbo.free x.toNat
            have H1 := hide (And.intro (hJ.out.1.andNu hk1) hbo)
            clear SC hk1 hbo sx r0 r1 r2 r3 r4 r5 r6 r7 r8 r9 r10 r11 r12
            by_cases h5 : c.k = 5
            · have e5 : (c.k == 5) = true := by simpa using h5
              have H5 := hide h5
              clear h5
              go_wp2
              go_ret
              refine HBad.out _ (fun h => (h.1 i x hlt HX.out).2.1) ?_ _ _ rfl H1.out.1
              rintro ⟨d, hd, h⟩
              rw [HC.out] at hd
              cases hd
              exact h H5.out
            · have e5 : (c.k == 5) = false := by simpa using h5
              have H5 := hide h5
              clear h5
              go_wp2
              have hl := hJ.out.2.2.step HX.out hx0 ⟨c, HC.out, H5.out⟩ (of_decide_eq_false H3.out)
              have hb := H1.out.2.set hx0 hxN
              rw [← take_snoc HX.out] at hb
              exact ⟨⟨i + 1, by go_num, by omega, hide ⟨H1.out.1.andSet _ _ (.inl (Nat.le_refl _)), hb, hl⟩⟩, by simp [intOf]; omega⟩
        · have hge : ¬ (i : Int) < (M : Int) := by omega
          obtain rfl : M = i := by omega
          go_wp2
          have hk := hJ.out.1
          refine ⟨⟨1, rfl, by omega, hide ⟨hk, by simpa using hJ.out.2.1, by simpa using hJ.out.2.2⟩, (World.cell?_of_block (hk.block _ (World.block_lt_of_cell? w _ HS.out) (fun h => h))).trans HS.out⟩, by simp [intOf]⟩
end Go.Proofs.Ytcbonbeogdgogaa.Li
