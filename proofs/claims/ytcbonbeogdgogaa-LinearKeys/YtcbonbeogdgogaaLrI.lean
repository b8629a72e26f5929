import Derived.Test.YtcbonbeogdgogaaLrH
import Derived.Deep.RegionLaw
import Derived.StillTailTactics
namespace Go.Proofs.Ytcbonbeogdgogaa.Li
open Go.RowKit
set_option linter.unusedVariables false
theorem Sg.same {w w8 : World} {b : Nat} {L : List Ca} {M i j l : Nat} {cv : Value} {sa fa : Option Addr} {cS cF : Nat} {rr : List Nat} (h : Sg w w8 b L M i j l cv sa fa cS cF rr) (e : bset (kns L) (l + 1) = bset (kns L) l) : Sg w w8 b L M i j (l + 1) cv sa fa cS cF rr :=
  ⟨h.kp, by rw [e]; exact h.box, h.dead, h.cq, h.st, h.fi, h.rs, h.len, h.psz, h.lt⟩
/-- a call at a step of a region that draws -/
theorem step_callL {P : Program} {ops : Array Oper} {o : Oper} {a : Act} {w : World} {K : Act → World → Prop} {Q : Exit → Act → World → Prop} {E : Prop} (hgd : o.guard = none) (f : FuncId) (args : Array Value) (hx : (execOp a.eval o).run P w = .ok (.enter f args) w) (R : Value → World → Prop) (hC : Calls P f args w fun e w' => ∃ v, e = .returned v ∧ R v w') (h : ∀ v w', R v w' → K (a.put o.dst v) w') :
    if Region.wanted o (yielded ops a.tmps) = true then Oper.wp P o a w K Q else E := by
  have hw : Region.wanted o (yielded ops a.tmps) = true := by simp [Region.wanted, hgd]
  rw [if_pos hw]
  unfold Oper.wp
  rw [hx, Oper.upon_enter]
  refine hC.mono ?_
  rintro e w' ⟨v, rfl, hr⟩
  exact h v w' hr
set_option maxRecDepth 100000 in
set_option maxHeartbeats 8000000 in
theorem searchOf61 (w : World) (u : Value) (L : List Ca) (hL : Cls w u L) (hN : L.length ≤ 16) :
    Calls Try.prog 61 #[u] w fun e w' => ∃ b sa fa cS cF, e = .returned (.pointer (some ⟨b, 0, none⟩)) ∧ w.heap.size < b ∧ Sr w' w'.heap.size b w.heap.size (schOf L) sa fa cS cF [] none 0 (fun _ => 0) ∧ Kp Nu w w' := by
  have mixed : Try.prog.follows .mixedOrders = true := by kernel_rfl
  obtain ⟨ua, uc, rfl⟩ := hL.slice
  obtain ⟨N, eN⟩ : ∃ N, L.length = N := ⟨_, rfl⟩
  obtain ⟨M, eM⟩ : ∃ M, 2 ^ N = M := ⟨_, rfl⟩
  have HL := hide (And.intro hL (And.intro eN eM))
  rw [eN] at hN ⊢
  have hNI : (N : Int) ≤ 16 := by omega
  have hM16 : M ≤ 65536 := by rw [← eM]; exact two16 hN
  have eMI : (2 : Int) ^ N = (M : Int) := by rw [← eM]; simp
  have ewM : IntKind.i64.wrap (M : Int) = (M : Int) := by rw [IntKind.wrap_i64]; omega
  have etN : (N : Int).toNat = N := by omega
  have hN0 : (0 : Int) ≤ (N : Int) := by omega
  clear hL eN
  obtain ⟨z0, hzi, hz0, hz1, hz2⟩ := info_parts info91z
  obtain ⟨y0, hyi, hy0, hy1, hy2⟩ := info_parts info39z
  go_enter Try.func61, Try.ntmps61
  go_wp2_with (at_make; refine wpList_make_full _ rfl _ _ 92 rfl w.heap.size 91 z0 _ 1 Try.underlying92 hzi hz0 hz1 _ _ _ _ M rfl rfl rfl rfl (by rw [hz2]; omega) (by unfold maxLen; omega) (Nat.le_refl _) ?_; intro w4 hrow4 hgr4)
  have hd4 := dead_made hrow4
  have k4 : Kp Nu w w4 := (Kp.of_grown hgr4).mono (fun _ _ e => by cases e)
  have hlt4 : w.heap.size < w4.heap.size := by obtain ⟨cur, h1, _⟩ := hd4; exact blk_lt h1
  obtain ⟨w5, e5⟩ : ∃ w5, w4.alloc (.cells #[.slice none 0 0, .slice none 0 0, .int .u32 0, .slice (some ⟨w.heap.size, 0, none⟩) M M, .slice none 0 0] 94) = w5 := ⟨_, rfl⟩
  have k5 : Kp Nu w4 w5 := by rw [← e5]; exact Kp.alloc _ _ _
  have b5 : w5.heap[w4.heap.size]? = some (.cells #[.slice none 0 0, .slice none 0 0, .int .u32 0, .slice (some ⟨w.heap.size, 0, none⟩) M M, .slice none 0 0] 94 (0, 0)) := by rw [← e5]; exact heap_new w4 _
  have hsz5 : w5.heap.size = w4.heap.size + 1 := by rw [← e5]; exact World.size_alloc _ _
  have CO := cellsOf87 w5 _ L (HL.out.1.nu (k4.andNu k5)) (by rw [HL.out.2.1]; exact hN)
  rw [HL.out.2.1] at CO
  have H5 := hide (And.intro hd4 (And.intro (k4.andNu k5) (And.intro k5 (And.intro b5 (And.intro hlt4 hsz5)))))
  clear hrow4 hgr4 hd4 k4 k5 b5 hlt4 hsz5
  go_wp2_with fail
  rw [e5]
  refine CO.mono ?_; rintro e w6 ⟨cv, rfl, hcv, hk6⟩
  obtain ⟨b, eb⟩ : ∃ b, w4.heap.size = b := ⟨_, rfl⟩
  have H0 : Hid (Sg w w6 b L M 0 0 0 cv none none 0 0 []) := by
    obtain ⟨⟨cur, q1, q2⟩, q3, q4, q5, q6, q7⟩ := H5.out
    rw [eb] at q5 q6 q7
    exact hide ⟨q3.andNu hk6, box_k q5 hk6, ⟨cur, box_k (box_k q1 q4) hk6, q2⟩, by rw [← q7]; exact hcv, ⟨rfl, .inl ⟨rfl, rfl⟩⟩, ⟨rfl, .inl ⟨rfl, rfl⟩⟩, ⟨fun k a h => by simp at h⟩, rfl, by have := hk6.size; omega, q6⟩
  rw [eb]
  clear CO hcv hk6 H5 eb e5
  go_wp2
  go_loopw [17] (fun iv wr => ∃ (i : Nat) (sa fa : Option Addr) (cS cF : Nat) (rr : List Nat), iv = .int .i64 (i : Int) ∧ i ≤ N ∧ Hid (Sg w wr b L M i i i cv sa fa cS cF rr)) (fun iv _ => N - (intOf iv).toNat)
  case atStart => exact ⟨0, none, none, 0, 0, [], rfl, Nat.zero_le _, H0⟩
  case round =>
    clear H0
    obtain ⟨i, sa, fa, cS, cF, rr, rfl, hi, hI⟩ := hrel
    have hi0 : (0 : Int) ≤ (i : Int) := by omega
    have eti : (i : Int).toNat = i := by omega
    by_cases hlt : i < N
    · have hltI : (i : Int) < (N : Int) := by omega
      have hi32 : (i : Int) ≤ 32 := by omega
      obtain ⟨c, hc⟩ : ∃ c, L[i]? = some c := ⟨_, List.getElem?_eq_getElem (by rw [HL.out.2.1]; exact hlt)⟩
      obtain ⟨bL, off, cap, eu, hR, ok⟩ := cls_at (HL.out.1.nu hI.out.kp) hc
      rw [HL.out.2.1] at eu
      simp only [Value.slice.injEq, true_and] at eu
      obtain ⟨rfl, rfl⟩ := eu
      obtain ⟨r0, r1, r2, r3, r4, r5, r6, r7, r8, r9, r10, r11, r12⟩ := range_cells hR
      obtain ⟨wa, ea⟩ : ∃ wa, wr.alloc (.cells c.cells.toArray 30) = wa := ⟨_, rfl⟩
      obtain ⟨bc, ebc⟩ : ∃ bc, wr.heap.size = bc := ⟨_, rfl⟩
      have kA : Kp Nu wr wa := by rw [← ea]; exact Kp.alloc _ _ _
      have bA : wa.heap[bc]? = some (.cells c.cells.toArray 30 (0, 0)) := by rw [← ea, ← ebc]; exact heap_new wr _
      have HSb : ∀ Z : World, Z.heap[bc]? = some (.cells c.cells.toArray 30 (0, 0)) → (Z.cell? ⟨bc, 0, none⟩ = some (.int .u8 c.who) ∧ Z.cell? ⟨bc, 1, none⟩ = some (.int .u64 c.seq) ∧ Z.cell? ⟨bc, 2, none⟩ = some (.int .u8 c.k) ∧ Z.cell? ⟨bc, 3, none⟩ = some (.int .u64 c.key) ∧ Z.cell? ⟨bc, 4, none⟩ = some (.int .u64 c.hi) ∧ Z.cell? ⟨bc, 5, none⟩ = some (.slice c.va c.V.length c.vc) ∧ Z.cell? ⟨bc, 6, none⟩ = some (.slice c.oa c.O.length c.oc) ∧ Z.cell? ⟨bc, 7, none⟩ = some (.bool c.has) ∧ Z.cell? ⟨bc, 8, none⟩ = some (.int .u8 c.lim) ∧ Z.cell? ⟨bc, 9, none⟩ = some (.int .u8 c.st) ∧ Z.cell? ⟨bc, 10, none⟩ = some (.slice c.ya c.Y.length c.yc) ∧ Z.cell? ⟨bc, 11, none⟩ = some (.int .i64 c.beg) ∧ Z.cell? ⟨bc, 12, none⟩ = some (.int .i64 c.en)) := fun Z q => ⟨cellAt q 0 rfl, cellAt q 1 rfl, cellAt q 2 rfl, cellAt q 3 rfl, cellAt q 4 rfl, cellAt q 5 rfl, cellAt q 6 rfl, cellAt q 7 rfl, cellAt q 8 rfl, cellAt q 9 rfl, cellAt q 10 rfl, cellAt q 11 rfl, cellAt q 12 rfl⟩
      have gA := hI.out.nu kA
      have HO : ∀ Z, Kp Nu wa Z → Z.ownsRow (b + 1) 39 1 (.slice sa i cS) i (srow (L.length + 1) rr) := fun Z q => (gA.nu q).st
      have HX : ∀ Z, Kp Nu wa Z → Z.heap[b]? = some (.cells #[.slice sa i cS, .slice fa i cF, .int .u32 (bset (kns L) i : Int), .slice (some ⟨w.heap.size, 0, none⟩) M M, .slice none 0 0] 94 (0, 0)) := fun Z q => (gA.nu q).box
      have hszA : b + 1 ≤ wa.heap.size := gA.psz
      have okA := ok.nu kA
      have ST := fun Z (q : Kp Nu wa Z) => (stepsOf88 Z c cv (cqs L) (Cq.of_own (gA.nu q).cq (by rw [cqs_len]; omega) (cqs_ok (cls_ok (HL.out.1.nu (gA.nu q).kp)))) (okA.nu q) (by rw [cqs_len, HL.out.2.1]; omega)).mono (fun e w' r => (by
        obtain ⟨e1, e2, e3⟩ := r
        exact ⟨_, e1, _, rfl, ⟨Nat.le_trans (Nat.le_trans hszA q.size) (Nat.le_succ _), e2⟩, q.andNu e3⟩ : ∃ v, e = .returned v ∧ ∃ ga, v = .slice (some ⟨ga, 0, none⟩) (cqs L).length (cqs L).length ∧ Hid (b + 1 ≤ ga ∧ Ir w' ga (cqs L).length (stT (cvs L) c) (cqs L).length) ∧ Kp Nu wa w'))
      rw [cqs_len, HL.out.2.1] at ST
      have s1 : wa.cell? ⟨b, 0, none⟩ = some (.slice sa i cS) := cellAt gA.box 0 rfl
      obtain ⟨x0, x1, x2, x3, x4, x5, x6, x7, x8, x9, x10, x11, x12⟩ := HSb wa bA
      have HC := hide (And.intro hc (And.intro okA gA))
      clear hc ok kA hR gA okA
      go_wp2_with fail
      rw [show wr.alloc (.cells #[.int .u8 c.who, .int .u64 c.seq, .int .u8 c.k, .int .u64 c.key, .int .u64 c.hi, .slice c.va c.V.length c.vc, .slice c.oa c.O.length c.oc, .bool c.has, .int .u8 c.lim, .int .u8 c.st, .slice c.ya c.Y.length c.yc, .int .i64 c.beg, .int .i64 c.en] 30) = wa from ea]
      try rw [ebc]
      go_region_law (first | (refine step_callL (by rfl) 88 #[.agg #[.int .u8 c.who, .int .u64 c.seq, .int .u8 c.k, .int .u64 c.key, .int .u64 c.hi, .slice c.va c.V.length c.vc, .slice c.oa c.O.length c.oc, .bool c.has, .int .u8 c.lim, .int .u8 c.st, .slice c.ya c.Y.length c.yc, .int .i64 c.beg, .int .i64 c.en], cv] (by go_simp; first | done | (with_reducible rfl)) _ (ST _ (Kp.refl _ _).drew) ?_; rintro v7 w7 ⟨ga, rfl, hga, hk7⟩; have s7 : w7.cell? ⟨b, 0, none⟩ = some (.slice sa i cS) := cellAt (HX _ hk7) 0 rfl; have s7a : ∀ o, (w7.alloc o).cell? ⟨b, 0, none⟩ = some (.slice sa i cS) := fun o => cellAt (HX _ (hk7.andAlloc o)) 0 rfl) | (refine step_append_lies _ (by rfl) _ _ _ (by rfl) (b + 1) 39 y0 _ 1 24 Try.underlying48 hyi hy0 hy1 hy2 rfl (by omega) (.slice sa i cS) i (srow (L.length + 1) rr) (by rfl) ((HO _ hk7).alloc _) ⟨w7.heap.size, 0, none⟩ 1 1 [.slice (some ⟨ga, 0, none⟩) (N + 1) (N + 1)] (by rfl) (by rfl) (World.news_of_block (heap_new w7 _)) (by simp [Value.oneCell']) (by omega) (by unfold maxLen; omega) (by omega) (by rw [World.size_alloc]; have := hk7.size; omega) _ rfl ?_; intro g8 cap8 w8 hown8 hgrow8 hat8 hlt8; have hb8 := KT.grown ((HO _ hk7).alloc _) hgrow8 _ _ _ (by decide) (HX _ (hk7.andAlloc _)); have hc8 := KT.grown ((HO _ hk7).alloc _) hgrow8 _ _ _ (by decide) (box_k bA (hk7.andAlloc _)); have f8 := free3 hb8 0; have y8 := cellAt hb8 0 (v := .slice sa i cS) rfl))
      all_goals
        have G6 := ((HC.out.2.2.nu hk7).nu (Kp.alloc w7 (.cells #[.slice (some ⟨ga, 0, none⟩) (N + 1) (N + 1)] 39) Nu)).six HC.out.1 hga.out.1 (by
          have q := hga.out.2
          rw [← HL.out.2.1] at q
          exact q.nu (Kp.alloc _ _ _)) (by rw [HL.out.2.1] at hown8 ⊢; exact hown8) hgrow8
        obtain ⟨w9, e9⟩ : ∃ w9, w8.setCell ⟨b, 0, none⟩ (.slice (some ⟨g8, 0, none⟩) (i + 1) cap8) = w9 := ⟨_, rfl⟩
        have b9 : w9.heap[bc]? = some (.cells c.cells.toArray 30 (0, 0)) := by rw [← e9]; exact KT.set hb8 _ _ _ (by decide) hc8
        rw [e9] at G6
        have hszB : b + 1 ≤ w9.heap.size := G6.psz
        have HO2 : ∀ Z, Kp Nu w9 Z → Z.ownsRow (b + 1) 91 1 (.slice fa i cF) i (brow L i) := fun Z q => (G6.nu q).fi
        have HX2 : ∀ Z, Kp Nu w9 Z → Z.heap[b]? = some (.cells #[.slice (some ⟨g8, 0, none⟩) (i + 1) cap8, .slice fa i cF, .int .u32 (bset (kns L) i : Int), .slice (some ⟨w.heap.size, 0, none⟩) M M, .slice none 0 0] 94 (0, 0)) := fun Z q => (G6.nu q).box
        have TB := fun Z (q : Kp Nu w9 Z) => (thoseBefore89 Z c _ L (HL.out.1.nu (G6.nu q).kp) (by rw [HL.out.2.1]; exact hN)).mono (fun e w' r => (by
          obtain ⟨e1, e3⟩ := r
          exact ⟨_, e1, rfl, q.andNu e3⟩ : ∃ v, e = .returned v ∧ v = .int .u32 (bset (befs L c) L.length : Int) ∧ Kp Nu w9 w'))
        rw [HL.out.2.1] at TB
        have t1 : w9.cell? ⟨b, 1, none⟩ = some (.slice fa i cF) := cellAt G6.box 1 rfl
        clear x0 x1 x2 x3 x4 x5 x6 x7 x8 x9 x10 x11 x12 s1 s7 s7a y8 f8 HO HX ST hszA hown8 hgrow8 hat8 hlt8 hb8 hc8 hga hk7 bA
        obtain ⟨x0, x1, x2, x3, x4, x5, x6, x7, x8, x9, x10, x11, x12⟩ := HSb w9 b9
        have HG := hide (And.intro G6 b9)
        clear G6
        go_wp2_with fail
        try rw [e9]
        go_region_law (first | (refine step_callL (by rfl) 89 #[.agg #[.int .u8 c.who, .int .u64 c.seq, .int .u8 c.k, .int .u64 c.key, .int .u64 c.hi, .slice c.va c.V.length c.vc, .slice c.oa c.O.length c.oc, .bool c.has, .int .u8 c.lim, .int .u8 c.st, .slice c.ya c.Y.length c.yc, .int .i64 c.beg, .int .i64 c.en], .slice (some ⟨bL, off, none⟩) N uc] (by go_simp; first | done | (with_reducible rfl)) _ (TB _ (Kp.refl _ _).drew) ?_; rintro v10 w10 ⟨rfl, hk10⟩; have s10 : w10.cell? ⟨b, 1, none⟩ = some (.slice fa i cF) := cellAt (HX2 _ hk10) 1 rfl; have s10a : ∀ o, (w10.alloc o).cell? ⟨b, 1, none⟩ = some (.slice fa i cF) := fun o => cellAt (HX2 _ (hk10.andAlloc o)) 1 rfl) | (refine step_append_lies _ (by rfl) _ _ _ (by rfl) (b + 1) 91 z0 _ 1 4 Try.underlying92 hzi hz0 hz1 hz2 rfl (by omega) (.slice fa i cF) i (brow L i) (by rfl) ((HO2 _ hk10).alloc _) ⟨w10.heap.size, 0, none⟩ 1 1 [.int .u32 (bset (befs L c) N : Int)] (by rfl) (by rfl) (World.news_of_block (heap_new w10 _)) (by simp [Value.oneCell']) (by omega) (by unfold maxLen; omega) (by omega) (by rw [World.size_alloc]; have := hk10.size; omega) _ rfl ?_; intro g11 cap11 w11 hown11 hgrow11 hat11 hlt11; have hb11 := KT.grown ((HO2 _ hk10).alloc _) hgrow11 _ _ _ (by decide) (HX2 _ (hk10.andAlloc _)); have hc11 := KT.grown ((HO2 _ hk10).alloc _) hgrow11 _ _ _ (by decide) (box_k b9 (hk10.andAlloc _)); have f11 := free3 hb11 1; have y11 := cellAt hb11 1 (v := .slice fa i cF) rfl))
        all_goals
          have G7 := ((HG.out.1.nu hk10).nu (Kp.alloc w10 (.cells #[.int .u32 (bset (befs L c) N : Int)] 91) Nu)).seven HC.out.1 (by rw [HL.out.2.1]; exact hown11) hgrow11
          obtain ⟨w12, e12⟩ : ∃ w12, w11.setCell ⟨b, 1, none⟩ (.slice (some ⟨g11, 0, none⟩) (i + 1) cap11) = w12 := ⟨_, rfl⟩
          have b12 : w12.heap[bc]? = some (.cells c.cells.toArray 30 (0, 0)) := by rw [← e12]; exact KT.set hb11 _ _ _ (by decide) hc11
          rw [e12] at G7
          try rw [e12]
          have KN := known54 w12 c.who c.seq c.k c.key c.hi c.lim c.st c.beg c.en c.has c.va c.oa c.ya c.V.length c.vc c.O.length c.oc c.Y.length c.yc
          have H12 := hide (And.intro G7 b12)
          clear x0 x1 x2 x3 x4 x5 x6 x7 x8 x9 x10 x11 x12 t1 s10 s10a y11 f11 HO2 HX2 TB hszB hown11 hgrow11 hat11 hlt11 hb11 hc11 hk10 G7 b12 b9 HG
          go_wp2_with (guard_target =~ wpList _ _ _ ({ dst := _, op := Op.load 30 (Operand.tmp 6), type := _, pos := _, after := _, guard := _ } :: _) _ _; refine wpList_load_all 30 13 (.tmp 6) rfl rfl info30 _ Try.underlying30 rfl _ rfl H12.out.2 rfl ?_)
          try rw [e12]
          refine KN.mono ?_; rintro e w13 ⟨rfl, hk13⟩
          have G8 := H12.out.1.nu hk13
          by_cases hen : c.en = -1
          · have hn : (c.en != -1) = false := by simpa using hen
            have HN : Hid (Sg w w13 b L M (i + 1) (i + 1) (i + 1) cv (some ⟨g8, 0, none⟩) (some ⟨g11, 0, none⟩) cap8 cap11 (rr ++ [ga])) := hide (G8.same (bset_out (fun q => (kns_iff HC.out.1).1 q hen)))
            clear KN hk13 G8 hen
            go_wp2
            exact ⟨⟨i + 1, _, _, _, _, _, by go_num, by omega, HN⟩, by simp [intOf]; omega⟩
          · have hn : (c.en != -1) = true := by simpa using hen
            have m2 : w13.cell? ⟨b, 2, none⟩ = some (.int .u32 (bset (kns L) i : Int)) := cellAt G8.box 2 rfl
            have f2 := free3 G8.box 2
            have hlb : bset (kns L) i < 65536 := Nat.lt_of_lt_of_le (bset_lt _ i) (two17 (by omega))
            have eor := bit_orn (st := bset (kns L) i) (k := i) (by omega) (by omega)
            rw [← bset_in ((kns_iff HC.out.1).2 hen)] at eor
            have HN : Hid (Sg w (w13.drew.setCell ⟨b, 2, none⟩ (.int .u32 (bset (kns L) (i + 1) : Int))) b L M (i + 1) (i + 1) (i + 1) cv (some ⟨g8, 0, none⟩) (some ⟨g11, 0, none⟩) cap8 cap11 (rr ++ [ga])) := hide (G8.nu (kp_drawn w13)).nine
            clear KN hk13 G8 hen hlb
            go_wp2
            go_still_tail 9, mixed
            go_wp2
            exact ⟨⟨i + 1, some ⟨g8, 0, none⟩, some ⟨g11, 0, none⟩, cap8, cap11, rr ++ [ga], by go_num, by omega, HN⟩, by simp [intOf]; omega⟩
    · have hge : ¬ (i : Int) < (N : Int) := by omega
      obtain rfl : i = N := by omega
      go_wp2
      go_ret
      have q := hI.out
      rw [← HL.out.2.1] at q
      exact ⟨b, rfl, q.lt, ⟨sa, fa, cS, cF, q.done (by rw [HL.out.2.1]; exact HL.out.2.2.symm)⟩, q.kp⟩
end Go.Proofs.Ytcbonbeogdgogaa.Li
