import Derived.Test.YtcbonbeogdgogaaLiM
namespace Go.Proofs.Ytcbonbeogdgogaa.Li
open Go.RowKit
set_option linter.unusedVariables false
theorem cls_at {w : World} {u : Value} {L : List Ca} (h : Cls w u L) {i : Nat} {c : Ca} (hc : L[i]? = some c) : ∃ b off cap, u = .slice (some ⟨b, off, none⟩) L.length cap ∧ w.rangeAt b (off + i * 13) c.cells ∧ CaOk w c := by
  rcases h with ⟨_, h0⟩ | ⟨b, off, cap, h0, h1⟩
  · rw [h0] at hc; simp at hc
  · exact ⟨b, off, cap, h0, h1 i c hc⟩
theorem same12_eq (w : World) (u v : Value) (X : List Int) (hu : By w u X) (hv : By w v X) : Calls Try.prog 12 #[u, v] w fun e w' => e = .returned (.bool true) ∧ Kp Nu w w' :=
  (same12 w u v X X hu.rd hv.rd hu.fit hv.fit).mono (fun e w' h => ⟨by rw [h.1]; simp, h.2⟩)
set_option maxRecDepth 100000 in
set_option maxHeartbeats 8000000 in
theorem unchanged13 (w : World) (u v : Value) (L D : List Ca) (hL : Cls w u L) (hD : Cls w v D) (hlen : D.length = L.length) (hA : Alk L D L.length) (hN : L.length ≤ 140737488351232) :
    Calls Try.prog 13 #[u, v] w fun e w' => e = .returned (.bool true) ∧ Kp Nu w w' := by
  obtain ⟨ua, uc, rfl⟩ := hL.slice
  obtain ⟨da, dc, rfl⟩ := hD.slice
  obtain ⟨N, eN⟩ : ∃ N, L.length = N := ⟨_, rfl⟩
  have HL := hide (And.intro hL (And.intro hD (And.intro hA (And.intro eN hlen))))
  rw [hlen, eN]
  have hNI : (N : Int) ≤ 140737488351232 := by omega
  have hnn : ((N : Int) != (N : Int)) = false := by simp
  clear hL hD hlen hA eN hN
  go_enter Try.func13, Try.ntmps13
  go_wp2
  go_loopw [5] (fun iv wr => ∃ i : Nat, iv = .int .i64 (i : Int) ∧ i ≤ N ∧ Hid (Kp Nu w wr)) (fun iv _ => N - (intOf iv).toNat)
  case atStart => exact ⟨0, rfl, Nat.zero_le _, hide (Kp.refl _ _)⟩
  case round =>
    obtain ⟨i, rfl, hi, hk⟩ := hrel
    have hii : (0 : Int) ≤ (i : Int) := by omega
    by_cases hlt : i < N
    · have hltI : (i : Int) < (N : Int) := by omega
      obtain ⟨c, d, hc, hd, va, oa, ya, vc, oc, yc, rfl⟩ := HL.out.2.2.1 i (by rw [HL.out.2.2.2.1]; exact hlt)
      obtain ⟨b1, off1, cap1, e1, hR1, ok1⟩ := cls_at (HL.out.1.nu hk.out) hc
      obtain ⟨b2, off2, cap2, e2, hR2, ok2⟩ := cls_at (HL.out.2.1.nu hk.out) hd
      rw [HL.out.2.2.2.1] at e1
      rw [HL.out.2.2.2.2, HL.out.2.2.2.1] at e2
      simp only [Value.slice.injEq, true_and] at e1 e2
      obtain ⟨rfl, rfl⟩ := e1
      obtain ⟨rfl, rfl⟩ := e2
      obtain ⟨r0, r1, r2, r3, r4, r5, r6, r7, r8, r9, r10, r11, r12⟩ : wr.cell? ⟨b1, off1 + i * 13, none⟩ = some (.int .u8 c.who) ∧ wr.cell? ⟨b1, off1 + i * 13 + 1, none⟩ = some (.int .u64 c.seq) ∧ wr.cell? ⟨b1, off1 + i * 13 + 2, none⟩ = some (.int .u8 c.k) ∧ wr.cell? ⟨b1, off1 + i * 13 + 3, none⟩ = some (.int .u64 c.key) ∧ wr.cell? ⟨b1, off1 + i * 13 + 4, none⟩ = some (.int .u64 c.hi) ∧ wr.cell? ⟨b1, off1 + i * 13 + 5, none⟩ = some (.slice c.va c.V.length c.vc) ∧ wr.cell? ⟨b1, off1 + i * 13 + 6, none⟩ = some (.slice c.oa c.O.length c.oc) ∧ wr.cell? ⟨b1, off1 + i * 13 + 7, none⟩ = some (.bool c.has) ∧ wr.cell? ⟨b1, off1 + i * 13 + 8, none⟩ = some (.int .u8 c.lim) ∧ wr.cell? ⟨b1, off1 + i * 13 + 9, none⟩ = some (.int .u8 c.st) ∧ wr.cell? ⟨b1, off1 + i * 13 + 10, none⟩ = some (.slice c.ya c.Y.length c.yc) ∧ wr.cell? ⟨b1, off1 + i * 13 + 11, none⟩ = some (.int .i64 c.beg) ∧ wr.cell? ⟨b1, off1 + i * 13 + 12, none⟩ = some (.int .i64 c.en) := range_cells hR1
      obtain ⟨s0, s1, s2, s3, s4, s5, s6, s7, s8, s9, s10, s11, s12⟩ : wr.cell? ⟨b2, off2 + i * 13, none⟩ = some (.int .u8 c.who) ∧ wr.cell? ⟨b2, off2 + i * 13 + 1, none⟩ = some (.int .u64 c.seq) ∧ wr.cell? ⟨b2, off2 + i * 13 + 2, none⟩ = some (.int .u8 c.k) ∧ wr.cell? ⟨b2, off2 + i * 13 + 3, none⟩ = some (.int .u64 c.key) ∧ wr.cell? ⟨b2, off2 + i * 13 + 4, none⟩ = some (.int .u64 c.hi) ∧ wr.cell? ⟨b2, off2 + i * 13 + 5, none⟩ = some (.slice va c.V.length vc) ∧ wr.cell? ⟨b2, off2 + i * 13 + 6, none⟩ = some (.slice oa c.O.length oc) ∧ wr.cell? ⟨b2, off2 + i * 13 + 7, none⟩ = some (.bool c.has) ∧ wr.cell? ⟨b2, off2 + i * 13 + 8, none⟩ = some (.int .u8 c.lim) ∧ wr.cell? ⟨b2, off2 + i * 13 + 9, none⟩ = some (.int .u8 c.st) ∧ wr.cell? ⟨b2, off2 + i * 13 + 10, none⟩ = some (.slice ya c.Y.length yc) ∧ wr.cell? ⟨b2, off2 + i * 13 + 11, none⟩ = some (.int .i64 c.beg) ∧ wr.cell? ⟨b2, off2 + i * 13 + 12, none⟩ = some (.int .i64 c.en) := range_cells hR2
      have hb1 : b1 < wr.heap.size := World.block_lt_of_cell? wr _ r0
      have hb2 : b2 < wr.heap.size := World.block_lt_of_cell? wr _ s0
      have HO := hide (And.intro ok1 ok2)
      clear hc hd hR1 hR2 ok1 ok2
      have n0 : (c.who != c.who) = false := by simp
      have n1 : (c.seq != c.seq) = false := by simp
      have n2 : (c.st != c.st) = false := by simp
      have n3 : (c.beg != c.beg) = false := by simp
      have n4 : (c.en != c.en) = false := by simp
      have n5 : (c.k != c.k) = false := by simp
      have n6 : (c.key != c.key) = false := by simp
      have n7 : (c.has != c.has) = false := by simp
      go_wp2_with fail
      go_region
      all_goals clear r0 s0 r1 s1 r2 s2 r3 s3 r4 s4 r5 s5 r6 s6 r7 s7 r8 s8 r9 s9 r10 s10 r11 s11 r12 s12 hb1 hb2
      · obtain ⟨W, eW⟩ : ∃ W, ((wr.alloc (.cells #[.int .u8 c.who, .int .u64 c.seq, .int .u8 c.k, .int .u64 c.key, .int .u64 c.hi, .slice c.va c.V.length c.vc, .slice c.oa c.O.length c.oc, .bool c.has, .int .u8 c.lim, .int .u8 c.st, .slice c.ya c.Y.length c.yc, .int .i64 c.beg, .int .i64 c.en] 30)).alloc (.cells #[.int .u8 c.who, .int .u64 c.seq, .int .u8 c.k, .int .u64 c.key, .int .u64 c.hi, .slice va c.V.length vc, .slice oa c.O.length oc, .bool c.has, .int .u8 c.lim, .int .u8 c.st, .slice ya c.Y.length yc, .int .i64 c.beg, .int .i64 c.en] 30)).drew = W := ⟨_, rfl⟩
        have kW : Kp Nu wr W := by rw [← eW]; exact ((Kp.alloc wr _ Nu).andAlloc _).drew
        have hP : W.heap[wr.heap.size]? = some (.cells #[.int .u8 c.who, .int .u64 c.seq, .int .u8 c.k, .int .u64 c.key, .int .u64 c.hi, .slice c.va c.V.length c.vc, .slice c.oa c.O.length c.oc, .bool c.has, .int .u8 c.lim, .int .u8 c.st, .slice c.ya c.Y.length c.yc, .int .i64 c.beg, .int .i64 c.en] 30 (0, 0)) := by rw [← eW]; exact new12 wr _ _
        have hQ : W.heap[wr.heap.size + 1]? = some (.cells #[.int .u8 c.who, .int .u64 c.seq, .int .u8 c.k, .int .u64 c.key, .int .u64 c.hi, .slice va c.V.length vc, .slice oa c.O.length oc, .bool c.has, .int .u8 c.lim, .int .u8 c.st, .slice ya c.Y.length yc, .int .i64 c.beg, .int .i64 c.en] 30 (0, 0)) := by rw [← eW]; exact new2 wr _ _
        rw [eW]
        have x0 := cellAt hP 0 (v := .int .u8 c.who) rfl
        have z0 := cellAt hQ 0 (v := .int .u8 c.who) rfl
        have x1 := cellAt hP 1 (v := .int .u64 c.seq) rfl
        have z1 := cellAt hQ 1 (v := .int .u64 c.seq) rfl
        have x9 := cellAt hP 9 (v := .int .u8 c.st) rfl
        have z9 := cellAt hQ 9 (v := .int .u8 c.st) rfl
        have x11 := cellAt hP 11 (v := .int .i64 c.beg) rfl
        have z11 := cellAt hQ 11 (v := .int .i64 c.beg) rfl
        have x12 := cellAt hP 12 (v := .int .i64 c.en) rfl
        have z12 := cellAt hQ 12 (v := .int .i64 c.en) rfl
        have x10 := cellAt hP 10 (v := .slice c.ya c.Y.length c.yc) rfl
        have z10 := cellAt hQ 10 (v := .slice ya c.Y.length yc) rfl
        have SY := same12_eq W _ _ c.Y (HO.out.1.y.nu kW) (HO.out.2.y.nu kW)
        have HP := hide (And.intro hP (And.intro hQ kW))
        clear eW kW hP hQ
        go_wp2_with fail
        refine SY.mono ?_; rintro e w1 ⟨rfl, hk1⟩
        have hP1 := box_k HP.out.1 hk1
        have hQ1 := box_k HP.out.2.1 hk1
        have k1 := HP.out.2.2.andNu hk1
        clear SY hk1 x0 z0 x1 z1 x9 z9 x11 z11 x12 z12 x10 z10
        have x2 := cellAt hP1 2 (v := .int .u8 c.k) rfl
        have z2 := cellAt hQ1 2 (v := .int .u8 c.k) rfl
        have x3 := cellAt hP1 3 (v := .int .u64 c.key) rfl
        have z3 := cellAt hQ1 3 (v := .int .u64 c.key) rfl
        have x7 := cellAt hP1 7 (v := .bool c.has) rfl
        have z7 := cellAt hQ1 7 (v := .bool c.has) rfl
        have x5 := cellAt hP1 5 (v := .slice c.va c.V.length c.vc) rfl
        have z5 := cellAt hQ1 5 (v := .slice va c.V.length vc) rfl
        have SV := same12_eq w1 _ _ c.V (HO.out.1.v.nu k1) (HO.out.2.v.nu k1)
        have HP1 := hide (And.intro hP1 (And.intro hQ1 k1))
        clear k1 hP1 hQ1
        go_wp2_with fail
        refine SV.mono ?_; rintro e w2 ⟨rfl, hk2⟩
        have hP2 := box_k HP1.out.1 hk2
        have hQ2 := box_k HP1.out.2.1 hk2
        have k2 := HP1.out.2.2.andNu hk2
        clear SV hk2 x2 z2 x3 z3 x7 z7 x5 z5
        have x6 := cellAt hP2 6 (v := .slice c.oa c.O.length c.oc) rfl
        have z6 := cellAt hQ2 6 (v := .slice oa c.O.length oc) rfl
        have SO := same12_eq w2 _ _ c.O (HO.out.1.o.nu k2) (HO.out.2.o.nu k2)
        have HK2 := hide (hk.out.andNu k2)
        clear k2 hP2 hQ2
        go_wp2_with fail
        refine SO.mono ?_; rintro e w3 ⟨rfl, hk3⟩
        have HK3 := hide (HK2.out.andNu hk3)
        clear SO hk3 x6 z6 HP HP1 HO
        go_wp2
        exact ⟨⟨i + 1, by go_num, by omega, HK3⟩, by simp [intOf]; omega⟩
      · obtain ⟨W, eW⟩ : ∃ W, ((wr.alloc (.cells #[.int .u8 c.who, .int .u64 c.seq, .int .u8 c.k, .int .u64 c.key, .int .u64 c.hi, .slice va c.V.length vc, .slice oa c.O.length oc, .bool c.has, .int .u8 c.lim, .int .u8 c.st, .slice ya c.Y.length yc, .int .i64 c.beg, .int .i64 c.en] 30)).alloc (.cells #[.int .u8 c.who, .int .u64 c.seq, .int .u8 c.k, .int .u64 c.key, .int .u64 c.hi, .slice c.va c.V.length c.vc, .slice c.oa c.O.length c.oc, .bool c.has, .int .u8 c.lim, .int .u8 c.st, .slice c.ya c.Y.length c.yc, .int .i64 c.beg, .int .i64 c.en] 30)).drew = W := ⟨_, rfl⟩
        have kW : Kp Nu wr W := by rw [← eW]; exact ((Kp.alloc wr _ Nu).andAlloc _).drew
        have hP : W.heap[wr.heap.size + 1]? = some (.cells #[.int .u8 c.who, .int .u64 c.seq, .int .u8 c.k, .int .u64 c.key, .int .u64 c.hi, .slice c.va c.V.length c.vc, .slice c.oa c.O.length c.oc, .bool c.has, .int .u8 c.lim, .int .u8 c.st, .slice c.ya c.Y.length c.yc, .int .i64 c.beg, .int .i64 c.en] 30 (0, 0)) := by rw [← eW]; exact new2 wr _ _
        have hQ : W.heap[wr.heap.size]? = some (.cells #[.int .u8 c.who, .int .u64 c.seq, .int .u8 c.k, .int .u64 c.key, .int .u64 c.hi, .slice va c.V.length vc, .slice oa c.O.length oc, .bool c.has, .int .u8 c.lim, .int .u8 c.st, .slice ya c.Y.length yc, .int .i64 c.beg, .int .i64 c.en] 30 (0, 0)) := by rw [← eW]; exact new12 wr _ _
        rw [eW]
        have x0 := cellAt hP 0 (v := .int .u8 c.who) rfl
        have z0 := cellAt hQ 0 (v := .int .u8 c.who) rfl
        have x1 := cellAt hP 1 (v := .int .u64 c.seq) rfl
        have z1 := cellAt hQ 1 (v := .int .u64 c.seq) rfl
        have x9 := cellAt hP 9 (v := .int .u8 c.st) rfl
        have z9 := cellAt hQ 9 (v := .int .u8 c.st) rfl
        have x11 := cellAt hP 11 (v := .int .i64 c.beg) rfl
        have z11 := cellAt hQ 11 (v := .int .i64 c.beg) rfl
        have x12 := cellAt hP 12 (v := .int .i64 c.en) rfl
        have z12 := cellAt hQ 12 (v := .int .i64 c.en) rfl
        have x10 := cellAt hP 10 (v := .slice c.ya c.Y.length c.yc) rfl
        have z10 := cellAt hQ 10 (v := .slice ya c.Y.length yc) rfl
        have SY := same12_eq W _ _ c.Y (HO.out.1.y.nu kW) (HO.out.2.y.nu kW)
        have HP := hide (And.intro hP (And.intro hQ kW))
        clear eW kW hP hQ
        go_wp2_with fail
        refine SY.mono ?_; rintro e w1 ⟨rfl, hk1⟩
        have hP1 := box_k HP.out.1 hk1
        have hQ1 := box_k HP.out.2.1 hk1
        have k1 := HP.out.2.2.andNu hk1
        clear SY hk1 x0 z0 x1 z1 x9 z9 x11 z11 x12 z12 x10 z10
        have x2 := cellAt hP1 2 (v := .int .u8 c.k) rfl
        have z2 := cellAt hQ1 2 (v := .int .u8 c.k) rfl
        have x3 := cellAt hP1 3 (v := .int .u64 c.key) rfl
        have z3 := cellAt hQ1 3 (v := .int .u64 c.key) rfl
        have x7 := cellAt hP1 7 (v := .bool c.has) rfl
        have z7 := cellAt hQ1 7 (v := .bool c.has) rfl
        have x5 := cellAt hP1 5 (v := .slice c.va c.V.length c.vc) rfl
        have z5 := cellAt hQ1 5 (v := .slice va c.V.length vc) rfl
        have SV := same12_eq w1 _ _ c.V (HO.out.1.v.nu k1) (HO.out.2.v.nu k1)
        have HP1 := hide (And.intro hP1 (And.intro hQ1 k1))
        clear k1 hP1 hQ1
        go_wp2_with fail
        refine SV.mono ?_; rintro e w2 ⟨rfl, hk2⟩
        have hP2 := box_k HP1.out.1 hk2
        have hQ2 := box_k HP1.out.2.1 hk2
        have k2 := HP1.out.2.2.andNu hk2
        clear SV hk2 x2 z2 x3 z3 x7 z7 x5 z5
        have x6 := cellAt hP2 6 (v := .slice c.oa c.O.length c.oc) rfl
        have z6 := cellAt hQ2 6 (v := .slice oa c.O.length oc) rfl
        have SO := same12_eq w2 _ _ c.O (HO.out.1.o.nu k2) (HO.out.2.o.nu k2)
        have HK2 := hide (hk.out.andNu k2)
        clear k2 hP2 hQ2
        go_wp2_with fail
        refine SO.mono ?_; rintro e w3 ⟨rfl, hk3⟩
        have HK3 := hide (HK2.out.andNu hk3)
        clear SO hk3 x6 z6 HP HP1 HO
        go_wp2
        exact ⟨⟨i + 1, by go_num, by omega, HK3⟩, by simp [intOf]; omega⟩
    · have hge : ¬ (i : Int) < (N : Int) := by omega
      go_wp2
      go_ret
      exact ⟨rfl, hk.out⟩
end Go.Proofs.Ytcbonbeogdgogaa.Li
