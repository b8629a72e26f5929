import Derived.Test.YtcbonbeogdgogaaLiL
namespace Go.Proofs.Ytcbonbeogdgogaa.Li
open Go.RowKit
set_option linter.unusedVariables false
set_option maxRecDepth 100000 in
set_option maxHeartbeats 8000000 in
/-- the law's copy of calls -/
theorem twins9 (w : World) (u : Value) (L : List Ca) (hL : Cls w u L) (hN : L.length * 144 ≤ 140737488351232) :
    Calls Try.prog 9 #[u] w fun e w' => ∃ v, e = .returned v ∧ ∃ D, D.length = L.length ∧ Alk L D L.length ∧ Cow w' w.heap.size v D ∧ Kp Nu w w' := by
  obtain ⟨i0, hi0, hz0, hz1, hz2⟩ := info_parts info30z
  obtain ⟨ua, uc, rfl⟩ := hL.slice
  obtain ⟨N, eN⟩ : ∃ N, L.length = N := ⟨_, rfl⟩
  have HL := hide (And.intro hL (And.intro eN hN))
  rw [eN] at hN ⊢
  have hNI : (N : Int) ≤ 140737488351232 := by omega
  clear hL eN hN
  go_enter Try.func9, Try.ntmps9
  go_wp2
  go_loopw [3, 4] (fun lv iv wr => ∃ (i : Nat) (D : List Ca) (ad : Option Addr) (cp : Nat), iv = .int .i64 (i : Int) ∧ lv = .slice ad i cp ∧ i ≤ N ∧ Hid (TwI w wr L i (.slice ad i cp) D)) (fun _ iv _ => N - (intOf iv).toNat)
  case atStart => exact ⟨0, [], none, 0, rfl, rfl, Nat.zero_le _, hide ⟨rfl, fun j hj => by omega, ⟨⟨rfl, .inl ⟨rfl, rfl⟩⟩, fun d hd => by cases hd⟩, Kp.refl _ _⟩⟩
  case round =>
    obtain ⟨i, D, ad, cp, rfl, rfl, hi, hI⟩ := hrel
    have hii : (0 : Int) ≤ (i : Int) := by omega
    by_cases hlt : i < N
    · have hltI : (i : Int) < (N : Int) := by omega
      obtain ⟨c, hc⟩ : ∃ c, L[i]? = some c := ⟨_, List.getElem?_eq_getElem (by rw [HL.out.2.1]; exact hlt)⟩
      obtain ⟨b, off, cap, eu, hR⟩ : ∃ b off cap, Value.slice ua N uc = .slice (some ⟨b, off, none⟩) N cap ∧ (wr.rangeAt b (off + i * 13) c.cells ∧ CaOk wr c) := by
        rcases HL.out.1.nu hI.out.kp with ⟨_, h0⟩ | ⟨b, off, cap, h0, h1⟩
        · rw [h0] at hc; simp at hc
        · rw [HL.out.2.1] at h0
          exact ⟨b, off, cap, h0, h1 i c hc⟩
      simp only [Value.slice.injEq, true_and] at eu
      obtain ⟨rfl, rfl⟩ := eu
      obtain ⟨r0, r1, r2, r3, r4, r5, r6, r7, r8, r9, r10, r11, r12⟩ := range_cells hR.1
      have kA : Kp Nu wr (wr.alloc (.cells #[.int .u8 c.who, .int .u64 c.seq, .int .u8 c.k, .int .u64 c.key, .int .u64 c.hi, .slice c.va c.V.length c.vc, .slice c.oa c.O.length c.oc, .bool c.has, .int .u8 c.lim, .int .u8 c.st, .slice c.ya c.Y.length c.yc, .int .i64 c.beg, .int .i64 c.en] 30)) := Kp.alloc _ _ _
      have TY := twin_any (wr.alloc (.cells #[.int .u8 c.who, .int .u64 c.seq, .int .u8 c.k, .int .u64 c.key, .int .u64 c.hi, .slice c.va c.V.length c.vc, .slice c.oa c.O.length c.oc, .bool c.has, .int .u8 c.lim, .int .u8 c.st, .slice c.ya c.Y.length c.yc, .int .i64 c.beg, .int .i64 c.en] 30)) _ c.Y (hR.2.y.nu kA).rd hR.2.y.fit
      have HC := hide (And.intro hc (And.intro hR.2 kA))
      clear hc hR kA
      go_wp2_with fail
      refine TY.mono ?_; rintro e w1 ⟨d1, rfl, ho1, hk1⟩
      obtain ⟨a1, n1, rfl⟩ := own_slice ho1
      have hB1 : w1.heap[wr.heap.size]? = some (.cells #[.int .u8 c.who, .int .u64 c.seq, .int .u8 c.k, .int .u64 c.key, .int .u64 c.hi, .slice c.va c.V.length c.vc, .slice c.oa c.O.length c.oc, .bool c.has, .int .u8 c.lim, .int .u8 c.st, .slice c.ya c.Y.length c.yc, .int .i64 c.beg, .int .i64 c.en] 30 (0, 0)) := new_at wr _ hk1
      have x10 := cellAt hB1 10 (v := .slice c.ya c.Y.length c.yc) rfl
      have f10 := free3 hB1 10
      obtain ⟨w2, e2⟩ : ∃ w2, w1.setCell ⟨wr.heap.size, 10, none⟩ (.slice a1 c.Y.length n1) = w2 := ⟨_, rfl⟩
      have hB2 : w2.heap[wr.heap.size]? = some (.cells #[.int .u8 c.who, .int .u64 c.seq, .int .u8 c.k, .int .u64 c.key, .int .u64 c.hi, .slice c.va c.V.length c.vc, .slice c.oa c.O.length c.oc, .bool c.has, .int .u8 c.lim, .int .u8 c.st, .slice a1 c.Y.length n1, .int .i64 c.beg, .int .i64 c.en] 30 (0, 0)) := by rw [← e2]; exact set3 hB1 10 _
      have k2 : Kp Nu wr w2 := by rw [← e2]; exact (HC.out.2.2.andNu hk1).andSet _ _ (.inl (Nat.le_refl _))
      have q12 : K5 w1 w2 := by rw [← e2]; exact K5.set hB1
      have x5 := cellAt hB2 5 (v := .slice c.va c.V.length c.vc) rfl
      have TV := twin_any w2 _ c.V (HC.out.2.1.v.nu k2).rd HC.out.2.1.v.fit
      have H2 := hide (And.intro hB2 (And.intro k2 (And.intro (own5 ho1 q12) hk1)))
      clear TY ho1 hk1 hB1 hB2 k2 q12 r0 r1 r2 r3 r4 r5 r6 r7 r8 r9 r10 r11 r12
      go_wp2_with fail
      refine TV.mono ?_; rintro e w3 ⟨d3, rfl, ho3, hk3⟩
      obtain ⟨a3, n3, rfl⟩ := own_slice ho3
      have hB3 := box_k H2.out.1 hk3
      have y5 := cellAt hB3 5 (v := .slice c.va c.V.length c.vc) rfl
      have f5 := free3 hB3 5
      obtain ⟨w4, e4⟩ : ∃ w4, w3.setCell ⟨wr.heap.size, 5, none⟩ (.slice a3 c.V.length n3) = w4 := ⟨_, rfl⟩
      have hB4 : w4.heap[wr.heap.size]? = some (.cells #[.int .u8 c.who, .int .u64 c.seq, .int .u8 c.k, .int .u64 c.key, .int .u64 c.hi, .slice a3 c.V.length n3, .slice c.oa c.O.length c.oc, .bool c.has, .int .u8 c.lim, .int .u8 c.st, .slice a1 c.Y.length n1, .int .i64 c.beg, .int .i64 c.en] 30 (0, 0)) := by rw [← e4]; exact set3 hB3 5 _
      have k4 : Kp Nu wr w4 := by rw [← e4]; exact (H2.out.2.1.andNu hk3).andSet _ _ (.inl (Nat.le_refl _))
      have q34 : K5 w3 w4 := by rw [← e4]; exact K5.set hB3
      have x6 := cellAt hB4 6 (v := .slice c.oa c.O.length c.oc) rfl
      have TO := twin_any w4 _ c.O (HC.out.2.1.o.nu k4).rd HC.out.2.1.o.fit
      have H4 := hide (And.intro hB4 (And.intro k4 (And.intro (own5 ho3 q34) (And.intro (own5 H2.out.2.2.1 ((K5.nu hk3).trans q34)) (H2.out.2.1.size)))))
      clear TV ho3 hk3 hB3 hB4 k4 q34 H2 x10 f10 x5 e2
      go_wp2_with fail
      refine TO.mono ?_; rintro e w5 ⟨d5, rfl, ho5, hk5⟩
      obtain ⟨a5, n5, rfl⟩ := own_slice ho5
      have hB5 := box_k H4.out.1 hk5
      have y6 := cellAt hB5 6 (v := .slice c.oa c.O.length c.oc) rfl
      have f6 := free3 hB5 6
      obtain ⟨w6, e6⟩ : ∃ w6, w5.setCell ⟨wr.heap.size, 6, none⟩ (.slice a5 c.O.length n5) = w6 := ⟨_, rfl⟩
      have hB6 : w6.heap[wr.heap.size]? = some (.cells #[.int .u8 c.who, .int .u64 c.seq, .int .u8 c.k, .int .u64 c.key, .int .u64 c.hi, .slice a3 c.V.length n3, .slice a5 c.O.length n5, .bool c.has, .int .u8 c.lim, .int .u8 c.st, .slice a1 c.Y.length n1, .int .i64 c.beg, .int .i64 c.en] 30 (0, 0)) := by rw [← e6]; exact set3 hB5 6 _
      have k6 : Kp Nu wr w6 := by rw [← e6]; exact (H4.out.2.1.andNu hk5).andSet _ _ (.inl (Nat.le_refl _))
      have q56 : K5 w5 w6 := by rw [← e6]; exact K5.set hB5
      have H6 := hide (And.intro hB6 (And.intro k6 (And.intro (own5 ho5 q56) (And.intro (own5 H4.out.2.2.1 ((K5.nu hk5).trans q56)) (And.intro (own5 H4.out.2.2.2.1 ((K5.nu hk5).trans q56)) (And.intro H4.out.2.2.2.2 H4.out.2.1.size))))))
      clear TO ho5 hk5 hB5 hB6 k6 q56 H4 y5 f5 x6 e4
      go_wp2_with (first | (guard_target =~ wpList _ _ _ ({ dst := _, op := Op.load 30 (Operand.tmp 5), type := _, pos := _, after := _, guard := _ } :: _) _ _; refine wpList_load_all 30 13 (.tmp 5) rfl rfl info30 _ Try.underlying30 rfl _ rfl H6.out.1 rfl ?_) | (at_builtin; refine unhid ?_))
      have HD : Hid (w6.ownsRow w.heap.size 30 13 (.slice ad i cp) i (flat D)) := by
        have h := hI.out.cow.row
        rw [hI.out.len] at h
        exact own_keep h (fun g hg => H6.out.2.1.block g (own_lt h hg) (fun h => h))
      have hsz : w.heap.size ≤ w6.heap.size := Nat.le_trans hI.out.kp.size H6.out.2.1.size
      have hby : (i + 1) * 144 ≤ 140737488355328 := by have := HL.out.2.2; have := HL.out.2.1; omega
      refine wpList_append_own_at _ rfl (.tmp 32) (.tmp 34) 33 rfl w.heap.size 30 i0 _ 13 144 Try.underlying33 hi0 hz0 hz1 hz2 rfl (by decide) (.slice ad i cp) i (flat D) rfl (HD.out.alloc _) ⟨w6.heap.size, 0, none⟩ 1 1 (c.at_ a3 a5 a1 n3 n5 n1).cells rfl rfl (row_new w6 (c.at_ a3 a5 a1 n3 n5 n1) 30) (by simp [Ca.cells, Value.oneCell']) (by unfold maxLen; omega) hby (by rw [World.size_alloc]; omega) ?_
      intro v' w7 ho hg hnil hat
      obtain ⟨ad7, cp7, ev⟩ := own_slice ho
      subst ev
      have HO : Hid (TwI w w7 L (i + 1) (.slice ad7 (i + 1) cp7) (D ++ [c.at_ a3 a5 a1 n3 n5 n1])) := by
        have hD6 := HD.out.alloc (.cells (c.at_ a3 a5 a1 n3 n5 n1).cells.toArray 30)
        have q67 : K5 w6 w7 := (K5.nu (Kp.alloc w6 _ Nu)).trans (K5.grown hD6 hg)
        have hlen := hI.out.len
        have hwr := hI.out.kp.size
        refine ⟨by rw [List.length_append, hlen]; rfl, fun j hj => ?_, ⟨?_, fun d hd => ?_⟩, ?_⟩
        · by_cases ej : j = i
          · subst ej
            exact ⟨c, c.at_ a3 a5 a1 n3 n5 n1, HC.out.1, by rw [← hlen]; simp, ⟨_, _, _, _, _, _, rfl⟩⟩
          · obtain ⟨c', d', h1, h2, h3⟩ := hI.out.same j (by omega)
            exact ⟨c', d', h1, by rw [List.getElem?_append_left (by omega)]; exact h2, h3⟩
        · rw [flat_snoc]
          have e : (D ++ [c.at_ a3 a5 a1 n3 n5 n1]).length = i + 1 := by rw [List.length_append, hlen]; rfl
          rw [e]
          exact ho
        · rcases List.mem_append.1 hd with hd | hd
          · exact (hI.out.cow.each d hd).k5 ((K5.nu H6.out.2.1).trans q67)
          · simp only [List.mem_singleton] at hd
            subst hd
            obtain ⟨_, _, o1, o2, o3, s1, s2⟩ := H6.out
            have ok := HC.out.2.1
            exact ⟨own5 (own_base o2 (by omega)) q67, own5 (own_base o1 (by omega)) q67, own5 (own_base o3 (by rw [World.size_alloc]; omega)) q67, ⟨ok.v.by_, ok.v.fit⟩, ⟨ok.o.by_, ok.o.fit⟩, ⟨ok.y.by_, ok.y.fit⟩⟩
        · refine ((hI.out.kp.andNu H6.out.2.1).andAlloc _).trans (Kp.of_grown hg) (fun g hg' e => ?_)
          have := (HD.out.lt g e.symm).1
          omega
      clear ho hg hnil hat HD hI HC H6
      go_wp2_with fail
      exact ⟨⟨i + 1, _, _, _, by go_num, rfl, by omega, HO⟩, by simp [intOf]; omega⟩
    · have hge : ¬ (i : Int) < (N : Int) := by omega
      obtain rfl : i = N := by omega
      go_wp2
      go_ret
      have q := hI.out.cow
      exact ⟨_, rfl, D, hI.out.len, hI.out.same, q, hI.out.kp⟩
end Go.Proofs.Ytcbonbeogdgogaa.Li
