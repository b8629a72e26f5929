import Derived.Test.YtffcnonhhfhlhaaDoorRfB
import Derived.Test.YtffcnonhhfhlhaaDoorRfQ
namespace Go.Proofs.YtffcnonhhfhlhaaDoor.Rg
open Go.RowKit Go.Shelf Go.Sort
open Go.Proofs.YtffcnonhhfhlhaaDoor.It
set_option linter.unusedVariables false

theorem Tab.sgb {L : List Sg} (h : Tab L) : (∀ s ∈ L, SgB s) ∧ ∀ s ∈ L, s.lo ≤ s.hi := ⟨fun s hs => by
  have h1 := cov_mem h.cov s hs
  have h2 := h.hs s hs
  exact ⟨by omega, by omega, by omega, by omega, by omega, by omega⟩, fun s hs => (cov_mem h.cov s hs).2.1⟩

section
variable {w : World} {rv : Value} {L : List Sg} {lim : Int}
theorem refCost_bad (hrs : Rs w rv L) (lo hi o : Int) (hlh : hi < lo) :
    Calls Tryd.prog 48 #[.agg #[.int .i64 lim, rv], .int .u64 lo, .int .u64 hi, .int .u8 o] w fun e w' => e = .returned (.tuple #[.int .i64 0, .int .i64 60]) ∧ Kp Nu w w' := by
  obtain ⟨rr, off, cap, hv, hc⟩ := hrs
  subst hv
  clear hc
  go_enter Tryd.func48, Tryd.ntmps48
  go_wp2
  go_ret2
  exact ⟨rfl, (Kp.refl _ _).andAlloc _⟩
set_option maxHeartbeats 1000000 in
theorem refCost_arg (hrs : Rs w rv L) (lo hi o : Int) (hlh : lo ≤ hi) (ho : ¬ o < 16) :
    Calls Tryd.prog 48 #[.agg #[.int .i64 lim, rv], .int .u64 lo, .int .u64 hi, .int .u8 o] w fun e w' => e = .returned (.tuple #[.int .i64 0, .int .i64 2]) ∧ Kp Nu w w' := by
  obtain ⟨rr, off, cap, hv, hc⟩ := hrs
  subst hv
  have hd : decide (o ≤ 15) = false := decide_eq_false (by omega)
  clear hc
  go_enter Tryd.func48, Tryd.ntmps48
  go_wp2_with (go_at_call 61; refine (refHost_any o _).mono ?_; rintro e w' ⟨rfl, hw'⟩; obtain rfl := hw'.symm)
  go_ret2
  exact ⟨rfl, (Kp.refl _ _).andAlloc _⟩
set_option maxHeartbeats 1000000 in
theorem refCost_ok (hrs : Rs w rv L) (hT : Tab L) (hl : L.length ≤ 8192) (lo hi o : Int) (k0 : 0 ≤ lo) (hlh : lo ≤ hi) (k1 : hi < 18446744073709551616) (o0 : 0 ≤ o) (ho : o < 16) :
    Calls Tryd.prog 48 #[.agg #[.int .i64 lim, rv], .int .u64 lo, .int .u64 hi, .int .u8 o] w fun e w' => e = .returned (.tuple #[.int .i64 (costB L lo hi o), .int .i64 0]) ∧ Kp Nu w w' := by
  have hcost := (asg_facts hT k0 hlh k1 o0 ho).2.2
  have hrange := cost_range hT o k0 hlh k1
  obtain ⟨w1, hw1⟩ : ∃ w1, w.alloc (.cells #[.int .i64 lim, rv] 29) = w1 := ⟨_, rfl⟩
  have K1 : Kp Nu w w1 := by rw [← hw1]; exact Kp.alloc w _ Nu
  have b1 : w1.heap[w.heap.size]? = some (.cells #[.int .i64 lim, rv] 29 (0, 0)) := by rw [← hw1]; exact heap_alloc_new w _
  have CU := refCut_any w1 rv L (hrs.nu K1) hl hT.sgb.1 hT.sgb.2 lo hi o k0 hlh k1 o0 (by omega)
  rw [cutD_asg hT k0 hlh k1 o0 ho] at CU
  obtain ⟨rr, off, cap, hv, hc⟩ := hrs
  have hd : decide (o ≤ 15) = true := decide_eq_true (by omega)
  have HB1 := hide b1
  have HK1 := hide K1
  obtain ⟨N, hN⟩ : ∃ N, L.length = N := ⟨_, rfl⟩
  obtain ⟨N2, hN2⟩ : ∃ N2, (asg L lo hi o).length = N2 := ⟨_, rfl⟩
  rw [hN] at hv hcost hrange hl
  rw [hN2] at CU hcost
  have hsub : (N2 : Int) - (N : Int) = costB L lo hi o := by omega
  have HSUB := hide hsub
  have hb1 : -10000 ≤ costB L lo hi o ∧ costB L lo hi o ≤ 10000 := by omega
  have hbN : (N2 : Int) ≤ 20000 := by omega
  obtain ⟨a0, a1⟩ := cell2' b1
  subst hv
  clear hc b1 K1 hcost hrange hN hN2 hsub
  go_enter Tryd.func48, Tryd.ntmps48
  go_wp2_with (first | (go_at_call 61; refine (refHost_any o _).mono ?_; rintro e w' ⟨rfl, hw'⟩; obtain rfl := hw'.symm))
  refine CU.mono ?_; rintro e w2 ⟨u2, rfl, ho2, hk2⟩
  obtain ⟨ad2, cp2, hu2⟩ := own_slice ho2
  obtain ⟨e0, e1⟩ := cell2' ((hk2.block _ (blk_lt HB1.out) (fun h => h)).trans HB1.out)
  have HK2 := hide (HK1.out.andNu hk2)
  subst hu2
  clear CU ho2 hk2 a0 a1
  go_wp2
  go_ret2
  exact ⟨by rw [← HSUB.out]; rfl, HK2.out⟩
end
end Go.Proofs.YtffcnonhhfhlhaaDoor.Rg
namespace Go.Proofs.YtffcnonhhfhlhaaDoor.Rg
open Go.RowKit Go.Shelf Go.Sort
open Go.Proofs.YtffcnonhhfhlhaaDoor.It
set_option linter.unusedVariables false

section
variable {w : World} {rv : Value} {L : List Sg} {lim : Int}
set_option maxRecDepth 100000 in
set_option maxHeartbeats 2000000 in
/-- a call that is refused: the table as it was -/
theorem refAssign_no (hrs : Rs w rv L) (lo hi o c : Int) (hc0 : c ≠ 0) (z : Int)
    (CO : ∀ W, Kp Nu w W → Calls Tryd.prog 48 #[.agg #[.int .i64 lim, rv], .int .u64 lo, .int .u64 hi, .int .u8 o] W fun e w' => e = .returned (.tuple #[.int .i64 z, .int .i64 c]) ∧ Kp Nu W w') :
    Calls Tryd.prog 17 #[.agg #[.int .i64 lim, rv], .int .u64 lo, .int .u64 hi, .int .u8 o] w fun e w' => e = .returned (.tuple #[.agg #[.int .i64 lim, rv], .int .i64 c]) ∧ Kp Nu w w' := by
  obtain ⟨w1, hw1⟩ : ∃ w1, (w.alloc (.cells #[.int .i64 lim, rv] 29)).alloc (.cells #[.int .i64 0, .slice none 0 0] 29) = w1 := ⟨_, rfl⟩
  have K1 : Kp Nu w w1 := by rw [← hw1]; exact (Kp.alloc w _ Nu).andAlloc _
  have b1 : w1.heap[w.heap.size]? = some (.cells #[.int .i64 lim, rv] 29 (0, 0)) := by rw [← hw1]; exact (Below.heap_alloc _ _ _ (by simp)).trans (heap_alloc_new w _)
  have b2 : w1.heap[w.heap.size + 1]? = some (.cells #[.int .i64 0, .slice none 0 0] 29 (0, 0)) := by
    rw [← hw1]
    have h := heap_alloc_new (w.alloc (.cells #[.int .i64 lim, rv] 29)) (.cells #[.int .i64 0, .slice none 0 0] 29)
    rw [World.size_alloc] at h
    exact h
  have CO1 := CO w1 K1
  obtain ⟨rr, off, cap, hv, hc⟩ := hrs
  obtain ⟨a0, a1⟩ := cell2' b1
  have HB1 := hide b1
  have HB2 := hide b2
  have HK1 := hide K1
  have hcb : (c != 0) = true := by simpa using hc0
  generalize L.length = N at hv
  subst hv
  clear hc b1 b2 K1 CO
  go_enter Tryd.func17, Tryd.ntmps17
  go_wp2_with fail
  refine CO1.mono ?_; rintro e w2 ⟨rfl, hk2⟩
  have q1 := (hk2.block _ (blk_lt HB1.out) (fun h => h)).trans HB1.out
  have q2 := (hk2.block _ (blk_lt HB2.out) (fun h => h)).trans HB2.out
  obtain ⟨d0, d1⟩ := cell2' q1
  obtain ⟨e0, e1⟩ := cell2' q2
  have f0 := free3 q2 0
  have f1 := free3 q2 1
  have HK2 := hide (HK1.out.andNu hk2)
  have HQ2 := hide q2
  clear CO1 hk2 a0 a1 q1 q2
  go_wp2
  have hb6 : (w2.setCell ⟨w.heap.size + 1, 0, none⟩ (.int .i64 lim)).heap[w.heap.size + 1]? = some (.cells #[.int .i64 lim, .slice none 0 0] 29 (0, 0)) := set3 HQ2.out 0 (.int .i64 lim)
  have hb5 : ((w2.setCell ⟨w.heap.size + 1, 0, none⟩ (.int .i64 lim)).setCell ⟨w.heap.size + 1, 1, none⟩ (.slice (some ⟨rr, off, none⟩) N cap)).heap[w.heap.size + 1]? = some (.cells #[.int .i64 lim, .slice (some ⟨rr, off, none⟩) N cap] 29 (0, 0)) := set3 hb6 1 _
  obtain ⟨y0, y1⟩ := cell2' hb5
  exact bodyPost_ret (v := .tuple #[.agg #[.int .i64 lim, .slice (some ⟨rr, off, none⟩) N cap], .int .i64 c]) (by simp [results, Tryd.results17, go_sem, y0, y1]) rfl ⟨rfl, (HK2.out.andSet _ _ (.inl (by simp))).andSet _ _ (.inl (by simp))⟩
set_option maxRecDepth 100000 in
set_option maxHeartbeats 2000000 in
/-- no room: the table as it was -/
theorem refAssign_full (hrs : Rs w rv L) (lo hi o : Int) (z : Int) (hN0 : L.length ≤ 8192) (hz : -10000 ≤ z ∧ z ≤ 10000) (hfull : lim < (L.length : Int) + z)
    (CO : ∀ W, Kp Nu w W → Calls Tryd.prog 48 #[.agg #[.int .i64 lim, rv], .int .u64 lo, .int .u64 hi, .int .u8 o] W fun e w' => e = .returned (.tuple #[.int .i64 z, .int .i64 0]) ∧ Kp Nu W w') :
    Calls Tryd.prog 17 #[.agg #[.int .i64 lim, rv], .int .u64 lo, .int .u64 hi, .int .u8 o] w fun e w' => e = .returned (.tuple #[.agg #[.int .i64 lim, rv], .int .i64 61]) ∧ Kp Nu w w' := by
  obtain ⟨w1, hw1⟩ : ∃ w1, (w.alloc (.cells #[.int .i64 lim, rv] 29)).alloc (.cells #[.int .i64 0, .slice none 0 0] 29) = w1 := ⟨_, rfl⟩
  have K1 : Kp Nu w w1 := by rw [← hw1]; exact (Kp.alloc w _ Nu).andAlloc _
  have b1 : w1.heap[w.heap.size]? = some (.cells #[.int .i64 lim, rv] 29 (0, 0)) := by rw [← hw1]; exact (Below.heap_alloc _ _ _ (by simp)).trans (heap_alloc_new w _)
  have b2 : w1.heap[w.heap.size + 1]? = some (.cells #[.int .i64 0, .slice none 0 0] 29 (0, 0)) := by
    rw [← hw1]
    have h := heap_alloc_new (w.alloc (.cells #[.int .i64 lim, rv] 29)) (.cells #[.int .i64 0, .slice none 0 0] 29)
    rw [World.size_alloc] at h
    exact h
  have CO1 := CO w1 K1
  obtain ⟨rr, off, cap, hv, hc⟩ := hrs
  obtain ⟨a0, a1⟩ := cell2' b1
  have HB1 := hide b1
  have HB2 := hide b2
  have HK1 := hide K1
  generalize L.length = N at hv hN0 hfull
  have hwz : (N : Int) + z > lim := by omega
  subst hv
  clear hc b1 b2 K1 CO
  go_enter Tryd.func17, Tryd.ntmps17
  go_wp2_with fail
  refine CO1.mono ?_; rintro e w2 ⟨rfl, hk2⟩
  have q1 := (hk2.block _ (blk_lt HB1.out) (fun h => h)).trans HB1.out
  have q2 := (hk2.block _ (blk_lt HB2.out) (fun h => h)).trans HB2.out
  obtain ⟨d0, d1⟩ := cell2' q1
  obtain ⟨e0, e1⟩ := cell2' q2
  have f0 := free3 q2 0
  have f1 := free3 q2 1
  have HK2 := hide (HK1.out.andNu hk2)
  have HQ2 := hide q2
  clear CO1 hk2 a0 a1 q1 q2
  go_wp2
  have hb6 : (w2.setCell ⟨w.heap.size + 1, 0, none⟩ (.int .i64 lim)).heap[w.heap.size + 1]? = some (.cells #[.int .i64 lim, .slice none 0 0] 29 (0, 0)) := set3 HQ2.out 0 (.int .i64 lim)
  have hb5 : ((w2.setCell ⟨w.heap.size + 1, 0, none⟩ (.int .i64 lim)).setCell ⟨w.heap.size + 1, 1, none⟩ (.slice (some ⟨rr, off, none⟩) N cap)).heap[w.heap.size + 1]? = some (.cells #[.int .i64 lim, .slice (some ⟨rr, off, none⟩) N cap] 29 (0, 0)) := set3 hb6 1 _
  obtain ⟨y0, y1⟩ := cell2' hb5
  exact bodyPost_ret (v := .tuple #[.agg #[.int .i64 lim, .slice (some ⟨rr, off, none⟩) N cap], .int .i64 61]) (by simp [results, Tryd.results17, go_sem, y0, y1]) rfl ⟨rfl, (HK2.out.andSet _ _ (.inl (by simp))).andSet _ _ (.inl (by simp))⟩
set_option maxRecDepth 100000 in
set_option maxHeartbeats 2000000 in
/-- the range is given: another list -/
theorem refAssign_ok (hrs : Rs w rv L) (lo hi o : Int) (z : Int) (A : List Sg) (hN0 : L.length ≤ 8192) (hz : -10000 ≤ z ∧ z ≤ 10000) (hfit : (L.length : Int) + z ≤ lim)
    (CU : ∀ W, Kp Nu w W → Calls Tryd.prog 49 #[rv, .int .u64 lo, .int .u64 hi, .int .u8 o] W fun e w' => ∃ u', e = .returned u' ∧ w'.ownsRow W.heap.size 26 3 u' A.length (cells A) ∧ Kp Nu W w')
    (CO : ∀ W, Kp Nu w W → Calls Tryd.prog 48 #[.agg #[.int .i64 lim, rv], .int .u64 lo, .int .u64 hi, .int .u8 o] W fun e w' => e = .returned (.tuple #[.int .i64 z, .int .i64 0]) ∧ Kp Nu W w') :
    Calls Tryd.prog 17 #[.agg #[.int .i64 lim, rv], .int .u64 lo, .int .u64 hi, .int .u8 o] w fun e w' => ∃ u', e = .returned (.tuple #[.agg #[.int .i64 lim, u'], .int .i64 0]) ∧ w'.ownsRow w.heap.size 26 3 u' A.length (cells A) ∧ Kp Nu w w' := by
  obtain ⟨w1, hw1⟩ : ∃ w1, (w.alloc (.cells #[.int .i64 lim, rv] 29)).alloc (.cells #[.int .i64 0, .slice none 0 0] 29) = w1 := ⟨_, rfl⟩
  have K1 : Kp Nu w w1 := by rw [← hw1]; exact (Kp.alloc w _ Nu).andAlloc _
  have b1 : w1.heap[w.heap.size]? = some (.cells #[.int .i64 lim, rv] 29 (0, 0)) := by rw [← hw1]; exact (Below.heap_alloc _ _ _ (by simp)).trans (heap_alloc_new w _)
  have b2 : w1.heap[w.heap.size + 1]? = some (.cells #[.int .i64 0, .slice none 0 0] 29 (0, 0)) := by
    rw [← hw1]
    have h := heap_alloc_new (w.alloc (.cells #[.int .i64 lim, rv] 29)) (.cells #[.int .i64 0, .slice none 0 0] 29)
    rw [World.size_alloc] at h
    exact h
  have CO1 := CO w1 K1
  obtain ⟨rr, off, cap, hv, hc⟩ := hrs
  obtain ⟨a0, a1⟩ := cell2' b1
  have HB1 := hide b1
  have HB2 := hide b2
  have HK1 := hide K1
  generalize L.length = N at hv hN0 hfit
  have hwz : ¬ (N : Int) + z > lim := by omega
  subst hv
  clear hc b1 b2 K1 CO
  go_enter Tryd.func17, Tryd.ntmps17
  go_wp2_with fail
  refine CO1.mono ?_; rintro e w2 ⟨rfl, hk2⟩
  have q1 := (hk2.block _ (blk_lt HB1.out) (fun h => h)).trans HB1.out
  have q2 := (hk2.block _ (blk_lt HB2.out) (fun h => h)).trans HB2.out
  obtain ⟨d0, d1⟩ := cell2' q1
  obtain ⟨e0, e1⟩ := cell2' q2
  have HK2 := hide (HK1.out.andNu hk2)
  have HQ1 := hide q1
  have HQ2 := hide q2
  have CU2 := CU w2 HK2.out
  clear CO1 hk2 a0 a1 q1 q2 CU
  go_wp2_with fail
  refine CU2.mono ?_; rintro e w3 ⟨u3, rfl, ho3, hk3⟩
  have q1 := (hk3.block _ (blk_lt HQ1.out) (fun h => h)).trans HQ1.out
  have q2 := (hk3.block _ (blk_lt HQ2.out) (fun h => h)).trans HQ2.out
  obtain ⟨g0, g1⟩ := cell2' q1
  obtain ⟨h0, h1⟩ := cell2' q2
  have f0 := free3 q2 0
  have f1 := free3 q2 1
  have HK3 := hide (HK2.out.andNu hk3)
  have HO3 := hide ho3
  have HQ3 := hide q2
  obtain ⟨ad3, cp3, hu3⟩ := own_slice ho3
  obtain ⟨N3, hN3⟩ : ∃ N3, A.length = N3 := ⟨_, rfl⟩
  rw [hN3] at hu3
  subst hu3
  clear CU2 ho3 hk3 d0 d1 e0 e1 q1 q2
  go_wp2
  have hb6 : (w3.setCell ⟨w.heap.size + 1, 0, none⟩ (.int .i64 lim)).heap[w.heap.size + 1]? = some (.cells #[.int .i64 lim, .slice none 0 0] 29 (0, 0)) := set3 HQ3.out 0 (.int .i64 lim)
  have hb5 : ((w3.setCell ⟨w.heap.size + 1, 0, none⟩ (.int .i64 lim)).setCell ⟨w.heap.size + 1, 1, none⟩ (.slice ad3 N3 cp3)).heap[w.heap.size + 1]? = some (.cells #[.int .i64 lim, .slice ad3 N3 cp3] 29 (0, 0)) := set3 hb6 1 _
  obtain ⟨y0, y1⟩ := cell2' hb5
  have hs2 : w.heap.size + 1 < w2.heap.size := blk_lt HQ2.out
  refine bodyPost_ret (v := .tuple #[.agg #[.int .i64 lim, .slice ad3 N3 cp3], .int .i64 0]) (by simp [results, Tryd.results17, go_sem, y0, y1]) rfl ⟨_, rfl, ?_, (HK3.out.andSet _ _ (.inl (by simp))).andSet _ _ (.inl (by simp))⟩
  exact own_base (own_keep HO3.out (fun g hg => by
    have hg2 := (HO3.out.lt g hg).1
    rw [Below.heap_setCell _ _ _ _ (by show g ≠ w.heap.size + 1; omega), Below.heap_setCell _ _ _ _ (by show g ≠ w.heap.size + 1; omega)])) HK2.out.size
end
end Go.Proofs.YtffcnonhhfhlhaaDoor.Rg
