import Derived.Test.YtbifmcadllilhaaPmJ
import Derived.Deep.RegionLaw
namespace Go.Proofs.Ytbifmcadllilhaa.Rg
open Go.RowKit Go.Shelf Go.Sort
open Go.Proofs.Ytbifmcadllilhaa.It
set_option linter.unusedVariables false
/-- a call at a step of a region that draws -/
theorem step_callL {P : Program} {ops : Array Oper} {o : Oper} {a : Act} {w : World} {K : Act → World → Prop} {Q : Exit → Act → World → Prop} {E : Prop} (hgd : o.guard = none) (f : FuncId) (args : Array Value) (hx : (execOp a.eval o).run P w = .ok (.enter f args) w) (R : Value → World → Prop) (hC : Calls P f args w fun e w' => ∃ v, e = .returned v ∧ R v w') (h : ∀ v w', R v w' → K (a.put o.dst v) w') :
    if Region.wanted o (yielded ops a.tmps) = true then Oper.wp P o a w K Q else E := by
  have hw : Region.wanted o (yielded ops a.tmps) = true := by simp [Region.wanted, hgd]
  rw [if_pos hw]
  unfold Oper.wp
  rw [hx, Oper.upon_enter]
  refine hC.mono ?_
  rintro e w' ⟨v, rfl, hr⟩
  exact h v w' hr
theorem three_set {w w7 : World} (hk : Kp Nu w w7) {Y : Nat} (hY : w.heap.size ≤ Y) {c0 c1 c2 : Value} (bY : w7.heap[Y]? = some (.cells #[c0, c1, c2] 82 (0, 0))) (u v x : Value) {P : Prop}
    (h : ∀ w8, ((w7.setCell ⟨Y, 0, none⟩ u).setCell ⟨Y, 1, none⟩ v).setCell ⟨Y, 2, none⟩ x = w8 → Kp Nu w w8 → w8.heap[Y]? = some (.cells #[u, v, x] 82 (0, 0)) → P) : P :=
  h _ rfl (((hk.andSet _ _ (.inl hY)).andSet _ _ (.inl hY)).andSet _ _ (.inl hY)) (set3 (set3 (set3 bY 0 u) 1 v) 2 x)
theorem three_new {w w7 : World} (hk : Kp Nu w w7) (u v x : Value) {P : Prop} (h : ∀ w8, w7.alloc (.cells #[u, v, x] 82) = w8 → Kp Nu w w8 → w8.heap[w7.heap.size]? = some (.cells #[u, v, x] 82 (0, 0)) → P) : P :=
  h _ rfl (hk.andAlloc _) (heap_alloc_new _ _)
theorem five_set {W : World} {b : Nat} {c0 c1 c2 c3 c4 : Value} {t : TypeId} (h : W.heap[b]? = some (.cells #[c0, c1, c2, c3, c4] t (0, 0))) (v0 v1 v2 v3 v4 : Value) :
    (((((W.setCell ⟨b, 0, none⟩ v0).setCell ⟨b, 1, none⟩ v1).setCell ⟨b, 2, none⟩ v2).setCell ⟨b, 3, none⟩ v3).setCell ⟨b, 4, none⟩ v4).heap[b]? = some (.cells #[v0, v1, v2, v3, v4] t (0, 0)) :=
  set3 (set3 (set3 (set3 (set3 h 0 v0) 1 v1) 2 v2) 3 v3) 4 v4
/-- what is taken of a segment: p keys, from lo on -/
structure Tkn (ks : List Int) (s : Sg) (T n p : Nat) (lo : Int) : Prop where
  pn : p ≤ n
  p1 : 1 ≤ p
  pT : p ≤ T + 1
  all : ∀ (j : Nat) x, j < p → ks[T - j]? = some x → s.lo ≤ x
  how : (lo = s.lo ∧ (p = T + 1 ∨ (p ≤ T ∧ ∀ x, ks[T - p]? = some x → x < s.lo))) ∨ (p = n ∧ p ≤ T ∧ (∀ x, ks[T - p]? = some x → s.lo ≤ x) ∧ ks[T - p + 1]? = some lo)
set_option maxRecDepth 100000 in
set_option maxHeartbeats 2000000 in
theorem taken53 (w : World) (u ku ou : Value) (L : List Sg) (ks os : List Int) (g : Int) (n T : Nat) (x : Int) (s : Sg) (hu : Sgs w u L) (hTb : Tab L) (hl : L.length ≤ 100000) (hk : Us w ku ks) (ho : Pn.Ns w ou os) (hlen : os.length = ks.length) (hkl : ks.length ≤ 100000) (hT1 : os[T]? = some g) (hT2 : ∀ (j : Nat) y, T < j → os[j]? = some y → y ≠ g) (hx : ks[T]? = some x) (hx0 : 0 ≤ x) (hx1 : x < 18446744073709551616) (hs : L[plc L x]? = some s) (hn : 1 ≤ n) (hn2 : n ≤ 100000) (hg0 : 0 ≤ g) (hg1 : g < 256) :
    Calls Try.prog 53 #[u, ku, ou, .int .i64 g, .int .i64 (n : Int)] w fun e w' => ∃ (p : Nat) (lo : Int), e = .returned (.tuple #[.agg #[.int .u8 g, .int .u8 0, .int .u64 lo, .int .u64 s.hi, .int .i64 (p : Int)], .int .i64 (T : Int)]) ∧ Tkn ks s T n p lo ∧ Kp Nu w w' := by
  have mixed : Try.prog.follows .mixedOrders = true := by kernel_rfl
  obtain ⟨ad, cap, e1⟩ := hu.slice
  obtain ⟨a1, c1, rfl, _, _⟩ := id hk
  obtain ⟨a2, c2, rfl, _, _⟩ := id ho
  obtain ⟨N, eN⟩ : ∃ N, ks.length = N := ⟨_, rfl⟩
  obtain ⟨Z, eZ⟩ : ∃ Z, L.length = Z := ⟨_, rfl⟩
  have hTN : T < N := by
    rw [← eN]
    rcases Nat.lt_or_ge T ks.length with h | h
    · exact h
    · rw [List.getElem?_eq_none h] at hx; cases hx
  have HU := hide (And.intro hu (And.intro hTb (And.intro hl (And.intro hk (And.intro ho (And.intro hT1 (And.intro hT2 (And.intro hx (And.intro hs (And.intro eN (And.intro eZ hlen)))))))))))
  rw [eZ] at e1
  rw [hlen, eN]
  rw [eN] at hkl
  have hNI : (N : Int) ≤ 100000 := by omega
  subst e1
  rename_i ia ib ic id_
  clear hu hTb hl hk ho hT1 hT2 hx hs eN eZ hlen ia ib ic id_
  obtain ⟨w1, hw1⟩ : ∃ w1, w.alloc (.cells #[.int .u8 0, .int .u8 0, .int .u64 0, .int .u64 0, .int .i64 0] 59) = w1 := ⟨_, rfl⟩
  have kA : Kp Nu w w1 := by rw [← hw1]; exact Kp.alloc _ _ _
  have bA : w1.heap[w.heap.size]? = some (.cells #[.int .u8 0, .int .u8 0, .int .u64 0, .int .u64 0, .int .i64 0] 59 (0, 0)) := by rw [← hw1]; exact heap_alloc_new w _
  have HA := hide (And.intro kA bA)
  clear kA bA
  have hNm : wrap64 ((N : Int) - 1) = (N : Int) - 1 := by unfold wrap64; omega
  go_enter Try.func53, Try.ntmps53
  go_wp2_with fail
  go_loopw [12] (fun tv wr => ∃ t : Nat, tv = .int .i64 (t : Int) ∧ T ≤ t ∧ t < N ∧ Hid (Kp Nu w1 wr)) (fun tv _ => (intOf tv).toNat)
  case atStart => exact ⟨N - 1, by congr 1; omega, by omega, by omega, hide (Kp.refl _ _)⟩
  case round =>
    obtain ⟨t, rfl, ht, htN, hkr⟩ := hrel
    have ht0 : (0 : Int) ≤ (t : Int) := by omega
    have d0 : decide ((t : Int) ≥ 0) = true := by simp
    have htI : (t : Int) < (N : Int) := by omega
    have ett : (t : Int).toNat = t := by omega
    obtain ⟨y, hy⟩ : ∃ y, os[t]? = some y := ⟨_, List.getElem?_eq_getElem (by rw [HU.out.2.2.2.2.2.2.2.2.2.2.2, HU.out.2.2.2.2.2.2.2.2.2.1]; exact htN)⟩
    have kk := HA.out.1.andNu hkr.out
    obtain ⟨b1, e1, k1⟩ := (HU.out.2.2.2.2.1.nu kk.toPn).at_ hy
    subst e1
    have HY := hide hy
    clear hy kk
    by_cases q : y = g
    · have hTt : T = t := by
        rcases Nat.lt_or_ge T t with h | h
        · exact absurd q (HU.out.2.2.2.2.2.2.1 t y h HY.out)
        · omega
      subst hTt
      subst q
      have d1 : (y != y) = false := by simp
      have HY2 := hide ht
      obtain ⟨wt, hwt⟩ : ∃ wt, wr.alloc (.cells #[.int .i64 0, .slice ad Z cap] 76) = wt := ⟨_, rfl⟩
      have kT : Kp Nu wr wt := by rw [← hwt]; exact Kp.alloc _ _ _
      have bT : wt.heap[wr.heap.size]? = some (.cells #[.int .i64 0, .slice ad Z cap] 76 (0, 0)) := by rw [← hwt]; exact heap_alloc_new wr _
      have kW : Kp Nu w wt := (HA.out.1.andNu hkr.out).andNu kT
      have SG := fun Z' (q : Kp Nu wt Z') => (segAt73 Z' _ L 0 (HU.out.1.nu (kW.andNu q)) HU.out.2.1 HU.out.2.2.1 x hx0 hx1 s HU.out.2.2.2.2.2.2.2.2.1).mono (fun e w' r => (by
        obtain ⟨e1, e2⟩ := r
        exact ⟨_, e1, rfl, q.andNu e2, e2⟩ : ∃ v, e = .returned v ∧ v = .agg #[.int .u64 s.lo, .int .u64 s.hi, .int .u8 s.h] ∧ Kp Nu wt w' ∧ Kp Nu Z' w'))
      obtain ⟨bk, ek, kk1⟩ := (HU.out.2.2.2.1.nu kW).at_ HU.out.2.2.2.2.2.2.2.1
      subst ek
      obtain ⟨tt0, tt1⟩ := cell2' bT
      have kal := Kp.alloc wt (.cells #[.int .u64 0, .int .u64 0, .int .u8 0] 82) Nu
      have kk2 := cell_nu kk1 kal
      have tt2 := cell_nu tt0 kal
      have tt3 := cell_nu tt1 kal
      clear kal
      have HW := hide (And.intro kT (And.intro bT kW))
      clear kT bT kW HY HY2 ht
      go_wp2_with fail
      clear hwt k1 d0 d1 hw1
      go_region_law (first | (refine step_callL (by rfl) 73 #[.agg #[.int .i64 0, .slice ad Z cap], .int .u64 x] (by go_simp; first | done | (with_reducible rfl)) _ (SG _ (by first | exact (Kp.refl _ _).drew | exact (Kp.refl _ _).drew.andAlloc _ | exact ((Kp.refl _ _).andAlloc _).drew)) ?_; rintro v6 w6 ⟨rfl, hk6, hkz6⟩; (try (have bY6 : w6.heap[wt.heap.size]? = some (.cells #[.int .u64 0, .int .u64 0, .int .u8 0] 82 (0, 0)) := box2 (b := wt.heap.size) (c := #[.int .u64 0, .int .u64 0, .int .u8 0]) (ty := 82) (by exact heap_alloc_new wt (.cells #[.int .u64 0, .int .u64 0, .int .u8 0] 82)) hkz6; obtain ⟨yy0, yy1, yy2⟩ := cell3 bY6; have ff0 := free3 bY6 0; have ff1 := free3 bY6 1; have ff2 := free3 bY6 2))))
      all_goals
        first
        | refine three_set hk6 (Nat.le_refl _) bY6 (.int .u64 s.lo) (.int .u64 s.hi) (.int .u8 s.h) ?_
        | refine three_new hk6 (.int .u64 s.lo) (.int .u64 s.hi) (.int .u8 s.h) ?_
        intro w8 e8 k8 b8
        obtain ⟨z0, z1, z2⟩ := cell3 b8
        (try clear yy0 yy1 yy2 ff0 ff1 ff2 bY6)
        clear kk1 kk2 tt0 tt1 tt2 tt3 SG
        have HB8 := hide (And.intro k8 b8)
        have ewg : IntKind.u8.wrap y = y := by rw [IntKind.wrap_u8]; omega
        have hTd : decide ((T : Int) < 0) = false := by simp
        clear k8 b8 hk6 hkz6
        go_wp2_with fail
        try rw [e8]
        have kM := Kp.alloc w8 (.cells #[.int .u8 y, .int .u8 0, .int .u64 s.lo, .int .u64 s.hi, .int .i64 0] 59) Nu
        have bM := heap_alloc_new w8 (.cells #[.int .u8 y, .int .u8 0, .int .u64 s.lo, .int .u64 s.hi, .int .i64 0] 59)
        have HM := hide (And.intro kM bM)
        have hsl : s.lo ≤ x := by
          obtain ⟨s', hs', q1, _⟩ := plc_facts (k := x) HU.out.2.1.cov hx0 hx1
          rw [HU.out.2.2.2.2.2.2.2.2.1] at hs'
          cases hs'
          exact q1
        clear kM bM z0 z1 z2 e8
        go_loopw [16] (fun iv wq => ∃ j : Nat, iv = .int .i64 ((T : Int) - (j : Int)) ∧ j ≤ T + 1 ∧ j ≤ n ∧ Hid (wq.heap[w8.heap.size]? = some (.cells #[.int .u8 y, .int .u8 0, .int .u64 s.lo, .int .u64 s.hi, .int .i64 (j : Int)] 59 (0, 0)) ∧ (∀ (i : Nat) z, i < j → ks[T - i]? = some z → s.lo ≤ z) ∧ Kp Nu w8 wq)) (fun iv _ => (intOf iv + 1).toNat)
        case atStart => exact ⟨0, by simp, by omega, by omega, hide ⟨HM.out.2, fun i z h => by omega, HM.out.1⟩⟩
        case round =>
          obtain ⟨j, rfl, hj, hjn, hI⟩ := hrel
          have hb8 := box2 HB8.out.2 hI.out.2.2
          obtain ⟨z0, z1, z2⟩ := cell3 hb8
          obtain ⟨m0, m1, m2, m3, m4⟩ := cell5 hI.out.1
          have kall := ((HW.out.2.2.andNu HB8.out.1).andNu hI.out.2.2)
          have bR := box2 HA.out.2 (((hkr.out.andNu HW.out.1).andNu HB8.out.1).andNu hI.out.2.2)
          obtain ⟨r0, r1, r2, r3, r4⟩ := cell5 bR
          have fr0 := free3 bR 0
          have fr1 := free3 bR 1
          have fr2 := free3 bR 2
          have fr3 := free3 bR 3
          have fr4 := free3 bR 4
          have HQ := hide (And.intro kall bR)
          have hlt8 : w.heap.size < w8.heap.size := by
            have h1 := blk_lt HA.out.2
            have h2 := (((hkr.out.andNu HW.out.1).andNu HB8.out.1)).size
            omega
          by_cases hjT : j = T + 1
          · have ei : (T : Int) - (j : Int) = -1 := by omega
            rw [ei]
            have HJ := hide hjT
            clear kall bR hb8 ei hjT
            go_wp2_with fail
            go_quiet (fail)
            go_wp2
            have b5 := five_set (W := wr.drewN nq) (by exact HQ.out.2) (.int .u8 y) (.int .u8 0) (.int .u64 s.lo) (.int .u64 s.hi) (.int .i64 (j : Int))
            obtain ⟨y0, y1, y2, y3, y4⟩ := cell5 b5
            refine bodyPost_ret (v := .tuple #[.agg #[.int .u8 y, .int .u8 0, .int .u64 s.lo, .int .u64 s.hi, .int .i64 (j : Int)], .int .i64 (T : Int)]) (by simp [results, Try.results53, go_sem, y0, y1, y2, y3, y4]) rfl ⟨j, s.lo, rfl, ?_, (((((HQ.out.1.andNu (kp_dn _ _)).andSet _ _ (.inl (Nat.le_refl _))).andSet _ _ (.inl (Nat.le_refl _))).andSet _ _ (.inl (Nat.le_refl _))).andSet _ _ (.inl (Nat.le_refl _))).andSet _ _ (.inl (Nat.le_refl _))⟩
            exact ⟨hjn, by have := HJ.out; omega, hj, hI.out.2.1, .inl ⟨rfl, .inl HJ.out⟩⟩
          · have hjl : j ≤ T := by omega
            obtain ⟨i, hi⟩ : ∃ i, T - j = i := ⟨_, rfl⟩
            have ei : (T : Int) - (j : Int) = (i : Int) := by omega
            obtain ⟨z, hz⟩ : ∃ z, ks[i]? = some z := ⟨_, List.getElem?_eq_getElem (by rw [HU.out.2.2.2.2.2.2.2.2.2.1]; omega)⟩
            obtain ⟨bk', e', kz⟩ := (HU.out.2.2.2.1.nu kall).at_ hz
            cases e'
            have eti : (i : Int).toNat = i := by omega
            have hi0 : (0 : Int) ≤ (i : Int) := by omega
            have hiN : (i : Int) < (N : Int) := by omega
            have di : decide ((i : Int) ≥ 0) = true := by simp
            rw [ei]
            have HZ := hide (And.intro hz (And.intro hi (And.intro hjl ei)))
            by_cases q1 : s.lo ≤ z
            · have d1 : decide (z ≥ s.lo) = true := by simpa using q1
              by_cases q2 : j = n
              · have d2 : ((j : Int) == (n : Int)) = true := by rw [beq_iff_eq]; omega
                obtain ⟨z', hz'⟩ : ∃ z', ks[i + 1]? = some z' := ⟨_, List.getElem?_eq_getElem (by rw [HU.out.2.2.2.2.2.2.2.2.2.1]; omega)⟩
                obtain ⟨bk', e', kz'⟩ := (HU.out.2.2.2.1.nu kall).at_ hz'
                cases e'
                have eti1 : ((i : Int) + 1).toNat = i + 1 := by omega
                have kz2 : wr.cell? ⟨bk.block, bk.off + (i + 1), none⟩ = some (.int .u64 z') := by first | exact kz' | (simpa [Addr.add] using kz')
                have hne8 : w8.heap.size ≠ w.heap.size := by omega
                have hne9 : w.heap.size ≠ w8.heap.size := by omega
                have hi1 : (0 : Int) ≤ (i : Int) + 1 := by omega
                have hiN1 : (i : Int) + 1 < (N : Int) := by omega
                have f2 := free3 hI.out.1 2
                have HJ := hide (And.intro q1 (And.intro q2 hz'))
                clear kall bR hb8 ei hjT hjl hi hz hz' q1 q2
                go_wp2_with fail
                go_quiet (fail)
                go_wp2
                have bR2 : ((wr.drewN nq).setCell ⟨w8.heap.size, 2, none⟩ (.int .u64 z')).heap[w.heap.size]? = some (.cells #[.int .u8 0, .int .u8 0, .int .u64 0, .int .u64 0, .int .i64 0] 59 (0, 0)) := ((Kp.setCell (wr.drewN nq) ⟨w8.heap.size, 2, none⟩ (.int .u64 z')).block w.heap.size (blk_lt HQ.out.2) (fun e => hne9 e)).trans HQ.out.2
                have b5 := five_set bR2 (.int .u8 y) (.int .u8 0) (.int .u64 z') (.int .u64 s.hi) (.int .i64 (j : Int))
                obtain ⟨y0, y1, y2, y3, y4⟩ := cell5 b5
                refine bodyPost_ret (v := .tuple #[.agg #[.int .u8 y, .int .u8 0, .int .u64 z', .int .u64 s.hi, .int .i64 (j : Int)], .int .i64 (T : Int)]) (by simp [results, Try.results53, go_sem, y0, y1, y2, y3, y4]) rfl ⟨j, z', rfl, ?_, ((((((HQ.out.1.andNu (kp_dn _ _)).andSet _ _ (.inl (Nat.le_of_lt hlt8))).andSet _ _ (.inl (Nat.le_refl _))).andSet _ _ (.inl (Nat.le_refl _))).andSet _ _ (.inl (Nat.le_refl _))).andSet _ _ (.inl (Nat.le_refl _))).andSet _ _ (.inl (Nat.le_refl _))⟩
                refine ⟨hjn, by have := HJ.out.2.1; omega, hj, hI.out.2.1, .inr ⟨HJ.out.2.1, HZ.out.2.2.1, fun v hv => ?_, by rw [HZ.out.2.1]; exact HJ.out.2.2⟩⟩
                rw [HZ.out.2.1, HZ.out.1] at hv
                cases hv
                exact HJ.out.1
              · have d2 : ((j : Int) == (n : Int)) = false := by rw [beq_eq_false_iff_ne]; omega
                have f4 := free3 hI.out.1 4
                have HJ := hide (And.intro q1 q2)
                clear kall bR hb8 ei hjT hjl hi hz q1 q2
                go_wp2_with fail
                go_quiet (fail)
                go_wp2
                have ej : ((j + 1 : Nat) : Int) = (j : Int) + 1 := by omega
                refine ⟨⟨j + 1, by congr 1; have := HZ.out.2.2.2; omega, by have := HZ.out.2.2.1; omega, by have := HJ.out.2; omega, hide ⟨?_, fun k v hk hv => ?_, (hI.out.2.2.andNu (kp_dn _ _)).andSet _ _ (.inl (Nat.le_refl _))⟩⟩, by simp [intOf]⟩
                · rw [ej]
                  exact set3 (w := wr.drewN nq) (by exact hI.out.1) 4 (.int .i64 ((j : Int) + 1))
                · by_cases e : k < j
                  · exact hI.out.2.1 k v e hv
                  · obtain rfl : k = j := by omega
                    rw [HZ.out.2.1, HZ.out.1] at hv
                    cases hv
                    exact HJ.out.1
            · have d1 : decide (z ≥ s.lo) = false := by simpa using q1
              have HJ := hide q1
              clear kall bR hb8 ei hjT hjl hi hz q1
              go_wp2_with fail
              go_quiet (fail)
              go_wp2
              have b5 := five_set (W := wr.drewN nq) (by exact HQ.out.2) (.int .u8 y) (.int .u8 0) (.int .u64 s.lo) (.int .u64 s.hi) (.int .i64 (j : Int))
              obtain ⟨y0, y1, y2, y3, y4⟩ := cell5 b5
              refine bodyPost_ret (v := .tuple #[.agg #[.int .u8 y, .int .u8 0, .int .u64 s.lo, .int .u64 s.hi, .int .i64 (j : Int)], .int .i64 (T : Int)]) (by simp [results, Try.results53, go_sem, y0, y1, y2, y3, y4]) rfl ⟨j, s.lo, rfl, ?_, (((((HQ.out.1.andNu (kp_dn _ _)).andSet _ _ (.inl (Nat.le_refl _))).andSet _ _ (.inl (Nat.le_refl _))).andSet _ _ (.inl (Nat.le_refl _))).andSet _ _ (.inl (Nat.le_refl _))).andSet _ _ (.inl (Nat.le_refl _))⟩
              refine ⟨hjn, ?_, hj, hI.out.2.1, .inl ⟨rfl, .inr ⟨HZ.out.2.2.1, fun v hv => ?_⟩⟩⟩
              · rcases Nat.eq_zero_or_pos j with e0 | e0
                · exfalso
                  have h1 := HZ.out.1
                  rw [← HZ.out.2.1, e0, Nat.sub_zero, HU.out.2.2.2.2.2.2.2.1] at h1
                  cases h1
                  have := HJ.out
                  omega
                · exact e0
              · rw [HZ.out.2.1, HZ.out.1] at hv
                cases hv
                have := HJ.out
                omega
    · have d1 : (y != g) = true := by simpa using q
      have hTt : T < t := by
        rcases Nat.lt_or_ge T t with h | h
        · exact h
        · have e : T = t := by omega
          have h2 := HU.out.2.2.2.2.2.1
          rw [e, HY.out] at h2
          cases h2
          exact absurd rfl q
      go_wp2
      exact ⟨⟨t - 1, by go_num, by omega, by omega, hkr⟩, by simp [intOf]; omega⟩
end Go.Proofs.Ytbifmcadllilhaa.Rg
