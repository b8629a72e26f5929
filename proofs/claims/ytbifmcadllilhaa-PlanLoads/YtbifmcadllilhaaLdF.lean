import Derived.Test.YtbifmcadllilhaaLdE
namespace Go.Proofs.Ytbifmcadllilhaa.Rg
open Go.RowKit Go.Shelf Go.Sort
open Go.Proofs.Ytbifmcadllilhaa.It
set_option linter.unusedVariables false

theorem unhid {p : Prop} (h : Hid p) : p := h

set_option maxRecDepth 100000 in
set_option maxHeartbeats 2000000 in
theorem join_any (w : World) (u : Value) (M : List Sg) (hM : Sgs w u M) (hlen : (M.length : Int) ≤ 5864062014634) :
    Calls Try.prog 66 #[u] w fun e w' => ∃ u', e = .returned u' ∧ w'.ownsRow w.heap.size 82 3 u' (lays [] M).length (cells (lays [] M)) ∧ Kp Nu w w' := by
  have mixed : Try.prog.follows .mixedOrders = true := by kernel_rfl
  obtain ⟨i0, hi, hz0, hz1, hz2⟩ := info_parts info40
  obtain ⟨ad, cap, hu⟩ := hM.slice
  obtain ⟨N, hN⟩ : ∃ N, M.length = N := ⟨_, rfl⟩
  have HM := hide hM
  have HN := hide hN
  rw [hN] at hu hlen
  subst hu
  clear hM hN
  go_enter Try.func66, Try.ntmps66
  go_wp2_with fail
  go_loopw [3, 4] (fun l i wr => ∃ (k n : Nat) (adl : Option Addr) (cpl : Nat), k ≤ N ∧ i = .int .i64 (k : Int) ∧ l = .slice adl n cpl ∧ (n : Int) ≤ 5864062014634 ∧ Hid ((lays [] (M.take k)).length = n ∧ wr.ownsRow w.heap.size 82 3 (.slice adl n cpl) n (cells (lays [] (M.take k))) ∧ Kp Nu w wr)) (fun _ i _ => N - (intOf i).toNat)
  case atStart => exact ⟨0, 0, none, 0, by omega, rfl, rfl, by omega, ⟨rfl, ⟨rfl, .inl ⟨rfl, rfl⟩⟩, Kp.refl _ _⟩⟩
  case round =>
    obtain ⟨k, n, adl, cpl, hk, rfl, rfl, hn8, hI⟩ := hrel
    by_cases hlt : k < N
    · have hkM : k < M.length := by rw [HN.out]; exact hlt
      obtain ⟨s, hs⟩ : ∃ s, M[k]? = some s := ⟨_, List.getElem?_eq_getElem hkM⟩
      have hcell : ∃ bs off cp, (.slice ad N cap : Value) = .slice (some ⟨bs, off, none⟩) N cp ∧ SgAt w bs (off + k * 3) s := by
        rcases HM.out with ⟨_, h0⟩ | ⟨bs, off, cp, h0, h3⟩
        · rw [h0] at hs; simp at hs
        · rw [HN.out] at h0
          exact ⟨bs, off, cp, h0, h3 k s hs⟩
      obtain ⟨bs, off, cp, hq, hsg⟩ := hcell
      simp only [Value.slice.injEq] at hq
      obtain ⟨rfl, hq1⟩ := hq
      clear hq1
      obtain ⟨hl, hown, hkp⟩ := hI.out
      obtain ⟨c0, c1, c2, F1⟩ := hsg
      have hbw : bs < w.heap.size := World.block_lt_of_cell? w _ c0
      replace c0 := cell_nu c0 hkp
      replace c1 := cell_nu c1 hkp
      replace c2 := cell_nu c2 hkp
      have hltI : (k : Int) < (N : Int) := by omega
      have hk0 : (0 : Int) ≤ (k : Int) := by omega
      have hkN : (k : Int) ≤ 5864062014634 := by omega
      have hsz := hkp.size
      have e1 : lays [] (M.take (k + 1)) = lay (lays [] (M.take k)) s := by rw [List.take_add_one, hs, Option.toList_some, lays_snoc]
      have hle2 := lays_le (M.take (k + 1)) []
      have hn9 : ((lays [] (M.take (k + 1))).length : Int) ≤ 5864062014634 := by simp at hle2; omega
      rcases List.eq_nil_or_concat (lays [] (M.take k)) with e | ⟨A', t, e⟩
      · have hn0 : n = 0 := by rw [← hl, e]; rfl
        subst hn0
        have e2 : lays [] (M.take (k + 1)) = [s] := by rw [e1, e]; rfl
        have HE := hide e2
        have HD : Hid (wr.drew.ownsRow w.heap.size 82 3 (.slice adl 0 cpl) 0 (cells [])) := by
          have h1 := hown
          rw [e] at h1
          exact h1
        have HK := hide hkp
        have d0 : wr.drew.cell? ⟨bs, off + k * 3, none⟩ = some (.int .u64 s.lo) := c0
        have d1 : wr.drew.cell? ⟨bs, off + k * 3 + 1, none⟩ = some (.int .u64 s.hi) := c1
        have d2 : wr.drew.cell? ⟨bs, off + k * 3 + 2, none⟩ = some (.int .u8 s.h) := c2
        clear hI hl hown hkp hs hkM e e1 e2 hle2 hn9
        go_wp2_with fail
        go_region
        go_wp2_with (at_builtin; refine unhid ?_)
        refine wpList_append_own_at _ rfl (.tmp 40) (.tmp 45) 36 rfl w.heap.size 82 i0 (.agg #[.int .u64 0, .int .u64 0, .int .u8 0]) 3 24 Try.underlying36 hi hz0 hz1 hz2 rfl (by decide) (.slice adl 0 cpl) 0 (cells []) rfl (HD.out.alloc _) ⟨wr.heap.size, 0, none⟩ 1 1 [.int .u64 s.lo, .int .u64 s.hi, .int .u8 s.h] rfl rfl (cell_three_new wr.drew _ _ _ _) (by simp [Value.oneCell']) (by unfold maxLen; omega) (by omega) (by show _ ≤ (wr.drew.alloc _).heap.size; rw [World.size_alloc]; exact Nat.le_trans hsz (Nat.le_succ _)) ?_
        intro v' w4 ho hg hnil hat
        obtain ⟨ad4, cp4, ev⟩ := own_slice ho
        subst ev
        have HO : Hid ((lays [] (M.take (k + 1))).length = 0 + 1 ∧ w4.ownsRow w.heap.size 82 3 (.slice ad4 (0 + 1) cp4) (0 + 1) (cells (lays [] (M.take (k + 1)))) ∧ Kp Nu w w4) := by
          refine ⟨by rw [HE.out]; simp, by rw [HE.out, show cells [s] = cells [] ++ [.int .u64 s.lo, .int .u64 s.hi, .int .u8 s.h] from rfl]; exact ho, ?_⟩
          refine ((HK.out.drew.andAlloc _).trans (Kp.of_grown hg) (fun i hi e => ?_))
          have := (HD.out.lt i e.symm).1
          omega
        clear ho hg hnil hat HD HK
        go_wp2_with fail
        exact ⟨⟨k + 1, _, _, _, by omega, by go_num, rfl, by omega, HO⟩, by simp [intOf]; omega⟩
      · rw [List.concat_eq_append] at e
        obtain ⟨q, hq⟩ : ∃ q, A'.length = q := ⟨_, rfl⟩
        have hl3 : n = q + 1 := by rw [← hl, e, ← hq]; simp
        have hlt2 : (A' ++ [t])[A'.length]? = some t := by simp
        have hown2 : wr.ownsRow w.heap.size 82 3 (.slice adl n cpl) (A'.length + 1) (cells (A' ++ [t])) := by
          rw [← e, hq, ← hl3]; exact hown
        have hown3 : wr.ownsRow w.heap.size 82 3 (.slice adl n cpl) (A' ++ [t]).length (cells (A' ++ [t])) := by
          rw [← e, hl]; exact hown
        obtain ⟨r3, cap3, hu3, x0, x1, x2⟩ := row_at hown3 hlt2
        obtain ⟨r4, cap4, hu4, o1, o2⟩ := own_end hown2 s.hi
        have h34 : r4 = r3 := by
          rw [hu3] at hu4
          simp only [Value.slice.injEq, Option.some.injEq, Addr.mk.injEq, and_true] at hu4
          exact hu4.1.symm
        subst h34
        rw [hq] at x1 x2 o1 o2
        simp only [Value.slice.injEq] at hu3
        obtain ⟨rfl, hy1, hy2⟩ := hu3
        clear hy1 hy2 hu4
        have hr3 : w.heap.size ≤ r4 := (hown.lt r4 rfl).1
        have hq0 : (q : Int) + 1 > 0 := by omega
        have hq8 : (q : Int) + 1 ≤ 5864062014634 := by omega
        have hq9 : (0 : Int) ≤ (q : Int) := by omega
        have d0 : wr.drew.cell? ⟨bs, off + k * 3, none⟩ = some (.int .u64 s.lo) := c0
        have d1 : wr.drew.cell? ⟨bs, off + k * 3 + 1, none⟩ = some (.int .u64 s.hi) := c1
        have d2 : wr.drew.cell? ⟨bs, off + k * 3 + 2, none⟩ = some (.int .u8 s.h) := c2
        have HK := hide hkp
        by_cases hh : t.h = s.h
        · have e2 : lays [] (M.take (k + 1)) = A' ++ [⟨t.lo, s.hi, t.h⟩] := by rw [e1, e, lay_snoc, if_pos hh]
          have heq : (t.h == s.h) = true := by simpa using hh
          have d3 : wr.drew.cell? ⟨r4, q * 3 + 1, none⟩ = some (.int .u64 t.hi) := x1
          have d4 : wr.drew.frozen? ⟨r4, q * 3 + 1, none⟩ = false := o2
          have HO : Hid ((lays [] (M.take (k + 1))).length = q + 1 ∧ (wr.drew.setCell ⟨r4, q * 3 + 1, none⟩ (.int .u64 s.hi)).ownsRow w.heap.size 82 3 (.slice (some ⟨r4, 0, none⟩) (q + 1) cpl) (q + 1) (cells (lays [] (M.take (k + 1)))) ∧ Kp Nu w (wr.drew.setCell ⟨r4, q * 3 + 1, none⟩ (.int .u64 s.hi))) := by
            refine ⟨by rw [e2]; simp [hq], ?_, HK.out.drew.andSet _ _ (.inl hr3)⟩
            rw [e2]
            have h1 := o1
            rw [hl3] at h1
            exact h1
          subst hl3
          clear hI hl hown hown2 hown3 o1 hkp hs hkM e e1 e2 hle2 hn9 hlt2 x0 x1 hh
          go_wp2_with fail
          go_region
          go_wp2_with fail
          exact ⟨⟨k + 1, _, _, _, by omega, by go_num, rfl, by omega, HO⟩, by simp [intOf]; omega⟩
        · have e2 : lays [] (M.take (k + 1)) = A' ++ [t] ++ [s] := by rw [e1, e, lay_snoc, if_neg hh]
          have heq : (t.h == s.h) = false := by simpa using hh
          have hb9 : (q : Int) + 1 + 1 ≤ 5864062014634 := by
            rw [e2] at hn9
            simp [hq] at hn9
            omega
          have HE := hide e2
          have HQ := hide hq
          have HD : Hid (wr.drew.ownsRow w.heap.size 82 3 (.slice (some ⟨r4, 0, none⟩) (q + 1) cpl) (q + 1) (cells (A' ++ [t]))) := by
            have h1 := hown2
            rw [hq, hl3] at h1
            exact h1
          subst hl3
          clear hI hl hown hown2 hown3 o1 hkp hs hkM e e1 e2 hle2 hn9 hlt2 x0 x1 hh hq
          go_wp2_with fail
          go_region
          go_wp2_with (at_builtin; refine unhid ?_)
          refine wpList_append_own_at _ rfl (.tmp 40) (.tmp 45) 36 rfl w.heap.size 82 i0 (.agg #[.int .u64 0, .int .u64 0, .int .u8 0]) 3 24 Try.underlying36 hi hz0 hz1 hz2 rfl (by decide) (.slice (some ⟨r4, 0, none⟩) (q + 1) cpl) (q + 1) (cells (A' ++ [t])) rfl (HD.out.alloc _) ⟨wr.heap.size, 0, none⟩ 1 1 [.int .u64 s.lo, .int .u64 s.hi, .int .u8 s.h] rfl rfl (cell_three_new wr.drew _ _ _ _) (by simp [Value.oneCell']) (by unfold maxLen; omega) (by omega) (by show _ ≤ (wr.drew.alloc _).heap.size; rw [World.size_alloc]; exact Nat.le_trans hsz (Nat.le_succ _)) ?_
          intro v' w4 ho hg hnil hat
          obtain ⟨ad4, cp4, ev⟩ := own_slice ho
          subst ev
          have HO : Hid ((lays [] (M.take (k + 1))).length = q + 1 + 1 ∧ w4.ownsRow w.heap.size 82 3 (.slice ad4 (q + 1 + 1) cp4) (q + 1 + 1) (cells (lays [] (M.take (k + 1)))) ∧ Kp Nu w w4) := by
            refine ⟨by rw [HE.out]; simp [HQ.out], by rw [HE.out, cells_append (A' ++ [t]) [s]]; exact ho, ?_⟩
            refine ((HK.out.drew.andAlloc _).trans (Kp.of_grown hg) (fun i hi e => ?_))
            have := (HD.out.lt i e.symm).1
            omega
          clear ho hg hnil hat HD HK
          go_wp2_with fail
          exact ⟨⟨k + 1, _, _, _, by omega, by go_num, rfl, by omega, HO⟩, by simp [intOf]; omega⟩
    · have hge : ¬ (k : Int) < (N : Int) := by omega
      obtain rfl : k = N := by omega
      obtain ⟨hl, hown, hkp⟩ := hI.out
      rw [List.take_of_length_le (by rw [HN.out]; omega)] at hl hown
      have HO : Hid (wr.ownsRow w.heap.size 82 3 (.slice adl n cpl) (lays [] M).length (cells (lays [] M)) ∧ Kp Nu w wr) := ⟨by rw [hl]; exact hown, hkp⟩
      clear hI hl hown hkp
      go_wp2
      go_ret
      exact ⟨_, rfl, HO.out.1, HO.out.2⟩
end Go.Proofs.Ytbifmcadllilhaa.Rg
