import Derived.Test.YtgaehpdlljlliaaRdN
namespace Go.Proofs.Ytgaehpdlljlliaa.Cd
open Go.RowKit
set_option linter.unusedVariables false

theorem low_own {w : World} {base n : Nat} {v : Value} {l : List Value} (h : w.ownsRow base 5 1 v n l) : ∀ g, at? v = some g → g < w.heap.size := by
  rcases h.2 with ⟨rfl, _⟩ | ⟨g, cap, cur, rfl, hb, hg, _⟩
  · intro g hg; cases hg
  · intro g' e
    simp only [at?, Option.some.injEq] at e
    rw [← e]
    exact block_lt hg
set_option maxRecDepth 100000 in
set_option maxHeartbeats 2000000 in
theorem join_low {w : World} {u v : Value} {xs ys : List Int} (hx : Rd w u xs) (hy : Rd w v ys) (hb : xs.length + ys.length ≤ 140737488355328) :
    Calls Try.prog 47 #[u, v] w fun e w' => ∃ r, e = .returned r ∧ News w.heap.size w w' r (xs ++ ys) ∧ Cap r (xs ++ ys) ∧ (∀ g, at? r = some g → g < w'.heap.size) := by
  obtain ⟨i0, hi, hz0, hz1, hz2⟩ := info_parts info5
  have HX : Hid (∀ j (hj : j < xs.length), ∀ wr, Kp Nu w wr → ∃ ab ao cap, u = .slice (some ⟨ab, ao, none⟩) xs.length cap ∧ wr.cell? ⟨ab, ao + j, none⟩ = some (.int .u8 xs[j])) := by
    intro j hj wr hk
    rcases hx.below (Nat.le_refl _) hk.toBelow with ⟨_, e⟩ | ⟨a, cap, e, hc⟩
    · subst e; simp at hj
    · obtain ⟨ab, ao, e2, _, h3⟩ := addr_of hc hj
      subst e2
      exact ⟨ab, ao, cap, e, h3⟩
  have HY : Hid (∀ j (hj : j < ys.length), ∀ wr, Kp Nu w wr → ∃ ab ao cap, v = .slice (some ⟨ab, ao, none⟩) ys.length cap ∧ wr.cell? ⟨ab, ao + j, none⟩ = some (.int .u8 ys[j])) := by
    intro j hj wr hk
    rcases hy.below (Nat.le_refl _) hk.toBelow with ⟨_, e⟩ | ⟨a, cap, e, hc⟩
    · subst e; simp at hj
    · obtain ⟨ab, ao, e2, _, h3⟩ := addr_of hc hj
      subst e2
      exact ⟨ab, ao, cap, e, h3⟩
  obtain ⟨adx, capx, hu⟩ := hx.slice
  obtain ⟨ady, capy, hv⟩ := hy.slice
  subst hu hv
  obtain ⟨n, hn⟩ : ∃ n, xs.length = n := ⟨_, rfl⟩
  obtain ⟨m, hm⟩ : ∃ m, ys.length = m := ⟨_, rfl⟩
  have HN := hide hn
  have HMm := hide hm
  have HB : Hid (n + m ≤ 140737488355328) := by show _ ≤ _; omega
  have hnI : (n : Int) ≤ 140737488355328 := by omega
  have hmI : (m : Int) ≤ 140737488355328 := by omega
  have A1 : Hid (i0.bytes * (n + m) ≤ 281474976710656) := by
    have := HB.out
    show _ ≤ _
    rw [hz2]; omega
  have A2 : Hid (n + m ≤ maxLen) := by
    have := HB.out
    show _ ≤ _
    unfold maxLen; omega
  rw [hn, hm]
  clear hn hm hb hx hy
  go_enter Try.func47, Try.ntmps47
  go_wp2_with (at_make; refine wpList_make_own _ rfl _ _ 30 rfl w.heap.size 5 i0 _ 1 Try.underlying30 hi hz0 hz1 .i64 .i64 _ (n + m) rfl rfl (by omega) A1.out A2.out (Nat.le_refl _) ?_; intro w1 hown hgrow; have HL := hide (Kp.of_grown hgrow); clear hgrow)
  go_loopw [5, 6] (fun r i wr => ∃ k : Nat, k ≤ n ∧ i = .int .i64 (k : Int) ∧ wr.ownsRow w.heap.size 5 1 r k (cs (xs.take k)) ∧ Kp Nu w wr) (fun _ i _ => n - (intOf i).toNat)
  case atStart => exact ⟨0, by omega, rfl, by simpa [cs] using hown, ⟨HL.out.os, HL.out.tape, HL.out.output, HL.out.size, fun k hk _ => HL.out.block k hk (by simp)⟩⟩
  case round =>
    obtain ⟨k, hk, rfl, hrow, hkp⟩ := hrel
    clear hown HL
    by_cases hlt : k < n
    · have hkx : k < xs.length := by rw [HN.out]; exact hlt
      obtain ⟨ab, ao, cp, e, hcell⟩ := HX.out k hkx wr hkp
      simp only [Value.slice.injEq] at e
      obtain ⟨e1, _, e3⟩ := e
      subst e1 e3
      have hts := take_snoc hkx
      have HTS := hide hts
      generalize hz : xs[k] = z at *
      have hltI : (k : Int) < (n : Int) := by omega
      have hk0 : (0 : Int) ≤ (k : Int) := by omega
      have hsz := hkp.size
      clear hz hkx hts
      go_wp2_with (at_builtin; refine wpList_append_own_at _ rfl _ _ 30 rfl w.heap.size 5 i0 _ 1 1 Try.underlying30 hi hz0 hz1 hz2 rfl (by decide) _ _ _ rfl (hrow.alloc _) ⟨wr.heap.size, 0, none⟩ 1 1 [.int .u8 z] rfl rfl (cell_one_new _ _ _) (by simp [Value.oneCell']) (by have := HB.out; unfold maxLen; omega) (by have := HB.out; omega) (by simp; omega) ?_; intro v' w2 hown' hgrow _ hat; obtain ⟨g', cap', rfl⟩ := ownsRow_succ hown')
      refine ⟨⟨k + 1, by omega, by go_num, ?_, kp_grown (hkp.andAlloc _) hgrow (hrow.alloc _) (Nat.le_refl _)⟩, by simp [intOf]; omega⟩
      rw [HTS.out]
      simpa [cs] using hown'
    · have hke : k = n := by omega
      subst hke
      rw [List.take_of_length_le (by rw [HN.out]; exact Nat.le_refl _)] at hrow
      go_wp2_with fail
      go_loopw [5, 7] (fun r i wr => ∃ j : Nat, j ≤ m ∧ i = .int .i64 (j : Int) ∧ wr.ownsRow w.heap.size 5 1 r (k + j) (cs (xs ++ ys.take j)) ∧ Kp Nu w wr) (fun _ i _ => m - (intOf i).toNat)
      case atStart => exact ⟨0, by omega, rfl, by simpa using hrow, hkp⟩
      case round =>
        rename_i wr0 _
        obtain ⟨j, hj, rfl, hrow2, hkp2⟩ := hrel
        clear hrow hkp
        by_cases hlt2 : j < m
        · have hjy : j < ys.length := by rw [HMm.out]; exact hlt2
          obtain ⟨ab, ao, cp, e, hcell⟩ := HY.out j hjy _ hkp2
          simp only [Value.slice.injEq] at e
          obtain ⟨e1, _, e3⟩ := e
          subst e1 e3
          have HTS := hide (take_snoc hjy)
          generalize hz : ys[j] = z at *
          have hltI : (j : Int) < (m : Int) := by omega
          have hk0 : (0 : Int) ≤ (j : Int) := by omega
          have hsz := hkp2.size
          clear hz hjy
          go_wp2_with (at_builtin; refine wpList_append_own_at _ rfl _ _ 30 rfl w.heap.size 5 i0 _ 1 1 Try.underlying30 hi hz0 hz1 hz2 rfl (by decide) _ _ _ rfl (hrow2.alloc _) ⟨_, 0, none⟩ 1 1 [.int .u8 z] rfl rfl (cell_one_new _ _ _) (by simp [Value.oneCell']) (by have := HB.out; unfold maxLen; omega) (by have := HB.out; omega) (by simp; omega) ?_; intro v' w2 hown' hgrow _ hat; obtain ⟨g', cap', rfl⟩ := ownsRow_succ hown')
          refine ⟨⟨j + 1, by omega, by go_num, ?_, kp_grown (hkp2.andAlloc _) hgrow (hrow2.alloc _) (Nat.le_refl _)⟩, by simp [intOf]; omega⟩
          rw [HTS.out]
          simpa [cs, Nat.add_assoc] using hown'
        · have hje : j = m := by omega
          subst hje
          rw [List.take_of_length_le (by rw [HMm.out]; exact Nat.le_refl _)] at hrow2
          obtain ⟨ad2, n2, cap2, hv2⟩ := own_slice' hrow2
          subst hv2
          go_wp2
          go_ret
          exact ⟨_, rfl, ⟨rd_own hrow2 (by rw [List.length_append, HN.out, HMm.out]), fresh_own hrow2, hkp2⟩, cap_own hrow2 (by rw [List.length_append, HN.out, HMm.out]), low_own hrow2⟩
theorem newReading_low {w : World} {u : Value} {xs : List Int} (h : Rd w u xs) (hl : xs.length ≤ 16777216) : Calls Try.prog 19 #[u] w fun e w' => ∃ d, e = .returned (.tuple #[.agg #[.bool true, d, .int .i64 0, .int .i64 0], .int .i64 0]) ∧ News w.heap.size w w' d xs ∧ Cap d xs ∧ (∀ g, at? d = some g → g < w'.heap.size) := by
  have J := fun o => join_low (rd_nil (w.alloc o)) (h.keeps (Kp.alloc w o Nu) (fun _ _ h => h)) (by simp; omega)
  have J0 := join_low (rd_nil w) h (by simp; omega)
  simp only [List.nil_append] at J J0
  obtain ⟨ad, cap, hu⟩ := h.slice
  subst hu
  have hlI : ¬ (xs.length : Int) > 16777216 := by omega
  have KA := fun o => Kp.alloc w o Nu
  generalize xs.length = L at *
  go_enter Try.func19, Try.ntmps19
  go_wp2_with fail
  refine (J _).mono ?_; rintro e w1 ⟨d, rfl, hd, hcap, hlow⟩
  have hbox : w1.heap[w.heap.size]? = some (.cells #[.bool false, .slice none 0 0, .int .i64 0, .int .i64 0] 52 (0, 0)) := (hd.2.2.block w.heap.size (by simp) (fun h => h)).trans (heap_alloc_new w _)
  have hat : at? d ≠ some w.heap.size := by
    intro e
    rcases hd.2.1 with e2 | ⟨G, hG, e2⟩
    · rw [e2] at e; cases e
    · rw [e2] at e; cases e; simp at hG; omega
  have hfr : fresh w.heap.size d := by
    rcases hd.2.1 with e2 | ⟨G, hG, e2⟩
    · exact .inl e2
    · refine .inr ⟨G, ?_, e2⟩
      simp at hG
      omega
  have hrd := hd.1
  have HCAP := hide hcap
  have HLOW := hide hlow
  clear hcap hlow
  have hk1 := (KA (Obj.cells #[.bool false, .slice none 0 0, .int .i64 0, .int .i64 0] 52 (0, 0))).trans hd.2.2 (fun _ _ h => h)
  obtain ⟨ad2, cap2, hd2⟩ := hrd.slice
  subst hd2
  generalize xs.length = L2 at *
  obtain ⟨c0, c1, c2, c3⟩ := cell4 hbox
  have f0 := free3 hbox 0
  have f1 := free3 hbox 1
  have f2 := free3 hbox 2
  have f3 := free3 hbox 3
  clear J J0 KA hd
  go_wp2
  have s0 := set3 hbox 0 (.bool true)
  have s1 := set3 s0 1 (.slice ad2 L2 cap2)
  have s2 := set3 s1 2 (.int .i64 0)
  have s3 := set3 s2 3 (.int .i64 0)
  simp only [Array.setIfInBounds] at s3
  have s4 := s3
  obtain ⟨e0, e1, e2, e3⟩ := cell4 (by simpa using s4)
  have hk4 := (((hk1.andSet ⟨w.heap.size, 0, none⟩ (.bool true) (Nat.le_refl _)).andSet ⟨w.heap.size, 1, none⟩ (.slice ad2 L2 cap2) (Nat.le_refl _)).andSet ⟨w.heap.size, 2, none⟩ (.int .i64 0) (Nat.le_refl _)).andSet ⟨w.heap.size, 3, none⟩ (.int .i64 0) (Nat.le_refl _)
  have hr4 := (((hrd.andSet ⟨w.heap.size, 0, none⟩ (.bool true) hat).andSet ⟨w.heap.size, 1, none⟩ (.slice ad2 L2 cap2) hat).andSet ⟨w.heap.size, 2, none⟩ (.int .i64 0) hat).andSet ⟨w.heap.size, 3, none⟩ (.int .i64 0) hat
  have hsz4 : w1.heap.size = ((((w1.setCell ⟨w.heap.size, 0, none⟩ (.bool true)).setCell ⟨w.heap.size, 1, none⟩ (.slice ad2 L2 cap2)).setCell ⟨w.heap.size, 2, none⟩ (.int .i64 0)).setCell ⟨w.heap.size, 3, none⟩ (.int .i64 0)).heap.size := by simp [World.setCell]
  generalize (((w1.setCell ⟨w.heap.size, 0, none⟩ (.bool true)).setCell ⟨w.heap.size, 1, none⟩ (.slice ad2 L2 cap2)).setCell ⟨w.heap.size, 2, none⟩ (.int .i64 0)).setCell ⟨w.heap.size, 3, none⟩ (.int .i64 0) = w5 at *
  exact bodyPost_ret (v := .tuple #[.agg #[.bool true, .slice ad2 L2 cap2, .int .i64 0, .int .i64 0], .int .i64 0]) (by simp [results, Try.results19, go_sem, e0, e1, e2, e3]) rfl ⟨_, rfl, ⟨hr4, hfr, hk4⟩, HCAP.out, fun g hg => by rw [← hsz4]; exact HLOW.out g hg⟩

end Go.Proofs.Ytgaehpdlljlliaa.Cd
