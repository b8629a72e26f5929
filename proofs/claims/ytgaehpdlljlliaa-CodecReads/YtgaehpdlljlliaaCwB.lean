import Derived.Test.YtgaehpdlljlliaaCwA
import Derived.Test.YtgaehpdlljlliaaCrD
namespace Go.Proofs.Ytgaehpdlljlliaa.Cd
open Go.RowKit
set_option linter.unusedVariables false

theorem take_snoc {xs : List Int} {k : Nat} (h : k < xs.length) : xs.take (k + 1) = xs.take k ++ [xs[k]] := by
  rw [List.take_add_one, List.getElem?_eq_getElem h]
  rfl

set_option maxRecDepth 100000 in
set_option maxHeartbeats 2000000 in
theorem join_any {w : World} {u v : Value} {xs ys : List Int} (hx : Rd w u xs) (hy : Rd w v ys) (hb : xs.length + ys.length ≤ 140737488355328) :
    Calls Try.prog 47 #[u, v] w fun e w' => ∃ r, e = .returned r ∧ News w.heap.size w w' r (xs ++ ys) := by
  obtain ⟨i0, hi, hz0, hz1, hz2⟩ := info_parts info5
  have HX : Hid (∀ j (hj : j < xs.length), ∀ wr, Kp Nu w wr → ∃ ab ao cap, u = .slice (some ⟨ab, ao, none⟩) xs.length cap ∧ wr.cell? ⟨ab, ao + j, none⟩ = some (.int .u8 xs[j])) := by
    intro j hj wr hk
    rcases hx.below (Nat.le_refl _) hk.toBelow with ⟨_, e⟩ | ⟨a, cap, e, hc⟩
    · subst e; simp at hj
    · obtain ⟨ab, ao, e2, _, h3⟩ := addr_of hc hj
      subst e2
      exact ⟨ab, ao, cap, e, h3⟩
  have HY : Hid (∀ j (hj : j < ys.length), ∀ wr, Kp Nu w wr → ∃ ab ao cap, v = .slice (some ⟨ab, ao, none⟩) ys.length cap ∧ wr.cell? ⟨ab, ao + j, none⟩ = some (.int .u8 ys[j])) := by
    intro j hj wr hk
    rcases hy.below (Nat.le_refl _) hk.toBelow with ⟨_, e⟩ | ⟨a, cap, e, hc⟩
    · subst e; simp at hj
    · obtain ⟨ab, ao, e2, _, h3⟩ := addr_of hc hj
      subst e2
      exact ⟨ab, ao, cap, e, h3⟩
  obtain ⟨adx, capx, hu⟩ := hx.slice
  obtain ⟨ady, capy, hv⟩ := hy.slice
  subst hu hv
  obtain ⟨n, hn⟩ : ∃ n, xs.length = n := ⟨_, rfl⟩
  obtain ⟨m, hm⟩ : ∃ m, ys.length = m := ⟨_, rfl⟩
  have HN := hide hn
  have HMm := hide hm
  have HB : Hid (n + m ≤ 140737488355328) := by show _ ≤ _; omega
  have hnI : (n : Int) ≤ 140737488355328 := by omega
  have hmI : (m : Int) ≤ 140737488355328 := by omega
  have A1 : Hid (i0.bytes * (n + m) ≤ 281474976710656) := by
    have := HB.out
    show _ ≤ _
    rw [hz2]; omega
  have A2 : Hid (n + m ≤ maxLen) := by
    have := HB.out
    show _ ≤ _
    unfold maxLen; omega
  rw [hn, hm]
  clear hn hm hb hx hy
  go_enter Try.func47, Try.ntmps47
  go_wp2_with (at_make; refine wpList_make_own _ rfl _ _ 30 rfl w.heap.size 5 i0 _ 1 Try.underlying30 hi hz0 hz1 .i64 .i64 _ (n + m) rfl rfl (by omega) A1.out A2.out (Nat.le_refl _) ?_; intro w1 hown hgrow; have HL := hide (Kp.of_grown hgrow); clear hgrow)
  go_loopw [5, 6] (fun r i wr => ∃ k : Nat, k ≤ n ∧ i = .int .i64 (k : Int) ∧ wr.ownsRow w.heap.size 5 1 r k (cs (xs.take k)) ∧ Kp Nu w wr) (fun _ i _ => n - (intOf i).toNat)
  case atStart => exact ⟨0, by omega, rfl, by simpa [cs] using hown, ⟨HL.out.os, HL.out.tape, HL.out.output, HL.out.size, fun k hk _ => HL.out.block k hk (by simp)⟩⟩
  case round =>
    obtain ⟨k, hk, rfl, hrow, hkp⟩ := hrel
    clear hown HL
    by_cases hlt : k < n
    · have hkx : k < xs.length := by rw [HN.out]; exact hlt
      obtain ⟨ab, ao, cp, e, hcell⟩ := HX.out k hkx wr hkp
      simp only [Value.slice.injEq] at e
      obtain ⟨e1, _, e3⟩ := e
      subst e1 e3
      have hts := take_snoc hkx
      have HTS := hide hts
      generalize hz : xs[k] = z at *
      have hltI : (k : Int) < (n : Int) := by omega
      have hk0 : (0 : Int) ≤ (k : Int) := by omega
      have hsz := hkp.size
      clear hz hkx hts
      go_wp2_with (at_builtin; refine wpList_append_own_at _ rfl _ _ 30 rfl w.heap.size 5 i0 _ 1 1 Try.underlying30 hi hz0 hz1 hz2 rfl (by decide) _ _ _ rfl (hrow.alloc _) ⟨wr.heap.size, 0, none⟩ 1 1 [.int .u8 z] rfl rfl (cell_one_new _ _ _) (by simp [Value.oneCell']) (by have := HB.out; unfold maxLen; omega) (by have := HB.out; omega) (by simp; omega) ?_; intro v' w2 hown' hgrow _ hat; obtain ⟨g', cap', rfl⟩ := ownsRow_succ hown')
      refine ⟨⟨k + 1, by omega, by go_num, ?_, kp_grown (hkp.andAlloc _) hgrow (hrow.alloc _) (Nat.le_refl _)⟩, by simp [intOf]; omega⟩
      rw [HTS.out]
      simpa [cs] using hown'
    · have hke : k = n := by omega
      subst hke
      rw [List.take_of_length_le (by rw [HN.out]; exact Nat.le_refl _)] at hrow
      go_wp2_with fail
      go_loopw [5, 7] (fun r i wr => ∃ j : Nat, j ≤ m ∧ i = .int .i64 (j : Int) ∧ wr.ownsRow w.heap.size 5 1 r (k + j) (cs (xs ++ ys.take j)) ∧ Kp Nu w wr) (fun _ i _ => m - (intOf i).toNat)
      case atStart => exact ⟨0, by omega, rfl, by simpa using hrow, hkp⟩
      case round =>
        rename_i wr0 _
        obtain ⟨j, hj, rfl, hrow2, hkp2⟩ := hrel
        clear hrow hkp
        by_cases hlt2 : j < m
        · have hjy : j < ys.length := by rw [HMm.out]; exact hlt2
          obtain ⟨ab, ao, cp, e, hcell⟩ := HY.out j hjy _ hkp2
          simp only [Value.slice.injEq] at e
          obtain ⟨e1, _, e3⟩ := e
          subst e1 e3
          have HTS := hide (take_snoc hjy)
          generalize hz : ys[j] = z at *
          have hltI : (j : Int) < (m : Int) := by omega
          have hk0 : (0 : Int) ≤ (j : Int) := by omega
          have hsz := hkp2.size
          clear hz hjy
          go_wp2_with (at_builtin; refine wpList_append_own_at _ rfl _ _ 30 rfl w.heap.size 5 i0 _ 1 1 Try.underlying30 hi hz0 hz1 hz2 rfl (by decide) _ _ _ rfl (hrow2.alloc _) ⟨_, 0, none⟩ 1 1 [.int .u8 z] rfl rfl (cell_one_new _ _ _) (by simp [Value.oneCell']) (by have := HB.out; unfold maxLen; omega) (by have := HB.out; omega) (by simp; omega) ?_; intro v' w2 hown' hgrow _ hat; obtain ⟨g', cap', rfl⟩ := ownsRow_succ hown')
          refine ⟨⟨j + 1, by omega, by go_num, ?_, kp_grown (hkp2.andAlloc _) hgrow (hrow2.alloc _) (Nat.le_refl _)⟩, by simp [intOf]; omega⟩
          rw [HTS.out]
          simpa [cs, Nat.add_assoc] using hown'
        · have hje : j = m := by omega
          subst hje
          rw [List.take_of_length_le (by rw [HMm.out]; exact Nat.le_refl _)] at hrow2
          obtain ⟨ad2, n2, cap2, hv2⟩ := own_slice' hrow2
          subst hv2
          go_wp2
          go_ret
          exact ⟨_, rfl, rd_own hrow2 (by rw [List.length_append, HN.out, HMm.out]), fresh_own hrow2, hkp2⟩
end Go.Proofs.Ytgaehpdlljlliaa.Cd
