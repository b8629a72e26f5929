import Derived.Test.YtchealdgncgjoaaRmH
namespace Go.Proofs.Ytchealdgncgjoaa.StI
open Go.RowKit Go.Proofs.Ytchealdgncgjoaa.St Go.Shelf
set_option linter.unusedVariables false
set_option linter.unusedSimpArgs false
section
variable {B : Nat} {w : World} {rb : Nat} {wh : Int} {vk vv : Value} {xs : List (Int × Int)} {o : Int → Int → Int}
set_option maxRecDepth 100000 in
set_option maxHeartbeats 1000000 in
theorem rdel_noN (h : Rm B w rb wh vk vv xs) (ho : Oc wh o) (k : Int) (hl : xs.length ≤ 17592186044000) (hpl : plc o k xs = -1) :
    Calls Try.prog 42 #[.pointer (some ⟨rb, 0, none⟩), .int .i64 k] w fun e w' => e = .returned (.tuple #[.int .i64 0, .bool false]) ∧ Kp Nu w w' := by
  have AT := rat_any h ho k (by omega)
  rw [hpl] at AT
  clear h ho hl hpl
  go_enter Try.func42, Try.ntmps42
  go_wp2_with (go_at_call 101; refine AT.mono ?_; rintro e w1 ⟨rfl, k1⟩)
  go_ret2
  exact ⟨rfl, k1⟩
set_option maxRecDepth 100000 in
set_option maxHeartbeats 4000000 in
theorem rdel_yesN (h : Rm B w rb wh vk vv xs) (hB : B ≤ w.heap.size) (ho : Oc wh o) (k : Int) (hl : xs.length ≤ 17592186044000) (i : Nat) (p0 : Int × Int) (hpl : plc o k xs = (i : Int)) (hp0 : xs[i]? = some p0) :
    Calls Try.prog 42 #[.pointer (some ⟨rb, 0, none⟩), .int .i64 k] w fun e w' => e = .returned (.tuple #[.int .i64 p0.2, .bool true]) ∧ ∃ vk' vv', Rm w.heap.size w' rb wh vk' vv' (xs.eraseIdx i) ∧ Kp (fun i => i = rb) w w' := by
  obtain ⟨i0, hi0, hz0, hz1, hz2⟩ := info_parts info3
  have AT := rat_any h ho k (by omega)
  rw [hpl] at AT
  obtain ⟨adk, capk, hvk⟩ := own_slice h.ok
  have HH := hide h
  obtain ⟨N, hN⟩ : ∃ N, xs.length = N := ⟨_, rfl⟩
  have hiN : i < N := by rw [← hN]; exact (List.getElem?_eq_some_iff.1 hp0).1
  obtain ⟨rv, cv, ev, _⟩ := rowI_at (i := i) (u := .int .i64 p0.2) h.ov (by simp [vvs]) (by simp [vvs, hp0])
  rw [hN] at hvk ev hl
  subst hvk ev
  have HC : ∀ W, Kp Nu w W → W.cell? ⟨rb, 1, none⟩ = some (.slice adk N capk) ∧ W.cell? ⟨rb, 2, none⟩ = some (.slice (some ⟨rv, 0, none⟩) N cv) := fun W q => by
    obtain ⟨_, d1, d2⟩ := cell3 (h.nu q).blk
    exact ⟨d1, d2⟩
  have HP : ∀ W, Kp Nu w W → W.cell? ⟨rv, i, none⟩ = some (.int .i64 p0.2) := fun W q => by
    obtain ⟨rv', cv', ev', hv'⟩ := rowI_at (i := i) (u := .int .i64 p0.2) (h.nu q).ov (by simp [vvs]) (by simp [vvs, hp0])
    rw [hN] at ev'
    cases ev'
    exact hv'
  have HHB : Hid (∀ W, Kp Nu w W → W.heap[rb]? = some (.cells #[.int .i64 wh, .slice adk N capk, .slice (some ⟨rv, 0, none⟩) N cv] 52 (0, 0))) := fun W q => (h.nu q).blk
  have HX := hide (And.intro hN (And.intro hiN (And.intro hl hB)))
  have hi0' : (0 : Int) ≤ (i : Int) := by omega
  have hiNI : (i : Int) < (N : Int) := by omega
  clear h ho hpl hN hl hB hp0 hiN
  go_enter Try.func42, Try.ntmps42
  go_wp2_with (first
    | (go_at_call 101; refine AT.mono ?_; rintro e w1 ⟨rfl, k1⟩; obtain ⟨g1, g2⟩ := HC w1 k1; have g3 := HP w1 k1))
  have HK2 := hide k1
  clear AT k1 g1 g2 g3 HP hi0' hiNI
  go_loopw [8, 9, 10] (fun s8 s9 s10 wr => ∃ j : Nat, s10 = .int .i64 (j : Int) ∧ j ≤ N ∧ Hid (Tw w.heap.size wr s8 (kv ((xs.take j).eraseIdx i)) s9 (vvs ((xs.take j).eraseIdx i)) ∧ Kp Nu w wr)) (fun _ _ s10 _ => N - (intOf s10).toNat)
  case atStart => exact ⟨0, rfl, Nat.zero_le _, by simp only [List.take_zero, List.eraseIdx_nil]; exact Tw.nil _ _, HK2.out⟩
  case round =>
    generalize wr = wl at *
    rename_i s8 s9 s10
    obtain ⟨j, rfl, hj, hh⟩ := hrel
    obtain ⟨hN, hiN, hl, hB⟩ := HX.out
    obtain ⟨T0, K0⟩ := hh.out
    obtain ⟨x1, x2⟩ := HC wl K0
    have hll : ((xs.take j).eraseIdx i).length ≤ N := Nat.le_trans (List.length_eraseIdx_le _ _) (by simp; omega)
    by_cases hlt : j < N
    · have HAJ : Hid ((j : Int) + 1 = ((j + 1 : Nat) : Int) ∧ wrap64 ((j : Int) + 1) = ((j + 1 : Nat) : Int)) := ⟨by omega, by unfold wrap64; omega⟩
      have hltI : (j : Int) < (N : Int) := by omega
      have hj0 : (0 : Int) ≤ (j : Int) := by omega
      have HJ : Hid (j < N) := hlt
      by_cases hji : j = i
      · subst hji
        have hbe : ((j : Int) == (j : Int)) = true := by simp
        have HLD : Hid ((xs.take (j + 1)).eraseIdx j = (xs.take j).eraseIdx j) := cut_here xs j
        have HT := hide (And.intro T0 K0)
        clear hh hj hl hB hll hN hlt hiN T0 K0
        go_wp2_with fail
        go_roundw
        case rel => exact ⟨j + 1, by first | exact congrArg (Value.int .i64) HAJ.out.1 | exact congrArg (Value.int .i64) HAJ.out.2, HJ.out, by rw [HLD.out]; exact HT.out⟩
        case measure => first | exact lt_mI _ HAJ.out.1 HJ.out | exact lt_mI _ HAJ.out.2 HJ.out
      · have hbe : ((j : Int) == (i : Int)) = false := by simp; omega
        obtain ⟨p, hp⟩ : ∃ p, xs[j]? = some p := ⟨_, List.getElem?_eq_getElem (by rw [hN]; omega)⟩
        obtain ⟨rk, ck, ek, _⟩ := rowI_at (i := j) (u := .int .i64 p.1) (HH.out.nu K0).ok (by simp [kv]) (by simp [kv, hp])
        rw [hN] at ek
        cases ek
        have HR : ∀ W, Kp Nu w W → W.cell? ⟨rk, j, none⟩ = some (.int .i64 p.1) ∧ W.cell? ⟨rv, j, none⟩ = some (.int .i64 p.2) := fun W q => by
          obtain ⟨rk', ck', ek', hk'⟩ := rowI_at (i := j) (u := .int .i64 p.1) (HH.out.nu q).ok (by simp [kv]) (by simp [kv, hp])
          obtain ⟨rv', cv', ev', hv'⟩ := rowI_at (i := j) (u := .int .i64 p.2) (HH.out.nu q).ov (by simp [vvs]) (by simp [vvs, hp])
          rw [hN] at ek' ev'
          cases ek'
          cases ev'
          exact ⟨hk', hv'⟩
        obtain ⟨y1, y2⟩ := HR wl K0
        have HBT1 : Hid ((kv ((xs.take j).eraseIdx i)).length + 1 ≤ maxLen ∧ ((kv ((xs.take j).eraseIdx i)).length + 1) * 8 ≤ 140737488355328) := by
          rw [kv_len]; exact ⟨by unfold maxLen; omega, by omega⟩
        have HBT2 : Hid ((vvs ((xs.take j).eraseIdx i)).length + 1 ≤ maxLen ∧ ((vvs ((xs.take j).eraseIdx i)).length + 1) * 8 ≤ 140737488355328) := by
          rw [vv_len]; exact ⟨by unfold maxLen; omega, by omega⟩
        have HLD : Hid ((xs.take (j + 1)).eraseIdx i = (xs.take j).eraseIdx i ++ [p]) := cut_other hp hji
        clear hh hp hj hl hB hll hN hlt hji hiN
        go_wp2_with (first
          | (at_builtin; have kaT1 := Kp.alloc wl (.cells #[.int .i64 (p.1)] 3) Nu; have tzT1 := T0.nu kaT1; refine wpList_append_own_at _ rfl _ _ 47 rfl w.heap.size 3 i0 (.int .i64 0) 1 8 Try.underlying47 hi0 hz0 hz1 hz2 rfl (by decide) _ _ _ rfl tzT1.ok ⟨wl.heap.size, 0, none⟩ 1 1 [.int .i64 (p.1)] rfl rfl (cell_one_new _ _ _) (by simp [Value.oneCell']) (by first | exact HBT1.out.1 | exact HBT1.out.1) (by first | exact HBT1.out.2 | exact HBT1.out.2) (by have := K0.size; simp; omega) ?_; intro va wa hownT1 hgT1 hnT1 hobT1; have T1 := tzT1.stepk hownT1 hgT1 hobT1; have Ka := kp_row (K0.andNu kaT1) tzT1.ok hgT1; clear T0 tzT1 hownT1 hgT1 hnT1 hobT1 kaT1; obtain ⟨z3, z4⟩ := HC _ Ka; obtain ⟨q3, q4⟩ := HR _ Ka)
          | (at_builtin; have kaT2 := Kp.alloc wa (.cells #[.int .i64 (p.2)] 3) Nu; have tzT2 := T1.nu kaT2; refine wpList_append_own_at _ rfl _ _ 47 rfl w.heap.size 3 i0 (.int .i64 0) 1 8 Try.underlying47 hi0 hz0 hz1 hz2 rfl (by decide) _ _ _ rfl tzT2.ov ⟨wa.heap.size, 0, none⟩ 1 1 [.int .i64 (p.2)] rfl rfl (cell_one_new _ _ _) (by simp [Value.oneCell']) (by first | exact HBT2.out.1 | exact HBT2.out.1) (by first | exact HBT2.out.2 | exact HBT2.out.2) (by have := Ka.size; simp; omega) ?_; intro vb wb hownT2 hgT2 hnT2 hobT2; have T2 := tzT2.stepv hownT2 hgT2 hobT2; have Kb := kp_row (Ka.andNu kaT2) tzT2.ov hgT2; clear T1 tzT2 hownT2 hgT2 hnT2 hobT2 kaT2))
        go_roundw
        case rel => exact ⟨j + 1, by first | exact congrArg (Value.int .i64) HAJ.out.1 | exact congrArg (Value.int .i64) HAJ.out.2, HJ.out, by rw [HLD.out]; simp only [kv_snoc, vv_snoc]; exact ⟨T2, Kb⟩⟩
        case measure => first | exact lt_mI _ HAJ.out.1 HJ.out | exact lt_mI _ HAJ.out.2 HJ.out
    · have hjN : j = N := by omega
      have hgtI : ¬ (j : Int) < (N : Int) := by omega
      have HLD : (xs.take j).eraseIdx i = xs.eraseIdx i := by rw [hjN, ← hN, List.take_length]
      rw [HLD] at T0
      obtain ⟨a1, p1, e1⟩ := own_slice T0.ok
      obtain ⟨a2, p2, e2⟩ := own_slice T0.ov
      have hb := HHB.out wl K0
      have f1 := free3 hb 1
      have f2 := free3 hb 2
      have HT := hide (And.intro T0 (And.intro K0 (And.intro hb hB)))
      generalize (kv (xs.eraseIdx i)).length = L1 at e1
      generalize (vvs (xs.eraseIdx i)).length = L2 at e2
      subst e1 e2
      clear hh hj hl hB hll hN hlt hjN T0 K0 HLD hb hiN
      go_wp2_with fail
      go_ret2
      obtain ⟨T0, K0, hb, hB⟩ := HT.out
      have KF := (kp_rb (rb := rb) K0 1 (.slice a1 L1 p1)).trans (Kp.setCell _ ⟨rb, 2, none⟩ (.slice a2 L2 p2)) (fun _ _ h => h)
      first | exact ⟨rfl, ⟨_, _, Rm.fin (Nat.le_refl _) hb T0⟩, KF⟩ | exact ⟨rfl, _, _, Rm.fin (Nat.le_refl _) hb T0, KF⟩
end
end Go.Proofs.Ytchealdgncgjoaa.StI
