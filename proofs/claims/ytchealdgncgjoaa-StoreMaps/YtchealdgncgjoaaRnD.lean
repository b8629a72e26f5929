import Derived.Test.YtchealdgncgjoaaRmH
namespace Go.Proofs.Ytchealdgncgjoaa.StI
open Go.RowKit Go.Proofs.Ytchealdgncgjoaa.St Go.Shelf
set_option linter.unusedVariables false
set_option linter.unusedSimpArgs false
section
variable {B : Nat} {w : World} {rb : Nat} {wh : Int} {vk vv : Value} {xs : List (Int × Int)} {o : Int → Int → Int}
set_option maxRecDepth 100000 in
set_option maxHeartbeats 4000000 in
theorem rput_newN (h : Rm B w rb wh vk vv xs) (hB : B ≤ w.heap.size) (ho : Oc wh o) (k v : Int) (hl : xs.length ≤ 17592186044000) (hpl : plc o k xs = -1) :
    Calls Try.prog 36 #[.pointer (some ⟨rb, 0, none⟩), .int .i64 k, .int .i64 v] w fun e w' => e = .returned (.tuple #[.int .i64 0, .bool false]) ∧ ∃ vk' vv', Rm w.heap.size w' rb wh vk' vv' (insL xs (ahead o k xs xs.length) (k, v)) ∧ Kp (fun i => i = rb) w w' := by
  obtain ⟨i0, hi0, hz0, hz1, hz2⟩ := info_parts info3
  have AT := rat_any h ho k (by omega)
  rw [hpl] at AT
  have RA : ∀ W, Kp Nu w W → _ := fun W q => rrank_any (h.nu q) ho k (by omega)
  have hal := ahead_le (o := o) (k := k) (xs := xs) xs.length
  obtain ⟨r, hr⟩ : ∃ r, ahead o k xs xs.length = r := ⟨_, rfl⟩
  rw [hr] at RA hal ⊢
  obtain ⟨adk, capk, hvk⟩ := own_slice h.ok
  obtain ⟨adv, capv, hvv⟩ := own_slice h.ov
  have HH := hide h
  obtain ⟨N, hN⟩ : ∃ N, xs.length = N := ⟨_, rfl⟩
  rw [hN] at hvk hvv hal hl
  subst hvk hvv
  have HC : ∀ W, Kp Nu w W → W.cell? ⟨rb, 1, none⟩ = some (.slice adk N capk) ∧ W.cell? ⟨rb, 2, none⟩ = some (.slice adv N capv) := fun W q => by
    obtain ⟨_, d1, d2⟩ := cell3 (h.nu q).blk
    exact ⟨d1, d2⟩
  have HHB : Hid (∀ W, Kp Nu w W → W.heap[rb]? = some (.cells #[.int .i64 wh, .slice adk N capk, .slice adv N capv] 52 (0, 0))) := fun W q => (h.nu q).blk
  have HX := hide (And.intro hN (And.intro hal (And.intro hl hB)))
  clear h ho hpl hr hN hal hl hB
  go_enter Try.func36, Try.ntmps36
  go_wp2_with (first
    | (go_at_call 101; refine AT.mono ?_; rintro e w1 ⟨rfl, k1⟩)
    | (go_at_call 102; refine (RA _ k1).mono ?_; rintro e w2 ⟨rfl, k2⟩))
  have K2 := k1.andNu k2
  have HK2 := hide K2
  clear AT RA k1 k2 K2
  go_loopw [11, 12, 13] (fun s11 s12 s13 wr => ∃ j : Nat, s13 = .int .i64 (j : Int) ∧ j ≤ N + 1 ∧ Hid (Tw w.heap.size wr s11 (kv (laid xs r (k, v) j)) s12 (vvs (laid xs r (k, v) j)) ∧ Kp Nu w wr)) (fun _ _ s13 _ => (N + 1) - (intOf s13).toNat)
  case atStart => exact ⟨0, rfl, Nat.zero_le _, by have : laid xs r (k, v) 0 = [] := by simp [laid]
                                                   rw [this]; exact Tw.nil _ _, HK2.out⟩
  case round =>
    generalize wr = wl at *
    rename_i s11 s12 s13
    obtain ⟨j, rfl, hj, hh⟩ := hrel
    obtain ⟨hN, hal, hl, hB⟩ := HX.out
    obtain ⟨T0, K0⟩ := hh.out
    obtain ⟨x1, x2⟩ := HC wl K0
    have hll := laid_len (xs := xs) (r := r) (q := (k, v)) (j := j) (by omega) (by omega)
    have HAJ : Hid ((j : Int) + 1 = ((j + 1 : Nat) : Int) ∧ wrap64 ((j : Int) + 1) = ((j + 1 : Nat) : Int)) := ⟨by omega, by unfold wrap64; omega⟩
    by_cases hle : j ≤ N
    · by_cases hjr : j = r
      · by_cases hlt : j < N
        · subst hjr
          have hbe : ((j : Int) == (j : Int)) = true := by simp
          obtain ⟨p, hp⟩ : ∃ p, xs[j]? = some p := ⟨_, List.getElem?_eq_getElem (by rw [hN]; omega)⟩
          obtain ⟨rk, ck, ek, _⟩ := rowI_at (i := j) (u := .int .i64 p.1) (HH.out.nu K0).ok (by simp [kv]) (by simp [kv, hp])
          obtain ⟨rv, cv, ev, _⟩ := rowI_at (i := j) (u := .int .i64 p.2) (HH.out.nu K0).ov (by simp [vvs]) (by simp [vvs, hp])
          rw [hN] at ek ev
          cases ek
          cases ev
          have HR : ∀ W, Kp Nu w W → W.cell? ⟨rk, j, none⟩ = some (.int .i64 p.1) ∧ W.cell? ⟨rv, j, none⟩ = some (.int .i64 p.2) := fun W q => by
            obtain ⟨rk', ck', ek', hk'⟩ := rowI_at (i := j) (u := .int .i64 p.1) (HH.out.nu q).ok (by simp [kv]) (by simp [kv, hp])
            obtain ⟨rv', cv', ev', hv'⟩ := rowI_at (i := j) (u := .int .i64 p.2) (HH.out.nu q).ov (by simp [vvs]) (by simp [vvs, hp])
            rw [hN] at ek' ev'
            cases ek'
            cases ev'
            exact ⟨hk', hv'⟩
          obtain ⟨y1, y2⟩ := HR wl K0
          have HBT1 : Hid ((kv (laid xs j (k, v) j)).length + 1 ≤ maxLen ∧ ((kv (laid xs j (k, v) j)).length + 1) * 8 ≤ 140737488355328) := by
            simp only [List.length_append, kv_len, List.length_singleton]; exact ⟨by unfold maxLen; omega, by omega⟩
          have HBT2 : Hid ((vvs (laid xs j (k, v) j)).length + 1 ≤ maxLen ∧ ((vvs (laid xs j (k, v) j)).length + 1) * 8 ≤ 140737488355328) := by
            simp only [List.length_append, vv_len, List.length_singleton]; exact ⟨by unfold maxLen; omega, by omega⟩
          have HBT3 : Hid ((kv (laid xs j (k, v) j) ++ [Value.int .i64 k]).length + 1 ≤ maxLen ∧ ((kv (laid xs j (k, v) j) ++ [Value.int .i64 k]).length + 1) * 8 ≤ 140737488355328) := by
            simp only [List.length_append, kv_len, List.length_singleton]; exact ⟨by unfold maxLen; omega, by omega⟩
          have HBT4 : Hid ((vvs (laid xs j (k, v) j) ++ [Value.int .i64 v]).length + 1 ≤ maxLen ∧ ((vvs (laid xs j (k, v) j) ++ [Value.int .i64 v]).length + 1) * 8 ≤ 140737488355328) := by
            simp only [List.length_append, vv_len, List.length_singleton]; exact ⟨by unfold maxLen; omega, by omega⟩
          have HLD : Hid (laid xs j (k, v) (j + 1) = laid xs j (k, v) j ++ [(k, v)] ++ [p]) := laid_here2 (by omega) hp
          have hltI : (j : Int) < (N : Int) := by omega
          have hleI : (j : Int) ≤ (N : Int) := by omega
          have hj0 : (0 : Int) ≤ (j : Int) := by omega
          have HJ : Hid (j + 1 ≤ N + 1) := by show j + 1 ≤ N + 1; omega
          have HJ2 : Hid (j ≤ N) := by show j ≤ N; omega
          clear hh hp hj hal hl hB hll hN hlt
          go_wp2_with (first
            | (at_builtin; have kaT1 := Kp.alloc wl (.cells #[.int .i64 (k)] 3) Nu; have tzT1 := T0.nu kaT1; refine wpList_append_own_at _ rfl _ _ 47 rfl w.heap.size 3 i0 (.int .i64 0) 1 8 Try.underlying47 hi0 hz0 hz1 hz2 rfl (by decide) _ _ _ rfl tzT1.ok ⟨wl.heap.size, 0, none⟩ 1 1 [.int .i64 (k)] rfl rfl (cell_one_new _ _ _) (by simp [Value.oneCell']) (by first | exact HBT1.out.1 | exact HBT1.out.1) (by first | exact HBT1.out.2 | exact HBT1.out.2) (by have := K0.size; simp; omega) ?_; intro va wa hownT1 hgT1 hnT1 hobT1; have T1 := tzT1.stepk hownT1 hgT1 hobT1; have Ka := kp_row (K0.andNu kaT1) tzT1.ok hgT1; clear T0 tzT1 hownT1 hgT1 hnT1 hobT1 kaT1)
            | (at_builtin; have kaT2 := Kp.alloc wa (.cells #[.int .i64 (v)] 3) Nu; have tzT2 := T1.nu kaT2; refine wpList_append_own_at _ rfl _ _ 47 rfl w.heap.size 3 i0 (.int .i64 0) 1 8 Try.underlying47 hi0 hz0 hz1 hz2 rfl (by decide) _ _ _ rfl tzT2.ov ⟨wa.heap.size, 0, none⟩ 1 1 [.int .i64 (v)] rfl rfl (cell_one_new _ _ _) (by simp [Value.oneCell']) (by first | exact HBT2.out.1 | exact HBT2.out.1) (by first | exact HBT2.out.2 | exact HBT2.out.2) (by have := Ka.size; simp; omega) ?_; intro vb wb hownT2 hgT2 hnT2 hobT2; have T2 := tzT2.stepv hownT2 hgT2 hobT2; have Kb := kp_row (Ka.andNu kaT2) tzT2.ov hgT2; clear T1 tzT2 hownT2 hgT2 hnT2 hobT2 kaT2; obtain ⟨z1, z2⟩ := HC _ Kb; obtain ⟨q1, q2⟩ := HR _ Kb)
            | (at_builtin; have kaT3 := Kp.alloc wb (.cells #[.int .i64 (p.1)] 3) Nu; have tzT3 := T2.nu kaT3; refine wpList_append_own_at _ rfl _ _ 47 rfl w.heap.size 3 i0 (.int .i64 0) 1 8 Try.underlying47 hi0 hz0 hz1 hz2 rfl (by decide) _ _ _ rfl tzT3.ok ⟨wb.heap.size, 0, none⟩ 1 1 [.int .i64 (p.1)] rfl rfl (cell_one_new _ _ _) (by simp [Value.oneCell']) (by first | exact HBT3.out.1 | exact HBT3.out.1) (by first | exact HBT3.out.2 | exact HBT3.out.2) (by have := Kb.size; simp; omega) ?_; intro vc wc hownT3 hgT3 hnT3 hobT3; have T3 := tzT3.stepk hownT3 hgT3 hobT3; have Kc := kp_row (Kb.andNu kaT3) tzT3.ok hgT3; clear T2 tzT3 hownT3 hgT3 hnT3 hobT3 kaT3; obtain ⟨z3, z4⟩ := HC _ Kc; obtain ⟨q3, q4⟩ := HR _ Kc)
            | (at_builtin; have kaT4 := Kp.alloc wc (.cells #[.int .i64 (p.2)] 3) Nu; have tzT4 := T3.nu kaT4; refine wpList_append_own_at _ rfl _ _ 47 rfl w.heap.size 3 i0 (.int .i64 0) 1 8 Try.underlying47 hi0 hz0 hz1 hz2 rfl (by decide) _ _ _ rfl tzT4.ov ⟨wc.heap.size, 0, none⟩ 1 1 [.int .i64 (p.2)] rfl rfl (cell_one_new _ _ _) (by simp [Value.oneCell']) (by first | exact HBT4.out.1 | exact HBT4.out.1) (by first | exact HBT4.out.2 | exact HBT4.out.2) (by have := Kc.size; simp; omega) ?_; intro vd wd hownT4 hgT4 hnT4 hobT4; have T4 := tzT4.stepv hownT4 hgT4 hobT4; have Kd := kp_row (Kc.andNu kaT4) tzT4.ov hgT4; clear T3 tzT4 hownT4 hgT4 hnT4 hobT4 kaT4))
          go_roundw
          case rel => exact ⟨j + 1, by first | exact congrArg (Value.int .i64) HAJ.out.1 | exact congrArg (Value.int .i64) HAJ.out.2, HJ.out, by rw [HLD.out]; (try simp only [kv_snoc, vv_snoc]); exact ⟨T4, Kd⟩⟩
          case measure => first | exact lt_mI _ HAJ.out.1 (Nat.lt_succ_of_le HJ2.out) | exact lt_mI _ HAJ.out.2 (Nat.lt_succ_of_le HJ2.out)
        · subst hjr
          have hbe : ((j : Int) == (j : Int)) = true := by simp
          have HBT1 : Hid ((kv (laid xs j (k, v) j)).length + 1 ≤ maxLen ∧ ((kv (laid xs j (k, v) j)).length + 1) * 8 ≤ 140737488355328) := by
            simp only [List.length_append, kv_len, List.length_singleton]; exact ⟨by unfold maxLen; omega, by omega⟩
          have HBT2 : Hid ((vvs (laid xs j (k, v) j)).length + 1 ≤ maxLen ∧ ((vvs (laid xs j (k, v) j)).length + 1) * 8 ≤ 140737488355328) := by
            simp only [List.length_append, vv_len, List.length_singleton]; exact ⟨by unfold maxLen; omega, by omega⟩
          have HLD : Hid (laid xs j (k, v) (j + 1) = laid xs j (k, v) j ++ [(k, v)]) := laid_end (by omega)
          have hgeI : ¬ (j : Int) < (N : Int) := by omega
          have hleI : (j : Int) ≤ (N : Int) := by omega
          have HJ : Hid (j + 1 ≤ N + 1) := by show j + 1 ≤ N + 1; omega
          have HJ2 : Hid (j ≤ N) := by show j ≤ N; omega
          clear hh hj hal hl hB hll hN hlt
          go_wp2_with (first
            | (at_builtin; have kaT1 := Kp.alloc wl (.cells #[.int .i64 (k)] 3) Nu; have tzT1 := T0.nu kaT1; refine wpList_append_own_at _ rfl _ _ 47 rfl w.heap.size 3 i0 (.int .i64 0) 1 8 Try.underlying47 hi0 hz0 hz1 hz2 rfl (by decide) _ _ _ rfl tzT1.ok ⟨wl.heap.size, 0, none⟩ 1 1 [.int .i64 (k)] rfl rfl (cell_one_new _ _ _) (by simp [Value.oneCell']) (by first | exact HBT1.out.1 | exact HBT1.out.1) (by first | exact HBT1.out.2 | exact HBT1.out.2) (by have := K0.size; simp; omega) ?_; intro va wa hownT1 hgT1 hnT1 hobT1; have T1 := tzT1.stepk hownT1 hgT1 hobT1; have Ka := kp_row (K0.andNu kaT1) tzT1.ok hgT1; clear T0 tzT1 hownT1 hgT1 hnT1 hobT1 kaT1)
            | (at_builtin; have kaT2 := Kp.alloc wa (.cells #[.int .i64 (v)] 3) Nu; have tzT2 := T1.nu kaT2; refine wpList_append_own_at _ rfl _ _ 47 rfl w.heap.size 3 i0 (.int .i64 0) 1 8 Try.underlying47 hi0 hz0 hz1 hz2 rfl (by decide) _ _ _ rfl tzT2.ov ⟨wa.heap.size, 0, none⟩ 1 1 [.int .i64 (v)] rfl rfl (cell_one_new _ _ _) (by simp [Value.oneCell']) (by first | exact HBT2.out.1 | exact HBT2.out.1) (by first | exact HBT2.out.2 | exact HBT2.out.2) (by have := Ka.size; simp; omega) ?_; intro vb wb hownT2 hgT2 hnT2 hobT2; have T2 := tzT2.stepv hownT2 hgT2 hobT2; have Kb := kp_row (Ka.andNu kaT2) tzT2.ov hgT2; clear T1 tzT2 hownT2 hgT2 hnT2 hobT2 kaT2; obtain ⟨z1, z2⟩ := HC _ Kb))
          go_roundw
          case rel => exact ⟨j + 1, by first | exact congrArg (Value.int .i64) HAJ.out.1 | exact congrArg (Value.int .i64) HAJ.out.2, HJ.out, by rw [HLD.out]; (try simp only [kv_snoc, vv_snoc]); exact ⟨T2, Kb⟩⟩
          case measure => first | exact lt_mI _ HAJ.out.1 (Nat.lt_succ_of_le HJ2.out) | exact lt_mI _ HAJ.out.2 (Nat.lt_succ_of_le HJ2.out)
      · by_cases hlt : j < N
        · have hbe : ((j : Int) == (r : Int)) = false := by simp; omega
          obtain ⟨p, hp⟩ : ∃ p, xs[j]? = some p := ⟨_, List.getElem?_eq_getElem (by rw [hN]; omega)⟩
          obtain ⟨rk, ck, ek, _⟩ := rowI_at (i := j) (u := .int .i64 p.1) (HH.out.nu K0).ok (by simp [kv]) (by simp [kv, hp])
          obtain ⟨rv, cv, ev, _⟩ := rowI_at (i := j) (u := .int .i64 p.2) (HH.out.nu K0).ov (by simp [vvs]) (by simp [vvs, hp])
          rw [hN] at ek ev
          cases ek
          cases ev
          have HR : ∀ W, Kp Nu w W → W.cell? ⟨rk, j, none⟩ = some (.int .i64 p.1) ∧ W.cell? ⟨rv, j, none⟩ = some (.int .i64 p.2) := fun W q => by
            obtain ⟨rk', ck', ek', hk'⟩ := rowI_at (i := j) (u := .int .i64 p.1) (HH.out.nu q).ok (by simp [kv]) (by simp [kv, hp])
            obtain ⟨rv', cv', ev', hv'⟩ := rowI_at (i := j) (u := .int .i64 p.2) (HH.out.nu q).ov (by simp [vvs]) (by simp [vvs, hp])
            rw [hN] at ek' ev'
            cases ek'
            cases ev'
            exact ⟨hk', hv'⟩
          obtain ⟨y1, y2⟩ := HR wl K0
          have HBT1 : Hid ((kv (laid xs r (k, v) j)).length + 1 ≤ maxLen ∧ ((kv (laid xs r (k, v) j)).length + 1) * 8 ≤ 140737488355328) := by
            simp only [List.length_append, kv_len, List.length_singleton]; exact ⟨by unfold maxLen; omega, by omega⟩
          have HBT2 : Hid ((vvs (laid xs r (k, v) j)).length + 1 ≤ maxLen ∧ ((vvs (laid xs r (k, v) j)).length + 1) * 8 ≤ 140737488355328) := by
            simp only [List.length_append, vv_len, List.length_singleton]; exact ⟨by unfold maxLen; omega, by omega⟩
          have HLD : Hid (laid xs r (k, v) (j + 1) = laid xs r (k, v) j ++ [p]) := laid_other (by omega) hjr hp
          have hltI : (j : Int) < (N : Int) := by omega
          have hleI : (j : Int) ≤ (N : Int) := by omega
          have hj0 : (0 : Int) ≤ (j : Int) := by omega
          have HJ : Hid (j + 1 ≤ N + 1) := by show j + 1 ≤ N + 1; omega
          have HJ2 : Hid (j ≤ N) := by show j ≤ N; omega
          clear hh hp hj hal hl hB hll hN hlt hjr
          go_wp2_with (first
            | (at_builtin; have kaT1 := Kp.alloc wl (.cells #[.int .i64 (p.1)] 3) Nu; have tzT1 := T0.nu kaT1; refine wpList_append_own_at _ rfl _ _ 47 rfl w.heap.size 3 i0 (.int .i64 0) 1 8 Try.underlying47 hi0 hz0 hz1 hz2 rfl (by decide) _ _ _ rfl tzT1.ok ⟨wl.heap.size, 0, none⟩ 1 1 [.int .i64 (p.1)] rfl rfl (cell_one_new _ _ _) (by simp [Value.oneCell']) (by first | exact HBT1.out.1 | exact HBT1.out.1) (by first | exact HBT1.out.2 | exact HBT1.out.2) (by have := K0.size; simp; omega) ?_; intro va wa hownT1 hgT1 hnT1 hobT1; have T1 := tzT1.stepk hownT1 hgT1 hobT1; have Ka := kp_row (K0.andNu kaT1) tzT1.ok hgT1; clear T0 tzT1 hownT1 hgT1 hnT1 hobT1 kaT1; obtain ⟨z3, z4⟩ := HC _ Ka; obtain ⟨q3, q4⟩ := HR _ Ka)
            | (at_builtin; have kaT2 := Kp.alloc wa (.cells #[.int .i64 (p.2)] 3) Nu; have tzT2 := T1.nu kaT2; refine wpList_append_own_at _ rfl _ _ 47 rfl w.heap.size 3 i0 (.int .i64 0) 1 8 Try.underlying47 hi0 hz0 hz1 hz2 rfl (by decide) _ _ _ rfl tzT2.ov ⟨wa.heap.size, 0, none⟩ 1 1 [.int .i64 (p.2)] rfl rfl (cell_one_new _ _ _) (by simp [Value.oneCell']) (by first | exact HBT2.out.1 | exact HBT2.out.1) (by first | exact HBT2.out.2 | exact HBT2.out.2) (by have := Ka.size; simp; omega) ?_; intro vb wb hownT2 hgT2 hnT2 hobT2; have T2 := tzT2.stepv hownT2 hgT2 hobT2; have Kb := kp_row (Ka.andNu kaT2) tzT2.ov hgT2; clear T1 tzT2 hownT2 hgT2 hnT2 hobT2 kaT2))
          go_roundw
          case rel => exact ⟨j + 1, by first | exact congrArg (Value.int .i64) HAJ.out.1 | exact congrArg (Value.int .i64) HAJ.out.2, HJ.out, by rw [HLD.out]; (try simp only [kv_snoc, vv_snoc]); exact ⟨T2, Kb⟩⟩
          case measure => first | exact lt_mI _ HAJ.out.1 (Nat.lt_succ_of_le HJ2.out) | exact lt_mI _ HAJ.out.2 (Nat.lt_succ_of_le HJ2.out)
        · have hbe : ((j : Int) == (r : Int)) = false := by simp; omega
          have hjN : j = N := by omega
          have HLD : Hid (laid xs r (k, v) (j + 1) = laid xs r (k, v) j) := by
            have := laid_last (xs := xs) (r := r) (q := (k, v)) (by omega)
            rw [hN] at this; rw [hjN]; exact this
          have hgeI : ¬ (j : Int) < (N : Int) := by omega
          have hleI : (j : Int) ≤ (N : Int) := by omega
          have HJ : Hid (j + 1 ≤ N + 1) := by show j + 1 ≤ N + 1; omega
          have HJ2 : Hid (j ≤ N) := by show j ≤ N; omega
          have HT := hide (And.intro T0 K0)
          clear hh hj hal hl hB hll hN hlt hjr hjN T0 K0
          go_wp2_with fail
          go_roundw
          case rel => exact ⟨j + 1, by first | exact congrArg (Value.int .i64) HAJ.out.1 | exact congrArg (Value.int .i64) HAJ.out.2, HJ.out, by rw [HLD.out]; (try simp only [kv_snoc, vv_snoc]); exact HT.out⟩
          case measure => first | exact lt_mI _ HAJ.out.1 (Nat.lt_succ_of_le HJ2.out) | exact lt_mI _ HAJ.out.2 (Nat.lt_succ_of_le HJ2.out)
    · have hjN : j = N + 1 := by omega
      have hgtI : ¬ (j : Int) ≤ (N : Int) := by omega
      have HLD : laid xs r (k, v) j = insL xs r (k, v) := by
        have := laid_all (xs := xs) (r := r) (q := (k, v)) (by omega)
        rw [hN] at this; rw [hjN]; exact this
      rw [HLD] at T0
      obtain ⟨a1, p1, e1⟩ := own_slice T0.ok
      obtain ⟨a2, p2, e2⟩ := own_slice T0.ov
      have hb := HHB.out wl K0
      have f1 := free3 hb 1
      have f2 := free3 hb 2
      have HT := hide (And.intro T0 (And.intro K0 (And.intro hb hB)))
      generalize (kv (insL xs r (k, v))).length = L1 at e1
      generalize (vvs (insL xs r (k, v))).length = L2 at e2
      subst e1 e2
      clear hh hj hal hl hB hll hN hle hjN T0 K0 HLD hb
      go_wp2_with fail
      go_ret2
      obtain ⟨T0, K0, hb, hB⟩ := HT.out
      have KF := (kp_rb (rb := rb) K0 1 (.slice a1 L1 p1)).trans (Kp.setCell _ ⟨rb, 2, none⟩ (.slice a2 L2 p2)) (fun _ _ h => h)
      first | exact ⟨rfl, ⟨_, _, Rm.fin (Nat.le_refl _) hb T0⟩, KF⟩ | exact ⟨rfl, _, _, Rm.fin (Nat.le_refl _) hb T0, KF⟩
end
end Go.Proofs.Ytchealdgncgjoaa.StI
