import Derived.Test.YtchealdgncgjoaaRmC
namespace Go.Proofs.Ytchealdgncgjoaa.StI
open Go.RowKit Go.Proofs.Ytchealdgncgjoaa.St Go.Shelf
set_option linter.unusedVariables false
set_option linter.unusedSimpArgs false
/-- does the pair lie between? -/
def inB (o : Int → Int → Int) (lo hi : Int) (p : Int × Int) : Bool := decide (0 ≤ o p.1 lo) && decide (o p.1 hi ≤ 0)
theorem filt_succ {f : Int × Int → Bool} {xs : List (Int × Int)} {j : Nat} {p : Int × Int} (hp : xs[j]? = some p) : (xs.take (j + 1)).filter f = (xs.take j).filter f ++ (if f p then [p] else []) := by
  rw [take_snoc hp, List.filter_append]
  cases h : f p <;> simp [h]
section
variable {B : Nat} {w : World} {rb : Nat} {wh : Int} {vk vv : Value} {xs : List (Int × Int)} {o : Int → Int → Int}
set_option maxRecDepth 100000 in
set_option maxHeartbeats 4000000 in
theorem rbetween_any (h : Rm B w rb wh vk vv xs) (ho : Oc wh o) (lo hi : Int) (hl : xs.length ≤ 17592186043904) :
    Calls Try.prog 37 #[.pointer (some ⟨rb, 0, none⟩), .int .i64 lo, .int .i64 hi] w fun e w' => ∃ vk' vv', e = .returned (.tuple #[vk', vv']) ∧ Tw w.heap.size w' vk' (kv (xs.filter (inB o lo hi))) vv' (vvs (xs.filter (inB o lo hi))) ∧ Kp Nu w w' := by
  obtain ⟨i0, hi0, hz0, hz1, hz2⟩ := info_parts info3
  obtain ⟨adk, capk, hvk⟩ := own_slice h.ok
  obtain ⟨adv, capv, hvv⟩ := own_slice h.ov
  have HH := hide h
  have HO := hide ho
  obtain ⟨N, hN⟩ : ∃ N, xs.length = N := ⟨_, rfl⟩
  rw [hN] at hvk hvv hl
  subst hvk hvv
  have HC : ∀ W, Kp Nu w W → W.cell? ⟨rb, 0, none⟩ = some (.int .i64 wh) ∧ W.cell? ⟨rb, 1, none⟩ = some (.slice adk N capk) ∧ W.cell? ⟨rb, 2, none⟩ = some (.slice adv N capv) := fun W q => cell3 (h.nu q).blk
  have HX := hide (And.intro hN hl)
  clear h ho hN hl
  go_enter Try.func37, Try.ntmps37
  go_wp2_with fail
  go_loopw [8, 9, 10] (fun s8 s9 s10 wr => ∃ j : Nat, s10 = .int .i64 (j : Int) ∧ j ≤ N ∧ Hid (Tw w.heap.size wr s8 (kv ((xs.take j).filter (inB o lo hi))) s9 (vvs ((xs.take j).filter (inB o lo hi))) ∧ Kp Nu w wr)) (fun _ _ s10 _ => N - (intOf s10).toNat)
  case atStart => exact ⟨0, rfl, Nat.zero_le _, by simp only [List.take_zero, List.filter_nil]; exact Tw.nil _ _, Kp.refl _ _⟩
  case round =>
    generalize wr = wl at *
    rename_i s8 s9 s10
    obtain ⟨j, rfl, hj, hh⟩ := hrel
    obtain ⟨hN, hl⟩ := HX.out
    obtain ⟨T0, K0⟩ := hh.out
    obtain ⟨x0, x1, x2⟩ := HC wl K0
    have hll : ((xs.take j).filter (inB o lo hi)).length ≤ N := Nat.le_trans (List.length_filter_le _ _) (by simp; omega)
    by_cases hlt : j < N
    · have HAJ : Hid ((j : Int) + 1 = ((j + 1 : Nat) : Int) ∧ wrap64 ((j : Int) + 1) = ((j + 1 : Nat) : Int)) := ⟨by omega, by unfold wrap64; omega⟩
      have hltI : (j : Int) < (N : Int) := by omega
      have hj0 : (0 : Int) ≤ (j : Int) := by omega
      have HJ : Hid (j < N) := hlt
      obtain ⟨p, hp⟩ : ∃ p, xs[j]? = some p := ⟨_, List.getElem?_eq_getElem (by rw [hN]; omega)⟩
      obtain ⟨rk, ck, ek, _⟩ := rowI_at (i := j) (u := .int .i64 p.1) (HH.out.nu K0).ok (by simp [kv]) (by simp [kv, hp])
      obtain ⟨rv, cv, ev, _⟩ := rowI_at (i := j) (u := .int .i64 p.2) (HH.out.nu K0).ov (by simp [vvs]) (by simp [vvs, hp])
      rw [hN] at ek ev
      cases ek
      cases ev
      have HR : ∀ W, Kp Nu w W → W.cell? ⟨rk, j, none⟩ = some (.int .i64 p.1) ∧ W.cell? ⟨rv, j, none⟩ = some (.int .i64 p.2) := fun W q => by
        obtain ⟨rk', ck', ek', hk'⟩ := rowI_at (i := j) (u := .int .i64 p.1) (HH.out.nu q).ok (by simp [kv]) (by simp [kv, hp])
        obtain ⟨rv', cv', ev', hv'⟩ := rowI_at (i := j) (u := .int .i64 p.2) (HH.out.nu q).ov (by simp [vvs]) (by simp [vvs, hp])
        rw [hN] at ek' ev'
        cases ek'
        cases ev'
        exact ⟨hk', hv'⟩
      obtain ⟨y1, y2⟩ := HR wl K0
      have HS : ∀ W, Kp Nu wl W → W.cell? ⟨rb, 0, none⟩ = some (.int .i64 wh) ∧ W.cell? ⟨rb, 1, none⟩ = some (.slice (some ⟨rk, 0, none⟩) N capk) ∧ W.cell? ⟨rk, j, none⟩ = some (.int .i64 p.1) := fun W q => by
        obtain ⟨a0, a1, _⟩ := HC W (K0.andNu q)
        exact ⟨a0, a1, (HR W (K0.andNu q)).1⟩
      have OL := fun W => HO.out p.1 lo W
      have OH := fun W => HO.out p.1 hi W
      have hfs := filt_succ (f := inB o lo hi) hp
      have hib : inB o lo hi p = (decide (0 ≤ o p.1 lo) && decide (o p.1 hi ≤ 0)) := rfl
      rw [hib] at hfs
      generalize o p.1 lo = ol at *
      generalize o p.1 hi = oh at *
      have KD : Kp Nu w wl.drew.drew := K0.drew.drew
      obtain ⟨z0, z1, z2⟩ := HC wl.drew.drew KD
      obtain ⟨u1, u2⟩ := HR wl.drew.drew KD
      by_cases hc : 0 ≤ ol ∧ oh ≤ 0
      · obtain ⟨hc1, hc2⟩ := hc
        have HLD : Hid ((xs.take (j + 1)).filter (inB o lo hi) = (xs.take j).filter (inB o lo hi) ++ [p]) := by
          show _ = _
          rw [hfs]; simp [hc1, hc2]
        have HBT1 : Hid ((kv ((xs.take j).filter (inB o lo hi))).length + 1 ≤ maxLen ∧ ((kv ((xs.take j).filter (inB o lo hi))).length + 1) * 8 ≤ 140737488355328) := by
          rw [kv_len]; exact ⟨by unfold maxLen; omega, by omega⟩
        have HBT2 : Hid ((vvs ((xs.take j).filter (inB o lo hi))).length + 1 ≤ maxLen ∧ ((vvs ((xs.take j).filter (inB o lo hi))).length + 1) * 8 ≤ 140737488355328) := by
          rw [vv_len]; exact ⟨by unfold maxLen; omega, by omega⟩
        have TD := T0.nu (Kp.refl Nu wl).drew.drew
        clear hh hp hj hl hll hN hlt hfs hib T0
        go_wp2_with fail
        go_region_held (fun W => W.cell? ⟨rb, 0, none⟩ = some (.int .i64 wh) ∧ W.cell? ⟨rb, 1, none⟩ = some (.slice (some ⟨rk, 0, none⟩) N capk) ∧ W.cell? ⟨rk, j, none⟩ = some (.int .i64 p.1)) (first | (refine HS _ ?_; repeat (first | assumption | exact Kp.refl _ _ | apply Kp.drew)))
          (first | (go_at_call 67; refine (OL _).mono ?_; rintro e w' ⟨rfl, hw⟩; obtain rfl := hw.symm))
        go_wp2_with fail
        go_region_held (fun W => W.cell? ⟨rb, 0, none⟩ = some (.int .i64 wh) ∧ W.cell? ⟨rb, 1, none⟩ = some (.slice (some ⟨rk, 0, none⟩) N capk) ∧ W.cell? ⟨rk, j, none⟩ = some (.int .i64 p.1)) (first | (refine HS _ ?_; repeat (first | assumption | exact Kp.refl _ _ | apply Kp.drew)))
          (first | (go_at_call 67; refine (OH _).mono ?_; rintro e w' ⟨rfl, hw⟩; obtain rfl := hw.symm))
        generalize wl.drew.drew = wd at TD KD z0 z1 z2 u1 u2 ⊢
        go_wp2_with (first
          | (at_builtin; have kaT1 := Kp.alloc wd (.cells #[.int .i64 (p.1)] 3) Nu; have tzT1 := TD.nu kaT1; refine wpList_append_own_at _ rfl _ _ 47 rfl w.heap.size 3 i0 (.int .i64 0) 1 8 Try.underlying47 hi0 hz0 hz1 hz2 rfl (by decide) _ _ _ rfl tzT1.ok ⟨wd.heap.size, 0, none⟩ 1 1 [.int .i64 (p.1)] rfl rfl (cell_one_new _ _ _) (by simp [Value.oneCell']) (by first | exact HBT1.out.1 | exact HBT1.out.1) (by first | exact HBT1.out.2 | exact HBT1.out.2) (by have := KD.size; simp; omega) ?_; intro va wa hownT1 hgT1 hnT1 hobT1; have T1 := tzT1.stepk hownT1 hgT1 hobT1; have Ka := kp_row (KD.andNu kaT1) tzT1.ok hgT1; clear TD tzT1 hownT1 hgT1 hnT1 hobT1 kaT1; obtain ⟨z3, z4, z5⟩ := HC _ Ka; obtain ⟨q3, q4⟩ := HR _ Ka)
          | (at_builtin; have kaT2 := Kp.alloc wa (.cells #[.int .i64 (p.2)] 3) Nu; have tzT2 := T1.nu kaT2; refine wpList_append_own_at _ rfl _ _ 47 rfl w.heap.size 3 i0 (.int .i64 0) 1 8 Try.underlying47 hi0 hz0 hz1 hz2 rfl (by decide) _ _ _ rfl tzT2.ov ⟨wa.heap.size, 0, none⟩ 1 1 [.int .i64 (p.2)] rfl rfl (cell_one_new _ _ _) (by simp [Value.oneCell']) (by first | exact HBT2.out.1 | exact HBT2.out.1) (by first | exact HBT2.out.2 | exact HBT2.out.2) (by have := Ka.size; simp; omega) ?_; intro vb wb hownT2 hgT2 hnT2 hobT2; have T2 := tzT2.stepv hownT2 hgT2 hobT2; have Kb := kp_row (Ka.andNu kaT2) tzT2.ov hgT2; clear T1 tzT2 hownT2 hgT2 hnT2 hobT2 kaT2))
        go_roundw
        case rel => exact ⟨j + 1, by first | exact congrArg (Value.int .i64) HAJ.out.1 | exact congrArg (Value.int .i64) HAJ.out.2, HJ.out, by rw [HLD.out]; simp only [kv_snoc, vv_snoc]; exact ⟨T2, Kb⟩⟩
        case measure => first | exact lt_mI _ HAJ.out.1 HJ.out | exact lt_mI _ HAJ.out.2 HJ.out
      · by_cases hc1 : 0 ≤ ol
        · have hc2 : ¬ oh ≤ 0 := fun h => hc ⟨hc1, h⟩
          clear hc
          have HLD : Hid ((xs.take (j + 1)).filter (inB o lo hi) = (xs.take j).filter (inB o lo hi)) := by
            show _ = _
            rw [hfs]; simp [hc1, hc2]
          have HT := hide (And.intro (T0.nu (Kp.refl Nu wl).drew.drew) KD)
          clear hh hp hj hl hll hN hlt hfs hib T0
          go_wp2_with fail
          go_region_held (fun W => W.cell? ⟨rb, 0, none⟩ = some (.int .i64 wh) ∧ W.cell? ⟨rb, 1, none⟩ = some (.slice (some ⟨rk, 0, none⟩) N capk) ∧ W.cell? ⟨rk, j, none⟩ = some (.int .i64 p.1)) (first | (refine HS _ ?_; repeat (first | assumption | exact Kp.refl _ _ | apply Kp.drew)))
            (first | (go_at_call 67; refine (OL _).mono ?_; rintro e w' ⟨rfl, hw⟩; obtain rfl := hw.symm))
          go_wp2_with fail
          go_region_held (fun W => W.cell? ⟨rb, 0, none⟩ = some (.int .i64 wh) ∧ W.cell? ⟨rb, 1, none⟩ = some (.slice (some ⟨rk, 0, none⟩) N capk) ∧ W.cell? ⟨rk, j, none⟩ = some (.int .i64 p.1)) (first | (refine HS _ ?_; repeat (first | assumption | exact Kp.refl _ _ | apply Kp.drew)))
            (first | (go_at_call 67; refine (OH _).mono ?_; rintro e w' ⟨rfl, hw⟩; obtain rfl := hw.symm))
          go_wp2_with fail
          go_roundw
          case rel => exact ⟨j + 1, by first | exact congrArg (Value.int .i64) HAJ.out.1 | exact congrArg (Value.int .i64) HAJ.out.2, HJ.out, by rw [HLD.out]; exact HT.out⟩
          case measure => first | exact lt_mI _ HAJ.out.1 HJ.out | exact lt_mI _ HAJ.out.2 HJ.out
        · clear hc
          have HLD : Hid ((xs.take (j + 1)).filter (inB o lo hi) = (xs.take j).filter (inB o lo hi)) := by
            show _ = _
            rw [hfs]; simp [hc1]
          have HT := hide (And.intro (T0.nu (Kp.refl Nu wl).drew.drew) KD)
          clear hh hp hj hl hll hN hlt hfs hib T0
          go_wp2_with fail
          go_region_held (fun W => W.cell? ⟨rb, 0, none⟩ = some (.int .i64 wh) ∧ W.cell? ⟨rb, 1, none⟩ = some (.slice (some ⟨rk, 0, none⟩) N capk) ∧ W.cell? ⟨rk, j, none⟩ = some (.int .i64 p.1)) (first | (refine HS _ ?_; repeat (first | assumption | exact Kp.refl _ _ | apply Kp.drew)))
            (first | (go_at_call 67; refine (OL _).mono ?_; rintro e w' ⟨rfl, hw⟩; obtain rfl := hw.symm))
          go_wp2_with fail
          go_region_held (fun W => W.cell? ⟨rb, 0, none⟩ = some (.int .i64 wh) ∧ W.cell? ⟨rb, 1, none⟩ = some (.slice (some ⟨rk, 0, none⟩) N capk) ∧ W.cell? ⟨rk, j, none⟩ = some (.int .i64 p.1)) (first | (refine HS _ ?_; repeat (first | assumption | exact Kp.refl _ _ | apply Kp.drew)))
            (first | (go_at_call 67; refine (OH _).mono ?_; rintro e w' ⟨rfl, hw⟩; obtain rfl := hw.symm))
          go_wp2_with fail
          go_roundw
          case rel => exact ⟨j + 1, by first | exact congrArg (Value.int .i64) HAJ.out.1 | exact congrArg (Value.int .i64) HAJ.out.2, HJ.out, by rw [HLD.out]; exact HT.out⟩
          case measure => first | exact lt_mI _ HAJ.out.1 HJ.out | exact lt_mI _ HAJ.out.2 HJ.out
    · have hjN : j = N := by omega
      have hgtI : ¬ (j : Int) < (N : Int) := by omega
      have HLD : (xs.take j).filter (inB o lo hi) = xs.filter (inB o lo hi) := by rw [hjN, ← hN, List.take_length]
      rw [HLD] at T0
      have HT := hide (And.intro T0 K0)
      clear hh hj hl hll hN hlt hjN T0 K0 HLD
      go_wp2_with fail
      go_ret2
      exact ⟨_, _, rfl, HT.out.1, HT.out.2⟩
end
end Go.Proofs.Ytchealdgncgjoaa.StI
