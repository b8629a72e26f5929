import Derived.Test.YtgaehpdlljlliaaCrG
namespace Go.Proofs.Ytgaehpdlljlliaa.Cd
open Go.RowKit
set_option linter.unusedVariables false

theorem fold_any (x : Int) (h0 : -9223372036854775808 ≤ x) (h1 : x ≤ 9223372036854775807) (w : World) : Calls Try.prog 68 #[.int .i64 x] w fun e w' => e = .returned (.int .u64 (zz x)) ∧ w' = w := by
  by_cases hn : 0 ≤ x
  · have e : zz x = 2 * x := by unfold zz; rw [if_pos hn]
    rw [e]
    go_enter Try.func68, Try.ntmps68
    go_wp2
    go_ret
    exact ⟨rfl, rfl⟩
  · have e : zz x = 2 * (-(x + 1)) + 1 := by unfold zz; rw [if_neg hn]; omega
    rw [e]
    go_enter Try.func68, Try.ntmps68
    go_wp2
    go_ret
    exact ⟨rfl, rfl⟩

/-- what the document's functions answer: new bytes -/
def News (n : Nat) (w w' : World) (u : Value) (ys : List Int) : Prop := Rd w' u ys ∧ fresh n u ∧ Kp Nu w w'

theorem fresh_own {w : World} {base n : Nat} {v : Value} {l : List Value} (h : w.ownsRow base 5 1 v n l) : fresh base v := by
  rcases h.2 with ⟨rfl, _⟩ | ⟨g, cap, cur, rfl, hb, _⟩
  · exact .inl rfl
  · exact .inr ⟨g, hb, rfl⟩
theorem rd_own {w : World} {base n : Nat} {v : Value} {ys : List Int} (h : w.ownsRow base 5 1 v n (cs ys)) (hn : n = ys.length) : Rd w v ys := by
  subst hn
  rcases h.2 with ⟨rfl, h0⟩ | ⟨g, cap, cur, rfl, hb, hg, _⟩
  · exact .inl ⟨rfl, List.eq_nil_of_length_eq_zero h0⟩
  · exact .inr ⟨⟨g, 0, none⟩, cap, rfl, h.cells rfl⟩
theorem kp_grown {w0 w w' : World} {v : Value} {n base : Nat} {l : List Value} (h : Kp Nu w0 w) (hg : w.grownBy w' v.ownBlock) (ho : w.ownsRow base 5 1 v n l) (hb : w0.heap.size ≤ base) : Kp Nu w0 w' :=
  h.trans (Kp.of_grown hg) (fun i hi e => by have := (ho.lt i (e.symm)).1; omega)

set_option maxRecDepth 100000 in
set_option maxHeartbeats 1000000 in
theorem groups_any (w : World) (x : Nat) (hx : x < 18446744073709551616) :
    Calls Try.prog 67 #[.int .u64 (x : Int)] w fun e w' => ∃ u, e = .returned u ∧ News w.heap.size w w' u (va x) := by
  obtain ⟨i0, hi, hz0, hz1, hz2⟩ := info_parts info5
  have HX : Hid (x < 128 ^ 10) := by
    have : (128 : Nat) ^ 10 = 1180591620717411303424 := by decide
    show x < 128 ^ 10
    omega
  have HX2 : Hid ((x : Int) < 18446744073709551616) := by
    show (x : Int) < _
    omega
  have hva := va_le x
  have HV := hide hva
  clear hx hva
  go_enter Try.func67, Try.ntmps67
  go_wp2
  go_loopw [0, 3] (fun i u wr => ∃ (f : Nat) (Y : Int) (pre : List Int), i = .int .u64 Y ∧ 0 ≤ Y ∧ Y < 18446744073709551616 ∧ wr.ownsRow w.heap.size 5 1 u pre.length (cs pre) ∧ Hid (Y.toNat < 128 ^ (f + 1) ∧ pre ++ vi (f + 1) Y.toNat = va x) ∧ Kp Nu w wr)
    (fun i _ _ => (intOf i).toNat)
  case atStart => exact ⟨9, x, [], rfl, by omega, HX2.out, World.ownsRow_nil _ _ _ _, ⟨HX.out, rfl⟩, Kp.refl _ _⟩
  case round =>
    clear HX HX2
    obtain ⟨f, Y, pre, rfl, hY, hY2, hrow, hpre, hkp⟩ := hrel
    have hlen : pre.length + 1 ≤ 10 := by
      have h1 := congrArg List.length hpre.out.2
      have h2 : 1 ≤ (vi (f + 1) Y.toNat).length := by simp only [vi]; split <;> simp
      rw [List.length_append] at h1
      have := HV.out
      omega
    by_cases h128 : Y < 128
    · have e1 : vi (f + 1) Y.toNat = [Y] := by
        have : Y.toNat < 128 := by omega
        simp [vi, this]
        omega
      have e2 := hpre.out.2
      rw [e1] at e2
      have HE := hide e2
      have hq : Y / 128 = 0 := by omega
      have hm : Y % 128 = Y := by omega
      clear e1 e2 hpre
      go_wp2_with (at_builtin; refine wpList_append_own_at _ rfl _ _ 30 rfl w.heap.size 5 i0 _ 1 1 Try.underlying30 hi hz0 hz1 hz2 rfl (by decide) _ _ _ rfl (hrow.alloc _) ⟨wr.heap.size, 0, none⟩ 1 1 [.int .u8 Y] rfl rfl (cell_one_new _ _ _) (by simp [Value.oneCell']) (by unfold maxLen; omega) (by omega) (by have := hkp.size; simp; omega) ?_; intro v' w1 hown' hgrow _ hat; obtain ⟨g', cap', rfl⟩ := ownsRow_succ hown')
      go_ret
      have hown2 : w1.ownsRow w.heap.size 5 1 (.slice (some ⟨g', 0, none⟩) (pre.length + 1) cap') (va x).length (cs (va x)) := by
        rw [← HE.out]
        simpa [cs] using hown'
      exact ⟨_, rfl, rd_own hown2 rfl, fresh_own hown2, kp_grown (hkp.andAlloc _) hgrow (hrow.alloc _) (Nat.le_refl _)⟩
    · have e1 : vi (f + 1) Y.toNat = ((Y.toNat % 128 + 128 : Nat) : Int) :: vi f (Y.toNat / 128) := by
        have : ¬ Y.toNat < 128 := by omega
        simp [vi, this]
      have e2 := hpre.out.2
      rw [e1] at e2
      have HE := hide e2
      have hp1 := pow128 f Y.toNat hpre.out.1
      obtain ⟨f, rfl⟩ : ∃ f', f = f' + 1 := by
        match f, hp1 with
        | 0, hp1 => exact absurd hp1 (by simp; omega)
        | f + 1, _ => exact ⟨f, rfl⟩
      have HP := hide hp1
      have hq : (Y / 128 == 0) = false := by simp; omega
      have HQ := hide (show Y.toNat / 128 = (Y / 128).toNat by omega)
      have HZ := hide (show ((Y.toNat % 128 + 128 : Nat) : Int) = 128 + Y % 128 by omega)
      clear hp1 e1 e2 hpre
      go_wp2_with (at_builtin; refine wpList_append_own_at _ rfl _ _ 30 rfl w.heap.size 5 i0 _ 1 1 Try.underlying30 hi hz0 hz1 hz2 rfl (by decide) _ _ _ rfl (hrow.alloc _) ⟨wr.heap.size, 0, none⟩ 1 1 [.int .u8 (128 + Y % 128)] rfl rfl (cell_one_new _ _ _) (by simp [Value.oneCell']) (by unfold maxLen; omega) (by omega) (by have := hkp.size; simp; omega) ?_; intro v' w1 hown' hgrow _ hat; obtain ⟨g', cap', rfl⟩ := ownsRow_succ hown')
      have hq := HQ.out
      have hz := HZ.out
      refine ⟨⟨f, Y / 128, pre ++ [128 + Y % 128], rfl, by omega, by omega, ?_, ⟨?_, ?_⟩, kp_grown (hkp.andAlloc _) hgrow (hrow.alloc _) (Nat.le_refl _)⟩, by simp [intOf]; omega⟩
      · simpa [cs] using hown'
      · rw [← hq]; exact HP.out
      · rw [List.append_assoc, ← hq, ← hz]
        exact HE.out

theorem be_get (n x k : Nat) (hk : k < n) : (be n x)[k]? = some ((x / 256 ^ (n - 1 - k) % 256 : Nat) : Int) := by
  induction n generalizing k with
  | zero => omega
  | succ n ih =>
    cases k with
    | zero => simp [be]
    | succ k =>
      rw [be, List.getElem?_cons_succ, ih k (by omega)]
      congr 5
      omega

theorem drop_set {cur F : List Value} {k : Nat} {z : Value} (hk : k < cur.length) (hl : cur.length = F.length) (h : cur.drop (k + 1) = F.drop (k + 1)) (hz : F[k]? = some z) : (cur.set k z).drop k = F.drop k := by
  have hkF : k < F.length := by omega
  rw [List.drop_eq_getElem_cons (by simpa using hk), List.drop_eq_getElem_cons hkF]
  rw [List.getElem?_eq_getElem hkF] at hz
  simp only [Option.some.injEq] at hz
  rw [List.getElem_set_self, hz]
  congr 1
  rw [← h, List.drop_set, if_pos (by omega)]

set_option maxRecDepth 100000 in
set_option maxHeartbeats 1000000 in
theorem digits_any (w : World) (X : Int) (n : Nat) (h0 : 0 ≤ X) (h1 : X < 18446744073709551616) (hn1 : 1 ≤ n) (hn : n ≤ 8) :
    Calls Try.prog 66 #[.int .u64 X, .int .i64 (n : Int)] w fun e w' => ∃ u, e = .returned u ∧ News w.heap.size w w' u (be n X.toNat) := by
  obtain ⟨i0, hi, hz0, hz1, hz2⟩ := info_parts info5
  obtain ⟨F, hFd⟩ : ∃ F, cs (be n X.toNat) = F := ⟨_, rfl⟩
  have hF : F.length = n := by rw [← hFd, cs_length, be_length]
  have HFk : Hid (∀ k, k < n → F[k]? = some (.int .u8 ((X.toNat / 256 ^ (n - 1 - k) % 256 : Nat) : Int))) := by
    intro k hk
    rw [← hFd, cs, List.getElem?_map, be_get n X.toNat k hk]
    rfl
  have HFd := hide hFd
  have HF := hide hF
  clear hFd hF
  go_enter Try.func66, Try.ntmps66
  go_wp2_with (at_make; refine wpList_make_full _ rfl _ _ 30 rfl w.heap.size 5 i0 _ 1 Try.underlying30 hi hz0 hz1 .i64 .i64 _ _ n rfl rfl rfl rfl (by rw [hz2]; omega) (by unfold maxLen; omega) (Nat.le_refl _) ?_; intro w1 hown hgrow; obtain ⟨cur, HG, HCl⟩ := made_row hown; have HL := hide (Kp.of_grown hgrow); clear hown hgrow)
  go_loopw [0, 6] (fun x i wr => ∃ (k : Nat) (Y : Int) (cu : List Value), k ≤ n ∧ x = .int .u64 Y ∧ 0 ≤ Y ∧ Y < 18446744073709551616 ∧ i = .int .i64 ((k : Int) - 1) ∧ Hid (Y = ((X.toNat / 256 ^ (n - k) : Nat) : Int)) ∧ Hid (wr.heap[w.heap.size]? = some (.cells cu.toArray 5 (0, 0))) ∧ Hid (cu.length = n ∧ cu.drop k = F.drop k) ∧ Below w.heap.size w wr) (fun _ i _ => (intOf i + 1).toNat)
  case atStart => exact ⟨n, X, cur, Nat.le_refl _, rfl, h0, h1, rfl, by show _ = _; simp; omega, HG, ⟨HCl.out, by rw [List.drop_of_length_le (by rw [HCl.out]; exact Nat.le_refl _), List.drop_of_length_le (by rw [HF.out]; exact Nat.le_refl _)]⟩, ⟨HL.out.os, HL.out.tape, HL.out.output, HL.out.size, fun k hk => HL.out.block k hk (by simp)⟩⟩
  case round =>
    clear HG HCl HL
    obtain ⟨k, Y, cu, hk, rfl, hY0, hY1, rfl, HY, HG, HT, hB⟩ := hrel
    match k, hk, HY, HT with
    | 0, hk, HY, HT =>
      go_wp2
      go_ret
      have hcu : cu = F := by simpa using HT.out.2
      have hg := HG.out
      rw [hcu, ← HFd.out] at hg
      have hr := rd_new hg
      rw [be_length] at hr
      exact ⟨_, rfl, hr, .inr ⟨_, Nat.le_refl _, rfl⟩, ⟨hB.os, hB.tape, hB.output, hB.size, fun k hk _ => hB.block k hk⟩⟩
    | k + 1, hk, HY, HT =>
      have hkc : k < cu.length := by rw [HT.out.1]; omega
      have hcell : wr.cell? ⟨w.heap.size, k, none⟩ = some cu[k] := by simp [World.cell?, HG.out, hkc]
      have hfree := free3 HG.out k
      have e1 : ((k + 1 : Nat) : Int) - 1 = (k : Int) := by omega
      rw [e1]
      have hk0 : (0 : Int) ≤ (k : Int) := by omega
      have hkn : (k : Int) < (n : Int) := by omega
      have hfk := HFk.out k (by omega)
      have hz : ((X.toNat / 256 ^ (n - 1 - k) % 256 : Nat) : Int) = Y % 256 := by
        have := HY.out
        rw [show n - 1 - k = n - (k + 1) by omega]
        omega
      rw [hz] at hfk
      have HFK := hide hfk
      have HYn : Hid (Y / 256 = ((X.toNat / 256 ^ (n - k) : Nat) : Int)) := by
        have := HY.out
        show _ = _
        rw [show n - k = (n - (k + 1)) + 1 by omega, Nat.pow_succ, ← Nat.div_div_eq_div_mul, this]
        omega
      generalize cu[k] = cuk at *
      clear hfk hz
      go_wp2
      refine ⟨⟨k, Y / 256, cu.set k (.int .u8 (Y % 256)), by omega, rfl, by omega, by omega, rfl, HYn.out, ?_, ⟨by simpa using HT.out.1, drop_set hkc (by rw [HT.out.1, HF.out]) HT.out.2 HFK.out⟩, hB.setCell (p := ⟨w.heap.size, k, none⟩) (Nat.le_refl _) _⟩, by simp [intOf]⟩
      show _ = _
      rw [set3 HG.out k _]
      simp
end Go.Proofs.Ytgaehpdlljlliaa.Cd
