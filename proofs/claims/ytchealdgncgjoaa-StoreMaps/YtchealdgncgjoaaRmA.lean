import Derived.Test.YtchealdgncgjoaaMpBI
namespace Go.Proofs.Ytchealdgncgjoaa.StI
open Go.RowKit Go.Proofs.Ytchealdgncgjoaa.St
set_option linter.unusedVariables false
section
variable {w : World} {mb : Nat} {t : T (Int × Int)}
set_option maxRecDepth 100000 in
set_option maxHeartbeats 1000000 in
theorem get_any (h : Mp w mb t) (k : Int) (hs : t.sz + 1 < 2 ^ 62) :
    Calls Try.prog 56 #[.pointer (some ⟨mb, 0, none⟩), .int .i64 (k)] w fun e w' => e = .returned (.tuple #[ov (getT k t), .bool (T.fd (sd k) t).2]) ∧ Kp Nu w w' := by
  obtain ⟨a, h1, h2⟩ := h.ex
  have TA := tree_any h1
  have FA := find_any h1 h2 k (by omega)
  cases hb : (T.fd (sd k) t).2 with
  | false =>
    have eg : getT k t = none := by unfold getT; rw [hb]; rfl
    rw [eg]
    rw [hb] at FA
    generalize (T.fd (sd k) t).1 = i at *
    clear h h1 h2 eg hb hs
    go_enter Try.func56, Try.ntmps56
    go_wp2_with (first
      | (go_at_call 83; refine TA.mono ?_; rintro e w' ⟨rfl, hw⟩; obtain rfl := hw.symm)
      | (go_at_call 78; refine FA.mono ?_; rintro e w1 ⟨rfl, k1⟩))
    go_ret2
    exact ⟨rfl, k1⟩
  | true =>
    obtain ⟨p, hp, eg⟩ := getT_some hb
    rw [eg]
    rw [hb] at FA
    have hat := atT_xs t (T.fd (sd k) t).1
    rw [hp] at hat
    have hlt := (T.fd_le (sd k) t).2 hb
    generalize (T.fd (sd k) t).1 = i at *
    have AT : ∀ W, Kp Nu w W → Calls Try.prog 81 #[.pointer a, .int .i64 (i : Int)] W fun e w' => ∃ b, e = .returned (.pointer (some ⟨b, 0, none⟩)) ∧ w'.cell? ⟨b, 1, none⟩ = some (.int .i64 (p.2)) ∧ w' = W := fun W q => by
      refine (at_any (h2.nu q) (i : Int) (by omega) (by omega)).mono ?_
      rintro e w' ⟨a', rfl, hn, rfl⟩
      rw [hat] at hn
      obtain ⟨b, x2, x3, x4, x5, rfl, hb⟩ := hn
      exact ⟨b, rfl, (cell6 hb).2.1, rfl⟩
    clear h h1 h2 eg hb hs hp hat hlt
    go_enter Try.func56, Try.ntmps56
    go_wp2_with (first
      | (go_at_call 83; refine TA.mono ?_; rintro e w' ⟨rfl, hw⟩; obtain rfl := hw.symm)
      | (go_at_call 78; refine FA.mono ?_; rintro e w1 ⟨rfl, k1⟩)
      | (go_at_call 81; refine (AT _ k1).mono ?_; rintro e w3 ⟨b3, rfl, c3, hw3⟩; obtain rfl := hw3.symm))
    go_ret2
    exact ⟨rfl, k1⟩
set_option maxRecDepth 100000 in
set_option maxHeartbeats 1000000 in
theorem rank_any (h : Mp w mb t) (k : Int) (hs : t.sz + 1 < 2 ^ 62) :
    Calls Try.prog 61 #[.pointer (some ⟨mb, 0, none⟩), .int .i64 (k)] w fun e w' => e = .returned (.int .i64 ((T.fd (sd k) t).1 : Int)) ∧ Kp Nu w w' := by
  obtain ⟨a, h1, h2⟩ := h.ex
  have TA := tree_any h1
  have FA := find_any h1 h2 k (by omega)
  generalize (T.fd (sd k) t).1 = i at *
  generalize (T.fd (sd k) t).2 = b at *
  clear h h1 h2 hs
  go_enter Try.func61, Try.ntmps61
  go_wp2_with (first
    | (go_at_call 83; refine TA.mono ?_; rintro e w' ⟨rfl, hw⟩; obtain rfl := hw.symm)
    | (go_at_call 78; refine FA.mono ?_; rintro e w1 ⟨rfl, k1⟩))
  go_ret
  exact ⟨rfl, k1⟩
--IF Floor
def floorT (k : Int) (t : T (Int × Int)) : Option (Int × Int) := atT t (if (T.fd (sd k) t).2 then ((T.fd (sd k) t).1 : Int) else ((T.fd (sd k) t).1 : Int) - 1)
def ceilT (k : Int) (t : T (Int × Int)) : Option (Int × Int) := atT t ((T.fd (sd k) t).1 : Int)
set_option maxRecDepth 100000 in
set_option maxHeartbeats 1000000 in
theorem floor_any (h : Mp w mb t) (k : Int) (hs : t.sz + 1 < 2 ^ 62) :
    Calls Try.prog 57 #[.pointer (some ⟨mb, 0, none⟩), .int .i64 (k)] w fun e w' => e = .returned (.tuple #[ok (floorT k t), ov (floorT k t), .bool (floorT k t).isSome]) ∧ Kp Nu w w' := by
  obtain ⟨a, h1, h2⟩ := h.ex
  have TA := tree_any h1
  have FA := find_any h1 h2 k (by omega)
  have hle := (T.fd_le (sd k) t).1
  cases hb : (T.fd (sd k) t).2 with
  | false =>
    have ef : floorT k t = atT t (((T.fd (sd k) t).1 : Int) - 1) := by unfold floorT; rw [hb]; rfl
    rw [ef]
    rw [hb] at FA
    generalize (T.fd (sd k) t).1 = i at *
    have AT : ∀ W, Kp Nu w W → Calls Try.prog 81 #[.pointer a, .int .i64 ((i : Int) - 1)] W fun e w' => ∃ a', e = .returned (.pointer a') ∧ An w' (atT t ((i : Int) - 1)) a' ∧ w' = W := fun W q =>
      (at_any (h2.nu q) ((i : Int) - 1) (by omega) (by omega)).mono fun e w' ⟨a', e1, e2, e3⟩ => ⟨a', e1, by rw [e3]; exact e2, e3⟩
    have PA : ∀ W a', An W (atT t ((i : Int) - 1)) a' → Calls Try.prog 89 #[.pointer a'] W fun e w' => e = .returned (.tuple #[ok (atT t ((i : Int) - 1)), ov (atT t ((i : Int) - 1)), .bool (atT t ((i : Int) - 1)).isSome]) ∧ Kp Nu W w' := fun W a' h => pair_any h
    have q1 : wrap64 ((i : Int) - 1) = (i : Int) - 1 := by unfold wrap64; omega
    generalize atT t ((i : Int) - 1) = o at *
    clear h h1 h2 hb hs ef hle
    go_enter Try.func57, Try.ntmps57
    go_wp2_with (first
      | (go_at_call 83; refine TA.mono ?_; rintro e w' ⟨rfl, hw⟩; obtain rfl := hw.symm)
      | (go_at_call 78; refine FA.mono ?_; rintro e w1 ⟨rfl, k1⟩)
      | (go_at_call 81; (try rw [q1]); refine (AT _ k1).mono ?_; rintro e w3 ⟨a3, rfl, c3, hw3⟩; obtain rfl := hw3.symm)
      | (go_at_call 89; refine (PA _ _ c3).mono ?_; rintro e w4 ⟨rfl, k4⟩))
    go_ret3
    exact ⟨rfl, k1.andNu k4⟩
  | true =>
    have ef : floorT k t = atT t ((T.fd (sd k) t).1 : Int) := by unfold floorT; rw [hb]; rfl
    rw [ef]
    rw [hb] at FA
    generalize (T.fd (sd k) t).1 = i at *
    have AT : ∀ W, Kp Nu w W → Calls Try.prog 81 #[.pointer a, .int .i64 (i : Int)] W fun e w' => ∃ a', e = .returned (.pointer a') ∧ An w' (atT t (i : Int)) a' ∧ w' = W := fun W q =>
      (at_any (h2.nu q) (i : Int) (by omega) (by omega)).mono fun e w' ⟨a', e1, e2, e3⟩ => ⟨a', e1, by rw [e3]; exact e2, e3⟩
    have PA : ∀ W a', An W (atT t (i : Int)) a' → Calls Try.prog 89 #[.pointer a'] W fun e w' => e = .returned (.tuple #[ok (atT t (i : Int)), ov (atT t (i : Int)), .bool (atT t (i : Int)).isSome]) ∧ Kp Nu W w' := fun W a' h => pair_any h
    generalize atT t (i : Int) = o at *
    clear h h1 h2 hb hs ef hle
    go_enter Try.func57, Try.ntmps57
    go_wp2_with (first
      | (go_at_call 83; refine TA.mono ?_; rintro e w' ⟨rfl, hw⟩; obtain rfl := hw.symm)
      | (go_at_call 78; refine FA.mono ?_; rintro e w1 ⟨rfl, k1⟩)
      | (go_at_call 81; refine (AT _ k1).mono ?_; rintro e w3 ⟨a3, rfl, c3, hw3⟩; obtain rfl := hw3.symm)
      | (go_at_call 89; refine (PA _ _ c3).mono ?_; rintro e w4 ⟨rfl, k4⟩))
    go_ret3
    exact ⟨rfl, k1.andNu k4⟩
set_option maxRecDepth 100000 in
set_option maxHeartbeats 1000000 in
theorem ceil_any (h : Mp w mb t) (k : Int) (hs : t.sz + 1 < 2 ^ 62) :
    Calls Try.prog 58 #[.pointer (some ⟨mb, 0, none⟩), .int .i64 (k)] w fun e w' => e = .returned (.tuple #[ok (ceilT k t), ov (ceilT k t), .bool (ceilT k t).isSome]) ∧ Kp Nu w w' := by
  obtain ⟨a, h1, h2⟩ := h.ex
  have TA := tree_any h1
  have FA := find_any h1 h2 k (by omega)
  have hle := (T.fd_le (sd k) t).1
  have ef : ceilT k t = atT t ((T.fd (sd k) t).1 : Int) := rfl
  rw [ef]
  generalize (T.fd (sd k) t).1 = i at *
  generalize (T.fd (sd k) t).2 = bb at *
  have AT : ∀ W, Kp Nu w W → Calls Try.prog 81 #[.pointer a, .int .i64 (i : Int)] W fun e w' => ∃ a', e = .returned (.pointer a') ∧ An w' (atT t (i : Int)) a' ∧ w' = W := fun W q =>
    (at_any (h2.nu q) (i : Int) (by omega) (by omega)).mono fun e w' ⟨a', e1, e2, e3⟩ => ⟨a', e1, by rw [e3]; exact e2, e3⟩
  have PA : ∀ W a', An W (atT t (i : Int)) a' → Calls Try.prog 89 #[.pointer a'] W fun e w' => e = .returned (.tuple #[ok (atT t (i : Int)), ov (atT t (i : Int)), .bool (atT t (i : Int)).isSome]) ∧ Kp Nu W w' := fun W a' h => pair_any h
  generalize atT t (i : Int) = o at *
  clear h h1 h2 hs ef hle
  go_enter Try.func58, Try.ntmps58
  go_wp2_with (first
    | (go_at_call 83; refine TA.mono ?_; rintro e w' ⟨rfl, hw⟩; obtain rfl := hw.symm)
    | (go_at_call 78; refine FA.mono ?_; rintro e w1 ⟨rfl, k1⟩)
    | (go_at_call 81; refine (AT _ k1).mono ?_; rintro e w3 ⟨a3, rfl, c3, hw3⟩; obtain rfl := hw3.symm)
    | (go_at_call 89; refine (PA _ _ c3).mono ?_; rintro e w4 ⟨rfl, k4⟩))
  go_ret3
  exact ⟨rfl, k1.andNu k4⟩
--END
end
end Go.Proofs.Ytchealdgncgjoaa.StI
namespace Go.Proofs.Ytchealdgncgjoaa.StI
open Go.RowKit Go.Proofs.Ytchealdgncgjoaa.St
set_option linter.unusedVariables false

def kv (xs : List (Int × Int)) : List Value := xs.map (fun p => .int .i64 p.1)
def vvs (xs : List (Int × Int)) : List Value := xs.map (fun p => .int .i64 p.2)
/-- the document's map in memory -/
structure Rm (B : Nat) (w : World) (rb : Nat) (wh : Int) (vk vv : Value) (xs : List (Int × Int)) : Prop where
  blk : w.heap[rb]? = some (.cells #[.int .i64 wh, vk, vv] 52 (0, 0))
  ok : w.ownsRow B 3 1 vk xs.length (kv xs)
  ov : w.ownsRow B 3 1 vv xs.length (vvs xs)
  apart : ∀ g, vk.ownBlock = some g → vv.ownBlock ≠ some g
theorem Rm.nu {B : Nat} {w w' : World} {rb : Nat} {wh : Int} {vk vv : Value} {xs : List (Int × Int)} (h : Rm B w rb wh vk vv xs) (k : Kp Nu w w') : Rm B w' rb wh vk vv xs :=
  ⟨(k.block _ (blk_lt h.blk) (fun h => h)).trans h.blk, own_keep h.ok (fun g hg => k.block g (own_lt h.ok hg) (fun h => h)), own_keep h.ov (fun g hg => k.block g (own_lt h.ov hg) (fun h => h)), h.apart⟩
theorem rowI_at {w : World} {B : Nat} {v : Value} {n i : Nat} {l : List Value} {u : Value} (h : w.ownsRow B 3 1 v n l) (hn : l.length = n) (hi : l[i]? = some u) : ∃ r cap, v = .slice (some ⟨r, 0, none⟩) n cap ∧ w.cell? ⟨r, i, none⟩ = some u := by
  have hlt : i < l.length := (List.getElem?_eq_some_iff.1 hi).1
  rcases h.2 with ⟨_, h0⟩ | ⟨r, cap, cur, e, hB, hg, h1, h2, h3, h4⟩
  · omega
  · refine ⟨r, cap, e, ?_⟩
    have e1 : cur.toList[i]? = some u := by
      rw [← h4, List.getElem?_take_of_lt (by omega)] at hi
      exact hi
    simpa [World.cell?, hg] using e1
/-- which of the document's orders this is -/
def Oc (wh : Int) (o : Int → Int → Int) : Prop := ∀ (a b : Int) (W : World), Calls Try.prog 67 #[.int .i64 wh, .int .i64 a, .int .i64 b] W fun e w' => e = .returned (.int .i64 (o a b)) ∧ w' = W
set_option maxHeartbeats 400000 in
theorem order_0 : Oc 0 cmpI := by
  intro a b W
  rcases Int.lt_trichotomy a b with h | h | h
  · have e : cmpI a b = -1 := by simp [cmpI, h]
    rw [e]
    have h2 : ¬ b < a := by omega
    clear e
    go_enter Try.func67, Try.ntmps67
    go_wp2
    go_ret
    exact ⟨rfl, rfl⟩
  · have e : cmpI a b = 0 := by simp [cmpI, h]
    rw [e]
    subst h
    clear e
    go_enter Try.func67, Try.ntmps67
    go_wp2
    go_ret
    exact ⟨rfl, rfl⟩
  · have e : cmpI a b = 1 := by simp [cmpI, h, show ¬ a < b by omega]
    rw [e]
    have h2 : ¬ a < b := by omega
    clear e
    go_enter Try.func67, Try.ntmps67
    go_wp2
    go_ret
    exact ⟨rfl, rfl⟩
/-- how many keys of the first j are ahead -/
def ahead (o : Int → Int → Int) (k : Int) (xs : List (Int × Int)) (j : Nat) : Nat := (xs.take j).countP (fun p => decide (o p.1 k < 0))
theorem ahead_succ {o : Int → Int → Int} {k : Int} {xs : List (Int × Int)} {j : Nat} {p : Int × Int} (h : xs[j]? = some p) : ahead o k xs (j + 1) = ahead o k xs j + (if o p.1 k < 0 then 1 else 0) := by
  unfold ahead
  rw [List.take_add_one, h]
  simp [List.countP_append, List.countP_cons]
theorem ahead_le {o : Int → Int → Int} {k : Int} {xs : List (Int × Int)} (j : Nat) : ahead o k xs j ≤ j := by
  unfold ahead
  exact Nat.le_trans List.countP_le_length (by simp; omega)
theorem lt_mI {k h : Nat} (x : Int) (hx : x = ((k + 1 : Nat) : Int)) (hm : k < h) : h - (intOf (.int .i64 x)).toNat < h - (intOf (.int .i64 (k : Int))).toNat := by
  subst hx
  show h - (k + 1) < h - k
  omega
section
variable {B : Nat} {w : World} {rb : Nat} {wh : Int} {vk vv : Value} {xs : List (Int × Int)} {o : Int → Int → Int}
set_option maxRecDepth 100000 in
set_option maxHeartbeats 1000000 in
theorem rrank_any (h : Rm B w rb wh vk vv xs) (ho : Oc wh o) (k : Int) (hl : xs.length < 2 ^ 61) :
    Calls Try.prog 102 #[.pointer (some ⟨rb, 0, none⟩), .int .i64 k] w fun e w' => e = .returned (.int .i64 (ahead o k xs xs.length : Int)) ∧ Kp Nu w w' := by
  obtain ⟨ad, cap, hv⟩ := own_slice h.ok
  obtain ⟨N, hN⟩ : ∃ N, xs.length = N := ⟨_, rfl⟩
  rw [hN] at hv hl ⊢
  have HH := hide h
  have HN := hide hN
  have HL := hide hl
  have HO := hide ho
  subst hv
  obtain ⟨c0, c1, c2⟩ := cell3 h.blk
  have HC : ∀ W, Kp Nu w W → W.cell? ⟨rb, 0, none⟩ = some (.int .i64 wh) ∧ W.cell? ⟨rb, 1, none⟩ = some (.slice ad N cap) := fun W q => by
    obtain ⟨d0, d1, _⟩ := cell3 (h.nu q).blk
    exact ⟨d0, d1⟩
  clear h hN hl ho c0 c1 c2
  go_enter Try.func102, Try.ntmps102
  go_wp2_with fail
  go_loopw [5, 6] (fun n i wr => ∃ j : Nat, i = .int .i64 (j : Int) ∧ n = .int .i64 (ahead o k xs j : Int) ∧ j ≤ N ∧ Hid (Kp Nu w wr)) (fun n i _ => N - (intOf i).toNat)
  case atStart => exact ⟨0, rfl, rfl, Nat.zero_le _, Kp.refl _ _⟩
  case round =>
    obtain ⟨j, rfl, rfl, hj, kw⟩ := hrel
    obtain ⟨d0, d1⟩ := HC wr kw.out
    have hl := HL.out
    by_cases hlt : j < N
    · obtain ⟨p, hp⟩ : ∃ p, xs[j]? = some p := ⟨_, List.getElem?_eq_getElem (by rw [HN.out]; exact hlt)⟩
      obtain ⟨r, cap', e, hc⟩ := rowI_at (i := j) (u := .int .i64 p.1) (HH.out.nu kw.out).ok (by simp [kv]) (by simp [kv, hp])
      rw [HN.out] at e
      cases e
      have HS : ∀ W, Kp Nu wr W → W.cell? ⟨rb, 0, none⟩ = some (.int .i64 wh) ∧ W.cell? ⟨rb, 1, none⟩ = some (.slice (some ⟨r, 0, none⟩) N cap) ∧ W.cell? ⟨r, j, none⟩ = some (.int .i64 p.1) := fun W q => by
        obtain ⟨x0, x1⟩ := HC W (kw.out.andNu q)
        obtain ⟨r', cap', e, hc⟩ := rowI_at (i := j) (u := .int .i64 p.1) ((HH.out.nu kw.out).nu q).ok (by simp [kv]) (by simp [kv, hp])
        rw [HN.out] at e
        cases e
        exact ⟨x0, x1, hc⟩
      have OR := fun W => HO.out p.1 k W
      have hah := ahead_succ (o := o) (k := k) hp
      have hal := ahead_le (o := o) (k := k) (xs := xs) j
      have hltI : (j : Int) < (N : Int) := by omega
      have hj0 : (0 : Int) ≤ (j : Int) := by omega
      have HA : Hid ((j : Int) + 1 = ((j + 1 : Nat) : Int) ∧ wrap64 ((j : Int) + 1) = ((j + 1 : Nat) : Int)) := ⟨by omega, by unfold wrap64; omega⟩
      have HJ : Hid (j < N) := hlt
      by_cases hc2 : o p.1 k < 0
      · rw [if_pos hc2] at hah
        have HAH : Hid ((ahead o k xs j : Int) + 1 = (ahead o k xs (j + 1) : Int) ∧ wrap64 ((ahead o k xs j : Int) + 1) = (ahead o k xs (j + 1) : Int)) := ⟨by omega, by unfold wrap64; omega⟩
        generalize ahead o k xs j = A0 at *
        clear hah hal hl hj hlt HH HN HL HO HC hp
        go_wp2_with fail
        go_region_held (fun W => W.cell? ⟨rb, 0, none⟩ = some (.int .i64 wh) ∧ W.cell? ⟨rb, 1, none⟩ = some (.slice (some ⟨r, 0, none⟩) N cap) ∧ W.cell? ⟨r, j, none⟩ = some (.int .i64 p.1)) (first | (refine HS _ ?_; repeat (first | assumption | exact Kp.refl _ _ | apply Kp.drew)))
          (first | (go_at_call 67; refine (OR _).mono ?_; rintro e w' ⟨rfl, hw⟩; obtain rfl := hw.symm))
        go_wp2_with fail
        go_roundw
        case rel => exact ⟨j + 1, by first | exact congrArg (Value.int .i64) HA.out.1 | exact congrArg (Value.int .i64) HA.out.2, by first | exact congrArg (Value.int .i64) HAH.out.1 | exact congrArg (Value.int .i64) HAH.out.2, HJ.out, kw.out.drew⟩
        case measure => first | exact lt_mI _ HA.out.1 HJ.out | exact lt_mI _ HA.out.2 HJ.out
      · rw [if_neg hc2, Nat.add_zero] at hah
        have HAH := hide hah
        generalize ahead o k xs j = A0 at *
        clear hah hal hl hj hlt HH HN HL HO HC hp
        go_wp2_with fail
        go_region_held (fun W => W.cell? ⟨rb, 0, none⟩ = some (.int .i64 wh) ∧ W.cell? ⟨rb, 1, none⟩ = some (.slice (some ⟨r, 0, none⟩) N cap) ∧ W.cell? ⟨r, j, none⟩ = some (.int .i64 p.1)) (first | (refine HS _ ?_; repeat (first | assumption | exact Kp.refl _ _ | apply Kp.drew)))
          (first | (go_at_call 67; refine (OR _).mono ?_; rintro e w' ⟨rfl, hw⟩; obtain rfl := hw.symm))
        go_wp2_with fail
        go_roundw
        case rel => exact ⟨j + 1, by first | exact congrArg (Value.int .i64) HA.out.1 | exact congrArg (Value.int .i64) HA.out.2, congrArg (fun n : Nat => Value.int .i64 (n : Int)) HAH.out.symm, HJ.out, kw.out.drew⟩
        case measure => first | exact lt_mI _ HA.out.1 HJ.out | exact lt_mI _ HA.out.2 HJ.out
    · obtain rfl : j = N := by omega
      have hge : ¬ (j : Int) < (j : Int) := by omega
      clear hj hlt hl HH HN HL HO HC
      go_wp2_with fail
      go_ret
      exact ⟨rfl, kw.out⟩
end
end Go.Proofs.Ytchealdgncgjoaa.StI
