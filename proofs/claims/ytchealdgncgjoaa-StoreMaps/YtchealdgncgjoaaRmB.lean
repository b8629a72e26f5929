import Derived.Test.YtchealdgncgjoaaMpBI
import Derived.Test.YtchealdgncgjoaaMpCI
namespace Go.Proofs.Ytchealdgncgjoaa.StI
open Go.RowKit Go.Proofs.Ytchealdgncgjoaa.St
set_option linter.unusedVariables false

def kv (xs : List (Int × Int)) : List Value := xs.map (fun p => .int .i64 p.1)
def vvs (xs : List (Int × Int)) : List Value := xs.map (fun p => .int .i64 p.2)
/-- the document's map in memory -/
structure Rm (B : Nat) (w : World) (rb : Nat) (wh : Int) (vk vv : Value) (xs : List (Int × Int)) : Prop where
  blk : w.heap[rb]? = some (.cells #[.int .i64 wh, vk, vv] 52 (0, 0))
  ok : w.ownsRow B 3 1 vk xs.length (kv xs)
  ov : w.ownsRow B 3 1 vv xs.length (vvs xs)
  apart : ∀ g, vk.ownBlock = some g → vv.ownBlock ≠ some g
theorem Rm.nu {B : Nat} {w w' : World} {rb : Nat} {wh : Int} {vk vv : Value} {xs : List (Int × Int)} (h : Rm B w rb wh vk vv xs) (k : Kp Nu w w') : Rm B w' rb wh vk vv xs :=
  ⟨(k.block _ (blk_lt h.blk) (fun h => h)).trans h.blk, own_keep h.ok (fun g hg => k.block g (own_lt h.ok hg) (fun h => h)), own_keep h.ov (fun g hg => k.block g (own_lt h.ov hg) (fun h => h)), h.apart⟩
theorem rowI_at {w : World} {B : Nat} {v : Value} {n i : Nat} {l : List Value} {u : Value} (h : w.ownsRow B 3 1 v n l) (hn : l.length = n) (hi : l[i]? = some u) : ∃ r cap, v = .slice (some ⟨r, 0, none⟩) n cap ∧ w.cell? ⟨r, i, none⟩ = some u := by
  have hlt : i < l.length := (List.getElem?_eq_some_iff.1 hi).1
  rcases h.2 with ⟨_, h0⟩ | ⟨r, cap, cur, e, hB, hg, h1, h2, h3, h4⟩
  · omega
  · refine ⟨r, cap, e, ?_⟩
    have e1 : cur.toList[i]? = some u := by
      rw [← h4, List.getElem?_take_of_lt (by omega)] at hi
      exact hi
    simpa [World.cell?, hg] using e1
/-- which of the document's orders this is -/
def Oc (wh : Int) (o : Int → Int → Int) : Prop := ∀ (a b : Int) (W : World), Calls Try.prog 67 #[.int .i64 wh, .int .i64 a, .int .i64 b] W fun e w' => e = .returned (.int .i64 (o a b)) ∧ w' = W
set_option maxHeartbeats 400000 in
theorem order_0 : Oc 0 cmpI := by
  intro a b W
  rcases Int.lt_trichotomy a b with h | h | h
  · have e : cmpI a b = -1 := by simp [cmpI, h]
    rw [e]
    have h2 : ¬ b < a := by omega
    clear e
    go_enter Try.func67, Try.ntmps67
    go_wp2
    go_ret
    exact ⟨rfl, rfl⟩
  · have e : cmpI a b = 0 := by simp [cmpI, h]
    rw [e]
    subst h
    clear e
    go_enter Try.func67, Try.ntmps67
    go_wp2
    go_ret
    exact ⟨rfl, rfl⟩
  · have e : cmpI a b = 1 := by simp [cmpI, h, show ¬ a < b by omega]
    rw [e]
    have h2 : ¬ a < b := by omega
    clear e
    go_enter Try.func67, Try.ntmps67
    go_wp2
    go_ret
    exact ⟨rfl, rfl⟩
/-- how many keys of the first j are ahead -/
def ahead (o : Int → Int → Int) (k : Int) (xs : List (Int × Int)) (j : Nat) : Nat := (xs.take j).countP (fun p => decide (o p.1 k < 0))
theorem ahead_succ {o : Int → Int → Int} {k : Int} {xs : List (Int × Int)} {j : Nat} {p : Int × Int} (h : xs[j]? = some p) : ahead o k xs (j + 1) = ahead o k xs j + (if o p.1 k < 0 then 1 else 0) := by
  unfold ahead
  rw [List.take_add_one, h]
  simp [List.countP_append, List.countP_cons]
theorem ahead_le {o : Int → Int → Int} {k : Int} {xs : List (Int × Int)} (j : Nat) : ahead o k xs j ≤ j := by
  unfold ahead
  exact Nat.le_trans List.countP_le_length (by simp; omega)
theorem lt_mI {k h : Nat} (x : Int) (hx : x = ((k + 1 : Nat) : Int)) (hm : k < h) : h - (intOf (.int .i64 x)).toNat < h - (intOf (.int .i64 (k : Int))).toNat := by
  subst hx
  show h - (k + 1) < h - k
  omega
section
variable {B : Nat} {w : World} {rb : Nat} {wh : Int} {vk vv : Value} {xs : List (Int × Int)} {o : Int → Int → Int}
set_option maxRecDepth 100000 in
set_option maxHeartbeats 1000000 in
theorem rrank_any (h : Rm B w rb wh vk vv xs) (ho : Oc wh o) (k : Int) (hl : xs.length < 2 ^ 61) :
    Calls Try.prog 102 #[.pointer (some ⟨rb, 0, none⟩), .int .i64 k] w fun e w' => e = .returned (.int .i64 (ahead o k xs xs.length : Int)) ∧ Kp Nu w w' := by
  obtain ⟨ad, cap, hv⟩ := own_slice h.ok
  obtain ⟨N, hN⟩ : ∃ N, xs.length = N := ⟨_, rfl⟩
  rw [hN] at hv hl ⊢
  have HH := hide h
  have HN := hide hN
  have HL := hide hl
  have HO := hide ho
  subst hv
  obtain ⟨c0, c1, c2⟩ := cell3 h.blk
  have HC : ∀ W, Kp Nu w W → W.cell? ⟨rb, 0, none⟩ = some (.int .i64 wh) ∧ W.cell? ⟨rb, 1, none⟩ = some (.slice ad N cap) := fun W q => by
    obtain ⟨d0, d1, _⟩ := cell3 (h.nu q).blk
    exact ⟨d0, d1⟩
  clear h hN hl ho c0 c1 c2
  go_enter Try.func102, Try.ntmps102
  go_wp2_with fail
  go_loopw [5, 6] (fun n i wr => ∃ j : Nat, i = .int .i64 (j : Int) ∧ n = .int .i64 (ahead o k xs j : Int) ∧ j ≤ N ∧ Hid (Kp Nu w wr)) (fun n i _ => N - (intOf i).toNat)
  case atStart => exact ⟨0, rfl, rfl, Nat.zero_le _, Kp.refl _ _⟩
  case round =>
    obtain ⟨j, rfl, rfl, hj, kw⟩ := hrel
    obtain ⟨d0, d1⟩ := HC wr kw.out
    have hl := HL.out
    by_cases hlt : j < N
    · obtain ⟨p, hp⟩ : ∃ p, xs[j]? = some p := ⟨_, List.getElem?_eq_getElem (by rw [HN.out]; exact hlt)⟩
      obtain ⟨r, cap', e, hc⟩ := rowI_at (i := j) (u := .int .i64 p.1) (HH.out.nu kw.out).ok (by simp [kv]) (by simp [kv, hp])
      rw [HN.out] at e
      cases e
      have HS : ∀ W, Kp Nu wr W → W.cell? ⟨rb, 0, none⟩ = some (.int .i64 wh) ∧ W.cell? ⟨rb, 1, none⟩ = some (.slice (some ⟨r, 0, none⟩) N cap) ∧ W.cell? ⟨r, j, none⟩ = some (.int .i64 p.1) := fun W q => by
        obtain ⟨x0, x1⟩ := HC W (kw.out.andNu q)
        obtain ⟨r', cap', e, hc⟩ := rowI_at (i := j) (u := .int .i64 p.1) ((HH.out.nu kw.out).nu q).ok (by simp [kv]) (by simp [kv, hp])
        rw [HN.out] at e
        cases e
        exact ⟨x0, x1, hc⟩
      have OR := fun W => HO.out p.1 k W
      have hah := ahead_succ (o := o) (k := k) hp
      have hal := ahead_le (o := o) (k := k) (xs := xs) j
      have hltI : (j : Int) < (N : Int) := by omega
      have hj0 : (0 : Int) ≤ (j : Int) := by omega
      have HA : Hid ((j : Int) + 1 = ((j + 1 : Nat) : Int) ∧ wrap64 ((j : Int) + 1) = ((j + 1 : Nat) : Int)) := ⟨by omega, by unfold wrap64; omega⟩
      have HJ : Hid (j < N) := hlt
      by_cases hc2 : o p.1 k < 0
      · rw [if_pos hc2] at hah
        have HAH : Hid ((ahead o k xs j : Int) + 1 = (ahead o k xs (j + 1) : Int) ∧ wrap64 ((ahead o k xs j : Int) + 1) = (ahead o k xs (j + 1) : Int)) := ⟨by omega, by unfold wrap64; omega⟩
        generalize ahead o k xs j = A0 at *
        clear hah hal hl hj hlt HH HN HL HO HC hp
        go_wp2_with fail
        go_region_held (fun W => W.cell? ⟨rb, 0, none⟩ = some (.int .i64 wh) ∧ W.cell? ⟨rb, 1, none⟩ = some (.slice (some ⟨r, 0, none⟩) N cap) ∧ W.cell? ⟨r, j, none⟩ = some (.int .i64 p.1)) (first | (refine HS _ ?_; repeat (first | assumption | exact Kp.refl _ _ | apply Kp.drew)))
          (first | (go_at_call 67; refine (OR _).mono ?_; rintro e w' ⟨rfl, hw⟩; obtain rfl := hw.symm))
        go_wp2_with fail
        go_roundw
        case rel => exact ⟨j + 1, by first | exact congrArg (Value.int .i64) HA.out.1 | exact congrArg (Value.int .i64) HA.out.2, by first | exact congrArg (Value.int .i64) HAH.out.1 | exact congrArg (Value.int .i64) HAH.out.2, HJ.out, kw.out.drew⟩
        case measure => first | exact lt_mI _ HA.out.1 HJ.out | exact lt_mI _ HA.out.2 HJ.out
      · rw [if_neg hc2, Nat.add_zero] at hah
        have HAH := hide hah
        generalize ahead o k xs j = A0 at *
        clear hah hal hl hj hlt HH HN HL HO HC hp
        go_wp2_with fail
        go_region_held (fun W => W.cell? ⟨rb, 0, none⟩ = some (.int .i64 wh) ∧ W.cell? ⟨rb, 1, none⟩ = some (.slice (some ⟨r, 0, none⟩) N cap) ∧ W.cell? ⟨r, j, none⟩ = some (.int .i64 p.1)) (first | (refine HS _ ?_; repeat (first | assumption | exact Kp.refl _ _ | apply Kp.drew)))
          (first | (go_at_call 67; refine (OR _).mono ?_; rintro e w' ⟨rfl, hw⟩; obtain rfl := hw.symm))
        go_wp2_with fail
        go_roundw
        case rel => exact ⟨j + 1, by first | exact congrArg (Value.int .i64) HA.out.1 | exact congrArg (Value.int .i64) HA.out.2, congrArg (fun n : Nat => Value.int .i64 (n : Int)) HAH.out.symm, HJ.out, kw.out.drew⟩
        case measure => first | exact lt_mI _ HA.out.1 HJ.out | exact lt_mI _ HA.out.2 HJ.out
    · obtain rfl : j = N := by omega
      have hge : ¬ (j : Int) < (j : Int) := by omega
      clear hj hlt hl HH HN HL HO HC
      go_wp2_with fail
      go_ret
      exact ⟨rfl, kw.out⟩
end
end Go.Proofs.Ytchealdgncgjoaa.StI
namespace Go.Proofs.Ytchealdgncgjoaa.StI
open Go.RowKit Go.Proofs.Ytchealdgncgjoaa.St
set_option linter.unusedVariables false

/-- where the document's map finds a key -/
def plc (o : Int → Int → Int) (k : Int) (xs : List (Int × Int)) : Int := match xs[ahead o k xs xs.length]? with
  | some p => if o p.1 k = 0 then (ahead o k xs xs.length : Int) else -1
  | none => -1
section
variable {B : Nat} {w : World} {rb : Nat} {wh : Int} {vk vv : Value} {xs : List (Int × Int)} {o : Int → Int → Int}
set_option maxRecDepth 100000 in
set_option maxHeartbeats 1000000 in
theorem rat_any (h : Rm B w rb wh vk vv xs) (ho : Oc wh o) (k : Int) (hl : xs.length < 2 ^ 61) :
    Calls Try.prog 101 #[.pointer (some ⟨rb, 0, none⟩), .int .i64 k] w fun e w' => e = .returned (.int .i64 (plc o k xs)) ∧ Kp Nu w w' := by
  have RA := rrank_any h ho k hl
  obtain ⟨ad, cap, hv⟩ := own_slice h.ok
  obtain ⟨N, hN⟩ : ∃ N, xs.length = N := ⟨_, rfl⟩
  have hal := ahead_le (o := o) (k := k) (xs := xs) xs.length
  unfold plc
  rw [hN] at hv hal RA ⊢
  subst hv
  have HC : ∀ W, Kp Nu w W → W.cell? ⟨rb, 0, none⟩ = some (.int .i64 wh) ∧ W.cell? ⟨rb, 1, none⟩ = some (.slice ad N cap) := fun W q => by
    obtain ⟨d0, d1, _⟩ := cell3 (h.nu q).blk
    exact ⟨d0, d1⟩
  generalize ahead o k xs N = i at *
  by_cases hlt : i < N
  · obtain ⟨p, hp⟩ : ∃ p, xs[i]? = some p := ⟨_, List.getElem?_eq_getElem (by rw [hN]; exact hlt)⟩
    obtain ⟨r, cap', e, hc⟩ := rowI_at (i := i) (u := .int .i64 p.1) h.ok (by simp [kv]) (by simp [kv, hp])
    rw [hN] at e
    cases e
    have HS : ∀ W, Kp Nu w W → W.cell? ⟨rb, 0, none⟩ = some (.int .i64 wh) ∧ W.cell? ⟨rb, 1, none⟩ = some (.slice (some ⟨r, 0, none⟩) N cap) ∧ W.cell? ⟨r, i, none⟩ = some (.int .i64 p.1) := fun W q => by
      obtain ⟨x0, x1⟩ := HC W q
      obtain ⟨r', cap', e, hc⟩ := rowI_at (i := i) (u := .int .i64 p.1) (h.nu q).ok (by simp [kv]) (by simp [kv, hp])
      rw [hN] at e
      cases e
      exact ⟨x0, x1, hc⟩
    have OR := fun W => ho p.1 k W
    have hltI : (i : Int) < (N : Int) := by omega
    have hi0 : (0 : Int) ≤ (i : Int) := by omega
    rw [hp]
    simp only []
    by_cases h0 : o p.1 k = 0
    · rw [if_pos h0]
      rw [h0] at OR
      clear h ho hl hN hal hp HC hlt hc h0
      go_enter Try.func101, Try.ntmps101
      go_wp2_with (go_at_call 102; refine RA.mono ?_; rintro e w1 ⟨rfl, k1⟩; obtain ⟨x0, x1, x2⟩ := HS w1 k1)
      go_region_held (fun W => W.cell? ⟨rb, 0, none⟩ = some (.int .i64 wh) ∧ W.cell? ⟨rb, 1, none⟩ = some (.slice (some ⟨r, 0, none⟩) N cap) ∧ W.cell? ⟨r, i, none⟩ = some (.int .i64 p.1)) (first | (refine HS _ ?_; repeat (first | assumption | exact Kp.refl _ _ | apply Kp.drew)))
        (first | (go_at_call 67; refine (OR _).mono ?_; rintro e w' ⟨rfl, hw⟩; obtain rfl := hw.symm))
      go_wp2_with fail
      go_ret
      exact ⟨rfl, k1.drew⟩
    · rw [if_neg h0]
      have hb0 : (o p.1 k == 0) = false := by simpa using h0
      generalize o p.1 k = oo at *
      clear h ho hl hN hal hp HC hlt hc h0
      go_enter Try.func101, Try.ntmps101
      go_wp2_with (go_at_call 102; refine RA.mono ?_; rintro e w1 ⟨rfl, k1⟩; obtain ⟨x0, x1, x2⟩ := HS w1 k1)
      go_region_held (fun W => W.cell? ⟨rb, 0, none⟩ = some (.int .i64 wh) ∧ W.cell? ⟨rb, 1, none⟩ = some (.slice (some ⟨r, 0, none⟩) N cap) ∧ W.cell? ⟨r, i, none⟩ = some (.int .i64 p.1)) (first | (refine HS _ ?_; repeat (first | assumption | exact Kp.refl _ _ | apply Kp.drew)))
        (first | (go_at_call 67; refine (OR _).mono ?_; rintro e w' ⟨rfl, hw⟩; obtain rfl := hw.symm))
      go_wp2_with fail
      go_ret
      exact ⟨rfl, k1.drew⟩
  · have hnone : xs[i]? = none := List.getElem?_eq_none (by omega)
    rw [hnone]
    simp only []
    have hge : ¬ (i : Int) < (N : Int) := by omega
    clear h ho hl hN hal hlt hnone
    go_enter Try.func101, Try.ntmps101
    go_wp2_with (go_at_call 102; refine RA.mono ?_; rintro e w1 ⟨rfl, k1⟩; obtain ⟨x0, x1⟩ := HC w1 k1)
    go_ret
    exact ⟨rfl, k1⟩
end

/-- two rows of one's own, apart -/
structure Tw (B : Nat) (V : World) (vk : Value) (lk : List Value) (vv : Value) (lv : List Value) : Prop where
  ok : V.ownsRow B 3 1 vk lk.length lk
  ov : V.ownsRow B 3 1 vv lv.length lv
  ap : ∀ g, vk.ownBlock = some g → vv.ownBlock ≠ some g
section
variable {B : Nat} {V W : World} {vk vv v' : Value} {lk lv : List Value} {u : Value}
theorem Tw.nil (B : Nat) (V : World) : Tw B V (.slice none 0 0) [] (.slice none 0 0) [] := ⟨⟨rfl, .inl ⟨rfl, rfl⟩⟩, ⟨rfl, .inl ⟨rfl, rfl⟩⟩, fun g h => by cases h⟩
theorem Tw.nu (h : Tw B V vk lk vv lv) (k : Kp Nu V W) : Tw B W vk lk vv lv :=
  ⟨own_keep h.ok (fun g hg => k.block g (own_lt h.ok hg) (fun h => h)), own_keep h.ov (fun g hg => k.block g (own_lt h.ov hg) (fun h => h)), h.ap⟩
theorem Tw.stepk (h : Tw B V vk lk vv lv) (hown : W.ownsRow B 3 1 v' (lk.length + 1) (lk ++ [u])) (hg : V.grownBy W vk.ownBlock) (hob : v'.ownBlock = vk.ownBlock ∨ v'.ownBlock = some V.heap.size) : Tw B W v' (lk ++ [u]) vv lv := by
  refine ⟨by simpa using hown, own_keep h.ov (fun g e => hg.block g (own_lt h.ov e) (fun e2 => h.ap g e2.symm e)), fun g e e2 => ?_⟩
  rcases hob with h1 | h1
  · exact h.ap g (by rw [← h1]; exact e) e2
  · rw [h1] at e; cases e
    have := own_lt h.ov e2; omega
theorem Tw.stepv (h : Tw B V vk lk vv lv) (hown : W.ownsRow B 3 1 v' (lv.length + 1) (lv ++ [u])) (hg : V.grownBy W vv.ownBlock) (hob : v'.ownBlock = vv.ownBlock ∨ v'.ownBlock = some V.heap.size) : Tw B W vk lk v' (lv ++ [u]) := by
  refine ⟨own_keep h.ok (fun g e => hg.block g (own_lt h.ok e) (fun e2 => h.ap g e e2.symm)), by simpa using hown, fun g e e2 => ?_⟩
  rcases hob with h1 | h1
  · exact h.ap g e (by rw [← h1]; exact e2)
  · rw [h1] at e2; cases e2
    have := own_lt h.ok e; omega
theorem own_low {B : Nat} {n : Nat} {l : List Value} {v : Value} (h : V.ownsRow B 3 1 v n l) {g : Nat} (hg : v.ownBlock = some g) : B ≤ g := by
  rcases h.2 with ⟨rfl, h0⟩ | ⟨g', cap, cur, rfl, hb', hg', _⟩
  · cases hg
  · simp [Value.ownBlock] at hg; subst hg; exact hb'
theorem kp_row {w : World} {n : Nat} {l : List Value} {v : Value} (k : Kp Nu w V) (h : V.ownsRow w.heap.size 3 1 v n l) (hg : V.grownBy W v.ownBlock) : Kp Nu w W :=
  k.trans (Kp.of_grown hg) (fun i hi e => by have := own_low h (show v.ownBlock = some i from e.symm); omega)
end
end Go.Proofs.Ytchealdgncgjoaa.StI
