import Derived.Test.YtchealdgncgjoaaMrB
namespace Go.Proofs.Ytchealdgncgjoaa.StM
open Go.RowKit Go.Proofs.Ytchealdgncgjoaa.St Go.Shelf Go.Sort Go.Proofs.Ytchealdgncgjoaa.It Go.Proofs.Ytchealdgncgjoaa.StI
set_option linter.unusedVariables false
set_option linter.unusedSimpArgs false
/-- the last place of the first j whose key is not behind k -/
def bst (o : Int → Int → Int) (k : Int) (xs : List (Int × Int)) : Nat → Int
  | 0 => -1
  | j + 1 => match xs[j]? with
    | some p => if o p.1 k ≤ 0 then (j : Int) else bst o k xs j
    | none => bst o k xs j
theorem bst_le {o : Int → Int → Int} {k : Int} {xs : List (Int × Int)} : ∀ j : Nat, -1 ≤ bst o k xs j ∧ bst o k xs j < j
  | 0 => by simp [bst]
  | j + 1 => by
    have := bst_le (o := o) (k := k) (xs := xs) j
    simp only [bst]
    split
    · split <;> omega
    · omega
theorem bst_succ {o : Int → Int → Int} {k : Int} {xs : List (Int × Int)} {j : Nat} {p : Int × Int} (h : xs[j]? = some p) : bst o k xs (j + 1) = if o p.1 k ≤ 0 then (j : Int) else bst o k xs j := by
  simp only [bst, h]
theorem bst_fd {wh : Int} {t : T (Int × Int)} (hs : Srt (cmpW wh) t.xs) (k : Int) : ∀ j : Nat, j ≤ t.xs.length →
    bst (cmpW wh) k t.xs j = (if (T.fd (sd wh k) t).2 then (min j ((T.fd (sd wh k) t).1 + 1) : Int) - 1 else (min j (T.fd (sd wh k) t).1 : Int) - 1)
  | 0, _ => by
    have : (0 : Int) ≤ ((T.fd (sd wh k) t).1 : Int) := by omega
    show (-1 : Int) = _
    split <;> omega
  | j + 1, hj => by
    obtain ⟨p, hp⟩ : ∃ p, t.xs[j]? = some p := ⟨_, List.getElem?_eq_getElem (by omega)⟩
    have ih := bst_fd hs k j (by omega)
    obtain ⟨f1, f2⟩ := plc_facts hs k j p hp
    rw [bst_succ hp, ih]
    generalize (T.fd (sd wh k) t).1 = i at *
    cases hf : (T.fd (sd wh k) t).2 with
    | true =>
      rw [hf] at f2
      simp only [if_true] at ih ⊢
      by_cases c : cmpW wh p.1 k ≤ 0
      · rw [if_pos c]
        have : j ≤ i := by
          rcases Int.lt_or_eq_of_le c with h | h
          · have := f1.1 h; omega
          · have := (f2.1 h).1; omega
        omega
      · rw [if_neg c]
        have : i < j := by
          rcases Nat.lt_trichotomy j i with h | h | h
          · have := f1.2 h; omega
          · have := f2.2 ⟨h, rfl⟩; omega
          · exact h
        omega
    | false =>
      rw [hf] at f2
      simp only [Bool.false_eq_true, if_false] at ih ⊢
      by_cases c : cmpW wh p.1 k ≤ 0
      · rw [if_pos c]
        have : j < i := by
          rcases Int.lt_or_eq_of_le c with h | h
          · exact f1.1 h
          · have := (f2.1 h).2; cases this
        omega
      · rw [if_neg c]
        have : i ≤ j := by
          rcases Nat.lt_or_ge j i with h | h
          · have := f1.2 h; omega
          · exact h
        omega
theorem floor_bst {wh : Int} {t : T (Int × Int)} (hs : Srt (cmpW wh) t.xs) (k : Int) : atL t.xs (bst (cmpW wh) k t.xs t.xs.length) = floorT wh k t := by
  unfold floorT
  rw [atT_L, bst_fd hs k _ (Nat.le_refl _)]
  have h1 := T.fd_le (sd wh k) t
  have h2 := T.xs_length t
  congr 1
  cases hf : (T.fd (sd wh k) t).2 with
  | true =>
    have := h1.2 hf
    simp only [if_true]; omega
  | false => simp only [Bool.false_eq_true, if_false]; omega
theorem wq (k : Int) (h0 : 0 ≤ k) (h1 : k ≤ 17592186044000) : wrap64 (k + 1) = k + 1 := by unfold wrap64; omega
theorem sq {k N : Nat} (h : k < N) : k + 1 ≤ N := by omega
theorem mq {k N : Nat} (h : k < N) : N - (intOf (.int .i64 ((k : Int) + 1))).toNat < N - (intOf (.int .i64 (k : Int))).toNat := by simp [intOf]; omega
section
variable {B : Nat} {w : World} {rb : Nat} {wh : Int} {vk vv : Value} {t : T (Int × Int)}
set_option maxRecDepth 100000 in
set_option maxHeartbeats 2000000 in
theorem floor181 (h : Rm B w rb wh vk vv t.xs) (ho : Oc wh (cmpW wh)) (hs : Srt (cmpW wh) t.xs) (k : Int) (hl : t.xs.length ≤ 17592186044000) :
    Calls Try.prog 181 #[.pointer (some ⟨rb, 0, none⟩), .int .i64 k] w fun e w' => e = .returned (.tuple #[ok (floorT wh k t), ov (floorT wh k t), .bool (floorT wh k t).isSome]) ∧ ∃ q, w' = w.drewN q := by
  have mixed : Try.prog.follows .mixedOrders = true := by kernel_rfl
  have AT : ∀ q i, Calls Try.prog 180 #[.pointer (some ⟨rb, 0, none⟩), .int .i64 i] (w.drewN q) fun e w' => e = .returned (.tuple #[ok (atL t.xs i), ov (atL t.xs i), .bool (atL t.xs i).isSome]) ∧ ∃ q', w' = (w.drewN q).drewN q' := fun q i => at180 (h.nu (kp_dn w q)) i hl
  rw [← floor_bst hs k]
  have HS : Hid (∀ q (j : Nat) p, t.xs[j]? = some p → ∃ r cap, (w.drewN q).cell? ⟨rb, 0, none⟩ = some (.int .i64 wh) ∧ (w.drewN q).cell? ⟨rb, 1, none⟩ = some (.slice (some ⟨r, 0, none⟩) t.xs.length cap) ∧ (w.drewN q).cell? ⟨r, j, none⟩ = some (.int .i64 p.1)) := hide (fun q j p hp => by
    obtain ⟨d0, d1, _⟩ := cell3 (h.nu (kp_dn w q)).blk
    obtain ⟨r, cap, e, hc⟩ := rowI_at (i := j) (u := .int .i64 p.1) (h.nu (kp_dn w q)).ok (by simp [kv]) (by simp [kv, hp])
    rw [e] at d1
    exact ⟨r, cap, d0, d1, hc⟩)
  have HE : Hid (∀ q, ∃ ad cap, (w.drewN q).cell? ⟨rb, 1, none⟩ = some (.slice ad t.xs.length cap)) := hide (fun q => by
    obtain ⟨d0, d1, _⟩ := cell3 (h.nu (kp_dn w q)).blk
    obtain ⟨ad, cap, e⟩ := own_slice h.ok
    exact ⟨ad, cap, by rw [← e]; exact d1⟩)
  have HO := hide ho
  obtain ⟨N, eN⟩ : ∃ N, t.xs.length = N := ⟨_, rfl⟩
  rw [eN] at HS HE hl ⊢
  have HN := hide (And.intro eN hl)
  clear h ho hs eN hl
  go_enter Try.func181, Try.ntmps181
  go_wp2_with fail
  go_loopw [8, 7] (fun s8 s7 wr => ∃ j : Nat, s8 = .int .i64 (j : Int) ∧ s7 = .int .i64 (bst (cmpW wh) k t.xs j) ∧ j ≤ N ∧ ∃ q, wr = w.drewN q) (fun s8 _ _ => N - (intOf s8).toNat)
  case atStart => exact ⟨0, rfl, rfl, Nat.zero_le _, 0, rfl⟩
  case round =>
    obtain ⟨j, rfl, rfl, hj, q, hq⟩ := hrel
    by_cases hlt : j < N
    · obtain ⟨p, hp⟩ : ∃ p, t.xs[j]? = some p := ⟨_, List.getElem?_eq_getElem (by rw [HN.out.1]; exact hlt)⟩
      obtain ⟨r, cap, c0, c1, c2⟩ := HS.out q j p hp
      rw [← hq] at c0 c1 c2
      have hltI : (j : Int) < (N : Int) := by omega
      have hj0 : (0 : Int) ≤ (j : Int) := by omega
      have w1 := wq (j : Int) hj0 (by have := HN.out.2; omega)
      have hbs := hide (bst_succ (o := cmpW wh) (k := k) hp)
      have OR : ∀ n, Calls Try.prog 67 #[.int .i64 wh, .int .i64 p.1, .int .i64 k] (wr.drewN n) fun e w' => e = .returned (.int .i64 (cmpW wh p.1 k)) ∧ w' = wr.drewN n := fun n => HO.out p.1 k _
      have HK := hide (And.intro hlt hq)
      generalize bst (cmpW wh) k t.xs j = bj at *
      generalize cmpW wh p.1 k = oo at *
      clear hp hj hlt AT hq
      by_cases c : oo ≤ 0
      · go_wp2_with fail
        go_quiet (exact Calls.quiet_of_same (OR _))
        go_wp2_with fail
        rw [w1]
        refine ⟨⟨j + 1, by go_num, by rw [hbs.out, if_pos c], sq HK.out.1, q + nq, by rw [HK.out.2]; simp [World.drewN, Nat.add_comm, Nat.add_left_comm]⟩, mq HK.out.1⟩
      · go_wp2_with fail
        go_quiet (exact Calls.quiet_of_same (OR _))
        go_wp2_with fail
        rw [w1]
        refine ⟨⟨j + 1, by go_num, by rw [hbs.out, if_neg (by omega)], sq HK.out.1, q + nq, by rw [HK.out.2]; simp [World.drewN, Nat.add_comm, Nat.add_left_comm]⟩, mq HK.out.1⟩
    · obtain rfl : j = N := by omega
      obtain ⟨ad, cap, c1⟩ := HE.out q
      have hge : ¬ (j : Int) < (j : Int) := by omega
      have AQ := AT q (bst (cmpW wh) k t.xs j)
      rw [← hq] at c1 AQ
      have HQ := hide hq
      clear AT hj hlt hq
      go_wp2_with fail
      refine AQ.mono ?_
      rintro e w' ⟨rfl, q', rfl⟩
      go_wp2_with fail
      go_ret3
      exact ⟨rfl, q + q', by rw [HQ.out]; simp [World.drewN, Nat.add_comm, Nat.add_left_comm]⟩
set_option maxRecDepth 100000 in
set_option maxHeartbeats 2000000 in
theorem ceil182 (h : Rm B w rb wh vk vv t.xs) (ho : Oc wh (cmpW wh)) (hs : Srt (cmpW wh) t.xs) (k : Int) (hl : t.xs.length ≤ 17592186044000) :
    Calls Try.prog 182 #[.pointer (some ⟨rb, 0, none⟩), .int .i64 k] w fun e w' => e = .returned (.tuple #[ok (ceilT wh k t), ov (ceilT wh k t), .bool (ceilT wh k t).isSome]) ∧ ∃ q, w' = w.drewN q := by
  have mixed : Try.prog.follows .mixedOrders = true := by kernel_rfl
  have AT : ∀ q i, Calls Try.prog 180 #[.pointer (some ⟨rb, 0, none⟩), .int .i64 i] (w.drewN q) fun e w' => e = .returned (.tuple #[ok (atL t.xs i), ov (atL t.xs i), .bool (atL t.xs i).isSome]) ∧ ∃ q', w' = (w.drewN q).drewN q' := fun q i => at180 (h.nu (kp_dn w q)) i hl
  have eC : ceilT wh k t = atL t.xs ((T.fd (sd wh k) t).1 : Int) := by unfold ceilT; rw [atT_L]
  have PF : Hid (∀ j p, t.xs[j]? = some p → ((cmpW wh p.1 k < 0 ↔ j < (T.fd (sd wh k) t).1) ∧ (cmpW wh p.1 k = 0 ↔ (j = (T.fd (sd wh k) t).1 ∧ (T.fd (sd wh k) t).2 = true)))) := hide (fun j p hp => plc_facts hs k j p hp)
  have hle := (T.fd_le (sd wh k) t).1
  rw [← T.xs_length] at hle
  rw [eC]
  have HS : Hid (∀ q (j : Nat) p, t.xs[j]? = some p → ∃ r cap, (w.drewN q).cell? ⟨rb, 0, none⟩ = some (.int .i64 wh) ∧ (w.drewN q).cell? ⟨rb, 1, none⟩ = some (.slice (some ⟨r, 0, none⟩) t.xs.length cap) ∧ (w.drewN q).cell? ⟨r, j, none⟩ = some (.int .i64 p.1)) := hide (fun q j p hp => by
    obtain ⟨d0, d1, _⟩ := cell3 (h.nu (kp_dn w q)).blk
    obtain ⟨r, cap, e, hc⟩ := rowI_at (i := j) (u := .int .i64 p.1) (h.nu (kp_dn w q)).ok (by simp [kv]) (by simp [kv, hp])
    rw [e] at d1
    exact ⟨r, cap, d0, d1, hc⟩)
  have HE : Hid (∀ q, ∃ ad cap, (w.drewN q).cell? ⟨rb, 1, none⟩ = some (.slice ad t.xs.length cap)) := hide (fun q => by
    obtain ⟨d0, d1, _⟩ := cell3 (h.nu (kp_dn w q)).blk
    obtain ⟨ad, cap, e⟩ := own_slice h.ok
    exact ⟨ad, cap, by rw [← e]; exact d1⟩)
  have HO := hide ho
  obtain ⟨N, eN⟩ : ∃ N, t.xs.length = N := ⟨_, rfl⟩
  rw [eN] at HS HE hl hle
  obtain ⟨c0, ec⟩ : ∃ c, (T.fd (sd wh k) t).1 = c := ⟨_, rfl⟩
  rw [ec] at hle PF ⊢
  have HN := hide (And.intro eN (And.intro hl hle))
  clear h ho hs eN hl eC ec hle
  go_enter Try.func182, Try.ntmps182
  go_wp2_with fail
  go_loopw [7] (fun s7 wr => ∃ j : Nat, s7 = .int .i64 (j : Int) ∧ j ≤ c0 ∧ ∃ q, wr = w.drewN q) (fun s7 _ => N - (intOf s7).toNat)
  case atStart => exact ⟨0, rfl, Nat.zero_le _, 0, rfl⟩
  case round =>
    obtain ⟨j, rfl, hj, q, hq⟩ := hrel
    by_cases hlt : j < N
    · obtain ⟨p, hp⟩ : ∃ p, t.xs[j]? = some p := ⟨_, List.getElem?_eq_getElem (by rw [HN.out.1]; exact hlt)⟩
      obtain ⟨r, cap, d0, d1, d2⟩ := HS.out q j p hp
      rw [← hq] at d0 d1 d2
      have hltI : (j : Int) < (N : Int) := by omega
      have hj0 : (0 : Int) ≤ (j : Int) := by omega
      have w1 := wq (j : Int) hj0 (by have := HN.out.2.1; omega)
      have HP := hide (PF.out j p hp)
      have OR : ∀ n, Calls Try.prog 67 #[.int .i64 wh, .int .i64 p.1, .int .i64 k] (wr.drewN n) fun e w' => e = .returned (.int .i64 (cmpW wh p.1 k)) ∧ w' = wr.drewN n := fun n => HO.out p.1 k _
      have HK := hide (And.intro hlt (And.intro hj hq))
      generalize cmpW wh p.1 k = oo at *
      clear hp hj hlt
      by_cases c : oo ≥ 0
      · have hjc : (j : Int) = (c0 : Int) := by
          have h1 := HP.out.1
          have h2 := HK.out.2.1
          have : ¬ j < c0 := fun h => by have := h1.2 h; omega
          omega
        have AQ : ∀ n, Calls Try.prog 180 #[.pointer (some ⟨rb, 0, none⟩), .int .i64 (j : Int)] (wr.drewN n) fun e w' => e = .returned (.tuple #[ok (atL t.xs (c0 : Int)), ov (atL t.xs (c0 : Int)), .bool (atL t.xs (c0 : Int)).isSome]) ∧ ∃ q', w' = (wr.drewN n).drewN q' := fun n => by
          rw [← hjc, hq, World.drewN_drewN]
          exact AT (q + n) (j : Int)
        clear hjc AT hq
        go_wp2_with fail
        go_quiet (exact Calls.quiet_of_same (OR _))
        go_wp2_with fail
        refine (AQ _).mono ?_
        rintro e w' ⟨rfl, q', rfl⟩
        go_wp2_with fail
        go_ret3
        exact ⟨rfl, q + nq + q', by rw [HK.out.2.2]; simp [World.drewN, Nat.add_comm, Nat.add_left_comm]⟩
      · have hjc : j < c0 := HP.out.1.1 (by omega)
        have HJ := hide hjc
        clear hjc AT hq
        go_wp2_with fail
        go_quiet (exact Calls.quiet_of_same (OR _))
        go_wp2_with fail
        rw [w1]
        refine ⟨⟨j + 1, by go_num, sq HJ.out, q + nq, by rw [HK.out.2.2]; simp [World.drewN, Nat.add_comm, Nat.add_left_comm]⟩, mq HK.out.1⟩
    · have hjN : j = N := by have := HN.out.2.2; omega
      have e : atL t.xs (c0 : Int) = none := by
        unfold atL
        rw [if_neg (by omega)]
        exact List.getElem?_eq_none (by rw [HN.out.1]; omega)
      obtain ⟨ad, cap, d1⟩ := HE.out q
      rw [← hq] at d1
      have HQ := hide (And.intro hq e)
      have hge : ¬ (j : Int) < (N : Int) := by omega
      clear AT hj hlt hjN e hq
      go_wp2_with fail
      go_ret3
      exact ⟨by rw [HQ.out.2]; rfl, q, HQ.out.1⟩
end
end Go.Proofs.Ytchealdgncgjoaa.StM
