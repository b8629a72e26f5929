import Derived.Test.YtchealdgncgjoaaHtA
namespace Go.Proofs.Ytchealdgncgjoaa.StI
open Go.RowKit Go.Proofs.Ytchealdgncgjoaa.St
set_option linter.unusedVariables false

theorem kp_new {w w' w'' : World} {mb : Nat} (hB : w.heap.size ≤ mb) (k : Kp Nu w w') (q : Kp (fun i => i = mb) w' w'') : Kp Nu w w'' :=
  k.trans q (fun i hi e => by have e : i = mb := e; omega)
theorem sz_nil {t : T (Int × Int)} (h : t.sz = 0) : t = .nil := by
  cases t with
  | nil => rfl
  | node l p r => simp [T.sz] at h
theorem there {t : T (Int × Int)} (h : Srt cmpI t.xs) {i : Nat} {p : Int × Int} (hp : t.xs[i]? = some p) : T.fd (sd p.1) t = (i, true) := by
  rw [T.fd_eq (sd p.1) t (h.c cmpI_ord p.1)]
  obtain ⟨h1, h2⟩ := h.place cmpI_ord hp (cmpI_ord.zero p.1)
  exact Prod.ext h1 h2
theorem lt_meas2 {k h : Nat} (x : Int) (hx : x = ((k + 1 : Nat) : Int)) (hm : k < h) : h - (intOf (.int .i64 x)).toNat < h - (intOf (.int .i64 (k : Int))).toNat := lt_meas hx (by omega)

/-- Put, Len, Height, bounded behind each other -/
theorem put_h {w : World} {mb : Nat} {t : T (Int × Int)} (h : Mp w mb t) (k : Nat) (hs : t.sz ≤ k) (hk : k ≤ 3000) (x : Int) :
    Calls Try.prog 17 #[.pointer (some ⟨mb, 0, none⟩), .int .i64 x, .int .i64 (k : Int)] w fun e w' => ∃ u b, e = .returned (.tuple #[u, .bool b]) ∧ ∃ t', Mp w' mb t' ∧ t'.sz ≤ k + 1 ∧ 0 < t'.sz ∧ Kp (fun i => i = mb) w w' := by
  refine (put_any h x (k : Int) (by omega)).mono ?_
  rintro e w' ⟨e1, e2, e3⟩
  refine ⟨_, _, e1, _, e2, ?_, ?_, e3⟩
  · rw [put_sz]; split <;> omega
  · rw [put_sz]
    split
    · rename_i hb; have := (T.fd_le (sd x) t).2 hb; omega
    · omega
theorem hb_any {w : World} {mb : Nat} {t : T (Int × Int)} (h : Mp w mb t) (hs : t.sz ≤ 4000) : Calls Try.prog 20 #[.int .i64 (t.sz : Int), .int .i64 (t.ht : Int)] w fun e w' => e = .returned (.bool true) ∧ w' = w :=
  bounded_any w t.sz t.ht hs (T.lt_ht t) (T.ht_le t h.bal)
theorem del_h {w : World} {mb : Nat} {t : T (Int × Int)} (h : Mp w mb t) (hs : t.sz ≤ 4000) (i : Nat) (p : Int × Int) (hp : t.xs[i]? = some p) :
    Calls Try.prog 24 #[.pointer (some ⟨mb, 0, none⟩), .int .i64 p.1] w fun e w' => ∃ u, e = .returned (.tuple #[u, .bool true]) ∧ ∃ t', Mp w' mb t' ∧ t'.sz = t.sz - 1 ∧ Kp (fun i => i = mb) w w' := by
  have ht := there h.srt hp
  refine (del_any h p.1 (by omega)).mono ?_
  rintro e w' ⟨e1, e2, e3⟩
  rw [ht] at e1
  refine ⟨_, e1, _, e2, ?_, e3⟩
  rw [del_sz, ht]; rfl
theorem at_h {w : World} {mb : Nat} {t : T (Int × Int)} (h : Mp w mb t) (hs : t.sz ≤ 4000) (i : Nat) (hi : i < t.sz) :
    ∃ p, t.xs[i]? = some p ∧ Calls Try.prog 23 #[.pointer (some ⟨mb, 0, none⟩), .int .i64 (i : Int)] w fun e w' => e = .returned (.tuple #[.int .i64 p.1, .int .i64 p.2, .bool true]) ∧ Kp Nu w w' := by
  have hl : i < t.xs.length := by rw [T.xs_length]; exact hi
  refine ⟨_, List.getElem?_eq_getElem hl, ?_⟩
  refine (At_any h (i : Int) (by omega) (by omega)).mono ?_
  rintro e w' ⟨e1, e2⟩
  rw [atT_xs, List.getElem?_eq_getElem hl] at e1
  exact ⟨e1, e2⟩

set_option maxRecDepth 100000 in
set_option maxHeartbeats 1600000 in
theorem height_walk (w : World) (c s d : Int) (hc0 : -9223372036854775808 ≤ c ∧ c < 9223372036854775808) (hd0 : -9223372036854775808 ≤ d ∧ d < 9223372036854775808) :
    Calls Try.prog 4 #[.int .i64 c, .int .i64 s, .int .i64 d] w fun e w' => e = .returned (.bool true) ∧ Kp Nu w w' := by
  have NA := new_any w
  by_cases hc : 0 ≤ c ∧ c ≤ 3000
  · obtain ⟨N, rfl⟩ : ∃ N : Nat, c = (N : Int) := ⟨c.toNat, by omega⟩
    have hN : (N : Int) ≤ 3000 := hc.2
    have hN0 : (0 : Int) ≤ (N : Int) := hc.1
    have HN : Hid (N ≤ 3000) := by show N ≤ 3000; omega
    have HD : Hid (Int.tmod d 1000 ≤ 999) := by
      have := Int.tmod_lt_of_pos d (show (0 : Int) < 1000 by decide)
      show Int.tmod d 1000 ≤ 999; omega
    clear hc hc0 hd0
    go_enter Try.func4, Try.ntmps4
    go_wp2_with (go_at_call 16; refine NA.mono ?_; rintro e w1 ⟨rfl, hm1, k1⟩)
    obtain ⟨mb, hmb⟩ : ∃ mb, w.heap.size = mb := ⟨_, rfl⟩
    have HMB : Hid (w.heap.size ≤ mb) := by show w.heap.size ≤ mb; omega
    rw [hmb] at hm1 ⊢
    clear hN hN0 NA hmb
    go_loopw [8, 9] (fun key i wr => ∃ (k : Nat) (kk : Int) (t : T (Int × Int)), key = .int .i64 kk ∧ i = .int .i64 (k : Int) ∧ k ≤ N ∧ Hid (Mp wr mb t ∧ t.sz ≤ k ∧ (0 < k → 0 < t.sz) ∧ Kp Nu w wr)) (fun key i _ => N - (intOf i).toNat)
    case atStart => exact ⟨0, 0, .nil, rfl, rfl, Nat.zero_le _, hm1, Nat.le_refl _, fun h => by omega, k1⟩
    case round =>
      obtain ⟨k, kk, t, rfl, rfl, hk, hh⟩ := hrel
      obtain ⟨hm, hsz, hpos, kw⟩ := hh.out
      have hN3 := HN.out
      by_cases hlt : k < N
      · have PU := fun x => put_h hm k hsz (by omega) x
        have hltI : (k : Int) < (N : Int) := by omega
        have HA : Hid ((k : Int) + 1 = ((k + 1 : Nat) : Int)) := by show _ = _; omega
        have HM : Hid (k < N ∧ k ≤ 3000 ∧ Kp Nu w wr) := ⟨hlt, by omega, kw⟩
        clear hh hm hsz hpos kw hk hN3 hlt
        go_wp2_with (first
          | (go_at_call 17; refine (PU _).mono ?_; rintro e w2 ⟨u, b, rfl, t2, hm2, hs2, hp2, k2⟩; have LA := len_any hm2; have HH := height_any hm2; have BD := hb_any hm2 (by have := HM.out.2.1; omega))
          | (go_at_call 21; refine LA.mono ?_; rintro e w' ⟨rfl, hw⟩; obtain rfl := hw.symm)
          | (go_at_call 22; refine HH.mono ?_; rintro e w' ⟨rfl, hw⟩; obtain rfl := hw.symm)
          | (go_at_call 20; refine BD.mono ?_; rintro e w' ⟨rfl, hw⟩; obtain rfl := hw.symm))
        exact ⟨⟨k + 1, _, t2, rfl, congrArg (Value.int .i64) HA.out, HM.out.1, hm2, hs2, fun _ => hp2, kp_new HMB.out HM.out.2.2 k2⟩, lt_meas2 _ HA.out HM.out.1⟩
      · obtain rfl : k = N := by omega
        have LA := len_any hm
        have HMT := hide (And.intro hm kw)
        obtain ⟨n, hn⟩ : ∃ n, t.sz = n := ⟨_, rfl⟩
        rw [hn] at LA
        have HSZ : Hid (n ≤ k ∧ n ≤ 3000 ∧ t.sz = n) := ⟨by omega, by omega, hn⟩
        have hge : ¬ (k : Int) < (k : Int) := by omega
        have hn2 : decide ((k : Int) < (n : Int)) = false := by simp; omega
        have hn3 : decide (k < n) = false := by simp; omega
        have hpos' : 0 < k → 0 < n := fun h => by have := hpos h; omega
        by_cases hd : Int.tmod d 1000 < 1 <;> by_cases h0 : k = 0
        · subst h0
          obtain rfl : n = 0 := by omega
          clear hh hm hsz hpos hpos' kw hk hN3 hlt hge hn2 hn3
          have hge : ¬ ((0 : Nat) : Int) < ((0 : Nat) : Int) := by omega
          go_wp2_with (first
            | (go_at_call 21; refine LA.mono ?_; rintro e w' ⟨rfl, hw⟩; obtain rfl := hw.symm))
          clear hd
          go_loopw [11] (fun i wr2 => i = .int .i64 0 ∧ Hid (Mp wr2 mb t ∧ Kp Nu w wr2)) (fun i _ => 0)
          case atStart => exact ⟨rfl, HMT.out.1, HMT.out.2⟩
          case round =>
            generalize wr = wq at *
            obtain ⟨rfl, hh2⟩ := hrel
            obtain ⟨hm2, kw2⟩ := hh2.out
            obtain rfl : t = .nil := sz_nil HSZ.out.2.2
            have LA2 := len_any hm2
            have HH2 := height_any hm2
            have HK := hide kw2
            clear hh2 hm2 kw2 HMT HSZ LA
            simp only [T.sz, T.ht] at LA2 HH2
            go_wp2_with (first
              | (go_at_call 21; refine LA2.mono ?_; rintro e w' ⟨rfl, hw⟩; obtain rfl := hw.symm)
              | (go_at_call 22; refine HH2.mono ?_; rintro e w' ⟨rfl, hw⟩; obtain rfl := hw.symm))
            go_ret
            exact ⟨rfl, HK.out⟩
        · have hk1 : ¬ (k : Int) = 0 := by omega
          have hn1 : ¬ (n : Int) = 0 := by have := hpos' (by omega); omega
          have hk1' : ((k : Int) == 0) = false := by simp; omega
          have hn1' : ((n : Int) == 0) = false := by simp; omega
          clear hh hm hsz hpos hpos' kw hk hN3 hlt h0 hn hk1 hn1
          go_wp2_with (first
            | (go_at_call 21; refine LA.mono ?_; rintro e w' ⟨rfl, hw⟩; obtain rfl := hw.symm))
          clear hd
          clear hk1' hn1' hn2 hn3 hge
          go_loopw [11] (fun i wr2 => ∃ (j : Nat) (t2 : T (Int × Int)), i = .int .i64 (j : Int) ∧ j ≤ n ∧ Hid (Mp wr2 mb t2 ∧ t2.sz = n - j ∧ Kp Nu w wr2)) (fun i _ => n - (intOf i).toNat)
          case atStart => exact ⟨0, t, rfl, Nat.zero_le _, HMT.out.1, by rw [HSZ.out.2.2]; omega, HMT.out.2⟩
          case round =>
            generalize wr = wq at *
            obtain ⟨j, t2, rfl, hj, hh2⟩ := hrel
            obtain ⟨hm2, hsz2, kw2⟩ := hh2.out
            have hn3 := HSZ.out.2.1
            by_cases hlt : j < n
            · have m0 : 0 ≤ (j : Int) := by omega
              have m1 : (j : Int) ≤ 3000 := by omega
              obtain ⟨x, hx⟩ : ∃ x : Nat, Int.tmod (j : Int) ((n : Int) - (j : Int)) = (x : Int) := ⟨_, (Int.toNat_of_nonneg (Int.tmod_nonneg _ m0)).symm⟩
              have hxl : (x : Int) < (n : Int) - (j : Int) := by rw [← hx]; exact Int.tmod_lt_of_pos _ (by omega)
              have q1 : wrap64 (j : Int) = (j : Int) := by unfold wrap64; omega
              have q2 : wrap64 ((n : Int) - (j : Int)) = (n : Int) - (j : Int) := by unfold wrap64; omega
              have hne : ¬ (n : Int) - (j : Int) = 0 := by omega
              obtain ⟨p, hp, AT⟩ := at_h hm2 (by omega) x (by omega)
              have LA2 : ∀ W, Kp Nu wq W → Calls Try.prog 21 #[.pointer (some ⟨mb, 0, none⟩)] W fun e w' => e = .returned (.int .i64 ((n : Int) - (j : Int))) ∧ w' = W := fun W q => by
                have := len_any (hm2.nu q)
                rw [show (t2.sz : Int) = (n : Int) - (j : Int) by omega] at this
                exact this
              have DE : ∀ W, Kp Nu wq W → Calls Try.prog 24 #[.pointer (some ⟨mb, 0, none⟩), .int .i64 p.1] W fun e w' => ∃ u, e = .returned (.tuple #[u, .bool true]) ∧ ∃ t', Mp w' mb t' ∧ t'.sz = n - (j + 1) ∧ Kp Nu w w' := fun W q =>
                (del_h (hm2.nu q) (by omega) x p hp).mono fun e w' ⟨u, e1, t', e2, e3, e4⟩ => ⟨u, e1, t', e2, by omega, kp_new HMB.out (kw2.andNu q) e4⟩
              have hltI : (j : Int) < (n : Int) := by omega
              have HA : Hid (((j : Int) + 1 = ((j + 1 : Nat) : Int)) ∧ wrap64 ((j : Int) + 1) = ((j + 1 : Nat) : Int)) := ⟨by omega, by unfold wrap64; omega⟩
              have HM : Hid (j < n ∧ n ≤ 3000) := ⟨hlt, hn3⟩
              clear hh2 hm2 hsz2 kw2 hj hn3 hlt m0 m1 hxl hp HMT HSZ
              go_wp2_with (first
                | (go_at_call 23; refine AT.mono ?_; rintro e w2 ⟨rfl, k2⟩)
                | (go_at_call 24; refine (DE _ k2).mono ?_; rintro e w3 ⟨u, rfl, t3, hm3, hs3, k3⟩; have LA3 := len_any hm3; have HH3 := height_any hm3; have BD3 := hb_any hm3 (by have := HM.out.2; omega); have HS3 := hide hs3; clear hs3)
                | (go_at_call 22; refine HH3.mono ?_; rintro e w' ⟨rfl, hw⟩; obtain rfl := hw.symm)
                | (go_at_call 20; refine BD3.mono ?_; rintro e w' ⟨rfl, hw⟩; obtain rfl := hw.symm)
                | (go_at_call 21; refine LA3.mono ?_; rintro e w' ⟨rfl, hw⟩; obtain rfl := hw.symm)
                | (go_at_call 21; refine (LA2 _ k2).mono ?_; rintro e w' ⟨rfl, hw⟩; obtain rfl := hw.symm))
              go_roundw
              case rel =>
                exact ⟨j + 1, t3, by first | exact congrArg (Value.int .i64) HA.out.1 | exact congrArg (Value.int .i64) HA.out.2, HM.out.1, hm3, HS3.out, k3⟩
              case measure => first | exact lt_meas2 _ HA.out.1 HM.out.1 | exact lt_meas2 _ HA.out.2 HM.out.1
            · obtain rfl : j = n := by omega
              obtain rfl : t2 = .nil := sz_nil (by omega)
              have LA2 := len_any hm2
              have HH2 := height_any hm2
              have hge : ¬ (j : Int) < (j : Int) := by omega
              have HK := hide kw2
              clear hh2 hm2 hsz2 kw2 hj hn3 hlt HMT HSZ
              simp only [T.sz, T.ht] at LA2 HH2
              go_wp2_with (first
                | (go_at_call 21; refine LA2.mono ?_; rintro e w' ⟨rfl, hw⟩; obtain rfl := hw.symm)
                | (go_at_call 22; refine HH2.mono ?_; rintro e w' ⟨rfl, hw⟩; obtain rfl := hw.symm))
              go_ret
              exact ⟨rfl, HK.out⟩
        · subst h0
          obtain rfl : n = 0 := by omega
          clear hh hm hsz hpos hpos' kw hk hN3 hlt hge hn2 hn3
          have hge : ¬ ((0 : Nat) : Int) < ((0 : Nat) : Int) := by omega
          go_wp2_with (first
            | (go_at_call 21; refine LA.mono ?_; rintro e w' ⟨rfl, hw⟩; obtain rfl := hw.symm))
          obtain ⟨D, hD⟩ : ∃ D : Int, Int.tmod d 1000 = D := ⟨_, rfl⟩
          have hD1 : 1 ≤ D := by omega
          have hD2 : D ≤ 999 := by have := HD.out; omega
          rw [hD]
          clear hD hd
          go_loopw [11] (fun i wr2 => i = .int .i64 0 ∧ Hid (Mp wr2 mb t ∧ Kp Nu w wr2)) (fun i _ => 0)
          case atStart => exact ⟨rfl, HMT.out.1, HMT.out.2⟩
          case round =>
            generalize wr = wq at *
            obtain ⟨rfl, hh2⟩ := hrel
            obtain ⟨hm2, kw2⟩ := hh2.out
            obtain rfl : t = .nil := sz_nil HSZ.out.2.2
            have LA2 := len_any hm2
            have HH2 := height_any hm2
            have HK := hide kw2
            clear hh2 hm2 kw2 HMT HSZ LA
            simp only [T.sz, T.ht] at LA2 HH2
            go_wp2_with (first
              | (go_at_call 21; refine LA2.mono ?_; rintro e w' ⟨rfl, hw⟩; obtain rfl := hw.symm)
              | (go_at_call 22; refine HH2.mono ?_; rintro e w' ⟨rfl, hw⟩; obtain rfl := hw.symm))
            go_ret
            exact ⟨rfl, HK.out⟩
        · have hk1 : ¬ (k : Int) = 0 := by omega
          have hn1 : ¬ (n : Int) = 0 := by have := hpos' (by omega); omega
          have hk1' : ((k : Int) == 0) = false := by simp; omega
          have hn1' : ((n : Int) == 0) = false := by simp; omega
          clear hh hm hsz hpos hpos' kw hk hN3 hlt h0 hn hk1 hn1
          go_wp2_with (first
            | (go_at_call 21; refine LA.mono ?_; rintro e w' ⟨rfl, hw⟩; obtain rfl := hw.symm))
          obtain ⟨D, hD⟩ : ∃ D : Int, Int.tmod d 1000 = D := ⟨_, rfl⟩
          have hD1 : 1 ≤ D := by omega
          have hD2 : D ≤ 999 := by have := HD.out; omega
          rw [hD]
          clear hD hd
          clear hk1' hn1' hn2 hn3 hge
          go_loopw [11] (fun i wr2 => ∃ (j : Nat) (t2 : T (Int × Int)), i = .int .i64 (j : Int) ∧ j ≤ n ∧ Hid (Mp wr2 mb t2 ∧ t2.sz = n - j ∧ Kp Nu w wr2)) (fun i _ => n - (intOf i).toNat)
          case atStart => exact ⟨0, t, rfl, Nat.zero_le _, HMT.out.1, by rw [HSZ.out.2.2]; omega, HMT.out.2⟩
          case round =>
            generalize wr = wq at *
            obtain ⟨j, t2, rfl, hj, hh2⟩ := hrel
            obtain ⟨hm2, hsz2, kw2⟩ := hh2.out
            have hn3 := HSZ.out.2.1
            by_cases hlt : j < n
            · have m0 : 0 ≤ (j : Int) * D := Int.mul_nonneg (by omega) (by omega)
              have m1 : (j : Int) * D ≤ 3000 * 999 := Int.mul_le_mul (by omega) (by omega) (by omega) (by omega)
              obtain ⟨x, hx⟩ : ∃ x : Nat, Int.tmod ((j : Int) * D) ((n : Int) - (j : Int)) = (x : Int) := ⟨_, (Int.toNat_of_nonneg (Int.tmod_nonneg _ m0)).symm⟩
              have hxl : (x : Int) < (n : Int) - (j : Int) := by rw [← hx]; exact Int.tmod_lt_of_pos _ (by omega)
              have q1 : wrap64 ((j : Int) * D) = (j : Int) * D := by unfold wrap64; omega
              have q2 : wrap64 ((n : Int) - (j : Int)) = (n : Int) - (j : Int) := by unfold wrap64; omega
              have hne : ¬ (n : Int) - (j : Int) = 0 := by omega
              obtain ⟨p, hp, AT⟩ := at_h hm2 (by omega) x (by omega)
              have LA2 : ∀ W, Kp Nu wq W → Calls Try.prog 21 #[.pointer (some ⟨mb, 0, none⟩)] W fun e w' => e = .returned (.int .i64 ((n : Int) - (j : Int))) ∧ w' = W := fun W q => by
                have := len_any (hm2.nu q)
                rw [show (t2.sz : Int) = (n : Int) - (j : Int) by omega] at this
                exact this
              have DE : ∀ W, Kp Nu wq W → Calls Try.prog 24 #[.pointer (some ⟨mb, 0, none⟩), .int .i64 p.1] W fun e w' => ∃ u, e = .returned (.tuple #[u, .bool true]) ∧ ∃ t', Mp w' mb t' ∧ t'.sz = n - (j + 1) ∧ Kp Nu w w' := fun W q =>
                (del_h (hm2.nu q) (by omega) x p hp).mono fun e w' ⟨u, e1, t', e2, e3, e4⟩ => ⟨u, e1, t', e2, by omega, kp_new HMB.out (kw2.andNu q) e4⟩
              have hltI : (j : Int) < (n : Int) := by omega
              have HA : Hid (((j : Int) + 1 = ((j + 1 : Nat) : Int)) ∧ wrap64 ((j : Int) + 1) = ((j + 1 : Nat) : Int)) := ⟨by omega, by unfold wrap64; omega⟩
              have HM : Hid (j < n ∧ n ≤ 3000) := ⟨hlt, hn3⟩
              clear hh2 hm2 hsz2 kw2 hj hn3 hlt m0 m1 hxl hp HMT HSZ
              go_wp2_with (first
                | (go_at_call 23; refine AT.mono ?_; rintro e w2 ⟨rfl, k2⟩)
                | (go_at_call 24; refine (DE _ k2).mono ?_; rintro e w3 ⟨u, rfl, t3, hm3, hs3, k3⟩; have LA3 := len_any hm3; have HH3 := height_any hm3; have BD3 := hb_any hm3 (by have := HM.out.2; omega); have HS3 := hide hs3; clear hs3)
                | (go_at_call 22; refine HH3.mono ?_; rintro e w' ⟨rfl, hw⟩; obtain rfl := hw.symm)
                | (go_at_call 20; refine BD3.mono ?_; rintro e w' ⟨rfl, hw⟩; obtain rfl := hw.symm)
                | (go_at_call 21; refine LA3.mono ?_; rintro e w' ⟨rfl, hw⟩; obtain rfl := hw.symm)
                | (go_at_call 21; refine (LA2 _ k2).mono ?_; rintro e w' ⟨rfl, hw⟩; obtain rfl := hw.symm))
              go_roundw
              case rel =>
                exact ⟨j + 1, t3, by first | exact congrArg (Value.int .i64) HA.out.1 | exact congrArg (Value.int .i64) HA.out.2, HM.out.1, hm3, HS3.out, k3⟩
              case measure => first | exact lt_meas2 _ HA.out.1 HM.out.1 | exact lt_meas2 _ HA.out.2 HM.out.1
            · obtain rfl : j = n := by omega
              obtain rfl : t2 = .nil := sz_nil (by omega)
              have LA2 := len_any hm2
              have HH2 := height_any hm2
              have hge : ¬ (j : Int) < (j : Int) := by omega
              have HK := hide kw2
              clear hh2 hm2 hsz2 kw2 hj hn3 hlt HMT HSZ
              simp only [T.sz, T.ht] at LA2 HH2
              go_wp2_with (first
                | (go_at_call 21; refine LA2.mono ?_; rintro e w' ⟨rfl, hw⟩; obtain rfl := hw.symm)
                | (go_at_call 22; refine HH2.mono ?_; rintro e w' ⟨rfl, hw⟩; obtain rfl := hw.symm))
              go_ret
              exact ⟨rfl, HK.out⟩
  · have hq : c < 0 ∨ 3000 < c := by omega
    rcases hq with hq | hq
    · clear NA hc hc0
      go_enter Try.func4, Try.ntmps4
      go_wp2_with fail
      go_ret
      exact ⟨rfl, Kp.refl _ _⟩
    · have hq2 : ¬ c < 0 := by omega
      clear NA hc hc0
      go_enter Try.func4, Try.ntmps4
      go_wp2_with fail
      go_ret
      exact ⟨rfl, Kp.refl _ _⟩
end Go.Proofs.Ytchealdgncgjoaa.StI
