import Derived.Test.YtffcnonhhfhlhaaRgT
namespace Go.Proofs.Ytffcnonhhfhlhaa.Rg
open Go.RowKit Go.Shelf Go.Sort
open Go.Proofs.Ytffcnonhhfhlhaa.It
set_option linter.unusedVariables false

set_option maxRecDepth 100000 in
set_option maxHeartbeats 4000000 in
theorem price_walk (w : World) (o lim : Int) (o0 : 0 ≤ o) (u : Value) (S : List Sp) (hS : Scr w u S) (hlS : (S.length : Int) ≤ 4398046510976) :
    Calls Try.prog 3 #[.int .u8 o, .int .i64 lim, u] w fun e w' => e = .returned (.bool true) ∧ Kp Nu w w' := by
  obtain ⟨ad, cap, hu⟩ := hS.slice
  by_cases h1 : o > 15
  · subst hu
    go_enter Try.func3, Try.ntmps3
    go_wp2
    go_ret
    exact ⟨rfl, Kp.refl _ _⟩
  by_cases h2 : lim < 1
  · subst hu
    go_enter Try.func3, Try.ntmps3
    go_wp2
    go_ret
    exact ⟨rfl, Kp.refl _ _⟩
  by_cases h3 : lim > 8192
  · subst hu
    have h3d : decide (8192 < lim) = true := decide_eq_true h3
    go_enter Try.func3, Try.ntmps3
    go_wp2
    go_ret
    exact ⟨rfl, Kp.refl _ _⟩
  obtain ⟨N, hN⟩ : ∃ N, S.length = N := ⟨_, rfl⟩
  have NW := new_ok w o o0 (by omega) lim (by omega) (by omega)
  have HS := hide hS
  have HN := hide hN
  rw [hN] at hu hlS
  have h3d : decide (8192 < lim) = false := decide_eq_false (by omega)
  have h2d : decide (lim < 1) = false := decide_eq_false (by omega)
  subst hu
  clear hS hN
  go_enter Try.func3, Try.ntmps3
  go_wp2_with fail
  refine NW.mono ?_; rintro e w1 ⟨b, v, rfl, hT, hk1⟩
  have HT := hide (And.intro hT hk1)
  have HB : Hid (w.heap.size ≤ b) := hT.low
  clear NW hT hk1
  go_wp2_with fail
  refine (num_any 0 _).mono ?_; rintro e w2 ⟨rfl, hw2'⟩
  obtain rfl := hw2'.symm
  clear hw2'
  go_wp2_with fail
  go_loopw [9] (fun i wr => ∃ (k : Nat), k ≤ N ∧ i = .int .i64 (k : Int) ∧ Hid (∃ v L, Tb w.heap.size wr b lim v L ∧ Kp (fun g => w.heap.size ≤ g) w wr)) (fun i _ => N - (intOf i).toNat)
  case atStart => exact ⟨0, by omega, rfl, ⟨v, _, HT.out.1, HT.out.2.mono (fun _ _ h => h.elim)⟩⟩
  case round =>
    obtain ⟨k, hk, rfl, hI⟩ := hrel
    by_cases hlt : k < N
    · obtain ⟨vt, L, F5, F7⟩ := hI.out
      have hkS : k < S.length := by rw [HN.out]; exact hlt
      obtain ⟨s, hs⟩ : ∃ s, S[k]? = some s := ⟨_, List.getElem?_eq_getElem hkS⟩
      have hcell : ∃ bs off cp, (.slice ad N cap : Value) = .slice (some ⟨bs, off, none⟩) N cp ∧ SpAt wr bs (off + k * 4) s := by
        rcases HS.out with ⟨_, h0⟩ | ⟨bs, off, cp, h0, h3⟩
        · rw [h0] at hs; simp at hs
        · rw [HN.out] at h0
          exact ⟨bs, off, cp, h0, (h3 k s hs).keep (w' := wr) (B := 0) (b := 0) F7⟩
      obtain ⟨bs, off, cp, hq, hsp⟩ := hcell
      simp only [Value.slice.injEq] at hq
      obtain ⟨rfl, hq1⟩ := hq
      clear hq1
      obtain ⟨c0, c1, c2, c3, F1⟩ := hsp
      have hltI : (k : Int) < (N : Int) := by omega
      have hk0 : (0 : Int) ≤ (k : Int) := by omega
      have F0 := F5.tab
      have hb2 : b < wr.heap.size := blk_lt F5.blk
      have KA := Kp.alloc wr (.cells #[.int .i64 s.kind, .int .u64 s.lo, .int .u64 s.hi, .int .u8 s.h] 31) Nu
      have LN := len_any (F5.nu KA)
      have AS := fun W (kW : Kp Nu (wr.alloc (.cells #[.int .i64 s.kind, .int .u64 s.lo, .int .u64 s.hi, .int .u8 s.h] 31)) W) => assign_any ((F5.nu KA).nu kW) s F1 (by have := F7.size; have := kW.size; simp at this; omega)
      have HK3 : Hid (∀ W w2, Kp Nu (wr.alloc (.cells #[.int .i64 s.kind, .int .u64 s.lo, .int .u64 s.hi, .int .u8 s.h] 31)) W → Kp (fun k => k = b) W w2 → Kp (fun g => w.heap.size ≤ g) w w2 ∧ w2.heap[wr.heap.size]? = some (.cells #[.int .i64 s.kind, .int .u64 s.lo, .int .u64 s.hi, .int .u8 s.h] 31 (0, 0))) := fun W w2 kW k2 => by
        refine ⟨((F7.trans KA (fun _ _ h => h.elim)).trans kW (fun _ _ h => h.elim)).trans k2 (fun i hi e => by have e2 : i = b := e; have := HB.out; omega), ?_⟩
        refine (k2.block _ (by have := kW.size; simp at this; omega) (fun e => by have e2 : wr.heap.size = b := e; omega)).trans (new_at wr _ kW)
      have GO := fun W => good_any W s
      have hl8 : (L.length : Int) ≤ 8192 := by have := F5.len; have := F5.lim1; omega
      have hl1 : 0 < L.length := F0.ne
      have HBX0 : Hid (∀ W, Kp Nu (wr.alloc (.cells #[.int .i64 s.kind, .int .u64 s.lo, .int .u64 s.hi, .int .u8 s.h] 31)) W → W.heap[wr.heap.size]? = some (.cells #[.int .i64 s.kind, .int .u64 s.lo, .int .u64 s.hi, .int .u8 s.h] 31 (0, 0))) := fun W kW => new_at wr _ kW
      by_cases hg0 : s.lo ≤ s.hi ∧ s.h < 16
      · have hok : decide (s.lo ≤ s.hi ∧ s.h < 16) = true := decide_eq_true hg0
        rw [hok] at GO
        have CO := cost_ok (F5.nu KA) s.lo s.hi s.h F1.1 hg0.1 F1.2.2.2.1 hg0.2
        have cr := cost_range F0 s.h F1.1 hg0.1 F1.2.2.2.1
        obtain ⟨C, hC⟩ : ∃ C, costB L s.lo s.hi s.h = C := ⟨_, rfl⟩
        have z1 : ¬ C > 2 := by omega
        have z2 : ¬ C < 1 - (L.length : Int) := by omega
        have zw : IntKind.i64.wrap (1 - (L.length : Int)) = 1 - (L.length : Int) := by rw [IntKind.wrap_i64]; omega
        have zw2 : IntKind.i64.wrap ((L.length : Int) + C) = (L.length : Int) + C := by rw [IntKind.wrap_i64]; omega
        have z3 : decide (2 < C) = false := decide_eq_false (by omega)
        have z4 : decide (C < 1 - (L.length : Int)) = false := decide_eq_false (by omega)
        by_cases hfit : (L.length : Int) + C ≤ lim
        · have hcd : cod L lim s = 0 := by unfold cod; rw [if_neg (by omega), if_neg (fun x => x hg0.2), if_neg (by omega)]
          have hst : stp L lim s = asg L s.lo s.hi s.h := by unfold stp; rw [if_pos ⟨hg0.1, hg0.2, by omega⟩]
          rw [hcd, hst] at AS
          have hlen := (asg_facts F0 F1.1 hg0.1 F1.2.2.2.1 F1.2.2.2.2.1 hg0.2).2.2
          rw [hC] at hlen
          have hag := again_cost F0 F1.1 hg0.1 F1.2.2.2.1 F1.2.2.2.2.1 hg0.2
          obtain ⟨M2, hM2⟩ : ∃ M2, asg L s.lo s.hi s.h = M2 := ⟨_, rfl⟩
          rw [hM2] at hlen hag AS
          have z6 : (((L.length : Int) + C) != ((L.length : Int) + C)) = false := by simp
          have z5 : decide ((L.length : Int) + C ≤ lim) = true := decide_eq_true hfit
          rw [hC] at CO
          have N0 := fun W => num_any 0 W
          have NC := fun W => num_any 0 W
          have HFA := hide (And.intro F0 (And.intro F1 hg0))
          generalize hLL : L.length = NL at *
          have HNL := hide hLL
          clear F5 F7 hI hs hkS F0 hLL hst hcd hC hok
          go_wp2_with fail
          refine LN.mono ?_; rintro e w2 ⟨rfl, hw2'⟩
          obtain rfl := hw2'.symm
          clear hw2' LN
          go_wp2_with fail
          refine CO.mono ?_; rintro e w3 ⟨rfl, hk3⟩
          obtain ⟨d0, d1, d2, d3⟩ := cell4 (HBX0.out _ hk3)
          have AS1 := AS _ hk3
          have H3 := hide hk3
          clear CO AS hk3
          go_wp2_with fail
          refine AS1.mono ?_; rintro e w4 ⟨rfl, v4, hT4, hk4⟩
          obtain ⟨q4, x4⟩ := HK3.out _ _ H3.out hk4
          have LN4 := len_any hT4
          rw [hlen] at LN4
          obtain ⟨d0, d1, d2, d3⟩ := cell4 x4
          have HT4 := hide (And.intro hT4 (And.intro q4 x4))
          clear AS1 hT4 hk4 q4 x4
          go_wp2_with fail
          refine LN4.mono ?_; rintro e w5 ⟨rfl, hw5'⟩
          obtain rfl := hw5'.symm
          clear hw5' LN4
          go_wp2_with fail
          refine (GO _).mono ?_; rintro e w6 ⟨rfl, hk6⟩
          have x6 := (hk6.block _ (blk_lt HT4.out.2.2) (fun h => h)).trans HT4.out.2.2
          obtain ⟨d0, d1, d2, d3⟩ := cell4 x6
          have HT6 := hide (And.intro (HT4.out.1.nu hk6) (HT4.out.2.1.trans hk6 (fun _ _ h => h.elim)))
          clear hk6 GO HT4 x6
          go_wp2_with fail
          refine (N0 _).mono ?_; rintro e w7 ⟨rfl, hw7'⟩
          obtain rfl := hw7'.symm
          clear hw7'
          go_wp2_with fail
          refine (NC _).mono ?_; rintro e w7 ⟨rfl, hw7'⟩
          obtain rfl := hw7'.symm
          clear hw7'
          go_wp2_with fail
          refine (NC _).mono ?_; rintro e w7 ⟨rfl, hw7'⟩
          obtain rfl := hw7'.symm
          clear hw7'
          have CA := cost_ok HT6.out.1 s.lo s.hi s.h HFA.out.2.1.1 HFA.out.2.2.1 HFA.out.2.1.2.2.2.1 HFA.out.2.2.2
          rw [hag] at CA
          go_wp2_with fail
          refine CA.mono ?_; rintro e w8 ⟨rfl, hk8⟩
          have HE : Hid (∃ v L, Tb w.heap.size w8 b lim v L ∧ Kp (fun g => w.heap.size ≤ g) w w8) := ⟨v4, _, HT6.out.1.nu hk8, HT6.out.2.trans hk8 (fun _ _ h => h.elim)⟩
          clear CA hk8 HT6
          go_wp2_with fail
          refine (N0 _).mono ?_; rintro e w7 ⟨rfl, hw7'⟩
          obtain rfl := hw7'.symm
          clear hw7'
          go_wp2
          go_roundw
          case rel => exact ⟨k + 1, by omega, by go_num, HE⟩
          case measure => simp [intOf]; omega
        · have hcd : cod L lim s = 61 := by unfold cod; rw [if_neg (by omega), if_neg (fun x => x hg0.2), if_pos (by omega)]
          have hst : stp L lim s = L := by unfold stp; rw [if_neg (fun x => hfit (by rw [← hC]; exact x.2.2))]
          rw [hcd, hst] at AS
          have z6 : ((L.length : Int) != (L.length : Int)) = false := by simp
          have z5 : decide ((L.length : Int) + C ≤ lim) = false := decide_eq_false hfit
          rw [hC] at CO
          have N0 := fun W => num_any 0 W
          have NC := fun W => num_any 61 W
          have HFA := hide (And.intro F0 (And.intro F1 hg0))
          generalize hLL : L.length = NL at *
          have HNL := hide hLL
          clear F5 F7 hI hs hkS F0 hLL hst hcd hC hok
          go_wp2_with fail
          refine LN.mono ?_; rintro e w2 ⟨rfl, hw2'⟩
          obtain rfl := hw2'.symm
          clear hw2' LN
          go_wp2_with fail
          refine CO.mono ?_; rintro e w3 ⟨rfl, hk3⟩
          obtain ⟨d0, d1, d2, d3⟩ := cell4 (HBX0.out _ hk3)
          have AS1 := AS _ hk3
          have H3 := hide hk3
          clear CO AS hk3
          go_wp2_with fail
          refine AS1.mono ?_; rintro e w4 ⟨rfl, v4, hT4, hk4⟩
          obtain ⟨q4, x4⟩ := HK3.out _ _ H3.out hk4
          have LN4 := len_any hT4
          rw [HNL.out] at LN4
          obtain ⟨d0, d1, d2, d3⟩ := cell4 x4
          have HT4 := hide (And.intro hT4 (And.intro q4 x4))
          clear AS1 hT4 hk4 q4 x4
          go_wp2_with fail
          refine LN4.mono ?_; rintro e w5 ⟨rfl, hw5'⟩
          obtain rfl := hw5'.symm
          clear hw5' LN4
          go_wp2_with fail
          refine (GO _).mono ?_; rintro e w6 ⟨rfl, hk6⟩
          have x6 := (hk6.block _ (blk_lt HT4.out.2.2) (fun h => h)).trans HT4.out.2.2
          obtain ⟨d0, d1, d2, d3⟩ := cell4 x6
          have HT6 := hide (And.intro (HT4.out.1.nu hk6) (HT4.out.2.1.trans hk6 (fun _ _ h => h.elim)))
          clear hk6 GO HT4 x6
          go_wp2_with fail
          refine (N0 _).mono ?_; rintro e w7 ⟨rfl, hw7'⟩
          obtain rfl := hw7'.symm
          clear hw7'
          go_wp2_with fail
          refine (NC _).mono ?_; rintro e w7 ⟨rfl, hw7'⟩
          obtain rfl := hw7'.symm
          clear hw7'
          go_wp2_with fail
          refine (NC _).mono ?_; rintro e w7 ⟨rfl, hw7'⟩
          obtain rfl := hw7'.symm
          clear hw7'
          go_wp2_with fail
          refine (NC _).mono ?_; rintro e w7 ⟨rfl, hw7'⟩
          obtain rfl := hw7'.symm
          clear hw7'
          have HE : Hid (∃ v L, Tb w.heap.size w6 b lim v L ∧ Kp (fun g => w.heap.size ≤ g) w w6) := ⟨v4, _, HT6.out.1, HT6.out.2⟩
          clear HT6
          go_wp2
          go_roundw
          case rel => exact ⟨k + 1, by omega, by go_num, HE⟩
          case measure => simp [intOf]; omega
      · have hok : decide (s.lo ≤ s.hi ∧ s.h < 16) = false := decide_eq_false hg0
        rw [hok] at GO
        obtain ⟨E, hE, CO⟩ : ∃ E : Int, (E ≠ 0 ∧ cod L lim s = E) ∧ ∀ W, Kp Nu (wr.alloc (.cells #[.int .i64 s.kind, .int .u64 s.lo, .int .u64 s.hi, .int .u8 s.h] 31)) W → Calls Try.prog 11 #[.pointer (some ⟨b, 0, none⟩), .int .u64 s.lo, .int .u64 s.hi, .int .u8 s.h] W fun e w' => e = .returned (.tuple #[.int .i64 0, .int .i64 E]) ∧ w' = W := by
          by_cases e1 : s.hi < s.lo
          · exact ⟨60, ⟨by omega, by unfold cod; rw [if_pos e1]⟩, fun W kW => cost_bad ((F5.nu KA).nu kW) s.lo s.hi s.h e1⟩
          · exact ⟨2, ⟨by omega, by unfold cod; rw [if_neg e1, if_pos (by omega)]⟩, fun W kW => cost_arg ((F5.nu KA).nu kW) s.lo s.hi s.h (by omega) (by omega)⟩
        have hst : stp L lim s = L := by unfold stp; rw [if_neg (fun x => hg0 ⟨x.1, x.2.1⟩)]
        rw [hE.2, hst] at AS
        have NE := fun W => num_any E W
        have z1 : (E == 0) = false := by simpa using hE.1
        have z2 : (E != E) = false := by simp
        generalize hLL : L.length = NL at *
        have z3 : ((NL : Int) != (NL : Int)) = false := by simp
        have HNL := hide hLL
        clear F5 F7 hI hs hkS hE hst F0 hg0 hLL
        go_wp2_with fail
        refine LN.mono ?_; rintro e w2 ⟨rfl, hw2'⟩
        obtain rfl := hw2'.symm
        clear hw2' LN
        have CO1 := CO _ (Kp.refl Nu _)
        clear CO
        go_wp2_with fail
        refine CO1.mono ?_; rintro e w3 ⟨rfl, hw3'⟩
        obtain rfl := hw3'.symm
        clear hw3' CO1
        have AS1 := AS _ (Kp.refl Nu _)
        clear AS
        go_wp2_with fail
        refine AS1.mono ?_; rintro e w4 ⟨rfl, v4, hT4, hk4⟩
        obtain ⟨q4, x4⟩ := HK3.out _ _ (Kp.refl Nu _) hk4
        have LN4 := len_any hT4
        rw [HNL.out] at LN4
        obtain ⟨d0, d1, d2, d3⟩ := cell4 x4
        have HT4 := hide (And.intro hT4 q4)
        clear AS1 hT4 hk4 q4 x4
        go_wp2_with fail
        refine LN4.mono ?_; rintro e w5 ⟨rfl, hw5'⟩
        obtain rfl := hw5'.symm
        clear hw5' LN4
        go_wp2_with fail
        refine (GO _).mono ?_; rintro e w6 ⟨rfl, hk6⟩
        have HE : Hid (∃ v L, Tb w.heap.size w6 b lim v L ∧ Kp (fun g => w.heap.size ≤ g) w w6) := ⟨v4, _, HT4.out.1.nu hk6, HT4.out.2.trans hk6 (fun _ _ h => h.elim)⟩
        clear hk6 GO HT4
        go_wp2_with fail
        refine (NE _).mono ?_; rintro e w7 ⟨rfl, hw7'⟩
        obtain rfl := hw7'.symm
        clear hw7'
        go_wp2_with fail
        refine (NE _).mono ?_; rintro e w7 ⟨rfl, hw7'⟩
        obtain rfl := hw7'.symm
        clear hw7'
        go_wp2_with fail
        refine (NE _).mono ?_; rintro e w7 ⟨rfl, hw7'⟩
        obtain rfl := hw7'.symm
        clear hw7'
        go_wp2
        go_roundw
        case rel => exact ⟨k + 1, by omega, by go_num, HE⟩
        case measure => simp [intOf]; omega
    · have hge : ¬ (k : Int) < (N : Int) := by omega
      have HF : Hid (Kp Nu w wr) := by
        obtain ⟨vt, L, F5, F7⟩ := hI.out
        exact Kp.of_below (F7.below _ (Nat.le_refl _) (fun _ h => h))
      clear hI
      go_wp2
      go_ret
      exact ⟨rfl, HF.out⟩
end Go.Proofs.Ytffcnonhhfhlhaa.Rg
