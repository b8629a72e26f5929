import Derived.Test.YtffcnonhhfhlhaaRgS
namespace Go.Proofs.Ytffcnonhhfhlhaa.Rg
open Go.RowKit Go.Shelf Go.Sort
open Go.Proofs.Ytffcnonhhfhlhaa.It
set_option linter.unusedVariables false

theorem cell4 {w : World} {b : Nat} {x y z u : Value} {t : TypeId} (h : w.heap[b]? = some (.cells #[x, y, z, u] t (0, 0))) :
    w.cell? ⟨b, 0, none⟩ = some x ∧ w.cell? ⟨b, 1, none⟩ = some y ∧ w.cell? ⟨b, 2, none⟩ = some z ∧ w.cell? ⟨b, 3, none⟩ = some u := by
  refine ⟨?_, ?_, ?_, ?_⟩ <;> simp [World.cell?, h]

set_option maxRecDepth 100000 in
set_option maxHeartbeats 4000000 in
theorem point_walk (w : World) (o : Int) (o0 : 0 ≤ o) (u : Value) (S : List Sp) (hS : Scr w u S) (key : Int) (K0 : 0 ≤ key) (K1 : key < 18446744073709551616) :
    Calls Try.prog 4 #[.int .u8 o, u, .int .u64 key] w fun e w' => e = .returned (.bool true) ∧ Kp Nu w w' := by
  obtain ⟨ad, cap, hu⟩ := hS.slice
  by_cases h1 : o > 15
  · subst hu
    go_enter Try.func4, Try.ntmps4
    go_wp2
    go_ret
    exact ⟨rfl, Kp.refl _ _⟩
  by_cases h2 : (S.length : Int) > 4095
  · subst hu
    generalize S.length = N at *
    clear hS
    have h2d : decide (4095 < (N : Int)) = true := decide_eq_true h2
    go_enter Try.func4, Try.ntmps4
    go_wp2
    go_ret
    exact ⟨rfl, Kp.refl _ _⟩
  obtain ⟨N, hN⟩ : ∃ N, S.length = N := ⟨_, rfl⟩
  have NW := new_ok w o o0 (by omega) (1 + 2 * (N : Int)) (by omega) (by omega)
  have HS := hide hS
  have HN := hide hN
  rw [hN] at h2 hu
  have h2d : decide (4095 < (N : Int)) = false := decide_eq_false (by omega)
  have hw1 : IntKind.i64.wrap (2 * (N : Int)) = 2 * (N : Int) := by rw [IntKind.wrap_i64]; omega
  have hw2 : IntKind.i64.wrap (1 + 2 * (N : Int)) = 1 + 2 * (N : Int) := by rw [IntKind.wrap_i64]; omega
  subst hu
  clear hS hN
  go_enter Try.func4, Try.ntmps4
  go_wp2_with fail
  refine NW.mono ?_; rintro e w1 ⟨b, v, rfl, hT, hk1⟩
  obtain ⟨lim, hlim⟩ : ∃ lim, 1 + 2 * (N : Int) = lim := ⟨_, rfl⟩
  rw [hlim] at hT
  have HT := hide (And.intro hT hk1)
  have hbw : b < w1.heap.size := blk_lt hT.blk
  have HB : Hid (w.heap.size ≤ b) := hT.low
  clear NW hT hk1
  go_wp2_with fail
  refine (num_any 0 _).mono ?_; rintro e w2 ⟨rfl, hw2'⟩
  obtain rfl := hw2'.symm
  clear hw2'
  go_wp2_with fail
  go_loopw [9, 10] (fun hd i wr => ∃ (k : Nat) (hz : Int), k ≤ N ∧ i = .int .i64 (k : Int) ∧ hd = .int .u8 hz ∧ Hid (∃ v L, Tb w.heap.size wr b lim v L ∧ (L.length : Int) ≤ 1 + 2 * (k : Int) ∧ ow L key = hz ∧ Kp (fun g => w.heap.size ≤ g) w wr)) (fun _ i _ => N - (intOf i).toNat)
  case atStart => exact ⟨0, o, by omega, rfl, rfl, ⟨v, _, HT.out.1, by simp, by simp only [ow]; rw [if_pos (by omega)], HT.out.2.mono (fun _ _ h => h.elim)⟩⟩
  case round =>
    obtain ⟨k, hz, hk, rfl, rfl, hI⟩ := hrel
    by_cases hlt : k < N
    · obtain ⟨vt, L, F5, F6, F3, F7⟩ := hI.out
      have hkS : k < S.length := by rw [HN.out]; exact hlt
      obtain ⟨s, hs⟩ : ∃ s, S[k]? = some s := ⟨_, List.getElem?_eq_getElem hkS⟩
      have hcell : ∃ bs off cp, (.slice ad N cap : Value) = .slice (some ⟨bs, off, none⟩) N cp ∧ SpAt wr bs (off + k * 4) s := by
        rcases HS.out with ⟨_, h0⟩ | ⟨bs, off, cp, h0, h3⟩
        · rw [h0] at hs; simp at hs
        · rw [HN.out] at h0
          exact ⟨bs, off, cp, h0, (h3 k s hs).keep (w' := wr) (B := 0) (b := 0) F7⟩
      obtain ⟨bs, off, cp, hq, hsp⟩ := hcell
      simp only [Value.slice.injEq] at hq
      obtain ⟨rfl, hq1⟩ := hq
      clear hq1
      obtain ⟨c0, c1, c2, c3, F1⟩ := hsp
      have hltI : (k : Int) < (N : Int) := by omega
      have hk0 : (0 : Int) ≤ (k : Int) := by omega
      have F0 := F5.tab
      have F2 : (L.length : Int) + 2 ≤ lim := by omega
      have hb2 : b < wr.heap.size := blk_lt F5.blk
      have KA := Kp.alloc wr (.cells #[.int .i64 s.kind, .int .u64 s.lo, .int .u64 s.hi, .int .u8 s.h] 31) Nu
      have AS := assign_any (F5.nu KA) s F1 (by have := F7.size; simp; omega)
      have HK3 : Hid (∀ w2, Kp (fun k => k = b) (wr.alloc (.cells #[.int .i64 s.kind, .int .u64 s.lo, .int .u64 s.hi, .int .u8 s.h] 31)) w2 → Kp (fun g => w.heap.size ≤ g) w w2) := fun w2 k2 => (F7.trans KA (fun _ _ h => h.elim)).trans k2 (fun i hi e => by have e2 : i = b := e; have := HB.out; omega)
      have GO := fun W => good_any W s
      have NU := fun W => num_any (cod L lim s) W
      have hcd := stp_code F0 F1 F2
      have HLEN : Hid (((stp L lim s).length : Int) ≤ 1 + 2 * ((k + 1 : Nat) : Int)) := by
        have := stp_len F0 (lim := lim) F1
        show _ ≤ _
        omega
      generalize cod L lim s = CD at *
      have F4 := F6
      have hown := F3
      clear F5 F6 F7 hI hs hkS KA
      by_cases hg0 : s.lo ≤ s.hi ∧ s.h < 16
      · by_cases hin : s.lo ≤ key
        · by_cases hin2 : key ≤ s.hi
          · have hin : s.lo ≤ key ∧ key ≤ s.hi := ⟨hin, hin2⟩
            have hok : decide (s.lo ≤ s.hi ∧ s.h < 16) = true := decide_eq_true hg0
            rw [hok] at GO hcd
            have HOW : Hid (ow (stp L lim s) key = s.h) := by
              show _ = _
              rw [stp_ow F0 F1 F2 K0 K1, if_pos ⟨hg0, hin⟩]
            have in1 : s.lo ≤ key := hin.1
            have in2 : key ≤ s.hi := hin.2
            have in3 : decide (s.lo ≤ key) = true := decide_eq_true in1
            have in4 : decide (key ≤ s.hi) = true := decide_eq_true in2
            clear F0 F1 F2 F3 F4 hown
            go_wp2_with fail
            refine AS.mono ?_; rintro e w2 ⟨rfl, v2, hT2, hk2⟩
            have HT2 := hide (And.intro hT2 (HK3.out w2 hk2))
            have hbx : w2.heap[wr.heap.size]? = some (.cells #[.int .i64 s.kind, .int .u64 s.lo, .int .u64 s.hi, .int .u8 s.h] 31 (0, 0)) := (hk2.block _ (by simp) (fun e => by have e2 : wr.heap.size = b := e; omega)).trans (heap_alloc_new wr _)
            obtain ⟨d0, d1, d2, d3⟩ := cell4 hbx
            have HBX := hide hbx
            clear AS hT2 hk2 hbx
            go_wp2_with fail
            refine (GO _).mono ?_; rintro e w3 ⟨rfl, hk3⟩
            clear GO
            have q3 := (hk3.block _ (blk_lt HBX.out) (fun h => h)).trans HBX.out
            obtain ⟨d0, d1, d2, d3⟩ := cell4 q3
            have HT3 := hide (And.intro (HT2.out.1.nu hk3) (And.intro q3 (HT2.out.2.trans hk3 (fun _ _ h => h.elim))))
            clear q3 hk3 HT2 HBX
            go_wp2_with fail
            refine (NU _).mono ?_; rintro e w4 ⟨rfl, hw4⟩
            obtain rfl := hw4.symm
            clear hw4 NU
            have LK := lookup_any HT3.out.1 key K0 K1
            rw [HOW.out] at LK
            go_wp2_with fail
            refine LK.mono ?_; rintro e w5 ⟨rfl, hk5⟩
            have SG := segment_any (HT3.out.1.nu hk5) key K0 K1
            clear LK
            go_wp2_with fail
            refine SG.mono ?_; rintro e w6 ⟨g, rfl, hg, hk6⟩
            obtain ⟨g', hg', y1, y2, y3, _⟩ := plc_facts HT3.out.1.tab.cov K0 K1
            rw [hg] at hg'
            obtain rfl : g = g' := by simpa using hg'
            rw [HOW.out] at y3
            have Y3 := hide y3
            clear y3
            have KA6 := Kp.alloc w6 (.cells #[.int .u64 g.lo, .int .u64 g.hi, .int .u8 g.h] 40) Nu
            have k7 := (hk5.andNu hk6).andNu KA6
            have OW := owns_any (HT3.out.1.nu k7) key key s.h K0 (Int.le_refl _) K1
            have hob := owns_one HT3.out.1.tab K0 K1
            rw [HOW.out] at hob
            rw [hob] at OW
            unfold enc
            clear SG hg hg' hob
            go_wp2_with fail
            refine OW.mono ?_; rintro e w8 ⟨rfl, hk8⟩
            obtain ⟨m0, m1, m2⟩ := cell3 (new_at w6 (.cells #[.int .u64 g.lo, .int .u64 g.hi, .int .u8 g.h] 40) hk8)
            have z1 : ¬ g.lo > key := by omega
            have z2 : ¬ g.hi < key := by omega
            have z3 : (g.h != s.h) = false := by simp [Y3.out]
            have z4 : decide (key < g.lo) = false := decide_eq_false (by omega)
            have z5 : decide (g.hi < key) = false := decide_eq_false (by omega)
            have z6 : (s.h != s.h) = false := by simp
            have HE : Hid (∃ v L', Tb w.heap.size w8 b lim v L' ∧ (L'.length : Int) ≤ 1 + 2 * ((k + 1 : Nat) : Int) ∧ ow L' key = s.h ∧ Kp (fun g => w.heap.size ≤ g) w w8) := ⟨v2, _, HT3.out.1.nu (k7.andNu hk8), HLEN.out, HOW.out, (HT3.out.2.2.trans (k7.andNu hk8) (fun _ _ h => h.elim))⟩
            clear OW hk8 hk5 hk6 KA6 k7 HT3 y1 y2
            go_wp2
            go_roundw
            case rel => exact ⟨k + 1, s.h, by omega, by go_num, rfl, HE⟩
            case measure => simp [intOf]; omega
          · have hok : decide (s.lo ≤ s.hi ∧ s.h < 16) = true := decide_eq_true hg0
            rw [hok] at GO hcd
            have HOW : Hid (ow (stp L lim s) key = hz) := by
              show _ = _
              rw [stp_ow F0 F1 F2 K0 K1, if_neg (fun x => hin2 x.2.2)]; exact F3
            have in3 : decide (s.lo ≤ key) = true := decide_eq_true hin
            have in4 : decide (key ≤ s.hi) = false := decide_eq_false hin2
            clear F0 F1 F2 F3 F4 hown
            go_wp2_with fail
            refine AS.mono ?_; rintro e w2 ⟨rfl, v2, hT2, hk2⟩
            have HT2 := hide (And.intro hT2 (HK3.out w2 hk2))
            have hbx : w2.heap[wr.heap.size]? = some (.cells #[.int .i64 s.kind, .int .u64 s.lo, .int .u64 s.hi, .int .u8 s.h] 31 (0, 0)) := (hk2.block _ (by simp) (fun e => by have e2 : wr.heap.size = b := e; omega)).trans (heap_alloc_new wr _)
            obtain ⟨d0, d1, d2, d3⟩ := cell4 hbx
            have HBX := hide hbx
            clear AS hT2 hk2 hbx
            go_wp2_with fail
            refine (GO _).mono ?_; rintro e w3 ⟨rfl, hk3⟩
            clear GO
            have q3 := (hk3.block _ (blk_lt HBX.out) (fun h => h)).trans HBX.out
            obtain ⟨d0, d1, d2, d3⟩ := cell4 q3
            have HT3 := hide (And.intro (HT2.out.1.nu hk3) (And.intro q3 (HT2.out.2.trans hk3 (fun _ _ h => h.elim))))
            clear q3 hk3 HT2 HBX
            go_wp2_with fail
            refine (NU _).mono ?_; rintro e w4 ⟨rfl, hw4⟩
            obtain rfl := hw4.symm
            clear hw4 NU
            have LK := lookup_any HT3.out.1 key K0 K1
            rw [HOW.out] at LK
            go_wp2_with fail
            refine LK.mono ?_; rintro e w5 ⟨rfl, hk5⟩
            have SG := segment_any (HT3.out.1.nu hk5) key K0 K1
            clear LK
            go_wp2_with fail
            refine SG.mono ?_; rintro e w6 ⟨g, rfl, hg, hk6⟩
            obtain ⟨g', hg', y1, y2, y3, _⟩ := plc_facts HT3.out.1.tab.cov K0 K1
            rw [hg] at hg'
            obtain rfl : g = g' := by simpa using hg'
            rw [HOW.out] at y3
            have Y3 := hide y3
            clear y3
            have KA6 := Kp.alloc w6 (.cells #[.int .u64 g.lo, .int .u64 g.hi, .int .u8 g.h] 40) Nu
            have k7 := (hk5.andNu hk6).andNu KA6
            have OW := owns_any (HT3.out.1.nu k7) key key hz K0 (Int.le_refl _) K1
            have hob := owns_one HT3.out.1.tab K0 K1
            rw [HOW.out] at hob
            rw [hob] at OW
            unfold enc
            clear SG hg hg' hob
            go_wp2_with fail
            refine OW.mono ?_; rintro e w8 ⟨rfl, hk8⟩
            obtain ⟨m0, m1, m2⟩ := cell3 (new_at w6 (.cells #[.int .u64 g.lo, .int .u64 g.hi, .int .u8 g.h] 40) hk8)
            have z1 : ¬ g.lo > key := by omega
            have z2 : ¬ g.hi < key := by omega
            have z3 : (g.h != hz) = false := by simp [Y3.out]
            have z4 : decide (key < g.lo) = false := decide_eq_false (by omega)
            have z5 : decide (g.hi < key) = false := decide_eq_false (by omega)
            have z6 : (hz != hz) = false := by simp
            have HE : Hid (∃ v L', Tb w.heap.size w8 b lim v L' ∧ (L'.length : Int) ≤ 1 + 2 * ((k + 1 : Nat) : Int) ∧ ow L' key = hz ∧ Kp (fun g => w.heap.size ≤ g) w w8) := ⟨v2, _, HT3.out.1.nu (k7.andNu hk8), HLEN.out, HOW.out, (HT3.out.2.2.trans (k7.andNu hk8) (fun _ _ h => h.elim))⟩
            clear OW hk8 hk5 hk6 KA6 k7 HT3 y1 y2
            go_wp2
            go_roundw
            case rel => exact ⟨k + 1, hz, by omega, by go_num, rfl, HE⟩
            case measure => simp [intOf]; omega
        · have hok : decide (s.lo ≤ s.hi ∧ s.h < 16) = true := decide_eq_true hg0
          rw [hok] at GO hcd
          have HOW : Hid (ow (stp L lim s) key = hz) := by
            show _ = _
            rw [stp_ow F0 F1 F2 K0 K1, if_neg (fun x => hin x.2.1)]; exact F3
          have in3 : decide (s.lo ≤ key) = false := decide_eq_false hin
          clear F0 F1 F2 F3 F4 hown
          go_wp2_with fail
          refine AS.mono ?_; rintro e w2 ⟨rfl, v2, hT2, hk2⟩
          have HT2 := hide (And.intro hT2 (HK3.out w2 hk2))
          have hbx : w2.heap[wr.heap.size]? = some (.cells #[.int .i64 s.kind, .int .u64 s.lo, .int .u64 s.hi, .int .u8 s.h] 31 (0, 0)) := (hk2.block _ (by simp) (fun e => by have e2 : wr.heap.size = b := e; omega)).trans (heap_alloc_new wr _)
          obtain ⟨d0, d1, d2, d3⟩ := cell4 hbx
          have HBX := hide hbx
          clear AS hT2 hk2 hbx
          go_wp2_with fail
          refine (GO _).mono ?_; rintro e w3 ⟨rfl, hk3⟩
          clear GO
          have q3 := (hk3.block _ (blk_lt HBX.out) (fun h => h)).trans HBX.out
          obtain ⟨d0, d1, d2, d3⟩ := cell4 q3
          have HT3 := hide (And.intro (HT2.out.1.nu hk3) (And.intro q3 (HT2.out.2.trans hk3 (fun _ _ h => h.elim))))
          clear q3 hk3 HT2 HBX
          go_wp2_with fail
          refine (NU _).mono ?_; rintro e w4 ⟨rfl, hw4⟩
          obtain rfl := hw4.symm
          clear hw4 NU
          have LK := lookup_any HT3.out.1 key K0 K1
          rw [HOW.out] at LK
          go_wp2_with fail
          refine LK.mono ?_; rintro e w5 ⟨rfl, hk5⟩
          have SG := segment_any (HT3.out.1.nu hk5) key K0 K1
          clear LK
          go_wp2_with fail
          refine SG.mono ?_; rintro e w6 ⟨g, rfl, hg, hk6⟩
          obtain ⟨g', hg', y1, y2, y3, _⟩ := plc_facts HT3.out.1.tab.cov K0 K1
          rw [hg] at hg'
          obtain rfl : g = g' := by simpa using hg'
          rw [HOW.out] at y3
          have Y3 := hide y3
          clear y3
          have KA6 := Kp.alloc w6 (.cells #[.int .u64 g.lo, .int .u64 g.hi, .int .u8 g.h] 40) Nu
          have k7 := (hk5.andNu hk6).andNu KA6
          have OW := owns_any (HT3.out.1.nu k7) key key hz K0 (Int.le_refl _) K1
          have hob := owns_one HT3.out.1.tab K0 K1
          rw [HOW.out] at hob
          rw [hob] at OW
          unfold enc
          clear SG hg hg' hob
          go_wp2_with fail
          refine OW.mono ?_; rintro e w8 ⟨rfl, hk8⟩
          obtain ⟨m0, m1, m2⟩ := cell3 (new_at w6 (.cells #[.int .u64 g.lo, .int .u64 g.hi, .int .u8 g.h] 40) hk8)
          have z1 : ¬ g.lo > key := by omega
          have z2 : ¬ g.hi < key := by omega
          have z3 : (g.h != hz) = false := by simp [Y3.out]
          have z4 : decide (key < g.lo) = false := decide_eq_false (by omega)
          have z5 : decide (g.hi < key) = false := decide_eq_false (by omega)
          have z6 : (hz != hz) = false := by simp
          have HE : Hid (∃ v L', Tb w.heap.size w8 b lim v L' ∧ (L'.length : Int) ≤ 1 + 2 * ((k + 1 : Nat) : Int) ∧ ow L' key = hz ∧ Kp (fun g => w.heap.size ≤ g) w w8) := ⟨v2, _, HT3.out.1.nu (k7.andNu hk8), HLEN.out, HOW.out, (HT3.out.2.2.trans (k7.andNu hk8) (fun _ _ h => h.elim))⟩
          clear OW hk8 hk5 hk6 KA6 k7 HT3 y1 y2
          go_wp2
          go_roundw
          case rel => exact ⟨k + 1, hz, by omega, by go_num, rfl, HE⟩
          case measure => simp [intOf]; omega
      · have hok : decide (s.lo ≤ s.hi ∧ s.h < 16) = false := decide_eq_false hg0
        rw [hok] at GO hcd
        have HOW : Hid (ow (stp L lim s) key = hz) := by
          show _ = _
          rw [stp_ow F0 F1 F2 K0 K1, if_neg (fun x => hg0 x.1)]; exact F3
        clear F0 F1 F2 F3 F4 hown
        go_wp2_with fail
        refine AS.mono ?_; rintro e w2 ⟨rfl, v2, hT2, hk2⟩
        have HT2 := hide (And.intro hT2 (HK3.out w2 hk2))
        have hbx : w2.heap[wr.heap.size]? = some (.cells #[.int .i64 s.kind, .int .u64 s.lo, .int .u64 s.hi, .int .u8 s.h] 31 (0, 0)) := (hk2.block _ (by simp) (fun e => by have e2 : wr.heap.size = b := e; omega)).trans (heap_alloc_new wr _)
        obtain ⟨d0, d1, d2, d3⟩ := cell4 hbx
        have HBX := hide hbx
        clear AS hT2 hk2 hbx
        go_wp2_with fail
        refine (GO _).mono ?_; rintro e w3 ⟨rfl, hk3⟩
        clear GO
        have q3 := (hk3.block _ (blk_lt HBX.out) (fun h => h)).trans HBX.out
        obtain ⟨d0, d1, d2, d3⟩ := cell4 q3
        have HT3 := hide (And.intro (HT2.out.1.nu hk3) (And.intro q3 (HT2.out.2.trans hk3 (fun _ _ h => h.elim))))
        clear q3 hk3 HT2 HBX
        go_wp2_with fail
        refine (NU _).mono ?_; rintro e w4 ⟨rfl, hw4⟩
        obtain rfl := hw4.symm
        clear hw4 NU
        have LK := lookup_any HT3.out.1 key K0 K1
        rw [HOW.out] at LK
        go_wp2_with fail
        refine LK.mono ?_; rintro e w5 ⟨rfl, hk5⟩
        have SG := segment_any (HT3.out.1.nu hk5) key K0 K1
        clear LK
        go_wp2_with fail
        refine SG.mono ?_; rintro e w6 ⟨g, rfl, hg, hk6⟩
        obtain ⟨g', hg', y1, y2, y3, _⟩ := plc_facts HT3.out.1.tab.cov K0 K1
        rw [hg] at hg'
        obtain rfl : g = g' := by simpa using hg'
        rw [HOW.out] at y3
        have Y3 := hide y3
        clear y3
        have KA6 := Kp.alloc w6 (.cells #[.int .u64 g.lo, .int .u64 g.hi, .int .u8 g.h] 40) Nu
        have k7 := (hk5.andNu hk6).andNu KA6
        have OW := owns_any (HT3.out.1.nu k7) key key hz K0 (Int.le_refl _) K1
        have hob := owns_one HT3.out.1.tab K0 K1
        rw [HOW.out] at hob
        rw [hob] at OW
        unfold enc
        clear SG hg hg' hob
        go_wp2_with fail
        refine OW.mono ?_; rintro e w8 ⟨rfl, hk8⟩
        obtain ⟨m0, m1, m2⟩ := cell3 (new_at w6 (.cells #[.int .u64 g.lo, .int .u64 g.hi, .int .u8 g.h] 40) hk8)
        have z1 : ¬ g.lo > key := by omega
        have z2 : ¬ g.hi < key := by omega
        have z3 : (g.h != hz) = false := by simp [Y3.out]
        have z4 : decide (key < g.lo) = false := decide_eq_false (by omega)
        have z5 : decide (g.hi < key) = false := decide_eq_false (by omega)
        have z6 : (hz != hz) = false := by simp
        have HE : Hid (∃ v L', Tb w.heap.size w8 b lim v L' ∧ (L'.length : Int) ≤ 1 + 2 * ((k + 1 : Nat) : Int) ∧ ow L' key = hz ∧ Kp (fun g => w.heap.size ≤ g) w w8) := ⟨v2, _, HT3.out.1.nu (k7.andNu hk8), HLEN.out, HOW.out, (HT3.out.2.2.trans (k7.andNu hk8) (fun _ _ h => h.elim))⟩
        clear OW hk8 hk5 hk6 KA6 k7 HT3 y1 y2
        go_wp2
        go_roundw
        case rel => exact ⟨k + 1, hz, by omega, by go_num, rfl, HE⟩
        case measure => simp [intOf]; omega
    · have hge : ¬ (k : Int) < (N : Int) := by omega
      have HF : Hid (Kp Nu w wr) := by
        obtain ⟨vt, L, F5, F6, F3, F7⟩ := hI.out
        exact Kp.of_below (F7.below _ (Nat.le_refl _) (fun _ h => h))
      clear hI
      go_wp2
      go_ret
      exact ⟨rfl, HF.out⟩
end Go.Proofs.Ytffcnonhhfhlhaa.Rg
