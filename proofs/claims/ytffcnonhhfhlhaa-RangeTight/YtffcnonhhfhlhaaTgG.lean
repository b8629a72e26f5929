import Derived.Test.YtffcnonhhfhlhaaTgF
namespace Go.Proofs.Ytffcnonhhfhlhaa.Rg
open Go.RowKit Go.Shelf Go.Sort Go.Maps
open Go.Proofs.Ytffcnonhhfhlhaa.It
set_option linter.unusedVariables false

theorem cod_stp (L : List Sg) (lim : Int) (s : Sp) (h : cod L lim s ≠ 0) : stp L lim s = L := by
  unfold cod at h
  unfold stp
  split at h
  · rw [if_neg (by omega)]
  · split at h
    · rw [if_neg (by omega)]
    · split at h
      · rw [if_neg (by omega)]
      · exact absurd rfl h

set_option maxRecDepth 100000 in
set_option maxHeartbeats 1000000 in
theorem refNew2 (w : World) (o lim : Int) :
    Calls Try.prog 22 #[.int .u8 o, .int .i64 lim] w fun e w' => ∃ (x : Int) (ad : Option Addr) (n c : Nat), e = .returned (.tuple #[.agg #[.int .i64 x, .slice ad n c], .int .i64 (if 1 ≤ lim ∧ lim ≤ 8192 then (if o < 16 then 0 else 2) else 63)]) ∧ Kp Nu w w' := by
  by_cases h1 : lim < 1
  · rw [if_neg (by omega)]
    go_enter Try.func22, Try.ntmps22
    go_wp2
    exact bodyPost_ret (v := .tuple #[.agg #[.int .i64 0, .slice none 0 0], .int .i64 63]) (by simp [results, Try.results22, go_sem]) rfl (by first | exact ⟨_, _, _, _, rfl, Kp.alloc w _ Nu⟩ | exact Kp.alloc w _ Nu | exact ⟨⟨_, _, _, _, rfl⟩, Kp.alloc w _ Nu⟩ | exact ⟨⟨_, _, rfl⟩, Kp.alloc w _ Nu⟩ | exact ⟨_, ⟨_, _, rfl⟩, Kp.alloc w _ Nu⟩ | exact ⟨_, _, ⟨_, rfl⟩, Kp.alloc w _ Nu⟩ | exact ⟨⟨_, rfl⟩, ⟨_, _, rfl⟩, Kp.alloc w _ Nu⟩)
  · have h1d : decide (lim < 1) = false := decide_eq_false h1
    by_cases h2 : lim > 8192
    · have h2d : decide (8192 < lim) = true := decide_eq_true h2
      rw [if_neg (by omega)]
      go_enter Try.func22, Try.ntmps22
      go_wp2
      exact bodyPost_ret (v := .tuple #[.agg #[.int .i64 0, .slice none 0 0], .int .i64 63]) (by simp [results, Try.results22, go_sem]) rfl (by first | exact ⟨_, _, _, _, rfl, Kp.alloc w _ Nu⟩ | exact Kp.alloc w _ Nu | exact ⟨⟨_, _, _, _, rfl⟩, Kp.alloc w _ Nu⟩ | exact ⟨⟨_, _, rfl⟩, Kp.alloc w _ Nu⟩ | exact ⟨_, ⟨_, _, rfl⟩, Kp.alloc w _ Nu⟩ | exact ⟨_, _, ⟨_, rfl⟩, Kp.alloc w _ Nu⟩ | exact ⟨⟨_, rfl⟩, ⟨_, _, rfl⟩, Kp.alloc w _ Nu⟩)
    · have h2d : decide (8192 < lim) = false := decide_eq_false h2
      rw [if_pos (by omega)]
      have RH := fun W => refHost_any o W
      by_cases ho : o ≤ 15
      · rw [decide_eq_true ho] at RH
        rw [if_pos (by omega)]
        go_enter Try.func22, Try.ntmps22
        go_wp2_with fail
        refine (RH _).mono ?_; rintro e w2 ⟨rfl, hw2⟩
        obtain rfl := hw2.symm
        clear RH hw2
        go_wp2
        exact bodyPost_ret (v := .tuple #[.agg #[.int .i64 lim, .slice (some ⟨w.heap.size + 1, 0, none⟩) 1 1], .int .i64 0]) (by simp [results, Try.results22, go_sem]) rfl (by first | exact ⟨_, _, _, _, rfl, (Kp.alloc w _ Nu).andAlloc _⟩ | exact ⟨⟨_, _, _, _, rfl⟩, (Kp.alloc w _ Nu).andAlloc _⟩)
      · rw [decide_eq_false ho] at RH
        rw [if_neg (by omega)]
        go_enter Try.func22, Try.ntmps22
        go_wp2_with fail
        refine (RH _).mono ?_; rintro e w2 ⟨rfl, hw2⟩
        obtain rfl := hw2.symm
        clear RH hw2
        go_wp2
        exact bodyPost_ret (v := .tuple #[.agg #[.int .i64 0, .slice none 0 0], .int .i64 2]) (by simp [results, Try.results22, go_sem]) rfl (by first | exact ⟨_, _, _, _, rfl, Kp.alloc w _ Nu⟩ | exact Kp.alloc w _ Nu | exact ⟨⟨_, _, _, _, rfl⟩, Kp.alloc w _ Nu⟩ | exact ⟨⟨_, _, rfl⟩, Kp.alloc w _ Nu⟩ | exact ⟨_, ⟨_, _, rfl⟩, Kp.alloc w _ Nu⟩ | exact ⟨_, _, ⟨_, rfl⟩, Kp.alloc w _ Nu⟩ | exact ⟨⟨_, rfl⟩, ⟨_, _, rfl⟩, Kp.alloc w _ Nu⟩)


set_option maxRecDepth 100000 in
set_option maxHeartbeats 4000000 in
theorem tight_walk (w : World) (o : Int) (o0 : 0 ≤ o) (lim : Int) (u : Value) (S : List Sp) (hS : Scr w u S) (hlS : (S.length : Int) ≤ 5864062014634) :
    Calls Try.prog 7 #[.int .u8 o, .int .i64 lim, u] w fun e w' => e = .returned (.bool true) ∧ Kp Nu w w' := by
  have mixed : Try.prog.follows .mixedOrders = true := by kernel_rfl
  obtain ⟨ad, cap, hu⟩ := hS.slice
  obtain ⟨N, hN⟩ : ∃ N, S.length = N := ⟨_, rfl⟩
  have HS := hide hS
  have HN := hide hN
  rw [hN] at hu hlS
  have RN := fun W => refNew2 W o lim
  by_cases hgood : (1 ≤ lim ∧ lim ≤ 8192) ∧ o < 16
  · rw [if_pos hgood.1, if_pos hgood.2] at RN
    have NW := new_ok w o o0 hgood.2 lim hgood.1.1 hgood.1.2
    subst hu
    clear hS hN
    go_enter Try.func7, Try.ntmps7
    go_wp2_with fail
    refine NW.mono ?_; rintro e w1 ⟨b, v, rfl, hT, hk1⟩
    have HT := hide (And.intro hT hk1)
    have hbw : b < w1.heap.size := blk_lt hT.blk
    have HB : Hid (w.heap.size ≤ b) := hT.low
    clear NW hT hk1
    go_wp2_with fail
    refine (RN w1).mono ?_; rintro e w2 ⟨xv, av, nv, cv, rfl, hk2⟩
    have KA := hk2.andAlloc (.cells #[.int .i64 xv, .slice av nv cv] 57)
    have HT2 := hide (And.intro (HT.out.1.nu KA) (HT.out.2.andNu KA))
    have LI := list_any HT2.out.1
    have hsz2 : w1.heap.size ≤ w2.heap.size := hk2.size
    clear RN hk2 KA HT
    go_wp2_with fail
    refine (num_any 0 _).mono ?_; rintro e wx ⟨rfl, hwx⟩
    obtain rfl := hwx.symm
    clear hwx
    go_wp2_with fail
    refine LI.mono ?_; rintro e w4 ⟨ul, rfl, hul, hk4⟩
    obtain ⟨adl, cpl, hue⟩ := own_slice hul
    have hl1 : ([⟨0, 18446744073709551615, o⟩] : List Sg).length = 1 := rfl
    rw [hl1] at hue
    have H4 : Hid (Tb w.heap.size w4 b lim v [⟨0, 18446744073709551615, o⟩] ∧ w4.ownsRow (w2.heap.size + 1) 40 3 ul ([⟨0, 18446744073709551615, o⟩] : List Sg).length (cells [⟨0, 18446744073709551615, o⟩]) ∧ Kp Nu w w4) := by
      refine ⟨HT2.out.1.nu hk4, ?_, HT2.out.2.andNu hk4⟩
      rw [World.size_alloc] at hul
      exact hul
    have hg1 : ((1 : Int) != 1) = false := by decide
    subst hue
    clear LI hul hk4 hl1
    go_wp2_with fail
    go_loopw [11, 12] (fun l i wr => ∃ (k n : Nat) (adl : Option Addr) (cpl : Nat), l = .slice adl n cpl ∧ i = .int .i64 (k : Int) ∧ k ≤ N ∧ Hid (∃ (v : Value) (L : List Sg) (B0 : Nat), L.length = n ∧ Tb w.heap.size wr b lim v L ∧ b < B0 ∧ wr.ownsRow B0 40 3 (.slice adl n cpl) L.length (cells L) ∧ Kp (fun g => w.heap.size ≤ g) w wr)) (fun _ i _ => N - (intOf i).toNat)
    case atStart => exact ⟨0, 1, adl, cpl, rfl, rfl, Nat.zero_le _, ⟨v, _, w2.heap.size + 1, rfl, H4.out.1, by omega, H4.out.2.1, H4.out.2.2.mono (fun _ _ h => h.elim)⟩⟩
    case round =>
      obtain ⟨k, n, adl, cpl, rfl, rfl, hk, hI⟩ := hrel
      by_cases hlt : k < N
      · obtain ⟨vt, L, B0, hLn, F5, hB0, Frow, F7⟩ := hI.out
        have hkS : k < S.length := by rw [HN.out]; exact hlt
        obtain ⟨s, hs⟩ : ∃ s, S[k]? = some s := ⟨_, List.getElem?_eq_getElem hkS⟩
        have hcell : ∃ bs off cp, (.slice ad N cap : Value) = .slice (some ⟨bs, off, none⟩) N cp ∧ SpAt wr bs (off + k * 4) s := by
          rcases HS.out with ⟨_, h0⟩ | ⟨bs, off, cp, h0, h3⟩
          · rw [h0] at hs; simp at hs
          · rw [HN.out] at h0
            exact ⟨bs, off, cp, h0, (h3 k s hs).keep (w' := wr) (B := 0) (b := 0) F7⟩
        obtain ⟨bs, off, cp, hq, hsp⟩ := hcell
        simp only [Value.slice.injEq] at hq
        obtain ⟨rfl, hq1⟩ := hq
        clear hq1
        obtain ⟨c0, c1, c2, c3, F1⟩ := hsp
        have hltI : (k : Int) < (N : Int) := by omega
        have hk0 : (0 : Int) ≤ (k : Int) := by omega
        have hb2 : b < wr.heap.size := blk_lt F5.blk
        have KA := Kp.alloc wr (.cells #[.int .i64 s.kind, .int .u64 s.lo, .int .u64 s.hi, .int .u8 s.h] 31) Nu
        have AS := assign_any (F5.nu KA) s F1 (by have := F7.size; simp; omega)
        have HC := hide (cod_stp L lim s)
        obtain ⟨CD, hCD⟩ : ∃ c, cod L lim s = c := ⟨_, rfl⟩
        obtain ⟨L', hL'⟩ : ∃ M, stp L lim s = M := ⟨_, rfl⟩
        rw [hCD, hL'] at AS HC
        have HG := hide (And.intro hLn (And.intro F5 (And.intro hB0 (And.intro Frow (And.intro F7 KA)))))
        have hLl : L.length ≤ 8192 := by have := F5.len; have := F5.lim1; omega
        clear hI hs hkS F5 Frow F7 KA hLn hB0 F1 hCD hL'
        go_wp2_with fail
        refine AS.mono ?_; rintro e w5 ⟨rfl, v5, hT5, hk5⟩
        have hsz5 : wr.heap.size < w5.heap.size := by have := hk5.size; simp at this; omega
        have LI5 := list_any hT5
        have HT5 := hide (And.intro hT5 hk5)
        clear AS hT5 hk5
        go_wp2_with fail
        refine LI5.mono ?_; rintro e w6 ⟨u6, rfl, hu6, hk6⟩
        obtain ⟨ad6, cp6, hue6⟩ := own_slice hu6
        have hT6 := HT5.out.1.nu hk6
        have LE := len_any hT6
        have hpos6 : 0 < L'.length := hT6.tab.ne
        have hl6 : (L'.length : Int) ≤ lim := hT6.len
        have hl6' : L'.length ≤ 8192 := by have := hT6.lim1; omega
        have TI := tight_true w6 u6 L' (rs_of_own hu6 hpos6) hT6.tab hl6'
        have HT6 := hide (And.intro hT6 (And.intro hu6 hk6))
        obtain ⟨N6, hN6⟩ : ∃ N, L'.length = N := ⟨_, rfl⟩
        have HN6 := hide hN6
        have SU := fun W (kk : Kp Nu w6 W) => summed_true (hT6.nu kk)
        rw [hN6] at hue6 LE hl6
        simp only [hN6] at SU
        subst hue6
        clear LI5 hT6 hu6 hk6 hN6 hpos6
        go_wp2_with fail
        refine LE.mono ?_; rintro e wx ⟨rfl, hwx⟩
        obtain rfl := hwx.symm
        clear LE hwx
        go_wp2_with fail
        refine TI.mono ?_; rintro e w7 ⟨rfl, hk7⟩
        have SU7 := SU w7 hk7
        have HK7 := hide hk7
        clear TI hk7 SU
        go_wp2_with fail
        refine SU7.mono ?_; rintro e w8 ⟨rfl, hk8⟩
        have HK8 := hide (HK7.out.andNu hk8)
        clear SU7 hk8 HK7
        have g1 : ((N6 : Int) != (N6 : Int)) = false := by simp
        have g2 : decide (lim < (N6 : Int)) = false := decide_eq_false (by omega)
        have HR8 : Hid (w8.ownsRow B0 40 3 (.slice adl n cpl) L.length (cells L) ∧ w8.ownsRow w5.heap.size 40 3 (.slice ad6 N6 cp6) L'.length (cells L')) := by
          obtain ⟨hLn, F5, hB0, Frow, F7, KA⟩ := HG.out
          have r1 := own_keep Frow (fun g e => KA.block g (own_lt Frow e) (fun h => h))
          have r5 := own_oth r1 HT5.out.2 hB0
          have kk := HT6.out.2.2.andNu HK8.out
          refine ⟨own_keep r5 (fun g e => kk.block g (own_lt r5 e) (fun h => h)), ?_⟩
          have r6 := HT6.out.2.1
          exact own_keep r6 (fun g e => HK8.out.block g (own_lt r6 e) (fun h => h))
        have SA := same_any w8 (.slice adl n cpl) (.slice ad6 N6 cp6) L L' (rs_of_own HR8.out.1 HG.out.2.1.tab.ne) (rs_of_own HR8.out.2 HT6.out.1.tab.ne) hLl
        go_wp2_with fail
        refine SA.mono ?_; rintro e w9 ⟨sb, rfl, hsb, hk9⟩
        have HE : Hid (∃ (v : Value) (L : List Sg) (B0 : Nat), L.length = N6 ∧ Tb w.heap.size w9 b lim v L ∧ b < B0 ∧ w9.ownsRow B0 40 3 (.slice ad6 N6 cp6) L.length (cells L) ∧ Kp (fun g => w.heap.size ≤ g) w w9) := by
          have kk := HK8.out.andNu hk9
          have r8 := HR8.out.2
          refine ⟨v5, L', w5.heap.size, HN6.out, HT6.out.1.nu kk, by omega, own_keep r8 (fun g e => hk9.block g (own_lt r8 e) (fun h => h)), ?_⟩
          have k1 := HG.out.2.2.2.2.1.trans HG.out.2.2.2.2.2 (fun _ _ h => h.elim)
          have k2 := k1.trans HT5.out.2 (fun i hi e => by have e2 : i = b := e; have := HB.out; omega)
          exact k2.trans (HT6.out.2.2.andNu kk) (fun _ _ h => h.elim)
        by_cases hcd : CD = 0
        · subst hcd
          clear SA hsb hk9
          go_wp2_with fail
          refine (num_any 0 _).mono ?_; rintro e wx ⟨rfl, hwx⟩
          obtain rfl := hwx.symm
          clear hwx
          go_wp2
          go_roundw
          case rel => exact ⟨k + 1, N6, ad6, cp6, rfl, by go_num, by omega, HE⟩
          case measure => simp [intOf]; omega
        · have hsb1 : sb = true := hsb.2 (HC.out hcd).symm
          subst hsb1
          have hcn : (CD != 0) = true := by simpa using hcd
          clear SA hsb hk9
          go_wp2_with fail
          refine (num_any CD _).mono ?_; rintro e wx ⟨rfl, hwx⟩
          obtain rfl := hwx.symm
          clear hwx
          go_wp2
          go_roundw
          case rel => exact ⟨k + 1, N6, ad6, cp6, rfl, by go_num, by omega, HE⟩
          case measure => simp [intOf]; omega
      · have hge : ¬ (k : Int) < (N : Int) := by omega
        obtain ⟨vt, L, B0, hLn, F5, hB0, Frow, F7⟩ := hI.out
        have HF : Hid (Kp Nu w wr) := ⟨F7.os, F7.tape, F7.output, F7.size, fun j hj _ => F7.block j hj (fun h => by have h2 : w.heap.size ≤ j := h; omega)⟩
        clear hI hLn F5 hB0 Frow F7
        go_wp2
        go_ret
        exact ⟨rfl, HF.out⟩
  · have NB := new_bad w o lim (by
      by_cases h : 1 ≤ lim ∧ lim ≤ 8192
      · exact .inr (fun h2 => hgood ⟨h, h2⟩)
      · exact .inl h)
    have hc : (if 1 ≤ lim ∧ lim ≤ 8192 then (if o < 16 then (0 : Int) else 2) else 63) = (if 1 ≤ lim ∧ lim ≤ 8192 then 2 else 63) := by
      by_cases h : 1 ≤ lim ∧ lim ≤ 8192
      · rw [if_pos h, if_pos h, if_neg (fun h2 => hgood ⟨h, h2⟩)]
      · rw [if_neg h, if_neg h]
    rw [hc] at RN
    have hc0 : (if 1 ≤ lim ∧ lim ≤ 8192 then (2 : Int) else 63) ≠ 0 := by split <;> omega
    generalize (if 1 ≤ lim ∧ lim ≤ 8192 then (2 : Int) else 63) = c at *
    have hcc : (c != c) = false := by simp
    have hc1 : (c != 0) = true := by simpa using hc0
    subst hu
    clear hS hN hc hc0 hgood
    go_enter Try.func7, Try.ntmps7
    go_wp2_with fail
    refine NB.mono ?_; rintro e w1 ⟨rfl, hk1⟩
    clear NB
    go_wp2_with fail
    refine (RN w1).mono ?_; rintro e w2 ⟨xv, av, nv, cv, rfl, hk2⟩
    have KA := hk1.andNu (hk2.andAlloc (.cells #[.int .i64 xv, .slice av nv cv] 57))
    have HK := hide KA
    clear RN hk1 hk2 KA
    go_wp2_with fail
    refine (num_any c _).mono ?_; rintro e w3 ⟨rfl, hw3⟩
    obtain rfl := hw3.symm
    clear hw3
    go_wp2
    go_ret
    exact ⟨rfl, HK.out⟩
end Go.Proofs.Ytffcnonhhfhlhaa.Rg
