import Derived.Test.YtffcnonhhfhlhaaRgX
namespace Go.Proofs.Ytffcnonhhfhlhaa.Rg
open Go.RowKit Go.Shelf Go.Sort
open Go.Proofs.Ytffcnonhhfhlhaa.It
set_option linter.unusedVariables false

theorem Sgs.rs {w : World} {u : Value} {M : List Sg} (h : Sgs w u M) (hM : 0 < M.length) : Rs w u M := by
  rcases h with ⟨_, rfl⟩ | ⟨b, off, cap, e, hc⟩
  · simp at hM
  · exact ⟨b, off, cap, e, fun i s hs => ⟨(hc i s hs).c0, (hc i s hs).c1, (hc i s hs).c2⟩⟩
theorem Sgs.nu {w w' : World} {u : Value} {M : List Sg} (h : Sgs w u M) (k : Kp Nu w w') : Sgs w' u M := by
  rcases h with h | ⟨b, off, cap, e, hc⟩
  · exact .inl h
  · exact .inr ⟨b, off, cap, e, fun i s hs => ⟨cell_nu (hc i s hs).c0 k, cell_nu (hc i s hs).c1 k, cell_nu (hc i s hs).c2 k, (hc i s hs).fit⟩⟩
/-- a row of segments stands while tables are given other lists -/
theorem Rs.tab {w w' : World} {u : Value} {M : List Sg} {B b : Nat} {lim : Int} {v : Value} {L : List Sg} (h : Rs w u M) {B0 : Nat} (ho : w.ownsRow B0 40 3 u M.length (cells M)) (ht : Tb B w b lim v L) (k : Kp (fun k => k = b) w w') (hM : 0 < M.length) : Rs w' u M ∧ w'.ownsRow B0 40 3 u M.length (cells M) := by
  have ho2 : w'.ownsRow B0 40 3 u M.length (cells M) := own_keep ho (fun g e => k.block g (own_lt ho e) (fun e2 => by
    have e3 : g = b := e2
    subst e3
    obtain ⟨_, c, e4⟩ := own_type ho e
    rw [ht.blk] at e4; cases e4))
  exact ⟨rs_of_own ho2 hM, ho2⟩

set_option maxRecDepth 100000 in
set_option maxHeartbeats 4000000 in
theorem back_walk (w : World) (u : Value) (M : List Sg) (hM : Sgs w u M) (hlM : (M.length : Int) ≤ 5864062014634) (s : Sp) (f : 0 ≤ s.lo ∧ s.lo < 18446744073709551616 ∧ 0 ≤ s.hi ∧ s.hi < 18446744073709551616 ∧ 0 ≤ s.h ∧ s.h < 256) :
    Calls Try.prog 5 #[u, .agg #[.int .i64 s.kind, .int .u64 s.lo, .int .u64 s.hi, .int .u8 s.h]] w fun e w' => e = .returned (.bool true) ∧ Kp Nu w w' := by
  obtain ⟨ad, cap, hu⟩ := hM.slice
  have KA := Kp.alloc w (.cells #[.int .i64 s.kind, .int .u64 s.lo, .int .u64 s.hi, .int .u8 s.h] 31) Nu
  have hbx := heap_alloc_new w (.cells #[.int .i64 s.kind, .int .u64 s.lo, .int .u64 s.hi, .int .u8 s.h] 31)
  have GO := good_any (w.alloc (.cells #[.int .i64 s.kind, .int .u64 s.lo, .int .u64 s.hi, .int .u8 s.h] 31)) s
  have FA := fun W (k : Kp Nu w W) => fault_ref W u M (hM.nu k) hlM
  obtain ⟨N, hN⟩ : ∃ N, M.length = N := ⟨_, rfl⟩
  have HM := hide hM
  have HN := hide hN
  rw [hN] at hu hlM
  have HBX := hide hbx
  have HKA := hide KA
  subst hu
  clear hM hN hbx KA
  by_cases hg0 : s.lo ≤ s.hi ∧ s.h < 16
  · rw [decide_eq_true hg0] at GO
    go_enter Try.func5, Try.ntmps5
    go_wp2_with fail
    refine GO.mono ?_; rintro e w1 ⟨rfl, hk1⟩
    have FA1 := FA w1 (HKA.out.andNu hk1)
    have HK1 := hide hk1
    clear GO FA hk1
    go_wp2_with fail
    refine FA1.mono ?_; rintro e w2 ⟨p, c, rfl, hc, hk2⟩
    have hkw := HKA.out.andNu (HK1.out.andNu hk2)
    have HK2 := hide (And.intro hkw (HK1.out.andNu hk2))
    clear FA1 hk2 hkw
    by_cases hc0 : c = 0
    · have HG := hide (hc hc0)
      subst hc0
      clear hc
      by_cases h8 : (N : Int) > 8190
      · have h8d : decide (8190 < (N : Int)) = true := decide_eq_true h8
        go_wp2
        go_ret
        exact ⟨rfl, HK2.out.1⟩
      · have h8d : decide (8190 < (N : Int)) = false := decide_eq_false h8
        obtain ⟨hGood, hpos⟩ := HG.out
        have hRs : Rs w2 (.slice ad N cap) M := (HM.out.nu HK2.out.1).rs hpos
        have hll := lays_le M []
        have LO := Load_good w2 (.slice ad N cap) M hRs hGood (by have := HN.out; omega) ((N : Int) + 2) (by omega) (by omega) (by have := HN.out; simp at hll; omega)
        have hw1 : IntKind.i64.wrap ((N : Int) + 2) = (N : Int) + 2 := by rw [IntKind.wrap_i64]; omega
        have HTAB := hide hGood.tab
        have HLL : Hid (((lays [] M).length : Int) ≤ (N : Int)) := by
          show _ ≤ _
          have := HN.out
          simp at hll
          omega
        obtain ⟨L, hL⟩ : ∃ L, lays [] M = L := ⟨_, rfl⟩
        rw [hL] at LO HTAB HLL
        clear hGood hpos hRs hll hL HG
        go_wp2_with fail
        refine LO.mono ?_; rintro e w3 ⟨b, v, rfl, hT3, hk3⟩
        obtain ⟨lim, hlim⟩ : ∃ lim, (N : Int) + 2 = lim := ⟨_, rfl⟩
        rw [hlim] at hT3
        have HB : Hid (w.heap.size < b) := by
          have h1 := hT3.low
          have h2 := HK2.out.2.size
          rw [World.size_alloc] at h2
          show _ < _
          omega
        have LI := list_any hT3
        have HT3 := hide (And.intro hT3 hk3)
        clear LO hT3 hk3
        go_wp2_with fail
        refine (num_any 0 _).mono ?_; rintro e w4 ⟨rfl, hw4⟩
        obtain rfl := hw4.symm
        clear hw4
        go_wp2_with fail
        refine LI.mono ?_; rintro e w5 ⟨ul, rfl, hul, hk5⟩
        obtain ⟨adl, cpl, hue⟩ := own_slice hul
        obtain ⟨NL, hNL⟩ : ∃ NL, L.length = NL := ⟨_, rfl⟩
        have x5 : w5.heap[w.heap.size]? = some (.cells #[.int .i64 s.kind, .int .u64 s.lo, .int .u64 s.hi, .int .u8 s.h] 31 (0, 0)) := (((HK2.out.2.andNu HT3.out.2).andNu hk5).block _ (blk_lt HBX.out) (fun h => h)).trans HBX.out
        have T5 := HT3.out.1.nu hk5
        have hpos : 0 < L.length := HTAB.out.ne
        have cr := cost_range HTAB.out s.h f.1 hg0.1 f.2.2.2.1
        have hsz5 := hk5.size
        have AS := assign_ok T5 s.lo s.hi s.h f.1 hg0.1 f.2.2.2.1 f.2.2.2.2.1 hg0.2 (by have := HLL.out; omega) (by have := HT3.out.2.size; omega)
        obtain ⟨d0, d1, d2, d3⟩ := cell4 x5
        have HU := hide (And.intro hul (And.intro x5 (And.intro T5 (And.intro hk5 (rs_of_own hul hpos)))))
        rw [hNL] at hue
        have HNL := hide hNL
        have HUE := hide hue
        subst hue
        clear LI hul hk5 x5 T5 hpos cr hsz5 hNL
        go_wp2_with fail
        refine AS.mono ?_; rintro e w6 ⟨rfl, v6, hT6, hk6⟩
        have x6 : w6.heap[w.heap.size]? = some (.cells #[.int .i64 s.kind, .int .u64 s.lo, .int .u64 s.hi, .int .u8 s.h] 31 (0, 0)) := (hk6.block _ (blk_lt HU.out.2.1) (fun e => by have e2 : w.heap.size = b := e; have := HB.out; omega)).trans HU.out.2.1
        obtain ⟨d0, d1, d2, d3⟩ := cell4 x6
        obtain ⟨a1, a2, a3⟩ := asg_facts HTAB.out f.1 hg0.1 f.2.2.2.1 f.2.2.2.2.1 hg0.2
        have OW := owns_any hT6 s.lo s.hi s.h f.1 hg0.1 f.2.2.2.1
        rw [owns_asg hT6.tab f.1 hg0.1 f.2.2.2.1 (fun k h1 h2 => by rw [a2 k (by have := f.1; omega) (by have := f.2.2.2.1; omega), if_pos ⟨h1, h2⟩])] at OW
        have H6 := hide (And.intro hT6 (And.intro hk6 x6))
        clear AS hT6 hk6 x6 a1 a2 a3
        go_wp2_with fail
        refine OW.mono ?_; rintro e w7 ⟨rfl, hk7⟩
        have H7 : Hid (∃ v Lc, Tb w2.heap.size w7 b lim v Lc ∧ Bk L s.hi s.h (crv s.lo s.hi 0) Lc ∧ Kp (fun k => k = b) w5 w7) := ⟨v6, _, H6.out.1.nu hk7, Bk.start HTAB.out f.1 hg0.1 f.2.2.2.1 f.2.2.2.2.1 hg0.2, H6.out.2.1.andNu hk7⟩
        clear OW hk7 d0 d1 d2 d3
        go_wp2_with fail
        refine (num_any 0 _).mono ?_; rintro e w8 ⟨rfl, hw8⟩
        obtain rfl := hw8.symm
        clear hw8 H6
        go_wp2_with fail
        go_loopw [13] (fun i wr => ∃ k : Nat, i = .int .i64 (k : Int) ∧ k ≤ NL ∧ Hid (∃ v Lc a, Tb w2.heap.size wr b lim v Lc ∧ Bk L s.hi s.h (crv s.lo s.hi a) Lc ∧ Cov 0 (L.take k) a ∧ Kp (fun k => k = b) w5 wr)) (fun i _ => NL - (intOf i).toNat)
        case atStart =>
          obtain ⟨v7, L7, h71, h72, h73⟩ := H7.out
          exact ⟨0, rfl, Nat.zero_le _, ⟨v7, L7, 0, h71, h72, rfl, h73⟩⟩
        case round =>
          obtain ⟨k, rfl, hk, hI⟩ := hrel
          obtain ⟨v7, Lc, a, h71, h72, h73, h74⟩ := hI.out
          have HRS := (HU.out.2.2.2.2).tab HU.out.1 HU.out.2.2.1 h74 HTAB.out.ne
          by_cases hlt : k < NL
          · have hkL : k < L.length := by rw [HNL.out]; exact hlt
            obtain ⟨t, ht⟩ : ∃ t, L[k]? = some t := ⟨_, List.getElem?_eq_getElem hkL⟩
            obtain ⟨rr, oo, cc, eu, hc⟩ := HRS.1
            obtain ⟨c0, c1, c2⟩ := hc k t ht
            rw [HNL.out] at eu
            simp only [Value.slice.injEq] at eu
            obtain ⟨rfl, hq1⟩ := eu
            clear hq1
            have hltI : (k : Int) < (NL : Int) := by omega
            have hk0 : (0 : Int) ≤ (k : Int) := by omega
            have hN8 : (NL : Int) ≤ 8190 := by have := HLL.out; have := HNL.out; omega
            have xr : wr.heap[w.heap.size]? = some (.cells #[.int .i64 s.kind, .int .u64 s.lo, .int .u64 s.hi, .int .u8 s.h] 31 (0, 0)) := (h74.block _ (blk_lt HU.out.2.1) (fun e => by have e2 : w.heap.size = b := e; have := HB.out; omega)).trans HU.out.2.1
            obtain ⟨d0, d1, d2, d3⟩ := cell4 xr
            obtain ⟨t1, t2, t3⟩ := cov_take HTAB.out.cov ht
            have ea : a = t.lo := by
              have key : ∀ {A : List Sg} {x y z : Int}, Cov x A y → Cov x A z → y = z := by
                intro A
                induction A with
                | nil => intro x y z h1 h2; have e1 : x = y := h1; have e2 : x = z := h2; omega
                | cons q A ih => intro x y z h1 h2; exact ih h1.2.2 h2.2.2
              exact key h73 t1
            subst ea
            have hth := HTAB.out.hs t (List.mem_of_getElem? ht)
            have hcv : Cov 0 (L.take (k + 1)) (t.hi + 1) := by
              rw [List.take_add_one, ht]
              exact cov_snoc t1 rfl t2
            have hlo0 := (cov_mem HTAB.out.cov t (List.mem_of_getElem? ht)).1
            obtain ⟨PL, hPL⟩ : ∃ PL, max t.lo s.lo = PL := ⟨_, rfl⟩
            obtain ⟨PH, hPH⟩ : ∃ PH, min t.hi s.hi = PH := ⟨_, rfl⟩
            have HCV := hide (And.intro hcv h74)
            by_cases hp : PL ≤ PH
            · obtain ⟨s1, s2⟩ := Bk.step HTAB.out f.1 f.2.2.2.1 f.2.2.2.2.1 hg0.2 ht h72 (by rw [hPL, hPH]; exact hp)
              rw [hPL, hPH] at s1 s2
              have AS2 := assign_ok h71 PL PH t.h (by omega) hp (by have := f.2.2.2.1; omega) hth.1 hth.2 (by have := HLL.out; omega) (by have h5 := h74.size; have h6 := HU.out.2.2.2.1.size; have h7 := HT3.out.2.size; omega)
              have hpd : decide (PL ≤ PH) = true := decide_eq_true hp
              have HS1 := hide s1
              clear hI h71 h72 h73 h74 HRS hkL ht hc t1 t2 t3 hcv s1 s2 xr
              by_cases hl1 : t.lo < s.lo
              · have ePL : PL = s.lo := by omega
                subst ePL
                by_cases hh1 : t.hi > s.hi
                · have ePH : PH = s.hi := by omega
                  subst ePH
                  clear hPL hPH
                  go_wp2_with fail
                  refine AS2.mono ?_; rintro e w9 ⟨rfl, v9, hT9, hk9⟩
                  have HE : Hid (∃ v Lc a, Tb w2.heap.size w9 b lim v Lc ∧ Bk L s.hi s.h (crv s.lo s.hi a) Lc ∧ Cov 0 (L.take (k + 1)) a ∧ Kp (fun k => k = b) w5 w9) := ⟨v9, _, _, hT9, HS1.out, HCV.out.1, HCV.out.2.trans hk9 (fun _ _ h => h)⟩
                  clear AS2 hT9 hk9
                  go_wp2_with fail
                  refine (num_any 0 _).mono ?_; rintro e w10 ⟨rfl, hw10⟩
                  obtain rfl := hw10.symm
                  clear hw10
                  go_wp2
                  go_roundw
                  case rel => exact ⟨k + 1, by go_num, by omega, HE⟩
                  case measure => simp [intOf]; omega
                · have ePH : PH = t.hi := by omega
                  subst ePH
                  clear hPL hPH
                  go_wp2_with fail
                  refine AS2.mono ?_; rintro e w9 ⟨rfl, v9, hT9, hk9⟩
                  have HE : Hid (∃ v Lc a, Tb w2.heap.size w9 b lim v Lc ∧ Bk L s.hi s.h (crv s.lo s.hi a) Lc ∧ Cov 0 (L.take (k + 1)) a ∧ Kp (fun k => k = b) w5 w9) := ⟨v9, _, _, hT9, HS1.out, HCV.out.1, HCV.out.2.trans hk9 (fun _ _ h => h)⟩
                  clear AS2 hT9 hk9
                  go_wp2_with fail
                  refine (num_any 0 _).mono ?_; rintro e w10 ⟨rfl, hw10⟩
                  obtain rfl := hw10.symm
                  clear hw10
                  go_wp2
                  go_roundw
                  case rel => exact ⟨k + 1, by go_num, by omega, HE⟩
                  case measure => simp [intOf]; omega
              · have ePL : PL = t.lo := by omega
                subst ePL
                by_cases hh1 : t.hi > s.hi
                · have ePH : PH = s.hi := by omega
                  subst ePH
                  clear hPL hPH
                  go_wp2_with fail
                  refine AS2.mono ?_; rintro e w9 ⟨rfl, v9, hT9, hk9⟩
                  have HE : Hid (∃ v Lc a, Tb w2.heap.size w9 b lim v Lc ∧ Bk L s.hi s.h (crv s.lo s.hi a) Lc ∧ Cov 0 (L.take (k + 1)) a ∧ Kp (fun k => k = b) w5 w9) := ⟨v9, _, _, hT9, HS1.out, HCV.out.1, HCV.out.2.trans hk9 (fun _ _ h => h)⟩
                  clear AS2 hT9 hk9
                  go_wp2_with fail
                  refine (num_any 0 _).mono ?_; rintro e w10 ⟨rfl, hw10⟩
                  obtain rfl := hw10.symm
                  clear hw10
                  go_wp2
                  go_roundw
                  case rel => exact ⟨k + 1, by go_num, by omega, HE⟩
                  case measure => simp [intOf]; omega
                · have ePH : PH = t.hi := by omega
                  subst ePH
                  clear hPL hPH
                  go_wp2_with fail
                  refine AS2.mono ?_; rintro e w9 ⟨rfl, v9, hT9, hk9⟩
                  have HE : Hid (∃ v Lc a, Tb w2.heap.size w9 b lim v Lc ∧ Bk L s.hi s.h (crv s.lo s.hi a) Lc ∧ Cov 0 (L.take (k + 1)) a ∧ Kp (fun k => k = b) w5 w9) := ⟨v9, _, _, hT9, HS1.out, HCV.out.1, HCV.out.2.trans hk9 (fun _ _ h => h)⟩
                  clear AS2 hT9 hk9
                  go_wp2_with fail
                  refine (num_any 0 _).mono ?_; rintro e w10 ⟨rfl, hw10⟩
                  obtain rfl := hw10.symm
                  clear hw10
                  go_wp2
                  go_roundw
                  case rel => exact ⟨k + 1, by go_num, by omega, HE⟩
                  case measure => simp [intOf]; omega
            · have s1 := Bk.skip hg0.1 t2 h72 (by rw [hPL, hPH]; exact hp)
              have HE : Hid (∃ v Lc a, Tb w2.heap.size wr b lim v Lc ∧ Bk L s.hi s.h (crv s.lo s.hi a) Lc ∧ Cov 0 (L.take (k + 1)) a ∧ Kp (fun k => k = b) w5 wr) := ⟨v7, _, _, h71, s1, HCV.out.1, HCV.out.2⟩
              have hpd : decide (PL ≤ PH) = false := decide_eq_false hp
              clear hI h71 h72 h73 h74 HRS hkL ht hc t1 t3 hcv s1 xr
              by_cases hl1 : t.lo < s.lo
              · have ePL : PL = s.lo := by omega
                subst ePL
                by_cases hh1 : t.hi > s.hi
                · exfalso
                  omega
                · have ePH : PH = t.hi := by omega
                  subst ePH
                  clear hPL hPH
                  go_wp2
                  go_roundw
                  case rel => exact ⟨k + 1, by go_num, by omega, HE⟩
                  case measure => simp [intOf]; omega
              · have ePL : PL = t.lo := by omega
                subst ePL
                by_cases hh1 : t.hi > s.hi
                · have ePH : PH = s.hi := by omega
                  subst ePH
                  clear hPL hPH
                  go_wp2
                  go_roundw
                  case rel => exact ⟨k + 1, by go_num, by omega, HE⟩
                  case measure => simp [intOf]; omega
                · exfalso
                  omega
          · have hge : ¬ (k : Int) < (NL : Int) := by omega
            rw [List.take_of_length_le (by rw [HNL.out]; omega)] at h73
            have ea : a = 18446744073709551616 := by
              have key : ∀ {A : List Sg} {x y z : Int}, Cov x A y → Cov x A z → y = z := by
                intro A
                induction A with
                | nil => intro x y z h1 h2; have e1 : x = y := h1; have e2 : x = z := h2; omega
                | cons q A ih => intro x y z h1 h2; exact ih h1.2.2 h2.2.2
              exact key h73 HTAB.out.cov
            subst ea
            have hdone := h72.done HTAB.out (by unfold crv; have := f.2.2.2.1; omega)
            subst hdone
            have LI2 := list_any h71
            have SA := fun W u2 (h : W.ownsRow wr.heap.size 40 3 u2 Lc.length (cells Lc)) (kk : Kp Nu wr W) => same_true W u2 (.slice adl NL cpl) Lc (rs_of_own h HTAB.out.ne) (HRS.1.nu kk) (by have := HLL.out; omega)
            have HF : Hid (Kp Nu w wr) := by
              have h1 := (HK2.out.1.andNu HT3.out.2).andNu HU.out.2.2.2.1
              exact Kp.of_below (h1.toBelow.trans (h74.below w.heap.size h1.size (fun j e => by have e2 : j = b := e; have := HB.out; omega)))
            clear hI h71 h72 h73 h74 HRS
            go_wp2_with fail
            refine LI2.mono ?_; rintro e w9 ⟨u9, rfl, h9, hk9⟩
            obtain ⟨ad9, cp9, hu9⟩ := own_slice h9
            have SA1 := SA w9 u9 h9 hk9
            rw [HNL.out] at hu9
            have HF2 := hide (HF.out.andNu hk9)
            subst hu9
            clear LI2 SA h9 hk9
            go_wp2_with fail
            refine SA1.mono ?_; rintro e w10 ⟨rfl, hk10⟩
            clear SA1
            go_wp2
            go_ret
            exact ⟨rfl, HF2.out.andNu hk10⟩
    · have hcn : (c != 0) = true := by simpa using hc0
      go_wp2
      go_ret
      exact ⟨rfl, HK2.out.1⟩
  · rw [decide_eq_false hg0] at GO
    go_enter Try.func5, Try.ntmps5
    go_wp2_with fail
    refine GO.mono ?_; rintro e w1 ⟨rfl, hk1⟩
    have FA1 := FA w1 (HKA.out.andNu hk1)
    have HK1 := hide (HKA.out.andNu hk1)
    clear GO FA hk1
    go_wp2_with fail
    refine FA1.mono ?_; rintro e w2 ⟨p, c, rfl, hc, hk2⟩
    have HK2 := hide (HK1.out.andNu hk2)
    clear FA1 hk2 hc
    go_wp2
    go_ret
    exact ⟨rfl, HK2.out⟩
end Go.Proofs.Ytffcnonhhfhlhaa.Rg
