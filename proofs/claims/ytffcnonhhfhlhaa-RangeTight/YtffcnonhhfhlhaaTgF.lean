import Derived.Test.YtffcnonhhfhlhaaTgE
namespace Go.Proofs.Ytffcnonhhfhlhaa.Rg
open Go.RowKit Go.Shelf Go.Sort Go.Maps
open Go.Proofs.Ytffcnonhhfhlhaa.It
set_option linter.unusedVariables false

set_option maxRecDepth 100000 in
set_option maxHeartbeats 4000000 in
theorem summed_true {B b : Nat} {w : World} {lim : Int} {v : Value} {A : List Sg} (h : Tb B w b lim v A) :
    Calls Try.prog 24 #[.pointer (some ⟨b, 0, none⟩), .int .i64 (A.length : Int)] w fun e w' => e = .returned (.bool true) ∧ Kp Nu w w' := by
  have mixed : Try.prog.follows .mixedOrders = true := by kernel_rfl
  have SH := shares_any h
  have hlA : (A.length : Int) ≤ 8192 := by have := h.len; have := h.lim1; omega
  have HT := hide h
  have HTab := hide h.tab
  obtain ⟨NA, hNA⟩ : ∃ N, A.length = N := ⟨_, rfl⟩
  have HNA := hide hNA
  rw [hNA] at hlA ⊢
  clear h hNA
  go_enter Try.func24, Try.ntmps24
  go_wp2_with fail
  refine SH.mono ?_; rintro e w1 ⟨u, ss, rfl, hrow, hkhd, hk1⟩
  have HHs := hide hkhd.hs
  have hl0 : (srt ss).length = ss.length := srt_len ss
  rw [← hl0] at hrow
  obtain ⟨hs, hhs⟩ : ∃ hs, srt ss = hs := ⟨_, rfl⟩
  rw [hhs] at hrow HHs
  clear SH hkhd hhs hl0
  obtain ⟨adu, cpu, hu⟩ := own_slice hrow
  obtain ⟨N, hN⟩ : ∃ N, hs.length = N := ⟨_, rfl⟩
  have HN := hide hN
  have HR := hide (And.intro hrow hk1)
  have hpos : 0 < hs.length := by
    obtain ⟨s0, hs0⟩ : ∃ s, A[0]? = some s := ⟨_, List.getElem?_eq_getElem HTab.out.ne⟩
    have := HHs.out.has HTab.out s0 (List.mem_of_getElem? hs0)
    exact List.length_pos_of_mem this
  obtain ⟨p0, hp0⟩ : ∃ p, hs[0]? = some p := ⟨_, List.getElem?_eq_getElem hpos⟩
  have hfst := HHs.out.first HTab.out hp0
  have hscnt := sum_cnt HHs.out.nd (HHs.out.has HTab.out)
  have hskey := sum_key HHs.out.nd HTab.out.cov (HHs.out.has HTab.out)
  have hN256 : N ≤ 8192 := by
    have h1 : (hs.length : Int) ≤ sumI (cntL A) hs := by
      have key : ∀ l : List Int, (∀ p ∈ l, 1 ≤ cntL A p) → (l.length : Int) ≤ sumI (cntL A) l := by
        intro l
        induction l with
        | nil => intro _; simp [sumI]
        | cons a l ih =>
          intro hh
          have := ih (fun p hp => hh p (List.mem_cons_of_mem _ hp))
          have := hh a (by simp)
          simp only [sumI, List.length_cons]; omega
      exact key hs (fun p hp => by have := ((HHs.out.mem p).1 hp).2.2; omega)
    rw [hscnt, HNA.out, hN] at h1
    omega
  obtain ⟨r, cp', eu, _⟩ := rowH_at hrow hp0
  rw [hu] at eu
  simp only [Value.slice.injEq] at eu
  obtain ⟨rfl, _, rfl⟩ := eu
  rw [hN] at hu hpos
  obtain ⟨ob, hob⟩ : ∃ ob, ((N : Int) == 1) = ob := ⟨_, rfl⟩
  have hob1 : decide (hs.length = 1) = ob := by
    rw [← hob, hN]
    by_cases e : N = 1
    · simp [e]
    · have : ¬ (N : Int) = 1 := by omega
      simp [e, this]
  have hob2 : (ob != ob) = false := by simp
  have hob3 : (ob == ob) = true := by simp
  have HP := hide (And.intro hp0 (And.intro hfst (And.intro hscnt (And.intro hskey hob1))))
  subst hu
  clear hrow hk1 hp0 hfst hscnt hskey hN hob1
  go_wp2_with fail
  go_loopw [6, 7, 8] (fun m ks i wr => ∃ (k : Nat) (mv kv : Int), i = .int .i64 (k : Int) ∧ k ≤ N ∧ m = .int .i64 mv ∧ ks = .int .u64 kv ∧ 0 ≤ mv ∧ mv ≤ 8192 ∧ Hid (mv = sumI (cntL A) (hs.take k) ∧ kv = IntKind.u64.wrap (sumI (keyL A) (hs.take k)) ∧ Kp Nu w1 wr)) (fun _ _ i _ => N - (intOf i).toNat)
  case atStart => exact ⟨0, 0, 0, rfl, Nat.zero_le _, rfl, rfl, by omega, by omega, ⟨rfl, rfl, Kp.refl _ _⟩⟩
  case round =>
    obtain ⟨k, mv, kv, rfl, hk, rfl, rfl, hm0, hm1, hI⟩ := hrel
    by_cases hlt : k < N
    · have hkL : k < hs.length := by rw [HN.out]; exact hlt
      obtain ⟨p, hp⟩ : ∃ s, hs[k]? = some s := ⟨_, List.getElem?_eq_getElem hkL⟩
      obtain ⟨i1, i2, i3⟩ := hI.out
      have hrowr := own_keep HR.out.1 (fun g e => i3.block g (own_lt HR.out.1 e) (fun h => h))
      obtain ⟨r', cp', eu, x0, x1, x2⟩ := rowH_at hrowr hp
      rw [HN.out] at eu
      simp only [Value.slice.injEq, Option.some.injEq, Addr.mk.injEq, and_true, true_and] at eu
      obtain ⟨rfl, hq⟩ := eu
      clear hq
      have hpm := List.mem_of_getElem? hp
      have hpc := ((HHs.out.mem p).1 hpm).2.2
      have OW := fun W (kk : Kp Nu wr W) => owns_any ((HT.out.nu (HR.out.2.andNu i3)).nu kk) 0 18446744073709551615 p (by omega) (by omega) (by omega)
      rw [HHs.out.one HTab.out hpm, HP.out.2.2.2.2] at OW
      have htk : hs.take (k + 1) = hs.take k ++ [p] := by rw [List.take_add_one, hp]; rfl
      have hm2 : mv + cntL A p ≤ 8192 := by
        have h1 := HP.out.2.2.1
        have h2 : hs = hs.take (k + 1) ++ hs.drop (k + 1) := (List.take_append_drop _ _).symm
        have h3 : ∀ l m : List Int, sumI (cntL A) (l ++ m) = sumI (cntL A) l + sumI (cntL A) m := by
          intro l m
          induction l with
          | nil => simp [sumI]
          | cons a l ih => simp only [List.cons_append, sumI, ih]; omega
        rw [h2, h3, htk, sumI_snoc] at h1
        have h4 := sumI_nonneg (f := cntL A) (l := hs.drop (k + 1)) (fun q _ => (cntL_range q A).1)
        have := HNA.out
        omega
      have hHn : Hid (mv + cntL A p = sumI (cntL A) (hs.take (k + 1)) ∧ IntKind.u64.wrap (IntKind.u64.wrap (kv + (keyL A p - 1)) + 1) = IntKind.u64.wrap (sumI (keyL A) (hs.take (k + 1)))) := by
        refine ⟨by rw [htk, sumI_snoc, i1], ?_⟩
        rw [htk, sumI_snoc, i2]
        simp only [IntKind.wrap_u64]
        omega
      obtain ⟨cn, hcn⟩ : ∃ c, cntL A p = c := ⟨_, rfl⟩
      obtain ⟨ky, hky⟩ : ∃ c, keyL A p - 1 = c := ⟨_, rfl⟩
      rw [hcn] at x1 hpc hm2 hHn
      rw [hky] at x2 hHn
      have hwm : IntKind.i64.wrap (mv + cn) = mv + cn := by rw [IntKind.wrap_i64]; omega
      have g2 : decide (cn < 1) = false := decide_eq_false (by omega)
      have hltI : (k : Int) < (N : Int) := by omega
      have hk0 : (0 : Int) ≤ (k : Int) := by omega
      have hkN : (k : Int) ≤ 8192 := by omega
      have hb1 : 0 ≤ mv + cn := by omega
      have hb2 : mv + cn ≤ 8192 := hm2
      have HK := hide i3
      cases k with
      | zero =>
        have g0 : decide ((0 : Int) < ((0 : Nat) : Int)) = false := by decide
        simp only [Nat.zero_mul, Nat.zero_add] at x0 x1 x2
        clear hI hp hkL hpm hpc i1 i2 i3 hrowr htk hcn hky hm2
        go_wp2_with fail
        go_quiet (fail)
        go_wp2_with fail
        refine (OW _ (kp_dN wr nq)).mono ?_; rintro e w9 ⟨rfl, hk9⟩
        have HK9 := hide ((HK.out.andNu (kp_dN wr nq)).andNu hk9)
        clear OW hk9
        go_wp2
        go_roundw
        case rel => exact ⟨0 + 1, _, _, by go_num, by omega, rfl, rfl, hb1, hb2, ⟨hHn.out.1, hHn.out.2, HK9.out⟩⟩
        case measure => simp [intOf]; omega
      | succ j =>
        obtain ⟨q, hq⟩ : ∃ s, hs[j]? = some s := ⟨_, List.getElem?_eq_getElem (by omega)⟩
        obtain ⟨r', cp', eu, y0, y1, y2⟩ := rowH_at hrowr hq
        rw [HN.out] at eu
        simp only [Value.slice.injEq, Option.some.injEq, Addr.mk.injEq, and_true, true_and] at eu
        obtain ⟨rfl, hq2⟩ := eu
        clear hq2
        have hris := HHs.out.rise j q p hq hp
        have g0 : decide ((0 : Int) < ((j + 1 : Nat) : Int)) = true := decide_eq_true (by omega)
        have g0' : decide ((0 : Int) < (j : Int) + 1) = true := decide_eq_true (by omega)
        have gw : IntKind.i64.wrap ((j : Int) + 1 - 1) = (j : Int) := by rw [IntKind.wrap_i64]; omega
        have g3 : decide (p ≤ q) = false := decide_eq_false (by omega)
        have hjI : (j : Int) < (N : Int) := by omega
        have hj0 : (0 : Int) ≤ (j : Int) := by omega
        clear hI hp hkL hpm hpc i1 i2 i3 hrowr htk hcn hky hm2 y1 y2 hq hris
        go_wp2_with fail
        go_quiet (fail)
        go_wp2_with fail
        refine (OW _ (kp_dN wr nq)).mono ?_; rintro e w9 ⟨rfl, hk9⟩
        have HK9 := hide ((HK.out.andNu (kp_dN wr nq)).andNu hk9)
        clear OW hk9
        go_wp2
        go_roundw
        case rel => exact ⟨(j + 1) + 1, _, _, by go_num, by omega, rfl, rfl, hb1, hb2, ⟨hHn.out.1, hHn.out.2, HK9.out⟩⟩
        case measure => simp [intOf]; omega
    · have hge : ¬ (k : Int) < (N : Int) := by omega
      obtain rfl : k = N := by omega
      obtain ⟨i1, i2, i3⟩ := hI.out
      obtain ⟨hp0, hfst, hscnt, hskey, hob1⟩ := HP.out
      rw [List.take_of_length_le (by rw [HN.out]; omega)] at i1 i2
      rw [hscnt, HNA.out] at i1
      rw [hskey] at i2
      have i2' : kv = 0 := by rw [i2, IntKind.wrap_u64]; omega
      subst i1 i2'
      have hrowr := own_keep HR.out.1 (fun g e => i3.block g (own_lt HR.out.1 e) (fun h => h))
      obtain ⟨r', cp', eu, x0, x1, x2⟩ := rowH_at hrowr hp0
      rw [HN.out] at eu
      simp only [Value.slice.injEq, Option.some.injEq, Addr.mk.injEq, and_true, true_and] at eu
      obtain ⟨rfl, hq⟩ := eu
      clear hq
      simp only [Nat.zero_mul, Nat.zero_add] at x2
      obtain ⟨ky, hky⟩ : ∃ c, keyL A p0 - 1 = c := ⟨_, rfl⟩
      rw [hky] at x2 hfst
      have g1 : (ky == 18446744073709551615) = ob := by
        rw [← hob1]
        by_cases e : ky = 18446744073709551615
        · have := hfst.1 e; simp [e, this]
        · have : ¬ hs.length = 1 := fun h => e (hfst.2 h)
          simp [e, this]
      have g2 : ((NA : Int) == (NA : Int)) = true := by simp
      have g3 : decide ((0 : Int) < (k : Int)) = true := decide_eq_true (by omega)
      have HK := hide (HR.out.2.andNu i3)
      clear hI i2 i3 hp0 hfst hscnt hskey hob1 hrowr x0 x1 hky
      go_wp2
      go_ret
      exact ⟨rfl, HK.out⟩
end Go.Proofs.Ytffcnonhhfhlhaa.Rg
