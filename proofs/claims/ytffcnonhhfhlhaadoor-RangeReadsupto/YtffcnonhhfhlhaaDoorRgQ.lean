import Derived.Test.YtffcnonhhfhlhaaDoorRgP
namespace Go.Proofs.YtffcnonhhfhlhaaDoor.Rg
open Go.RowKit Go.Shelf Go.Sort
open Go.Proofs.YtffcnonhhfhlhaaDoor.It
set_option linter.unusedVariables false

theorem Rs.nu {w w' : World} {u : Value} {M : List Sg} (h : Rs w u M) (k : Kp Nu w w') : Rs w' u M := by
  obtain ⟨r, off, cap, e, hc⟩ := h
  refine ⟨r, off, cap, e, fun i s hs => ?_⟩
  obtain ⟨x0, x1, x2⟩ := hc i s hs
  have key : ∀ {o : Nat} {x : Value}, w.cell? ⟨r, o, none⟩ = some x → w'.cell? ⟨r, o, none⟩ = some x := fun h =>
    (World.cell?_of_block (k.block _ (World.block_lt_of_cell? w _ h) (fun h => h))).trans h
  exact ⟨key x0, key x1, key x2⟩

/-- a list that may be loaded -/
structure Good (M : List Sg) : Prop where
  cov : Cov 0 M 18446744073709551616
  hs : ∀ s ∈ M, 0 ≤ s.h ∧ s.h < 16
theorem Good.tab {M : List Sg} (h : Good M) : Tab (lays [] M) := by
  obtain ⟨h1, h2⟩ := lays_cov (A := []) (a := 0) (m := 0) rfl h.cov
  refine ⟨h1, lays_alt trivial, fun s hs => ?_⟩
  obtain ⟨y, hy, e⟩ := lays_mem hs
  rw [← e]
  exact h.hs y (by simpa using hy)
theorem Good.ow {M : List Sg} (h : Good M) {k : Int} (k0 : 0 ≤ k) (k1 : k < 18446744073709551616) : ow (lays [] M) k = ow M k := by
  obtain ⟨h1, h2⟩ := lays_cov (A := []) (a := 0) (m := 0) rfl h.cov
  rw [h2 k k0 k1, if_neg (by omega)]

set_option maxRecDepth 100000 in
set_option maxHeartbeats 1000000 in
theorem load_good (w : World) (u : Value) (M : List Sg) (hrd : Rs w u M) (hg : Good M) (hM : M.length ≤ 8192) (lim : Int) (l1 : 1 ≤ lim) (l2 : lim ≤ 8192) (hfit : ((lays [] M).length : Int) ≤ lim) :
    Calls Tryd.prog 62 #[u, .int .i64 lim] w fun e w' => ∃ b v, e = .returned (.tuple #[.pointer (some ⟨b, 0, none⟩), .int .i64 0, .int .i64 0]) ∧ Tb w.heap.size w' b lim v (lays [] M) ∧ Kp Nu w w' := by
  have LI := limit_ok lim w l1 l2
  obtain ⟨r, off, cap, hu, hcells⟩ := hrd
  obtain ⟨N, hN⟩ : ∃ N, M.length = N := ⟨_, rfl⟩
  have hne : 0 < (lays [] M).length := hg.tab.ne
  have HR : Hid (Rs w u M) := ⟨r, off, cap, hu, hcells⟩
  have HG := hide hg
  have HN := hide hN
  have HF := hide hfit
  have HP := hide hne
  rw [hN] at hu hM
  subst hu
  clear hcells hg hN hfit hne
  go_enter Tryd.func62, Tryd.ntmps62
  go_wp2_with fail
  refine LI.mono ?_; rintro e w1 ⟨rfl, hw1⟩
  obtain rfl := hw1.symm
  clear LI hw1
  go_wp2_with fail
  go_loopw [7, 16] (fun l i wr => ∃ (k n : Nat) (adl : Option Addr) (cpl : Nat), k ≤ N ∧ i = .int .i64 (k : Int) ∧ l = .slice adl n cpl ∧ n ≤ 8192 ∧ Hid ((lays [] (M.take k)).length = n ∧ wr.ownsRow w.heap.size 26 3 (.slice adl n cpl) n (cells (lays [] (M.take k))) ∧ Kp Nu w wr)) (fun _ i _ => N - (intOf i).toNat)
  case atStart => exact ⟨0, 0, none, 0, by omega, rfl, rfl, by omega, ⟨rfl, ⟨rfl, .inl ⟨rfl, rfl⟩⟩, Kp.refl _ _⟩⟩
  case round =>
    obtain ⟨k, n, adl, cpl, hk, rfl, rfl, hn8, hI⟩ := hrel
    by_cases hlt : k < N
    · have hkM : k < M.length := by rw [HN.out]; exact hlt
      obtain ⟨s, hs⟩ : ∃ s, M[k]? = some s := ⟨_, List.getElem?_eq_getElem hkM⟩
      obtain ⟨hl, hown, hkp⟩ := hI.out
      obtain ⟨r', off', cap', hu', hc'⟩ := HR.out.nu hkp
      simp only [Value.slice.injEq, Option.some.injEq, Addr.mk.injEq, and_true] at hu'
      obtain ⟨⟨rfl, rfl⟩, hx1⟩ := hu'
      clear hx1
      obtain ⟨x0, x1, x2⟩ := hc' k s hs
      have hltI : (k : Int) < (N : Int) := by omega
      have hk0 : (0 : Int) ≤ (k : Int) := by omega
      have hkN : (k : Int) ≤ 8192 := by omega
      obtain ⟨t1, t2, t3⟩ := cov_take HG.out.cov hs
      have hh := HG.out.hs s (List.mem_of_getElem? hs)
      have KA := Kp.alloc wr (.cells #[.int .u64 s.lo, .int .u64 s.hi, .int .u8 s.h] 26) Nu
      have hle := lays_le (M.take k) []
      have hsz := hkp.size
      have FA : ∀ W, Kp Nu wr W → Calls Tryd.prog 79 #[.agg #[.int .u64 s.lo, .int .u64 s.hi, .int .u8 s.h], .slice adl n cpl] W fun e w' => e = .returned (.int .i64 0) ∧ Kp Nu W w' := fun W kW => by
        refine fault_ok W _ s (fun W' kW' => ?_) ⟨_, _, _, rfl⟩ t2 hh.2
        have k3 := kW.andNu kW'
        obtain ⟨c1, c2⟩ := lays_cov (A := []) (a := 0) (m := 0) rfl t1
        rcases List.eq_nil_or_concat (lays [] (M.take k)) with e | ⟨A', t, e⟩
        · rw [e] at hl c1
          have hn0 : n = 0 := by rw [← hl]; rfl
          subst hn0
          exact follows_nil W' adl cpl s (by have : (0 : Int) = s.lo := c1; omega)
        · rw [List.concat_eq_append] at e
          rw [e] at hl hown c1
          have hl2 : A'.length + 1 = n := by rw [← hl]; simp
          have hm := cov_mem c1 t (by simp)
          have hc := cov_last c1
          subst hl2
          exact follows_snoc W' w.heap.size _ A' t s (own_keep hown (fun g hg => k3.block g (own_lt hown hg) (fun h => h))) (by omega) (by omega) (by omega) (by omega)
      have LA : ∀ W, Kp Nu wr W → Calls Tryd.prog 47 #[.slice adl n cpl, .agg #[.int .u64 s.lo, .int .u64 s.hi, .int .u8 s.h]] W fun e w' => ∃ u', e = .returned u' ∧ w'.ownsRow w.heap.size 26 3 u' (lays [] (M.take (k + 1))).length (cells (lays [] (M.take (k + 1)))) ∧ Kp (fun g => w.heap.size ≤ g) W w' := fun W kW => by
        have e : lays [] (M.take (k + 1)) = lay (lays [] (M.take k)) s := by
          rw [List.take_add_one, hs, Option.toList_some, lays_snoc]
        have hown2 : W.ownsRow w.heap.size 26 3 (.slice adl n cpl) (lays [] (M.take k)).length (cells (lays [] (M.take k))) := by
          rw [hl]; exact own_keep hown (fun g hg => kW.block g (own_lt hown hg) (fun h => h))
        rw [e]
        refine (lay_any w.heap.size W _ _ s (by omega) hown2 (Nat.le_trans hsz kW.size)).mono ?_
        rintro e w' ⟨u', rfl, h1, h2⟩
        exact ⟨u', rfl, h1, h2.mono (fun i _ hi => (own_type hown2 hi.symm).1)⟩
      have HK := hide hkp
      have hle2 := lays_le (M.take (k + 1)) []
      have hn9 : (lays [] (M.take (k + 1))).length ≤ 8192 := by simp at hle2; omega
      have HN9 := hide hn9
      clear hI hl hown hc' hs t1 t2 t3 hh hle hle2 hn9 hkM hkp
      have FA1 := FA _ KA
      go_wp2_with fail
      refine FA1.mono ?_; rintro e w2 ⟨rfl, hk2⟩
      have hb2 := cell3 (new_at wr _ hk2)
      obtain ⟨a0, a1, a2⟩ := hb2
      have LA1 := LA _ (KA.andNu hk2)
      clear FA FA1 LA
      go_wp2_with fail
      refine LA1.mono ?_; rintro e w3 ⟨u', rfl, ho3, hk3⟩
      obtain ⟨ad3, cp3, hu3⟩ := own_slice ho3
      obtain ⟨n3, hn3⟩ : ∃ n3, (lays [] (M.take (k + 1))).length = n3 := ⟨_, rfl⟩
      rw [hn3] at hu3 ho3
      have HO : Hid ((lays [] (M.take (k + 1))).length = n3 ∧ w3.ownsRow w.heap.size 26 3 u' n3 (cells (lays [] (M.take (k + 1)))) ∧ Kp Nu w w3) := by
        refine ⟨hn3, ho3, ?_⟩
        exact Kp.of_below (((HK.out.andNu (KA.andNu hk2)).toBelow).trans (hk3.below _ (by have := KA.size; have := hk2.size; omega) (fun j hj => hj)))
      have hn10 : n3 ≤ 8192 := by rw [← hn3]; exact HN9.out
      subst hu3
      clear LA1 ho3 hn3 hk3 hk2 KA
      go_wp2
      go_roundw
      case rel => exact ⟨k + 1, n3, ad3, cp3, by omega, by go_num, rfl, hn10, HO⟩
      case measure => simp [intOf]; omega
    · have hge : ¬ (k : Int) < (N : Int) := by omega
      obtain rfl : k = N := by omega
      obtain ⟨hl, hown, hkp⟩ := hI.out
      rw [List.take_of_length_le (by rw [HN.out]; omega)] at hl hown
      have hfit := HF.out
      have hpos := HP.out
      rw [hl] at hfit hpos
      rcases List.eq_nil_or_concat (lays [] M) with e | ⟨A', t, e⟩
      · rw [e] at hl; simp at hl; omega
      rw [List.concat_eq_append] at e
      have hlt2 : (A' ++ [t])[A'.length]? = some t := by simp
      have hown2 : wr.ownsRow w.heap.size 26 3 (.slice adl n cpl) (A' ++ [t]).length (cells (A' ++ [t])) := by
        rw [← e, hl]; exact hown
      obtain ⟨r3, cap3, hu3, x0, x1, x2⟩ := row_at hown2 hlt2
      obtain ⟨q, hq⟩ : ∃ q, A'.length = q := ⟨_, rfl⟩
      rw [hq] at x1
      have hl3 : n = q + 1 := by rw [← hl, e, ← hq]; simp
      simp only [Value.slice.injEq] at hu3
      obtain ⟨rfl, hy1, hy2⟩ := hu3
      clear hy1 hy2
      have hc1 := HG.out.tab.cov
      rw [e] at hc1
      have hc2 := cov_last hc1
      have ht : t.hi = 18446744073709551615 := by omega
      rw [ht] at x1
      have HT : Hid (Tb w.heap.size (wr.alloc (.cells #[.int .i64 lim, .slice (some ⟨r3, 0, none⟩) n cpl] 93)) wr.heap.size lim (.slice (some ⟨r3, 0, none⟩) n cpl) (lays [] M) ∧ Kp Nu w (wr.alloc (.cells #[.int .i64 lim, .slice (some ⟨r3, 0, none⟩) n cpl] 93))) := by
        refine ⟨⟨heap_alloc_new wr _, hkp.size, ?_, HG.out.tab, HF.out, l2⟩, hkp.andAlloc _⟩
        rw [hl]
        exact hown.alloc _
      subst hl3
      clear hI hl hown hown2 x0 x2 hlt2 hc1 hc2 ht e hq
      have hq0 : (((q : Int) + 1) == 0) = false := by simp; omega
      have hq8 : (q : Int) + 1 ≤ 8192 := by omega
      have hq9 : (0 : Int) ≤ (q : Int) := by omega
      have hfl : ¬ (q : Int) + 1 > lim := by omega
      have hfd : decide (lim < (q : Int) + 1) = false := decide_eq_false (by omega)
      clear hpos hfit
      go_wp2
      go_ret3
      exact ⟨_, rfl, ⟨_, HT.out.1⟩, HT.out.2⟩

set_option maxRecDepth 100000 in
set_option maxHeartbeats 1000000 in
theorem Load_good (w : World) (u : Value) (M : List Sg) (hrd : Rs w u M) (hg : Good M) (hM : M.length ≤ 8192) (lim : Int) (l1 : 1 ≤ lim) (l2 : lim ≤ 8192) (hfit : ((lays [] M).length : Int) ≤ lim) :
    Calls Tryd.prog 31 #[u, .int .i64 lim] w fun e w' => ∃ b v, e = .returned (.tuple #[.pointer (some ⟨b, 0, none⟩), .int .i64 0]) ∧ Tb w.heap.size w' b lim v (lays [] M) ∧ Kp Nu w w' := by
  have LO := load_good w u M hrd hg hM lim l1 l2 hfit
  obtain ⟨r, off, cap, hu, hc⟩ := hrd
  subst hu
  clear hc hg
  go_enter Tryd.func31, Tryd.ntmps31
  go_wp2_with fail
  refine LO.mono ?_; rintro e w2 ⟨b, v, rfl, hT, hk⟩
  have HT := hide (And.intro hT hk)
  clear LO hT hk
  go_wp2
  go_ret2
  first | exact ⟨b, v, rfl, HT.out⟩ | exact ⟨b, rfl, ⟨v, HT.out.1⟩, HT.out.2⟩
end Go.Proofs.YtffcnonhhfhlhaaDoor.Rg
