import Derived.Test.YtffcnonhhfhlhaaDoorWsC
namespace Go.Proofs.YtffcnonhhfhlhaaDoor.Rg
open Go.RowKit Go.Shelf Go.Sort
open Go.Proofs.YtffcnonhhfhlhaaDoor.It
set_option linter.unusedVariables false

/-- a list of segments, nil or not -/
def Rz (w : World) (u : Value) (M : List Sg) : Prop := (M = [] ∧ ∃ ad cap, u = .slice ad 0 cap) ∨ Rs w u M
theorem Rz.nu {w w' : World} {u : Value} {M : List Sg} (h : Rz w u M) (k : Kp Nu w w') : Rz w' u M := h.elim .inl (fun h => .inr (h.nu k))
theorem Rz.slice {w : World} {u : Value} {M : List Sg} (h : Rz w u M) : ∃ ad cap, u = .slice ad M.length cap := by
  rcases h with ⟨rfl, ad, cap, rfl⟩ | ⟨r, off, cap, rfl, _⟩
  · exact ⟨ad, cap, rfl⟩
  · exact ⟨_, cap, rfl⟩
/-- what load answers: a table, a place, an error -/
def Lrs (w w' : World) (lim : Int) (M : List Sg) (p : Value) (i c : Int) : Prop :=
  (p = .pointer none ∧ ∃ k s, Lok M k ∧ M[k]? = some s ∧ flt (lays [] (M.take k)) s = c ∧ c ≠ 0 ∧ i = (k : Int)) ∨
  (p = .pointer none ∧ Lok M M.length ∧ i = (M.length : Int) ∧ ((c = 62 ∧ endF (lays [] M) = false) ∨ (c = 61 ∧ endF (lays [] M) = true ∧ lim < ((lays [] M).length : Int)))) ∨
  (c = 0 ∧ i = 0 ∧ Lok M M.length ∧ endF (lays [] M) = true ∧ ((lays [] M).length : Int) ≤ lim ∧ ∃ b v, p = .pointer (some ⟨b, 0, none⟩) ∧ Tb w.heap.size w' b lim v (lays [] M))

set_option maxRecDepth 100000 in
set_option maxHeartbeats 2000000 in
theorem load_any (w : World) (u : Value) (M : List Sg) (hrd : Rz w u M) (hb : ∀ s ∈ M, SgB s) (hM : M.length ≤ 5864062014634) (lim : Int) (l1 : 1 ≤ lim) (l2 : lim ≤ 8192) :
    Calls Tryd.prog 62 #[u, .int .i64 lim] w fun e w' => ∃ p i c, e = .returned (.tuple #[p, .int .i64 i, .int .i64 c]) ∧ Lrs w w' lim M p i c ∧ Kp Nu w w' := by
  have LI := limit_ok lim w l1 l2
  obtain ⟨ad, cap, hu⟩ := hrd.slice
  obtain ⟨N, hN⟩ : ∃ N, M.length = N := ⟨_, rfl⟩
  have HR := hide hrd
  have HB := hide hb
  have HN := hide hN
  rw [hN] at hu hM
  subst hu
  clear hrd hb hN
  go_enter Tryd.func62, Tryd.ntmps62
  go_wp2_with fail
  refine LI.mono ?_; rintro e w1 ⟨rfl, hw1⟩
  obtain rfl := hw1.symm
  clear LI hw1
  go_wp2_with fail
  go_loopw [7, 16] (fun l i wr => ∃ (k n : Nat) (adl : Option Addr) (cpl : Nat), k ≤ N ∧ i = .int .i64 (k : Int) ∧ l = .slice adl n cpl ∧ n ≤ 5864062014634 ∧ Hid (Lok M k ∧ (lays [] (M.take k)).length = n ∧ wr.ownsRow w.heap.size 26 3 (.slice adl n cpl) n (cells (lays [] (M.take k))) ∧ Kp Nu w wr)) (fun _ i _ => N - (intOf i).toNat)
  case atStart => exact ⟨0, 0, none, 0, by omega, rfl, rfl, by omega, ⟨fun i hi => by omega, rfl, ⟨rfl, .inl ⟨rfl, rfl⟩⟩, Kp.refl _ _⟩⟩
  case round =>
    obtain ⟨k, n, adl, cpl, hk, rfl, rfl, hn8, hI⟩ := hrel
    by_cases hlt : k < N
    · have hkM : k < M.length := by rw [HN.out]; exact hlt
      obtain ⟨s, hs⟩ : ∃ s, M[k]? = some s := ⟨_, List.getElem?_eq_getElem hkM⟩
      obtain ⟨hok, hl, hown, hkp⟩ := hI.out
      rcases HR.out.nu hkp with ⟨e, _⟩ | ⟨r', off', cap', hu', hc'⟩
      · rw [e] at hkM; simp at hkM
      simp only [Value.slice.injEq] at hu'
      obtain ⟨rfl, hx1, hx2⟩ := hu'
      clear hx1 hx2
      obtain ⟨x0, x1, x2⟩ := hc' k s hs
      have hltI : (k : Int) < (N : Int) := by omega
      have hk0 : (0 : Int) ≤ (k : Int) := by omega
      have hkN : (k : Int) ≤ 5864062014634 := by omega
      have hsb := HB.out s (List.mem_of_getElem? hs)
      have KA := Kp.alloc wr (.cells #[.int .u64 s.lo, .int .u64 s.hi, .int .u8 s.h] 26) Nu
      have hsz := hkp.size
      have hlA : (lays [] (M.take k)).length ≤ 5864062014634 := by rw [hl]; exact hn8
      have FA : Calls Tryd.prog 79 #[.agg #[.int .u64 s.lo, .int .u64 s.hi, .int .u8 s.h], .slice adl n cpl] (wr.alloc (.cells #[.int .u64 s.lo, .int .u64 s.hi, .int .u8 s.h] 26)) fun e w' => e = .returned (.int .i64 (flt (lays [] (M.take k)) s)) ∧ Kp Nu (wr.alloc (.cells #[.int .u64 s.lo, .int .u64 s.hi, .int .u8 s.h] 26)) w' := by
        refine fault_any _ w.heap.size _ (lays [] (M.take k)) s ?_ (by omega) hsb.l0 hsb.l1
        rw [hl]
        exact hown.alloc _
      by_cases hf : flt (lays [] (M.take k)) s = 0
      · rw [hf] at FA
        have LA : ∀ W, Kp Nu wr W → Calls Tryd.prog 47 #[.slice adl n cpl, .agg #[.int .u64 s.lo, .int .u64 s.hi, .int .u8 s.h]] W fun e w' => ∃ u', e = .returned u' ∧ w'.ownsRow w.heap.size 26 3 u' (lays [] (M.take (k + 1))).length (cells (lays [] (M.take (k + 1)))) ∧ Kp (fun g => w.heap.size ≤ g) W w' := fun W kW => by
          have e : lays [] (M.take (k + 1)) = lay (lays [] (M.take k)) s := by
            rw [List.take_add_one, hs, Option.toList_some, lays_snoc]
          have hown2 : W.ownsRow w.heap.size 26 3 (.slice adl n cpl) (lays [] (M.take k)).length (cells (lays [] (M.take k))) := by
            rw [hl]; exact own_keep hown (fun g hg => kW.block g (own_lt hown hg) (fun h => h))
          rw [e]
          refine (lay_anyB w.heap.size W _ _ s (by omega) hown2 (Nat.le_trans hsz kW.size)).mono ?_
          rintro e w' ⟨u', rfl, h1, h2⟩
          exact ⟨u', rfl, h1, h2.mono (fun i _ hi => (own_type hown2 hi.symm).1)⟩
        have HK := hide hkp
        have hle2 := lays_le (M.take (k + 1)) []
        have hn9 : (lays [] (M.take (k + 1))).length ≤ 5864062014634 := by simp at hle2; omega
        have HN9 : Hid ((lays [] (M.take (k + 1))).length ≤ 5864062014634 ∧ Lok M (k + 1)) := ⟨hn9, fun i hi x hx => by
          by_cases e : i = k
          · subst e
            rw [hs] at hx
            cases hx
            exact hf
          · exact hok i (by omega) x hx⟩
        clear hI hl hown hc' hs hle2 hn9 hkM hkp hok hf hsb hlA
        go_wp2_with fail
        refine FA.mono ?_; rintro e w2 ⟨rfl, hk2⟩
        have hb2 := cell3 (new_at wr _ hk2)
        obtain ⟨a0, a1, a2⟩ := hb2
        have LA1 := LA _ (KA.andNu hk2)
        clear FA LA
        go_wp2_with fail
        refine LA1.mono ?_; rintro e w3 ⟨u', rfl, ho3, hk3⟩
        obtain ⟨ad3, cp3, hu3⟩ := own_slice ho3
        obtain ⟨n3, hn3⟩ : ∃ n3, (lays [] (M.take (k + 1))).length = n3 := ⟨_, rfl⟩
        rw [hn3] at hu3 ho3
        have HO : Hid (Lok M (k + 1) ∧ (lays [] (M.take (k + 1))).length = n3 ∧ w3.ownsRow w.heap.size 26 3 u' n3 (cells (lays [] (M.take (k + 1)))) ∧ Kp Nu w w3) := by
          refine ⟨HN9.out.2, hn3, ho3, ?_⟩
          exact Kp.of_below (((HK.out.andNu (KA.andNu hk2)).toBelow).trans (hk3.below _ (by have := KA.size; have := hk2.size; omega) (fun j hj => hj)))
        have hn10 : n3 ≤ 5864062014634 := by rw [← hn3]; exact HN9.out.1
        subst hu3
        clear LA1 ho3 hn3 hk3 hk2 KA
        go_wp2
        go_roundw
        case rel => exact ⟨k + 1, n3, ad3, cp3, by omega, by go_num, rfl, hn10, HO⟩
        case measure => simp [intOf]; omega
      · obtain ⟨c, hc⟩ : ∃ c, flt (lays [] (M.take k)) s = c := ⟨_, rfl⟩
        rw [hc] at FA hf
        have hcb : (c != 0) = true := by simpa using hf
        have HZ : Hid (Lok M k ∧ M[k]? = some s ∧ flt (lays [] (M.take k)) s = c ∧ c ≠ 0 ∧ Kp Nu w wr) := ⟨hok, hs, hc, hf, hkp⟩
        clear hI hl hown hc' hs hkM hkp hok hsb hlA hc
        go_wp2_with fail
        refine FA.mono ?_; rintro e w2 ⟨rfl, hk2⟩
        clear FA
        go_wp2
        go_ret3
        exact ⟨_, _, _, rfl, .inl ⟨rfl, k, s, HZ.out.1, HZ.out.2.1, HZ.out.2.2.1, HZ.out.2.2.2.1, rfl⟩, HZ.out.2.2.2.2.andNu (KA.andNu hk2)⟩
    · have hge : ¬ (k : Int) < (N : Int) := by omega
      obtain rfl : k = N := by omega
      obtain ⟨hok, hl, hown, hkp⟩ := hI.out
      rw [List.take_of_length_le (by rw [HN.out]; omega)] at hl hown
      have hokM : Lok M M.length := by rw [HN.out]; exact hok
      have hkM : (k : Int) ≤ 5864062014634 := by omega
      rcases List.eq_nil_or_concat (lays [] M) with e | ⟨A', t, e⟩
      · have hn0 : n = 0 := by rw [← hl, e]; rfl
        subst hn0
        have HZ : Hid (Lrs w wr lim M (.pointer none) (k : Int) 62 ∧ Kp Nu w wr) := ⟨.inr (.inl ⟨rfl, hokM, by rw [HN.out], .inl ⟨rfl, by rw [e]; rfl⟩⟩), hkp⟩
        clear hI hl hown hok hokM hkp e
        go_wp2
        go_ret3
        exact ⟨_, _, _, rfl, HZ.out.1, HZ.out.2⟩
      · rw [List.concat_eq_append] at e
        have hlt2 : (A' ++ [t])[A'.length]? = some t := by simp
        have hown2 : wr.ownsRow w.heap.size 26 3 (.slice adl n cpl) (A' ++ [t]).length (cells (A' ++ [t])) := by
          rw [← e, hl]; exact hown
        obtain ⟨r3, cap3, hu3, x0, x1, x2⟩ := row_at hown2 hlt2
        obtain ⟨q, hq⟩ : ∃ q, A'.length = q := ⟨_, rfl⟩
        rw [hq] at x1
        have hl3 : n = q + 1 := by rw [← hl, e, ← hq]; simp
        simp only [Value.slice.injEq] at hu3
        obtain ⟨rfl, hy1, hy2⟩ := hu3
        clear hy1 hy2
        have hend : endF (lays [] M) = (t.hi == 18446744073709551615) := by rw [e]; simp [endF]
        have hq0 : (((q : Int) + 1) == 0) = false := by simp; omega
        have hq8 : (q : Int) + 1 ≤ 5864062014634 := by omega
        have hq9 : (0 : Int) ≤ (q : Int) := by omega
        by_cases ht : t.hi = 18446744073709551615
        · rw [ht] at x1
          have hendt : endF (lays [] M) = true := by rw [hend, ht]; rfl
          by_cases hfl : (q : Int) + 1 > lim
          · have HZ : Hid (Lrs w wr lim M (.pointer none) (k : Int) 61 ∧ Kp Nu w wr) := ⟨.inr (.inl ⟨rfl, hokM, by rw [HN.out], .inr ⟨rfl, hendt, by rw [hl, hl3]; omega⟩⟩), hkp⟩
            have hfd : decide (lim < (q : Int) + 1) = true := decide_eq_true (by omega)
            subst hl3
            clear hI hl hown hown2 x0 x2 hlt2 e hq hok hokM hkp hend hendt ht
            go_wp2
            go_ret3
            exact ⟨_, _, _, rfl, HZ.out.1, HZ.out.2⟩
          · have hG : Good M := lok_good hokM hendt HB.out
            have HT : Hid (Tb w.heap.size (wr.alloc (.cells #[.int .i64 lim, .slice (some ⟨r3, 0, none⟩) n cpl] 93)) wr.heap.size lim (.slice (some ⟨r3, 0, none⟩) n cpl) (lays [] M) ∧ Kp Nu w (wr.alloc (.cells #[.int .i64 lim, .slice (some ⟨r3, 0, none⟩) n cpl] 93)) ∧ Lok M M.length ∧ endF (lays [] M) = true ∧ ((lays [] M).length : Int) ≤ lim) := by
              refine ⟨⟨heap_alloc_new wr _, hkp.size, ?_, hG.tab, by rw [hl, hl3]; omega, l2⟩, hkp.andAlloc _, hokM, hendt, by rw [hl, hl3]; omega⟩
              rw [hl]
              exact hown.alloc _
            have hfd : decide (lim < (q : Int) + 1) = false := decide_eq_false (by omega)
            subst hl3
            clear hI hl hown hown2 x0 x2 hlt2 e hq hok hokM hkp hend hendt ht hG
            go_wp2
            go_ret3
            exact ⟨_, _, _, rfl, .inr (.inr ⟨rfl, rfl, HT.out.2.2.1, HT.out.2.2.2.1, HT.out.2.2.2.2, _, _, rfl, HT.out.1⟩), HT.out.2.1⟩
        · have hendt : endF (lays [] M) = false := by rw [hend]; simpa using ht
          have HZ : Hid (Lrs w wr lim M (.pointer none) (k : Int) 62 ∧ Kp Nu w wr) := ⟨.inr (.inl ⟨rfl, hokM, by rw [HN.out], .inl ⟨rfl, hendt⟩⟩), hkp⟩
          have htb : (t.hi != 18446744073709551615) = true := by simpa using ht
          subst hl3
          clear hI hl hown hown2 x0 x2 hlt2 e hq hok hokM hkp hend hendt
          generalize t.hi = th at *
          go_wp2
          go_ret3
          exact ⟨_, _, _, rfl, HZ.out.1, HZ.out.2⟩
end Go.Proofs.YtffcnonhhfhlhaaDoor.Rg
