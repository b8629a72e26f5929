import Derived.Test.YtbifmcadllilhaaGreatLdC
namespace Go.Proofs.YtbifmcadllilhaaGreat.Rg
open Go.RowKit Go.Shelf Go.Sort
open Go.Proofs.YtbifmcadllilhaaGreat.It
set_option linter.unusedVariables false

/-- a list of segments, nil or not -/
def Rz (w : World) (u : Value) (M : List Sg) : Prop := (M = [] ∧ ∃ ad cap, u = .slice ad 0 cap) ∨ Rs w u M
theorem Rz.nu {w w' : World} {u : Value} {M : List Sg} (h : Rz w u M) (k : Kp Nu w w') : Rz w' u M := h.elim .inl (fun h => .inr (h.nu k))
theorem Rz.slice {w : World} {u : Value} {M : List Sg} (h : Rz w u M) : ∃ ad cap, u = .slice ad M.length cap := by
  rcases h with ⟨rfl, ad, cap, rfl⟩ | ⟨r, off, cap, rfl, _⟩
  · exact ⟨ad, cap, rfl⟩
  · exact ⟨_, cap, rfl⟩
/-- what load answers: a table, a place, an error -/
def Lrs (w w' : World) (lim : Int) (M : List Sg) (p : Value) (i c : Int) : Prop :=
  (p = .pointer none ∧ ∃ k s, Lok M k ∧ M[k]? = some s ∧ flt (lays [] (M.take k)) s = c ∧ c ≠ 0 ∧ i = (k : Int)) ∨
  (p = .pointer none ∧ Lok M M.length ∧ i = (M.length : Int) ∧ ((c = 62 ∧ endF (lays [] M) = false) ∨ (c = 61 ∧ endF (lays [] M) = true ∧ lim < ((lays [] M).length : Int)))) ∨
  (c = 0 ∧ i = 0 ∧ Lok M M.length ∧ endF (lays [] M) = true ∧ ((lays [] M).length : Int) ≤ lim ∧ ∃ b v, p = .pointer (some ⟨b, 0, none⟩) ∧ Tb w.heap.size w' b lim v (lays [] M))

set_option maxRecDepth 100000 in
set_option maxHeartbeats 2000000 in
theorem load_any (w : World) (u : Value) (M : List Sg) (hrd : Rz w u M) (hb : ∀ s ∈ M, SgB s) (hM : M.length ≤ 5864062014634) (lim : Int) (l1 : 1 ≤ lim) (l2 : lim ≤ 8192) :
    Calls Tryz.prog 52 #[u, .int .i64 lim] w fun e w' => ∃ p i c, e = .returned (.tuple #[p, .int .i64 i, .int .i64 c]) ∧ Lrs w w' lim M p i c ∧ Kp Nu w w' := by
  have LI := limit_ok lim w l1 l2
  obtain ⟨ad, cap, hu⟩ := hrd.slice
  obtain ⟨N, hN⟩ : ∃ N, M.length = N := ⟨_, rfl⟩
  have HR := hide hrd
  have HB := hide hb
  have HN := hide hN
  rw [hN] at hu hM
  subst hu
  clear hrd hb hN
  go_enter Tryz.func52, Tryz.ntmps52
  go_wp2_with fail
  refine LI.mono ?_; rintro e w1 ⟨rfl, hw1⟩
  obtain rfl := hw1.symm
  clear LI hw1
  go_wp2_with fail
  go_loopw [7, 16] (fun l i wr => ∃ (k n : Nat) (adl : Option Addr) (cpl : Nat), k ≤ N ∧ i = .int .i64 (k : Int) ∧ l = .slice adl n cpl ∧ n ≤ 5864062014634 ∧ Hid (Lok M k ∧ (lays [] (M.take k)).length = n ∧ wr.ownsRow w.heap.size 38 3 (.slice adl n cpl) n (cells (lays [] (M.take k))) ∧ Kp Nu w wr)) (fun _ i _ => N - (intOf i).toNat)
  case atStart => exact ⟨0, 0, none, 0, by omega, rfl, rfl, by omega, ⟨fun i hi => by omega, rfl, ⟨rfl, .inl ⟨rfl, rfl⟩⟩, Kp.refl _ _⟩⟩
  case round =>
    obtain ⟨k, n, adl, cpl, hk, rfl, rfl, hn8, hI⟩ := hrel
    by_cases hlt : k < N
    · have hkM : k < M.length := by rw [HN.out]; exact hlt
      obtain ⟨s, hs⟩ : ∃ s, M[k]? = some s := ⟨_, List.getElem?_eq_getElem hkM⟩
      obtain ⟨hok, hl, hown, hkp⟩ := hI.out
      rcases HR.out.nu hkp with ⟨e, _⟩ | ⟨r', off', cap', hu', hc'⟩
      · rw [e] at hkM; simp at hkM
      simp only [Value.slice.injEq] at hu'
      obtain ⟨rfl, hx1, hx2⟩ := hu'
      clear hx1 hx2
      obtain ⟨x0, x1, x2⟩ := hc' k s hs
      have hltI : (k : Int) < (N : Int) := by omega
      have hk0 : (0 : Int) ≤ (k : Int) := by omega
      have hkN : (k : Int) ≤ 5864062014634 := by omega
      have hsb := HB.out s (List.mem_of_getElem? hs)
      have KA := Kp.alloc wr (.cells #[.int .u64 s.lo, .int .u64 s.hi, .int .u8 s.h] 38) Nu
      have hsz := hkp.size
      have hlA : (lays [] (M.take k)).length ≤ 5864062014634 := by rw [hl]; exact hn8
      have FA : Calls Tryz.prog 69 #[.agg #[.int .u64 s.lo, .int .u64 s.hi, .int .u8 s.h], .slice adl n cpl] (wr.alloc (.cells #[.int .u64 s.lo, .int .u64 s.hi, .int .u8 s.h] 38)) fun e w' => e = .returned (.int .i64 (flt (lays [] (M.take k)) s)) ∧ Kp Nu (wr.alloc (.cells #[.int .u64 s.lo, .int .u64 s.hi, .int .u8 s.h] 38)) w' := by
        refine fault_any _ w.heap.size _ (lays [] (M.take k)) s ?_ (by omega) hsb.l0 hsb.l1
        rw [hl]
        exact hown.alloc _
      by_cases hf : flt (lays [] (M.take k)) s = 0
      · rw [hf] at FA
        have LA : ∀ W, Kp Nu wr W → Calls Tryz.prog 70 #[.slice adl n cpl, .agg #[.int .u64 s.lo, .int .u64 s.hi, .int .u8 s.h]] W fun e w' => ∃ u', e = .returned u' ∧ w'.ownsRow w.heap.size 38 3 u' (lays [] (M.take (k + 1))).length (cells (lays [] (M.take (k + 1)))) ∧ Kp (fun g => w.heap.size ≤ g) W w' := fun W kW => by
          have e : lays [] (M.take (k + 1)) = lay (lays [] (M.take k)) s := by
            rw [List.take_add_one, hs, Option.toList_some, lays_snoc]
          have hown2 : W.ownsRow w.heap.size 38 3 (.slice adl n cpl) (lays [] (M.take k)).length (cells (lays [] (M.take k))) := by
            rw [hl]; exact own_keep hown (fun g hg => kW.block g (own_lt hown hg) (fun h => h))
          rw [e]
          refine (lay_anyB w.heap.size W _ _ s (by omega) hown2 (Nat.le_trans hsz kW.size)).mono ?_
          rintro e w' ⟨u', rfl, h1, h2⟩
          exact ⟨u', rfl, h1, h2.mono (fun i _ hi => (own_type hown2 hi.symm).1)⟩
        have HK := hide hkp
        have hle2 := lays_le (M.take (k + 1)) []
        have hn9 : (lays [] (M.take (k + 1))).length ≤ 5864062014634 := by simp at hle2; omega
        have HN9 : Hid ((lays [] (M.take (k + 1))).length ≤ 5864062014634 ∧ Lok M (k + 1)) := ⟨hn9, fun i hi x hx => by
          by_cases e : i = k
          · subst e
            rw [hs] at hx
            cases hx
            exact hf
          · exact hok i (by omega) x hx⟩
        clear hI hl hown hc' hs hle2 hn9 hkM hkp hok hf hsb hlA
        go_wp2_with fail
        refine FA.mono ?_; rintro e w2 ⟨rfl, hk2⟩
        have hb2 := cell3 (new_at wr _ hk2)
        obtain ⟨a0, a1, a2⟩ := hb2
        have LA1 := LA _ (KA.andNu hk2)
        clear FA LA
        go_wp2_with fail
        refine LA1.mono ?_; rintro e w3 ⟨u', rfl, ho3, hk3⟩
        obtain ⟨ad3, cp3, hu3⟩ := own_slice ho3
        obtain ⟨n3, hn3⟩ : ∃ n3, (lays [] (M.take (k + 1))).length = n3 := ⟨_, rfl⟩
        rw [hn3] at hu3 ho3
        have HO : Hid (Lok M (k + 1) ∧ (lays [] (M.take (k + 1))).length = n3 ∧ w3.ownsRow w.heap.size 38 3 u' n3 (cells (lays [] (M.take (k + 1)))) ∧ Kp Nu w w3) := by
          refine ⟨HN9.out.2, hn3, ho3, ?_⟩
          exact Kp.of_below (((HK.out.andNu (KA.andNu hk2)).toBelow).trans (hk3.below _ (by have := KA.size; have := hk2.size; omega) (fun j hj => hj)))
        have hn10 : n3 ≤ 5864062014634 := by rw [← hn3]; exact HN9.out.1
        subst hu3
        clear LA1 ho3 hn3 hk3 hk2 KA
        go_wp2
        go_roundw
        case rel => exact ⟨k + 1, n3, ad3, cp3, by omega, by go_num, rfl, hn10, HO⟩
        case measure => simp [intOf]; omega
      · obtain ⟨c, hc⟩ : ∃ c, flt (lays [] (M.take k)) s = c := ⟨_, rfl⟩
        rw [hc] at FA hf
        have hcb : (c != 0) = true := by simpa using hf
        have HZ : Hid (Lok M k ∧ M[k]? = some s ∧ flt (lays [] (M.take k)) s = c ∧ c ≠ 0 ∧ Kp Nu w wr) := ⟨hok, hs, hc, hf, hkp⟩
        clear hI hl hown hc' hs hkM hkp hok hsb hlA hc
        go_wp2_with fail
        refine FA.mono ?_; rintro e w2 ⟨rfl, hk2⟩
        clear FA
        go_wp2
        go_ret3
        exact ⟨_, _, _, rfl, .inl ⟨rfl, k, s, HZ.out.1, HZ.out.2.1, HZ.out.2.2.1, HZ.out.2.2.2.1, rfl⟩, HZ.out.2.2.2.2.andNu (KA.andNu hk2)⟩
    · have hge : ¬ (k : Int) < (N : Int) := by omega
      obtain rfl : k = N := by omega
      obtain ⟨hok, hl, hown, hkp⟩ := hI.out
      rw [List.take_of_length_le (by rw [HN.out]; omega)] at hl hown
      have hokM : Lok M M.length := by rw [HN.out]; exact hok
      have hkM : (k : Int) ≤ 5864062014634 := by omega
      rcases List.eq_nil_or_concat (lays [] M) with e | ⟨A', t, e⟩
      · have hn0 : n = 0 := by rw [← hl, e]; rfl
        subst hn0
        have HZ : Hid (Lrs w wr lim M (.pointer none) (k : Int) 62 ∧ Kp Nu w wr) := ⟨.inr (.inl ⟨rfl, hokM, by rw [HN.out], .inl ⟨rfl, by rw [e]; rfl⟩⟩), hkp⟩
        clear hI hl hown hok hokM hkp e
        go_wp2
        go_ret3
        exact ⟨_, _, _, rfl, HZ.out.1, HZ.out.2⟩
      · rw [List.concat_eq_append] at e
        have hlt2 : (A' ++ [t])[A'.length]? = some t := by simp
        have hown2 : wr.ownsRow w.heap.size 38 3 (.slice adl n cpl) (A' ++ [t]).length (cells (A' ++ [t])) := by
          rw [← e, hl]; exact hown
        obtain ⟨r3, cap3, hu3, x0, x1, x2⟩ := row_at hown2 hlt2
        obtain ⟨q, hq⟩ : ∃ q, A'.length = q := ⟨_, rfl⟩
        rw [hq] at x1
        have hl3 : n = q + 1 := by rw [← hl, e, ← hq]; simp
        simp only [Value.slice.injEq] at hu3
        obtain ⟨rfl, hy1, hy2⟩ := hu3
        clear hy1 hy2
        have hend : endF (lays [] M) = (t.hi == 18446744073709551615) := by rw [e]; simp [endF]
        have hq0 : (((q : Int) + 1) == 0) = false := by simp; omega
        have hq8 : (q : Int) + 1 ≤ 5864062014634 := by omega
        have hq9 : (0 : Int) ≤ (q : Int) := by omega
        by_cases ht : t.hi = 18446744073709551615
        · rw [ht] at x1
          have hendt : endF (lays [] M) = true := by rw [hend, ht]; rfl
          by_cases hfl : (q : Int) + 1 > lim
          · have HZ : Hid (Lrs w wr lim M (.pointer none) (k : Int) 61 ∧ Kp Nu w wr) := ⟨.inr (.inl ⟨rfl, hokM, by rw [HN.out], .inr ⟨rfl, hendt, by rw [hl, hl3]; omega⟩⟩), hkp⟩
            have hfd : decide (lim < (q : Int) + 1) = true := decide_eq_true (by omega)
            subst hl3
            clear hI hl hown hown2 x0 x2 hlt2 e hq hok hokM hkp hend hendt ht
            go_wp2
            go_ret3
            exact ⟨_, _, _, rfl, HZ.out.1, HZ.out.2⟩
          · have hG : Good M := lok_good hokM hendt HB.out
            have HT : Hid (Tb w.heap.size (wr.alloc (.cells #[.int .i64 lim, .slice (some ⟨r3, 0, none⟩) n cpl] 133)) wr.heap.size lim (.slice (some ⟨r3, 0, none⟩) n cpl) (lays [] M) ∧ Kp Nu w (wr.alloc (.cells #[.int .i64 lim, .slice (some ⟨r3, 0, none⟩) n cpl] 133)) ∧ Lok M M.length ∧ endF (lays [] M) = true ∧ ((lays [] M).length : Int) ≤ lim) := by
              refine ⟨⟨heap_alloc_new wr _, hkp.size, ?_, hG.tab, by rw [hl, hl3]; omega, l2⟩, hkp.andAlloc _, hokM, hendt, by rw [hl, hl3]; omega⟩
              rw [hl]
              exact hown.alloc _
            have hfd : decide (lim < (q : Int) + 1) = false := decide_eq_false (by omega)
            subst hl3
            clear hI hl hown hown2 x0 x2 hlt2 e hq hok hokM hkp hend hendt ht hG
            go_wp2
            go_ret3
            exact ⟨_, _, _, rfl, .inr (.inr ⟨rfl, rfl, HT.out.2.2.1, HT.out.2.2.2.1, HT.out.2.2.2.2, _, _, rfl, HT.out.1⟩), HT.out.2.1⟩
        · have hendt : endF (lays [] M) = false := by rw [hend]; simpa using ht
          have HZ : Hid (Lrs w wr lim M (.pointer none) (k : Int) 62 ∧ Kp Nu w wr) := ⟨.inr (.inl ⟨rfl, hokM, by rw [HN.out], .inl ⟨rfl, hendt⟩⟩), hkp⟩
          have htb : (t.hi != 18446744073709551615) = true := by simpa using ht
          subst hl3
          clear hI hl hown hown2 x0 x2 hlt2 e hq hok hokM hkp hend hendt
          generalize t.hi = th at *
          go_wp2
          go_ret3
          exact ⟨_, _, _, rfl, HZ.out.1, HZ.out.2⟩
end Go.Proofs.YtbifmcadllilhaaGreat.Rg
namespace Go.Proofs.YtbifmcadllilhaaGreat.Rg
open Go.RowKit Go.Shelf Go.Sort
open Go.Proofs.YtbifmcadllilhaaGreat.It
set_option linter.unusedVariables false

/-- what the document's Fault answers -/
def Frs (M : List Sg) (p c : Int) : Prop :=
  (∃ k s, Lok M k ∧ M[k]? = some s ∧ flt (lays [] (M.take k)) s = c ∧ c ≠ 0 ∧ p = (k : Int)) ∨
  (Lok M M.length ∧ c = 62 ∧ endF (lays [] M) = false ∧ p = (M.length : Int)) ∨
  (c = 0 ∧ Lok M M.length ∧ endF (lays [] M) = true ∧ p = 0)
theorem flt_62 {A : List Sg} {s : Sg} (h : fol A s = false) : flt A s = 62 := by simp [flt, h]
theorem flt_60 {A : List Sg} {s : Sg} (h : fol A s = true) (h2 : s.hi < s.lo) : flt A s = 60 := by simp [flt, h, h2]
theorem flt_2 {A : List Sg} {s : Sg} (h : fol A s = true) (h2 : ¬ s.hi < s.lo) (h3 : 16 ≤ s.h) : flt A s = 2 := by simp [flt, h, h2, h3]
theorem flt_0 {A : List Sg} {s : Sg} (h : fol A s = true) (h2 : ¬ s.hi < s.lo) (h3 : ¬ 16 ≤ s.h) : flt A s = 0 := by simp [flt, h, h2, h3]
theorem fol_ne {A : List Sg} {s : Sg} {m : Int} (hc : Cov 0 A m) (h : s.lo ≠ m) : fol A s = false := by
  cases hf : fol A s with
  | false => rfl
  | true => exact absurd (fol_cov hc hf) h
theorem fol_eq {A : List Sg} {s : Sg} {m : Int} (hc : Cov 0 A m) (h : s.lo = m) : fol A s = true := by
  rcases List.eq_nil_or_concat A with rfl | ⟨A', t, rfl⟩
  · have e : (0 : Int) = m := hc
    simp only [fol, List.getLast?_nil, beq_iff_eq]
    omega
  · rw [List.concat_eq_append] at hc ⊢
    have hl := cov_last hc
    have hm := cov_mem hc t (by simp)
    simp only [fol, List.getLast?_append, List.getLast?_singleton, Option.some_or, Bool.and_eq_true, decide_eq_true_eq, beq_iff_eq]
    omega
theorem lok_step {M : List Sg} {k : Nat} {s : Sg} (h : Lok M k) (hs : M[k]? = some s) (hf : flt (lays [] (M.take k)) s = 0) : Lok M (k + 1) := fun i hi x hx => by
  by_cases e : i = k
  · subst e
    rw [hs] at hx
    cases hx
    exact hf
  · exact h i (by omega) x hx
theorem end_of {M : List Sg} {E : Int} (hc : Cov 0 M E) : endF (lays [] M) = decide (E = 18446744073709551616) := by
  have hc2 := (lays_cov (A := []) (a := 0) (m := 0) rfl hc).1
  rcases List.eq_nil_or_concat (lays [] M) with e | ⟨A', t, e⟩
  · rw [e] at hc2 ⊢
    have e2 : (0 : Int) = E := hc2
    have : ¬ E = 18446744073709551616 := by omega
    simp [endF, this]
  · rw [List.concat_eq_append] at e
    rw [e] at hc2 ⊢
    have hl := cov_last hc2
    simp only [endF, List.getLast?_append, List.getLast?_singleton, Option.some_or]
    by_cases h : E = 18446744073709551616
    · rw [decide_eq_true h]; simp; omega
    · rw [decide_eq_false h]; simp; omega

set_option maxRecDepth 100000 in
set_option maxHeartbeats 2000000 in
theorem fault_refA (w : World) (u : Value) (M : List Sg) (hM : Sgs w u M) (hlen : (M.length : Int) ≤ 5864062014634) :
    Calls Tryz.prog 24 #[u] w fun e w' => ∃ p c : Int, e = .returned (.tuple #[.int .i64 p, .int .i64 c]) ∧ Frs M p c ∧ Kp Nu w w' := by
  have mixed : Tryz.prog.follows .mixedOrders = true := by kernel_rfl
  obtain ⟨ad, cap, hu⟩ := hM.slice
  obtain ⟨N, hN⟩ : ∃ N, M.length = N := ⟨_, rfl⟩
  have HM := hide hM
  have HN := hide hN
  rw [hN] at hu hlen
  subst hu
  clear hM hN
  go_enter Tryz.func24, Tryz.ntmps24
  go_wp2_with fail
  go_loopw [4, 5, 6] (fun nx ov i wr => ∃ (k : Nat) (E : Int), i = .int .i64 (k : Int) ∧ k ≤ N ∧ nx = .int .u64 (if E = 18446744073709551616 then 0 else E) ∧ ov = .bool (decide (E = 18446744073709551616)) ∧ Hid (Lok M k ∧ 0 ≤ E ∧ E ≤ 18446744073709551616 ∧ Cov 0 (M.take k) E ∧ (∀ s ∈ M.take k, 0 ≤ s.h ∧ s.h < 16) ∧ Kp Nu w wr)) (fun _ _ i _ => N - (intOf i).toNat)
  case atStart => exact ⟨0, 0, rfl, Nat.zero_le _, by simp, by simp, ⟨fun i hi => by omega, by omega, by omega, rfl, by simp, Kp.refl _ _⟩⟩
  case round =>
    obtain ⟨k, E, rfl, hk, rfl, rfl, hI⟩ := hrel
    by_cases hlt : k < N
    · have hkM : k < M.length := by rw [HN.out]; exact hlt
      obtain ⟨s, hs⟩ : ∃ s, M[k]? = some s := ⟨_, List.getElem?_eq_getElem hkM⟩
      have hcell : ∃ bs off cp, (.slice ad N cap : Value) = .slice (some ⟨bs, off, none⟩) N cp ∧ SgAt w bs (off + k * 3) s := by
        rcases HM.out with ⟨_, h0⟩ | ⟨bs, off, cp, h0, h3⟩
        · rw [h0] at hs; simp at hs
        · rw [HN.out] at h0
          exact ⟨bs, off, cp, h0, h3 k s hs⟩
      obtain ⟨bs, off, cp, hq, hsg⟩ := hcell
      simp only [Value.slice.injEq] at hq
      obtain ⟨rfl, hq1⟩ := hq
      clear hq1
      obtain ⟨hok, E0, E1, hc, hh, hkp⟩ := hI.out
      have hcA := (lays_cov (A := []) (a := 0) (m := 0) rfl hc).1
      have HOK := hide hok
      have HS := hide hs
      clear hok
      obtain ⟨c0, c1, c2, F1⟩ := hsg
      replace c0 := cell_nu c0 hkp
      replace c1 := cell_nu c1 hkp
      replace c2 := cell_nu c2 hkp
      have hltI : (k : Int) < (N : Int) := by omega
      have hk0 : (0 : Int) ≤ (k : Int) := by omega
      have HK := hide hkp
      have HTK : Hid (M.take (k + 1) = M.take k ++ [s]) := by
        show _ = _
        rw [List.take_add_one, hs]; rfl
      by_cases hE : E = 18446744073709551616
      · rw [if_pos hE, decide_eq_true hE]
        have HFL : Hid (flt (lays [] (M.take k)) s = 62) := flt_62 (fol_ne hcA (by omega))
        clear hI hc hh hkp hs hkM hcA
        go_wp2
        go_ret2
        exact ⟨_, _, rfl, .inl ⟨k, s, HOK.out, HS.out, HFL.out, by omega, rfl⟩, HK.out⟩
      rw [if_neg hE, decide_eq_false hE]
      by_cases hlo : s.lo = E
      · have y1 : (s.lo != E) = false := by simp [hlo]
        have y1' : (E != E) = false := by simp
        by_cases hgt : s.lo > s.hi
        · have hgd : decide (s.hi < s.lo) = true := decide_eq_true hgt
          have d0 : wr.drew.cell? ⟨bs, off + k * 3, none⟩ = some (.int .u64 s.lo) := c0
          have d1 : wr.drew.cell? ⟨bs, off + k * 3 + 1, none⟩ = some (.int .u64 s.hi) := c1
          have HK2 : Hid (Kp Nu w wr.drew) := HK.out.drew
          have HFL : Hid (flt (lays [] (M.take k)) s = 60) := flt_60 (fol_eq hcA hlo) (by omega)
          clear hI hc hh hkp hs hkM hlo hcA
          go_wp2_with fail
          go_region
          go_wp2
          go_ret2
          exact ⟨_, _, rfl, .inl ⟨k, s, HOK.out, HS.out, HFL.out, by omega, rfl⟩, HK2.out⟩
        · have hgd : decide (s.hi < s.lo) = false := decide_eq_false hgt
          have d0 : wr.drew.cell? ⟨bs, off + k * 3, none⟩ = some (.int .u64 s.lo) := c0
          have d1 : wr.drew.cell? ⟨bs, off + k * 3 + 1, none⟩ = some (.int .u64 s.hi) := c1
          have d2 : wr.drew.cell? ⟨bs, off + k * 3 + 2, none⟩ = some (.int .u8 s.h) := c2
          have HK2 : Hid (Kp Nu w wr.drew) := HK.out.drew
          have RH := refHost_any s.h wr.drew
          by_cases hho : s.h ≤ 15
          · rw [decide_eq_true hho] at RH
            have HF : Hid (Lok M (k + 1) ∧ 0 ≤ s.hi + 1 ∧ s.hi + 1 ≤ 18446744073709551616 ∧ Cov 0 (M.take (k + 1)) (s.hi + 1) ∧ (∀ t ∈ M.take (k + 1), 0 ≤ t.h ∧ t.h < 16) ∧ Kp Nu w wr.drew) := by
              refine ⟨lok_step HOK.out HS.out (flt_0 (fol_eq hcA hlo) (by omega) (by omega)), by omega, by omega, ?_, ?_, HK2.out⟩
              · rw [HTK.out]; exact cov_snoc hc hlo (by omega)
              · rw [HTK.out]; intro t ht
                rcases List.mem_append.1 ht with h | h
                · exact hh t h
                · simp at h; subst h; omega
            have hwp : IntKind.u64.wrap (s.hi + 1) = if s.hi + 1 = 18446744073709551616 then 0 else s.hi + 1 := by
              rw [IntKind.wrap_u64]; split <;> omega
            have hov : (s.hi == 18446744073709551615) = decide (s.hi + 1 = 18446744073709551616) := by
              by_cases e : s.hi = 18446744073709551615
              · simp [e]
              · have : ¬ s.hi + 1 = 18446744073709551616 := by omega
                simp [e, this]
            have HWP := hide (And.intro hwp hov)
            clear hI hc hh hkp hs hkM hlo hwp hov hcA
            go_wp2_with fail
            go_region
            go_wp2_with fail
            refine RH.mono ?_; rintro e w2 ⟨rfl, hw2⟩
            obtain rfl := hw2.symm
            clear RH hw2
            go_wp2
            go_roundw
            case rel => exact ⟨k + 1, s.hi + 1, by go_num, by omega, by first | rw [HWP.out.1] | (rw [← HWP.out.1]), by rw [HWP.out.2], HF⟩
            case measure => simp [intOf]; omega
          · rw [decide_eq_false hho] at RH
            have HFL : Hid (flt (lays [] (M.take k)) s = 2) := flt_2 (fol_eq hcA hlo) (by omega) (by omega)
            clear hI hc hh hkp hs hkM hlo hcA
            go_wp2_with fail
            go_region
            go_wp2_with fail
            refine RH.mono ?_; rintro e w2 ⟨rfl, hw2⟩
            obtain rfl := hw2.symm
            clear RH hw2
            go_wp2
            go_ret2
            exact ⟨_, _, rfl, .inl ⟨k, s, HOK.out, HS.out, HFL.out, by omega, rfl⟩, HK2.out⟩
      · have y1 : (s.lo != E) = true := by simp [hlo]
        have HFL : Hid (flt (lays [] (M.take k)) s = 62) := flt_62 (fol_ne hcA hlo)
        clear hI hc hh hkp hs hkM hcA
        go_wp2
        go_ret2
        exact ⟨_, _, rfl, .inl ⟨k, s, HOK.out, HS.out, HFL.out, by omega, rfl⟩, HK.out⟩
    · have hge : ¬ (k : Int) < (N : Int) := by omega
      obtain rfl : k = N := by omega
      obtain ⟨hok, E0, E1, hc, hh, hkp⟩ := hI.out
      have HOK : Hid (Lok M M.length) := by show Lok M M.length; rw [HN.out]; exact hok
      clear hok
      rw [List.take_of_length_le (by rw [HN.out]; omega)] at hc hh
      have HK := hide hkp
      by_cases hE : E = 18446744073709551616
      · subst hE
        have HG : Hid (endF (lays [] M) = true) := by show _ = _; rw [end_of hc]; rfl
        clear hI hc hh hkp
        simp only [if_true, decide_true]
        go_wp2
        go_ret2
        exact ⟨_, _, rfl, .inr (.inr ⟨rfl, HOK.out, HG.out, rfl⟩), HK.out⟩
      · rw [if_neg hE, decide_eq_false hE]
        have HG : Hid (endF (lays [] M) = false) := by show _ = _; rw [end_of hc]; exact decide_eq_false hE
        clear hI hc hh hkp
        go_wp2
        go_ret2
        exact ⟨_, _, rfl, .inr (.inl ⟨HOK.out, rfl, HG.out, by rw [HN.out]⟩), HK.out⟩
end Go.Proofs.YtbifmcadllilhaaGreat.Rg
namespace Go.Proofs.YtbifmcadllilhaaGreat.Rg
open Go.RowKit Go.Shelf Go.Sort
open Go.Proofs.YtbifmcadllilhaaGreat.It
set_option linter.unusedVariables false

theorem unhid {p : Prop} (h : Hid p) : p := h

end Go.Proofs.YtbifmcadllilhaaGreat.Rg
namespace Go.Proofs.YtbifmcadllilhaaGreat.Rg
open Go.RowKit Go.Shelf Go.Sort
open Go.Proofs.YtbifmcadllilhaaGreat.It
set_option linter.unusedVariables false

theorem lok_no {M : List Sg} {k : Nat} {s : Sg} {n : Nat} (h : Lok M n) (hk : k < n) (hs : M[k]? = some s) (hf : flt (lays [] (M.take k)) s ≠ 0) : False := hf (h k hk s hs)
/-- the document's code, of what its Fault says -/
def refC (lim : Int) (M : List Sg) (f : Int) : Int := if f ≠ 0 then f else if lim < ((lays [] M).length : Int) then 61 else 0
/-- both answer the same -/
theorem code_same {w w' : World} {lim : Int} {M : List Sg} {p : Value} {i c p' f : Int} (h : Lrs w w' lim M p i c) (g : Frs M p' f) : c = refC lim M f := by
  unfold refC
  rcases h with ⟨_, k, s, h1, h2, h3, h4, _⟩ | ⟨_, h1, _, h2⟩ | ⟨h0, _, h1, h2, h3, _⟩
  · have hk : k < M.length := (List.getElem?_eq_some_iff.1 h2).1
    rcases g with ⟨k', s', g1, g2, g3, g4, _⟩ | ⟨g1, _⟩ | ⟨_, g1, _⟩
    · have hk' : k' < M.length := (List.getElem?_eq_some_iff.1 g2).1
      have e : k = k' := by
        rcases Nat.lt_trichotomy k k' with l | l | l
        · exact (lok_no g1 l h2 (by rw [h3]; exact h4)).elim
        · exact l
        · exact (lok_no h1 l g2 (by rw [g3]; exact g4)).elim
      subst e
      rw [h2] at g2
      cases g2
      rw [if_pos g4, ← g3, h3]
    · exact (lok_no g1 hk h2 (by rw [h3]; exact h4)).elim
    · exact (lok_no g1 hk h2 (by rw [h3]; exact h4)).elim
  · rcases g with ⟨k', s', g1, g2, g3, g4, _⟩ | ⟨g1, g2, g3, _⟩ | ⟨g0, g1, g2, _⟩
    · exact (lok_no h1 (List.getElem?_eq_some_iff.1 g2).1 g2 (by rw [g3]; exact g4)).elim
    · rcases h2 with ⟨rfl, _⟩ | ⟨_, h2, _⟩
      · rw [if_pos (by omega), g2]
      · rw [g3] at h2; cases h2
    · rcases h2 with ⟨_, h2⟩ | ⟨rfl, _, h3⟩
      · rw [g2] at h2; cases h2
      · rw [if_neg (by omega), if_pos h3]
  · rcases g with ⟨k', s', g1, g2, g3, g4, _⟩ | ⟨g1, g2, g3, _⟩ | ⟨g0, g1, g2, _⟩
    · exact (lok_no h1 (List.getElem?_eq_some_iff.1 g2).1 g2 (by rw [g3]; exact g4)).elim
    · rw [g3] at h2; cases h2
    · rw [if_neg (by omega), if_neg (by omega), h0]

set_option maxRecDepth 100000 in
set_option maxHeartbeats 1000000 in
theorem load_lim (w : World) (ad : Option Addr) (n cap : Nat) (lim : Int) (hl : ¬ (1 ≤ lim ∧ lim ≤ 8192)) :
    Calls Tryz.prog 52 #[.slice ad n cap, .int .i64 lim] w fun e w' => e = .returned (.tuple #[.pointer none, .int .i64 0, .int .i64 63]) ∧ Kp Nu w w' := by
  have LI := limit_bad lim w hl
  clear hl
  go_enter Tryz.func52, Tryz.ntmps52
  go_wp2_with fail
  refine LI.mono ?_; rintro e w1 ⟨rfl, hw1⟩
  obtain rfl := hw1.symm
  clear LI hw1
  go_wp2
  go_ret3
  exact ⟨rfl, Kp.refl _ _⟩
/-- what Load answers -/
def Lrt (w w' : World) (lim : Int) (M : List Sg) (p : Value) (c : Int) : Prop := (¬ (1 ≤ lim ∧ lim ≤ 8192) ∧ p = .pointer none ∧ c = 63) ∨ ((1 ≤ lim ∧ lim ≤ 8192) ∧ ∃ i, Lrs w w' lim M p i c)
theorem Lrt.ptr {w w' : World} {lim : Int} {M : List Sg} {p : Value} {c : Int} (h : Lrt w w' lim M p c) : (p = .pointer none ∧ c ≠ 0) ∨ (c = 0 ∧ ∃ b, p = .pointer (some ⟨b, 0, none⟩)) := by
  rcases h with ⟨_, h1, h2⟩ | ⟨_, i, ⟨h1, _, _, _, _, _, h2, _⟩ | ⟨h1, _, _, ⟨h2, _⟩ | ⟨h2, _⟩⟩ | ⟨h1, _, _, _, _, b, v, h2, _⟩⟩
  · exact .inl ⟨h1, by omega⟩
  · exact .inl ⟨h1, h2⟩
  · exact .inl ⟨h1, by omega⟩
  · exact .inl ⟨h1, by omega⟩
  · exact .inr ⟨h1, b, h2⟩
set_option maxRecDepth 100000 in
set_option maxHeartbeats 1000000 in
theorem Load_any (w : World) (u : Value) (M : List Sg) (hrd : Rz w u M) (hb : ∀ s ∈ M, SgB s) (hM : M.length ≤ 5864062014634) (lim : Int) :
    Calls Tryz.prog 30 #[u, .int .i64 lim] w fun e w' => ∃ p c, e = .returned (.tuple #[p, .int .i64 c]) ∧ Lrt w w' lim M p c ∧ Kp Nu w w' := by
  obtain ⟨ad, cap, hu⟩ := hrd.slice
  by_cases hl : 1 ≤ lim ∧ lim ≤ 8192
  · have LO := load_any w u M hrd hb hM lim hl.1 hl.2
    generalize M.length = N at hu hM
    subst hu
    clear hrd hb
    go_enter Tryz.func30, Tryz.ntmps30
    go_wp2_with fail
    refine LO.mono ?_; rintro e w2 ⟨p, i, c, rfl, hL, hk⟩
    have HL := hide (And.intro hL hk)
    clear LO hL hk
    go_wp2
    go_ret2
    exact ⟨_, _, rfl, .inr ⟨hl, i, HL.out.1⟩, HL.out.2⟩
  · generalize M.length = N at hu hM
    subst hu
    have LO := load_lim w ad N cap lim hl
    clear hrd hb
    go_enter Tryz.func30, Tryz.ntmps30
    go_wp2_with fail
    refine LO.mono ?_; rintro e w2 ⟨rfl, hk⟩
    have HL := hide hk
    clear LO hk
    go_wp2
    go_ret2
    exact ⟨_, _, rfl, .inl ⟨hl, rfl, rfl⟩, HL.out⟩
end Go.Proofs.YtbifmcadllilhaaGreat.Rg
namespace Go.Proofs.YtbifmcadllilhaaGreat.Rg
open Go.RowKit Go.Shelf Go.Sort
open Go.Proofs.YtbifmcadllilhaaGreat.It
set_option linter.unusedVariables false

/-- what the document's Load answers -/
def Rrs (w w' : World) (lim : Int) (M : List Sg) (L : Int) (v : Value) (f : Int) : Prop :=
  (¬ (1 ≤ lim ∧ lim ≤ 8192) ∧ f = 63 ∧ L = 0 ∧ v = .slice none 0 0) ∨
  ((1 ≤ lim ∧ lim ≤ 8192) ∧ ∃ p f', Frs M p f' ∧ f = refC lim M f' ∧ ((f ≠ 0 ∧ L = 0 ∧ v = .slice none 0 0) ∨ (f = 0 ∧ L = lim ∧ w'.ownsRow w.heap.size 38 3 v (lays [] M).length (cells (lays [] M)))))

theorem cell2' {w : World} {b : Nat} {x0 x1 : Value} {t : TypeId} (h : w.heap[b]? = some (.cells #[x0, x1] t (0, 0))) : w.cell? ⟨b, 0, none⟩ = some x0 ∧ w.cell? ⟨b, 1, none⟩ = some x1 := by
  refine ⟨?_, ?_⟩ <;> simp [World.cell?, h]

end Go.Proofs.YtbifmcadllilhaaGreat.Rg
