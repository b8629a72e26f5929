import Derived.Test.YtbifmcadllilhaaPdK
import Derived.Test.YtbifmcadllilhaaPpE
namespace Go.Proofs.Ytbifmcadllilhaa.Pn
open Go.RowKit Go.Shelf Go.Sort
set_option linter.unusedVariables false
/-- the first of the greatest that are above 0; -1: none -/
def Gst (l : List Int) (r : Int) : Prop := (r = -1 ∧ ∀ (j : Nat) y, l[j]? = some y → y ≤ 0) ∨ ∃ (k : Nat) (x : Int), r = (k : Int) ∧ l[k]? = some x ∧ 0 < x ∧ ∀ (j : Nat) y, l[j]? = some y → y ≤ x ∧ (y = x → k ≤ j)
theorem get_snoc {l : List Int} {y : Int} {j : Nat} {z : Int} (h : (l ++ [y])[j]? = some z) : l[j]? = some z ∨ (j = l.length ∧ z = y) := by
  by_cases e : j < l.length
  · rw [List.getElem?_append_left e] at h; exact .inl h
  · rw [List.getElem?_append_right (by omega)] at h
    rcases Nat.eq_zero_or_pos (j - l.length) with e0 | e0
    · rw [e0] at h
      simp only [List.getElem?_cons_zero, Option.some.injEq] at h
      exact .inr ⟨by omega, h.symm⟩
    · rw [List.getElem?_eq_none (by simp; omega)] at h; cases h
theorem Gst.low {l : List Int} {r y : Int} (h : Gst l r) (hy : y ≤ 0) : Gst (l ++ [y]) r := by
  rcases h with ⟨h1, h2⟩ | ⟨k, x, h1, h2, h3, h4⟩
  · refine .inl ⟨h1, fun j z hz => ?_⟩
    rcases get_snoc hz with h | ⟨_, rfl⟩
    · exact h2 j z h
    · exact hy
  · have hk : k < l.length := by
      rcases Nat.lt_or_ge k l.length with h | h
      · exact h
      · rw [List.getElem?_eq_none h] at h2; cases h2
    refine .inr ⟨k, x, h1, by rw [List.getElem?_append_left hk]; exact h2, h3, fun j z hz => ?_⟩
    rcases get_snoc hz with h | ⟨_, rfl⟩
    · exact h4 j z h
    · omega
theorem Gst.less {l : List Int} {k : Nat} {x y : Int} (h : Gst l (k : Int)) (hx : l[k]? = some x) (hy : y ≤ x) : Gst (l ++ [y]) (k : Int) := by
  rcases h with ⟨h1, _⟩ | ⟨k', x', h1, h2, h3, h4⟩
  · omega
  · obtain rfl : k = k' := by omega
    rw [hx] at h2
    cases h2
    have hk : k < l.length := by
      rcases Nat.lt_or_ge k l.length with h | h
      · exact h
      · rw [List.getElem?_eq_none h] at hx; cases hx
    refine .inr ⟨k, x, rfl, by rw [List.getElem?_append_left hk]; exact hx, h3, fun j z hz => ?_⟩
    rcases get_snoc hz with h | ⟨rfl, rfl⟩
    · exact h4 j z h
    · exact ⟨hy, fun _ => by omega⟩
theorem Gst.more {l : List Int} {r y : Int} (h : Gst l r) (hy : 0 < y) (hr : ∀ (k : Nat) x, r = (k : Int) → l[k]? = some x → x < y) : Gst (l ++ [y]) (l.length : Int) := by
  refine .inr ⟨l.length, y, rfl, by rw [List.getElem?_append_right (Nat.le_refl _)]; simp, hy, fun j z hz => ?_⟩
  rcases get_snoc hz with q | ⟨rfl, rfl⟩
  · rcases h with ⟨h1, h2⟩ | ⟨k, x, h1, h2, h3, h4⟩
    · have := h2 j z q; omega
    · have := hr k x h1 h2
      have := (h4 j z q).1
      omega
  · exact ⟨Int.le_refl _, fun _ => Nat.le_refl _⟩
set_option maxRecDepth 100000 in
set_option maxHeartbeats 1000000 in
theorem greatest52 (w : World) (u : Value) (l : List Int) (hu : Ns w u l) (hl : l.length ≤ 100000) :
    Calls Try.prog 52 #[u] w fun e w' => ∃ r, e = .returned (.int .i64 r) ∧ Gst l r ∧ Kp Nu w w' := by
  have mixed : Try.prog.follows .mixedOrders = true := by kernel_rfl
  obtain ⟨a1, c1, rfl, _, _⟩ := id hu
  obtain ⟨N, eN⟩ : ∃ N, l.length = N := ⟨_, rfl⟩
  have HU := hide (And.intro hu eN)
  rw [eN] at hl ⊢
  have hNI : (N : Int) ≤ 100000 := by omega
  clear hu eN hl
  go_enter Try.func52, Try.ntmps52
  go_wp2_with fail
  go_loopw [3, 4] (fun bv iv wr => ∃ (i : Nat) (r : Int), iv = .int .i64 (i : Int) ∧ bv = .int .i64 r ∧ i ≤ N ∧ Hid (Gst (l.take i) r ∧ Kp Nu w wr)) (fun _ iv _ => N - (intOf iv).toNat)
  case atStart => exact ⟨0, -1, rfl, rfl, Nat.zero_le _, hide ⟨.inl ⟨rfl, fun j y hy => by simp at hy⟩, Kp.refl _ _⟩⟩
  case round =>
    obtain ⟨i, r, rfl, rfl, hi, hI⟩ := hrel
    have hi0 : (0 : Int) ≤ (i : Int) := by omega
    by_cases hlt : i < N
    · have hltI : (i : Int) < (N : Int) := by omega
      obtain ⟨x, hx⟩ : ∃ x, l[i]? = some x := ⟨_, List.getElem?_eq_getElem (by rw [HU.out.2]; exact hlt)⟩
      obtain ⟨b1, rfl, k1⟩ := (HU.out.1.nu hI.out.2).at_ hx
      have eti : (i : Int).toNat = i := by omega
      have htk : l.take (i + 1) = l.take i ++ [x] := by rw [List.take_add_one, hx]; rfl
      have hti : (l.take i).length = i := by rw [List.length_take, HU.out.2]; omega
      have HX := hide (And.intro hx (And.intro htk hti))
      clear hx htk hti
      by_cases q1 : x > 0
      · have d1 : decide (x > 0) = true := by simpa using q1
        by_cases q2 : r < 0
        · have d2 : decide (r < 0) = true := by simpa using q2
          have HG : Hid (Gst (l.take (i + 1)) (i : Int)) := hide (by
            have h := hI.out.1.more q1 (fun k y e => by omega)
            rw [HX.out.2.2] at h
            rw [HX.out.2.1]; exact h)
          clear q1 q2
          go_wp2_with fail
          go_quiet (fail)
          go_wp2
          exact ⟨⟨i + 1, (i : Int), by go_num, rfl, by omega, hide ⟨HG.out, hI.out.2.andNu (kp_dn _ _)⟩⟩, by simp [intOf]; omega⟩
        · have d2 : decide (r < 0) = false := by simpa using q2
          obtain ⟨k, z, rfl, hz, hz0, hmx⟩ : ∃ (k : Nat) (z : Int), r = (k : Int) ∧ (l.take i)[k]? = some z ∧ 0 < z ∧ True := by
            rcases hI.out.1 with ⟨h1, _⟩ | ⟨k, z, h1, h2, h3, _⟩
            · omega
            · exact ⟨k, z, h1, h2, h3, trivial⟩
          have hki : k < i := by
            rcases Nat.lt_or_ge k i with h | h
            · exact h
            · rw [List.getElem?_eq_none (by rw [HX.out.2.2]; exact h)] at hz; cases hz
          have hz' : l[k]? = some z := by rw [List.getElem?_take_of_lt hki] at hz; exact hz
          obtain ⟨b2, e2, k2⟩ := (HU.out.1.nu hI.out.2).at_ hz'
          cases e2
          have etk : (k : Int).toNat = k := by omega
          have hk0 : (0 : Int) ≤ (k : Int) := by omega
          have hkN : (k : Int) < (N : Int) := by omega
          by_cases q3 : x > z
          · have d3 : decide (x > z) = true := by simpa using q3
            have HG : Hid (Gst (l.take (i + 1)) (i : Int)) := hide (by
              have h := hI.out.1.more q1 (fun k' y e hy => by
                have ek : k' = k := by omega
                rw [ek, hz] at hy; cases hy; exact q3)
              rw [HX.out.2.2] at h
              rw [HX.out.2.1]; exact h)
            clear q1 q2 q3 hz hz'
            go_wp2_with fail
            go_quiet (fail)
            go_wp2
            exact ⟨⟨i + 1, (i : Int), by go_num, rfl, by omega, hide ⟨HG.out, hI.out.2.andNu (kp_dn _ _)⟩⟩, by simp [intOf]; omega⟩
          · have d3 : decide (x > z) = false := by simpa using q3
            have HG : Hid (Gst (l.take (i + 1)) (k : Int)) := hide (by
              rw [HX.out.2.1]; exact hI.out.1.less hz (by omega))
            clear q1 q2 q3 hz hz'
            go_wp2_with fail
            go_quiet (fail)
            go_wp2
            exact ⟨⟨i + 1, (k : Int), by go_num, rfl, by omega, hide ⟨HG.out, hI.out.2.andNu (kp_dn _ _)⟩⟩, by simp [intOf]; omega⟩
      · have d1 : decide (x > 0) = false := by simpa using q1
        have HG : Hid (Gst (l.take (i + 1)) r) := hide (by rw [HX.out.2.1]; exact hI.out.1.low (by omega))
        clear q1
        go_wp2_with fail
        go_quiet (fail)
        go_wp2
        exact ⟨⟨i + 1, r, by go_num, rfl, by omega, hide ⟨HG.out, hI.out.2.andNu (kp_dn _ _)⟩⟩, by simp [intOf]; omega⟩
    · have hge : ¬ (i : Int) < (N : Int) := by omega
      obtain rfl : N = i := by omega
      have e : l.take N = l := by rw [← HU.out.2, List.take_length]
      rw [e] at hI
      go_wp2
      go_ret
      exact ⟨r, rfl, hI.out.1, hI.out.2⟩
end Go.Proofs.Ytbifmcadllilhaa.Pn
namespace Go.Proofs.Ytbifmcadllilhaa.Rg
open Go.RowKit Go.Shelf Go.Sort
open Go.Proofs.Ytbifmcadllilhaa.It
set_option linter.unusedVariables false
theorem new_two (w : World) (A B : Obj) {W : World} (h : (w.alloc A).alloc B = W) : Kp Nu w W ∧ W.heap[w.heap.size]? = some A ∧ W.heap[w.heap.size + 1]? = some B := by
  subst h
  refine ⟨(Kp.alloc w _ Nu).andAlloc _, (Below.heap_alloc _ _ _ (by simp)).trans (heap_alloc_new w _), ?_⟩
  have h := heap_alloc_new (w.alloc A) B
  rw [World.size_alloc] at h
  exact h
set_option maxRecDepth 100000 in
set_option maxHeartbeats 2000000 in
theorem segAt73 (w : World) (u : Value) (L : List Sg) (lim : Int) (hu : Sgs w u L) (hT : Tab L) (hl : L.length ≤ 100000) (key : Int) (k0 : 0 ≤ key) (k1 : key < 18446744073709551616) (s : Sg) (hs : L[plc L key]? = some s) :
    Calls Try.prog 73 #[.agg #[.int .i64 lim, u], .int .u64 key] w fun e w' => e = .returned (.agg #[.int .u64 s.lo, .int .u64 s.hi, .int .u8 s.h]) ∧ Kp Nu w w' := by
  have mixed : Try.prog.follows .mixedOrders = true := by kernel_rfl
  obtain ⟨ad, cap, e1⟩ := hu.slice
  obtain ⟨N, hN⟩ : ∃ N, L.length = N := ⟨_, rfl⟩
  rw [hN] at e1 hl
  have HN := hide hN
  obtain ⟨w1, hw1⟩ : ∃ w1, (w.alloc (.cells #[.int .i64 lim, u] 76)).alloc (.cells #[.int .u64 0, .int .u64 0, .int .u8 0] 82) = w1 := ⟨_, rfl⟩
  obtain ⟨K1, b1, b2⟩ := new_two w _ _ hw1
  have HK1 := hide K1
  have HB1 := hide b1
  have HB2 := hide b2
  obtain ⟨_, cb0⟩ := cell2' b1
  have HT := hide hT
  have HS := hide hs
  have HC := hide (hu.nu K1)
  have hpN : plc L key < N := by rw [← hN]; exact hT.plc_lt k0 k1
  have hNI : (N : Int) ≤ 100000 := by omega
  subst e1
  clear hu hN K1 b1 b2 hT hs
  go_enter Try.func73, Try.ntmps73
  go_wp2_with fail
  go_loopw [5] (fun i wr => ∃ k : Nat, i = .int .i64 (k : Int) ∧ k ≤ plc L key ∧ wr = w1) (fun i _ => N - (intOf i).toNat)
  case atStart => exact ⟨0, rfl, Nat.zero_le _, rfl⟩
  case round =>
    obtain ⟨k, rfl, hk, rfl⟩ := hrel
    have hkN : k < N := by omega
    have hkL : k < L.length := by rw [HN.out]; exact hkN
    obtain ⟨t, ht⟩ : ∃ t, L[k]? = some t := ⟨_, List.getElem?_eq_getElem hkL⟩
    obtain ⟨bb, oo, rfl, kk⟩ := HC.out.at_ ht
    obtain ⟨c0, c1, c2, hf⟩ := kk
    have hltI : (k : Int) < (N : Int) := by omega
    have hkz : (0 : Int) ≤ (k : Int) := by omega
    have etk : (k : Int).toNat = k := by omega
    have hiff := plc_iff (k := key) HT.out.cov k t ht
    obtain ⟨s', hs', q1, q2, q3, q4⟩ := plc_facts (k := key) HT.out.cov k0 k1
    clear q3 q4 hf
    rw [HS.out] at hs'
    obtain rfl := Option.some.inj hs'
    by_cases hkp : k = plc L key
    · subst hkp
      obtain rfl := Option.some.inj (ht.symm.trans HS.out)
      have f0 := free3 HB2.out 0
      have f1 := free3 HB2.out 1
      have f2 := free3 HB2.out 2
      obtain ⟨g0, g1, g2⟩ := cell3 HB2.out
      clear ht hs' hiff
      go_wp2
      have hb1 : (wr.setCell ⟨w.heap.size + 1, 0, none⟩ (.int .u64 t.lo)).heap[w.heap.size + 1]? = some (.cells #[.int .u64 t.lo, .int .u64 0, .int .u8 0] 82 (0, 0)) := set3 HB2.out 0 _
      have hb2 : ((wr.setCell ⟨w.heap.size + 1, 0, none⟩ (.int .u64 t.lo)).setCell ⟨w.heap.size + 1, 1, none⟩ (.int .u64 t.hi)).heap[w.heap.size + 1]? = some (.cells #[.int .u64 t.lo, .int .u64 t.hi, .int .u8 0] 82 (0, 0)) := set3 hb1 1 _
      have hb3 : (((wr.setCell ⟨w.heap.size + 1, 0, none⟩ (.int .u64 t.lo)).setCell ⟨w.heap.size + 1, 1, none⟩ (.int .u64 t.hi)).setCell ⟨w.heap.size + 1, 2, none⟩ (.int .u8 t.h)).heap[w.heap.size + 1]? = some (.cells #[.int .u64 t.lo, .int .u64 t.hi, .int .u8 t.h] 82 (0, 0)) := set3 hb2 2 _
      have z0 := (cell3 hb1).1
      have z1 := (cell3 hb2).2.1
      have z2 := (cell3 hb2).1
      obtain ⟨y0, y1, y2⟩ := cell3 hb3
      exact bodyPost_ret (v := .agg #[.int .u64 t.lo, .int .u64 t.hi, .int .u8 t.h]) (by simp [results, Try.results73, go_sem, y0, y1, y2]) rfl ⟨rfl, ((HK1.out.andSet _ _ (.inl (by simp))).andSet _ _ (.inl (by simp))).andSet _ _ (.inl (by simp))⟩
    · have hlt2 : k < plc L key := by omega
      have hgt : ¬ key ≤ t.hi := fun h => by have := hiff.1 h; omega
      have hlo : t.lo ≤ key := by
        have h1 := (cov_mem HT.out.cov t (List.mem_of_getElem? ht)).2.1
        omega
      clear ht hs' hiff
      go_wp2
      exact ⟨⟨k + 1, by go_num, by omega, trivial⟩, by simp [intOf]; omega⟩
end Go.Proofs.Ytbifmcadllilhaa.Rg
