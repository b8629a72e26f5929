import Derived.Test.YtbifmcadllilhaaGreatPwA
import Derived.Test.YtbifmcadllilhaaGreatPvF
import Derived.StillTailTactics
namespace Go.Proofs.YtbifmcadllilhaaGreat.Rg
open Go.RowKit Go.Shelf Go.Sort
open Go.Proofs.YtbifmcadllilhaaGreat.It
set_option linter.unusedVariables false
theorem lds_nil (n : Nat) : Pn.lds n [] = List.replicate n 0 := by
  unfold Pn.lds
  rw [List.eq_replicate_iff]
  refine ⟨by simp, fun b hb => ?_⟩
  obtain ⟨q, _, e⟩ := List.mem_map.1 hb
  rw [← e]; rfl
theorem lds_set (a : List Int) {n q : Nat} (hq : q < n) : (Pn.lds n a).set q (Pn.cnt a q + 1) = Pn.lds n (a ++ [(q : Int)]) := by
  apply List.ext_getElem?
  intro j
  rw [List.getElem?_set, Pn.lds_len]
  unfold Pn.lds
  rw [List.getElem?_map, List.getElem?_map]
  by_cases hj : j < n
  · rw [List.getElem?_range hj]
    simp only [Option.map_some]
    rw [Pn.cnt_snoc]
    by_cases e : q = j
    · subst e
      rw [if_pos rfl, if_pos hq, if_pos rfl]
    · rw [if_neg e, if_neg (by omega), Int.add_zero]
  · rw [List.getElem?_eq_none (by simp; omega), if_neg (by omega)]
    rfl
theorem zero_rowB (f : Nat → Int) (N : Nat) : (madeCells (Value.int .i64 0).cells (N * 1)).toList = Pn.ics (fil f N 0) := by
  rw [fil_zero]
  unfold Pn.ics
  rw [List.map_replicate]
  simp only [madeCells, Value.cells]
  simp [Nat.mod_one, List.map_const']
set_option maxRecDepth 100000 in
set_option maxHeartbeats 2000000 in
theorem segAt73c (w : World) (u : Value) (L : List Sg) (lim : Int) (hu : Sgs w u L) (hT : Cov 0 L 18446744073709551616) (hl : L.length ≤ 100000) (key : Int) (k0 : 0 ≤ key) (k1 : key < 18446744073709551616) (s : Sg) (hs : L[plc L key]? = some s) :
    Calls Tryz.prog 11 #[.agg #[.int .i64 lim, u], .int .u64 key] w fun e w' => e = .returned (.agg #[.int .u64 s.lo, .int .u64 s.hi, .int .u8 s.h]) ∧ Kp Nu w w' := by
  have mixed : Tryz.prog.follows .mixedOrders = true := by kernel_rfl
  obtain ⟨ad, cap, e1⟩ := hu.slice
  obtain ⟨N, hN⟩ : ∃ N, L.length = N := ⟨_, rfl⟩
  rw [hN] at e1 hl
  have HN := hide hN
  obtain ⟨w1, hw1⟩ : ∃ w1, (w.alloc (.cells #[.int .i64 lim, u] 35)).alloc (.cells #[.int .u64 0, .int .u64 0, .int .u8 0] 38) = w1 := ⟨_, rfl⟩
  obtain ⟨K1, b1, b2⟩ := new_two w _ _ hw1
  have HK1 := hide K1
  have HB1 := hide b1
  have HB2 := hide b2
  obtain ⟨_, cb0⟩ := cell2' b1
  have HT := hide hT
  have HS := hide hs
  have HC := hide (hu.nu K1)
  have hpN : plc L key < N := by rw [← hN]; obtain ⟨_, _, _, _, _, e⟩ := plc_facts hT k0 k1; exact e
  have hNI : (N : Int) ≤ 100000 := by omega
  subst e1
  clear hu hN K1 b1 b2 hT hs
  go_enter Tryz.func11, Tryz.ntmps11
  go_wp2_with fail
  go_loopw [5] (fun i wr => ∃ k : Nat, i = .int .i64 (k : Int) ∧ k ≤ plc L key ∧ wr = w1) (fun i _ => N - (intOf i).toNat)
  case atStart => exact ⟨0, rfl, Nat.zero_le _, rfl⟩
  case round =>
    obtain ⟨k, rfl, hk, rfl⟩ := hrel
    have hkN : k < N := by omega
    have hkL : k < L.length := by rw [HN.out]; exact hkN
    obtain ⟨t, ht⟩ : ∃ t, L[k]? = some t := ⟨_, List.getElem?_eq_getElem hkL⟩
    obtain ⟨bb, oo, rfl, kk⟩ := HC.out.at_ ht
    obtain ⟨c0, c1, c2, hf⟩ := kk
    have hltI : (k : Int) < (N : Int) := by omega
    have hkz : (0 : Int) ≤ (k : Int) := by omega
    have etk : (k : Int).toNat = k := by omega
    have hiff := plc_iff (k := key) HT.out k t ht
    obtain ⟨s', hs', q1, q2, q3, q4⟩ := plc_facts (k := key) HT.out k0 k1
    clear q3 q4 hf
    rw [HS.out] at hs'
    obtain rfl := Option.some.inj hs'
    by_cases hkp : k = plc L key
    · subst hkp
      obtain rfl := Option.some.inj (ht.symm.trans HS.out)
      have f0 := free3 HB2.out 0
      have f1 := free3 HB2.out 1
      have f2 := free3 HB2.out 2
      obtain ⟨g0, g1, g2⟩ := cell3 HB2.out
      clear ht hs' hiff
      go_wp2
      have hb1 : (wr.setCell ⟨w.heap.size + 1, 0, none⟩ (.int .u64 t.lo)).heap[w.heap.size + 1]? = some (.cells #[.int .u64 t.lo, .int .u64 0, .int .u8 0] 38 (0, 0)) := set3 HB2.out 0 _
      have hb2 : ((wr.setCell ⟨w.heap.size + 1, 0, none⟩ (.int .u64 t.lo)).setCell ⟨w.heap.size + 1, 1, none⟩ (.int .u64 t.hi)).heap[w.heap.size + 1]? = some (.cells #[.int .u64 t.lo, .int .u64 t.hi, .int .u8 0] 38 (0, 0)) := set3 hb1 1 _
      have hb3 : (((wr.setCell ⟨w.heap.size + 1, 0, none⟩ (.int .u64 t.lo)).setCell ⟨w.heap.size + 1, 1, none⟩ (.int .u64 t.hi)).setCell ⟨w.heap.size + 1, 2, none⟩ (.int .u8 t.h)).heap[w.heap.size + 1]? = some (.cells #[.int .u64 t.lo, .int .u64 t.hi, .int .u8 t.h] 38 (0, 0)) := set3 hb2 2 _
      have z0 := (cell3 hb1).1
      have z1 := (cell3 hb2).2.1
      have z2 := (cell3 hb2).1
      obtain ⟨y0, y1, y2⟩ := cell3 hb3
      exact bodyPost_ret (v := .agg #[.int .u64 t.lo, .int .u64 t.hi, .int .u8 t.h]) (by simp [results, Tryz.results11, go_sem, y0, y1, y2]) rfl ⟨rfl, ((HK1.out.andSet _ _ (.inl (by simp))).andSet _ _ (.inl (by simp))).andSet _ _ (.inl (by simp))⟩
    · have hlt2 : k < plc L key := by omega
      have hgt : ¬ key ≤ t.hi := fun h => by have := hiff.1 h; omega
      have hlo : t.lo ≤ key := by
        have h1 := (cov_mem HT.out t (List.mem_of_getElem? ht)).2.1
        omega
      clear ht hs' hiff
      go_wp2
      exact ⟨⟨k + 1, by go_num, by omega, trivial⟩, by simp [intOf]; omega⟩
set_option maxRecDepth 100000 in
set_option maxHeartbeats 2000000 in
theorem lookup48 (w : World) (u : Value) (L : List Sg) (lim : Int) (hu : Sgs w u L) (hT : Cov 0 L 18446744073709551616) (hl : L.length ≤ 100000) (key : Int) (k0 : 0 ≤ key) (k1 : key < 18446744073709551616) :
    Calls Tryz.prog 12 #[.agg #[.int .i64 lim, u], .int .u64 key] w fun e w' => e = .returned (.int .u8 (ow L key)) ∧ Kp Nu w w' := by
  obtain ⟨s, hs, _, _, es, _⟩ := plc_facts hT k0 k1
  obtain ⟨ad, cap, e1⟩ := hu.slice
  obtain ⟨w1, hw1⟩ : ∃ w1, w.alloc (.cells #[.int .i64 lim, u] 35) = w1 := ⟨_, rfl⟩
  have K1 : Kp Nu w w1 := by rw [← hw1]; exact Kp.alloc _ _ _
  have b1 : w1.heap[w.heap.size]? = some (.cells #[.int .i64 lim, u] 35 (0, 0)) := by rw [← hw1]; exact heap_alloc_new w _
  obtain ⟨c0, c1⟩ := cell2' b1
  have SA := segAt73c w1 u L lim (hu.nu K1) hT hl key k0 k1 s hs
  rw [← es]
  have HK := hide K1
  generalize L.length = N at e1
  subst e1
  clear hu hT hl hs es K1 b1
  go_enter Tryz.func12, Tryz.ntmps12
  go_wp2_with fail
  refine SA.mono ?_; rintro e w2 ⟨rfl, hk2⟩
  obtain ⟨w3, hw3⟩ : ∃ w3, w2.alloc (.cells #[.int .u64 s.lo, .int .u64 s.hi, .int .u8 s.h] 38) = w3 := ⟨_, rfl⟩
  have K3 : Kp Nu w2 w3 := by rw [← hw3]; exact Kp.alloc _ _ _
  have b3 : w3.heap[w2.heap.size]? = some (.cells #[.int .u64 s.lo, .int .u64 s.hi, .int .u8 s.h] 38 (0, 0)) := by rw [← hw3]; exact heap_alloc_new w2 _
  obtain ⟨d0, d1, d2⟩ := cell3 b3
  have H3 := hide ((HK.out.andNu hk2).andNu K3)
  clear SA hk2 K3 b3 c0 c1
  go_wp2
  go_ret
  exact ⟨rfl, H3.out⟩
set_option maxRecDepth 100000 in
set_option maxHeartbeats 2000000 in
theorem counted23 (w : World) (n : Nat) (u ku : Value) (L : List Sg) (ks : List Int) (hu : Sgs w u L) (hT : Cov 0 L 18446744073709551616) (hh : ∀ s ∈ L, 0 ≤ s.h ∧ s.h < (n : Int)) (hl : L.length ≤ 100000) (hk : Us w ku ks) (hkr : ∀ x ∈ ks, 0 ≤ x ∧ x < 18446744073709551616) (hkl : ks.length ≤ 4096) (h1 : n ≤ 16) :
    Calls Tryz.prog 14 #[.int .i64 (n : Int), u, ku] w fun e w' => ∃ g, e = .returned (.slice (some ⟨g, 0, none⟩) n n) ∧ w'.ownsRow w.heap.size 3 1 (.slice (some ⟨g, 0, none⟩) n n) n (Pn.ics (Pn.lds n (ks.map (ow L)))) ∧ Kp Nu w w' := by
  have mixed : Tryz.prog.follows .mixedOrders = true := by kernel_rfl
  obtain ⟨ad, cap, e1⟩ := hu.slice
  obtain ⟨a1, c1, rfl, _, _⟩ := id hk
  obtain ⟨N, eN⟩ : ∃ N, ks.length = N := ⟨_, rfl⟩
  have HU := hide (And.intro hu (And.intro hT (And.intro hh (And.intro hl (And.intro hk (And.intro hkr eN))))))
  rw [eN] at hkl ⊢
  have hNI : (N : Int) ≤ 4096 := by omega
  have hnI : (n : Int) ≤ 16 := by omega
  generalize L.length = NL at e1
  subst e1
  clear hu hT hh hl hk hkr eN
  obtain ⟨z0, hzi, hz0, hz1, hz2⟩ := info_parts Pn.info3z
  go_enter Tryz.func14, Tryz.ntmps14
  go_wp2_with (at_make; refine wpList_make_full _ rfl _ _ 45 rfl w.heap.size 3 z0 _ 1 Tryz.underlying45 hzi hz0 hz1 _ _ _ _ n rfl rfl rfl rfl (by rw [hz2]; omega) (by unfold maxLen; omega) (Nat.le_refl _) ?_; intro w4 hrow4 hgr4)
  obtain ⟨w5, hw5⟩ : ∃ w5, w4.alloc (.cells #[.int .i64 0, .slice ad NL cap] 35) = w5 := ⟨_, rfl⟩
  rw [hw5]
  have K5 : Kp Nu w4 w5 := by rw [← hw5]; exact Kp.alloc _ _ _
  have b5 : w5.heap[w4.heap.size]? = some (.cells #[.int .i64 0, .slice ad NL cap] 35 (0, 0)) := by rw [← hw5]; exact heap_alloc_new w4 _
  have k04 := (Kp.of_grown hgr4).mono (T := Nu) (fun _ _ e => by cases e)
  rw [zero_rowB (Pn.cnt [])] at hrow4
  have hrow5 := own_keep hrow4 (fun g e => K5.block g (own_lt hrow4 e) (fun h => h))
  have hlt4 := own_lt hrow4 (g := w.heap.size) rfl
  have H5 := hide (And.intro hrow5 (And.intro (k04.andNu K5) b5))
  clear hrow4 hgr4 hrow5 K5 b5 k04 hw5
  go_loopw [9] (fun iv wr => ∃ i : Nat, iv = .int .i64 (i : Int) ∧ i ≤ N ∧ Hid (wr.ownsRow w.heap.size 3 1 (.slice (some ⟨w.heap.size, 0, none⟩) n n) n (Pn.ics (Pn.lds n ((ks.map (ow L)).take i))) ∧ Kp (fun g => g = w.heap.size) w5 wr)) (fun iv _ => N - (intOf iv).toNat)
  case atStart => exact ⟨0, rfl, Nat.zero_le _, hide ⟨by rw [List.take_zero, lds_nil, ← fil_zero (Pn.cnt [])]; exact H5.out.1, Kp.refl _ _⟩⟩
  case round =>
    obtain ⟨i, rfl, hi, hI⟩ := hrel
    have hi0 : (0 : Int) ≤ (i : Int) := by omega
    by_cases hlt : i < N
    · have hltI : (i : Int) < (N : Int) := by omega
      have eti : (i : Int).toNat = i := by omega
      obtain ⟨hrow, kk⟩ := hI.out
      obtain ⟨hu, hT, hh, hl, hk, hkr, eN⟩ := HU.out
      obtain ⟨_, k05, b5⟩ := H5.out
      have kwr : Kp Nu w wr := k05.trans kk (fun g hg e => by have e2 : g = w.heap.size := e; omega)
      obtain ⟨x, hx⟩ : ∃ x, ks[i]? = some x := ⟨_, List.getElem?_eq_getElem (by rw [eN]; exact hlt)⟩
      have hxr := hkr x (List.mem_of_getElem? hx)
      have hkw := hk.nu kwr
      rw [eN] at hkw
      obtain ⟨ax, cx, eax, _, hat⟩ := hkw
      rw [eN] at eax
      simp only [Value.slice.injEq] at eax
      obtain ⟨rfl, _, ecx⟩ := eax
      obtain ⟨ba, hba, y0⟩ := hat i x hx
      subst hba
      have bR := (kk.block w4.heap.size (blk_lt b5) (fun e => by have e2 : w4.heap.size = w.heap.size := e; omega)).trans b5
      obtain ⟨y1, y2⟩ := cell2' bR
      have LK := lookup48 wr.drew (.slice ad NL cap) L 0 (hu.nu kwr.drew) hT hl x hxr.1 hxr.2
      obtain ⟨sx, hsx, _, _, esx, _⟩ := plc_facts hT hxr.1 hxr.2
      have hb := hh sx (List.mem_of_getElem? hsx)
      rw [esx] at hb
      obtain ⟨q, eq⟩ : ∃ q : Nat, ow L x = (q : Int) := ⟨(ow L x).toNat, by omega⟩
      rw [eq] at LK hb
      have hqn : q < n := by omega
      have hqI : (q : Int) < (n : Int) := by omega
      have hq0 : (0 : Int) ≤ (q : Int) := by omega
      have etq : (q : Int).toNat = q := by omega
      have ecv : IntKind.i64.wrap (q : Int) = (q : Int) := by rw [IntKind.wrap_i64]; omega
      have htk : (ks.map (ow L)).take (i + 1) = (ks.map (ow L)).take i ++ [(q : Int)] := by
        rw [List.take_add_one, List.getElem?_map, hx]
        show _ ++ [ow L x] = _
        rw [eq]
      obtain ⟨c, hc⟩ : ∃ c, Pn.cnt ((ks.map (ow L)).take i) q = c := ⟨_, rfl⟩
      have hcl := Pn.cnt_le ((ks.map (ow L)).take i) q
      rw [hc] at hcl
      have hcl2 : ((ks.map (ow L)).take i).length ≤ i := by rw [List.length_take]; omega
      have hc5 : c ≤ 4096 := by omega
      have hc0 : 0 ≤ c := hcl.1
      have ew : IntKind.i64.wrap (c + 1) = c + 1 := by rw [IntKind.wrap_i64]; omega
      have hget : (Pn.lds n ((ks.map (ow L)).take i))[q]? = some c := by unfold Pn.lds; rw [List.getElem?_map, List.getElem?_range hqn]; show some _ = _; rw [hc]
      have HI := hide (And.intro hrow (And.intro kk (And.intro htk (And.intro hc hget))))
      clear hrow kk hu hT hh hl hk hkr eN k05 b5 kwr hx hxr hat bR hsx esx hb eq htk hc hcl hcl2 hget ecx
      go_wp2_with fail
      go_still_tail 5, mixed
      go_wp2_with fail
      refine LK.mono ?_; rintro e w6 ⟨rfl, hk6'⟩
      have hk6 : Kp Nu wr w6 := (Kp.refl Nu wr).drew.andNu hk6'
      clear hk6'
      obtain ⟨hrow, kk, htk, hc, hget⟩ := HI.out
      have hrow6 := own_keep hrow (fun g e => hk6.block g (own_lt hrow e) (fun h => h))
      obtain ⟨v1, v2⟩ := num_at hrow6 (Pn.lds_len _ _) hget
      have hput := own_put hrow6 q (.int .i64 (c + 1)) (by rw [Pn.ics_len, Pn.lds_len]; exact hqn)
      have hset : (Pn.lds n ((ks.map (ow L)).take i)).set q (c + 1) = Pn.lds n ((ks.map (ow L)).take (i + 1)) := by rw [htk, ← lds_set _ hqn, hc]
      rw [ics_set, hset] at hput
      have HJ := hide (And.intro hput (kk.andNu hk6))
      clear LK hk6 hrow kk htk hc hget hrow6 hput hset
      go_wp2
      exact ⟨⟨i + 1, by go_num, by omega, hide ⟨HJ.out.1, HJ.out.2.andSet _ _ (.inr rfl)⟩⟩, by simp [intOf]; omega⟩
    · have hge : ¬ (i : Int) < (N : Int) := by omega
      obtain rfl : N = i := by omega
      go_wp2
      go_ret
      obtain ⟨hrow, kk⟩ := hI.out
      obtain ⟨_, k05, b5⟩ := H5.out
      refine ⟨_, rfl, ?_, k05.trans kk (fun g hg e => by have e2 : g = w.heap.size := e; omega)⟩
      rw [List.take_of_length_le (by rw [List.length_map, HU.out.2.2.2.2.2.2]; exact Nat.le_refl _)] at hrow
      exact hrow
end Go.Proofs.YtbifmcadllilhaaGreat.Rg
