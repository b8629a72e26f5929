import Derived.Test.YtffcnonhhfhlhaaDoorRfP
import Derived.Test.YtffcnonhhfhlhaaDoorRfQ
import Derived.Deep.RegionHeld
namespace Go.Proofs.YtffcnonhhfhlhaaDoor.Rg
open Go.RowKit Go.Shelf Go.Sort
open Go.Proofs.YtffcnonhhfhlhaaDoor.It
set_option linter.unusedVariables false

theorem new_two (w : World) (A B : Obj) {W : World} (h : (w.alloc A).alloc B = W) : Kp Nu w W ∧ W.heap[w.heap.size]? = some A ∧ W.heap[w.heap.size + 1]? = some B := by
  subst h
  refine ⟨(Kp.alloc w _ Nu).andAlloc _, (Below.heap_alloc _ _ _ (by simp)).trans (heap_alloc_new w _), ?_⟩
  have h := heap_alloc_new (w.alloc A) B
  rw [World.size_alloc] at h
  exact h

set_option maxRecDepth 100000 in
set_option maxHeartbeats 2000000 in
theorem refSeg_any (w : World) (u : Value) (L : List Sg) (lim : Int) (hrs : Rs w u L) (hT : Tab L) (hl : L.length ≤ 8192) (key : Int) (k0 : 0 ≤ key) (k1 : key < 18446744073709551616) (s : Sg) (hs : L[plc L key]? = some s) :
    Calls Tryd.prog 85 #[.agg #[.int .i64 lim, u], .int .u64 key] w fun e w' => e = .returned (enc s) ∧ Kp Nu w w' := by
  have mixed : Tryd.prog.follows .mixedOrders = true := by kernel_rfl
  obtain ⟨rr, off, cap, hu, hc⟩ := hrs
  have HC := hide hc
  obtain ⟨N, hN⟩ : ∃ N, L.length = N := ⟨_, rfl⟩
  rw [hN] at hu hl
  have HN := hide hN
  obtain ⟨w1, hw1⟩ : ∃ w1, (w.alloc (.cells #[.int .i64 lim, u] 29)).alloc (.cells #[.int .u64 0, .int .u64 0, .int .u8 0] 26) = w1 := ⟨_, rfl⟩
  obtain ⟨K1, b1, b2⟩ := new_two w _ _ hw1
  have HK1 := hide K1
  have HB1 := hide b1
  have HB2 := hide b2
  obtain ⟨_, cb0⟩ := cell2' b1
  have HT := hide hT
  have HS := hide hs
  have hpN : plc L key < N := by rw [← hN]; exact hT.plc_lt k0 k1
  subst hu
  simp only [enc]
  clear hc hN K1 b1 b2 hT hs
  go_enter Tryd.func85, Tryd.ntmps85
  go_wp2_with fail
  go_loopw [5] (fun i wr => ∃ k : Nat, i = .int .i64 (k : Int) ∧ k ≤ plc L key ∧ wr = w1) (fun i _ => N - (intOf i).toNat)
  case atStart => exact ⟨0, rfl, Nat.zero_le _, rfl⟩
  case round =>
    obtain ⟨k, rfl, hk, rfl⟩ := hrel
    have hkN : k < N := by omega
    have hkL : k < L.length := by rw [HN.out]; exact hkN
    obtain ⟨t, ht⟩ : ∃ t, L[k]? = some t := ⟨_, List.getElem?_eq_getElem hkL⟩
    obtain ⟨c0, c1, c2⟩ := HC.out k t ht
    replace c0 := cell_nu c0 HK1.out
    replace c1 := cell_nu c1 HK1.out
    replace c2 := cell_nu c2 HK1.out
    have hltI : (k : Int) < (N : Int) := by omega
    have hkz : (0 : Int) ≤ (k : Int) := by omega
    have hkB : (k : Int) ≤ 8192 := by omega
    have hiff := plc_iff (k := key) HT.out.cov k t ht
    obtain ⟨s', hs', q1, q2, q3, q4⟩ := plc_facts (k := key) HT.out.cov k0 k1
    clear q3 q4
    rw [HS.out] at hs'
    obtain rfl := Option.some.inj hs'
    by_cases hkp : k = plc L key
    · subst hkp
      obtain rfl := Option.some.inj (ht.symm.trans HS.out)
      have f0 := free3 HB2.out 0
      have f1 := free3 HB2.out 1
      have f2 := free3 HB2.out 2
      obtain ⟨g0, g1, g2⟩ := cell3 HB2.out
      clear ht hs' hiff
      go_wp2
      have hb1 : (wr.setCell ⟨w.heap.size + 1, 0, none⟩ (.int .u64 t.lo)).heap[w.heap.size + 1]? = some (.cells #[.int .u64 t.lo, .int .u64 0, .int .u8 0] 26 (0, 0)) := set3 HB2.out 0 _
      have hb2 : ((wr.setCell ⟨w.heap.size + 1, 0, none⟩ (.int .u64 t.lo)).setCell ⟨w.heap.size + 1, 1, none⟩ (.int .u64 t.hi)).heap[w.heap.size + 1]? = some (.cells #[.int .u64 t.lo, .int .u64 t.hi, .int .u8 0] 26 (0, 0)) := set3 hb1 1 _
      have hb3 : (((wr.setCell ⟨w.heap.size + 1, 0, none⟩ (.int .u64 t.lo)).setCell ⟨w.heap.size + 1, 1, none⟩ (.int .u64 t.hi)).setCell ⟨w.heap.size + 1, 2, none⟩ (.int .u8 t.h)).heap[w.heap.size + 1]? = some (.cells #[.int .u64 t.lo, .int .u64 t.hi, .int .u8 t.h] 26 (0, 0)) := set3 hb2 2 _
      have z0 := (cell3 hb1).1
      have z1 := (cell3 hb2).2.1
      have z2 := (cell3 hb2).1
      obtain ⟨y0, y1, y2⟩ := cell3 hb3
      exact bodyPost_ret (v := .agg #[.int .u64 t.lo, .int .u64 t.hi, .int .u8 t.h]) (by simp [results, Tryd.results85, go_sem, y0, y1, y2]) rfl ⟨rfl, ((HK1.out.andSet _ _ (.inl (by simp))).andSet _ _ (.inl (by simp))).andSet _ _ (.inl (by simp))⟩
    · have hlt2 : k < plc L key := by omega
      have hgt : ¬ key ≤ t.hi := fun h => by have := hiff.1 h; omega
      have hlo : t.lo ≤ key := by
        have h1 := (cov_mem HT.out.cov t (List.mem_of_getElem? ht)).2.1
        omega
      clear ht hs' hiff
      go_wp2
      exact ⟨⟨k + 1, by go_num, by omega, trivial⟩, by simp [intOf]; omega⟩

set_option maxHeartbeats 1000000 in
theorem refLookup_any (w : World) (u : Value) (L : List Sg) (lim : Int) (hrs : Rs w u L) (hT : Tab L) (hl : L.length ≤ 8192) (key : Int) (k0 : 0 ≤ key) (k1 : key < 18446744073709551616) :
    Calls Tryd.prog 84 #[.agg #[.int .i64 lim, u], .int .u64 key] w fun e w' => e = .returned (.int .u8 (ow L key)) ∧ Kp Nu w w' := by
  obtain ⟨s, hs, _, _, ho, _⟩ := plc_facts (k := key) hT.cov k0 k1
  obtain ⟨w1, hw1⟩ : ∃ w1, w.alloc (.cells #[.int .i64 lim, u] 29) = w1 := ⟨_, rfl⟩
  have K1 : Kp Nu w w1 := by rw [← hw1]; exact Kp.alloc w _ Nu
  have b1 : w1.heap[w.heap.size]? = some (.cells #[.int .i64 lim, u] 29 (0, 0)) := by rw [← hw1]; exact heap_alloc_new w _
  have SG := refSeg_any w1 u L lim (hrs.nu K1) hT hl key k0 k1 s hs
  obtain ⟨a0, a1⟩ := cell2' b1
  obtain ⟨rr, off, cap, hu, hc⟩ := hrs
  generalize L.length = N at hu
  rw [← ho]
  have HK1 := hide K1
  unfold enc at SG
  subst hu
  clear hc b1 K1 hs ho
  go_enter Tryd.func84, Tryd.ntmps84
  go_wp2_with fail
  refine SG.mono ?_; rintro e w2 ⟨rfl, hk2⟩
  have HK2 := hide ((HK1.out.andNu hk2).andAlloc (.cells #[.int .u64 s.lo, .int .u64 s.hi, .int .u8 s.h] 26))
  clear SG hk2 a0 a1
  go_wp2
  go_ret
  exact ⟨rfl, HK2.out⟩
end Go.Proofs.YtffcnonhhfhlhaaDoor.Rg
namespace Go.Proofs.YtffcnonhhfhlhaaDoor.Rg
open Go.RowKit Go.Shelf Go.Sort
open Go.Proofs.YtffcnonhhfhlhaaDoor.It
set_option linter.unusedVariables false

theorem owns_wi {L : List Sg} (h : Tab L) {lo hi : Int} (hlh : lo ≤ hi) (o : Int) : ownsB L lo hi o = (wiD lo hi L).all (fun s => s.h == o) := by
  unfold ownsB
  rw [wiD_tk hlh h.cov]
theorem wi_false {L : List Sg} {lo hi o : Int} {k : Nat} {t : Sg} (ht : L[k]? = some t) (h1 : lo ≤ t.hi) (h2 : t.lo ≤ hi) (ho : t.h ≠ o) : (wiD lo hi L).all (fun s => s.h == o) = false := by
  rw [List.all_eq_false]
  refine ⟨cutS lo hi t, ?_, by simpa [cutS] using ho⟩
  simp only [wiD, List.mem_flatMap]
  refine ⟨t, List.mem_of_getElem? ht, ?_⟩
  unfold pcW
  rw [if_pos ⟨h1, h2⟩]
  simp

set_option maxRecDepth 100000 in
set_option maxHeartbeats 2000000 in
theorem refOwns_any (w : World) (u : Value) (L : List Sg) (lim : Int) (hrs : Rs w u L) (hT : Tab L) (hl : L.length ≤ 8192) (lo hi o : Int) (hlh : lo ≤ hi) :
    Calls Tryd.prog 86 #[.agg #[.int .i64 lim, u], .int .u64 lo, .int .u64 hi, .int .u8 o] w fun e w' => e = .returned (.bool (ownsB L lo hi o)) ∧ Kp Nu w w' := by
  have mixed : Tryd.prog.follows .mixedOrders = true := by kernel_rfl
  rw [owns_wi hT hlh o]
  have hne := hT.ne
  obtain ⟨rr, off, cap, hu, hc⟩ := hrs
  have HC := hide hc
  obtain ⟨N, hN⟩ : ∃ N, L.length = N := ⟨_, rfl⟩
  rw [hN] at hu hl hne
  have HN := hide hN
  obtain ⟨w1, hw1⟩ : ∃ w1, w.alloc (.cells #[.int .i64 lim, u] 29) = w1 := ⟨_, rfl⟩
  have HK1 : Hid (Kp Nu w w1) := by rw [← hw1]; exact Kp.alloc w _ Nu
  have b1 : w1.heap[w.heap.size]? = some (.cells #[.int .i64 lim, u] 29 (0, 0)) := by rw [← hw1]; exact heap_alloc_new w _
  obtain ⟨_, cb0⟩ := cell2' b1
  have hgt : ¬ lo > hi := by omega
  have hneI : (0 : Int) < (N : Int) := by omega
  subst hu
  clear hc hN b1 hT
  go_enter Tryd.func86, Tryd.ntmps86
  go_wp2_with fail
  go_loopw [9] (fun i wr => ∃ k : Nat, i = .int .i64 (k : Int) ∧ k ≤ N ∧ Hid ((wiD lo hi (L.take k)).all (fun s => s.h == o) = true) ∧ wr = w1) (fun i _ => N - (intOf i).toNat)
  case atStart => exact ⟨0, rfl, Nat.zero_le _, rfl, rfl⟩
  case round =>
    obtain ⟨k, rfl, hk, hI, rfl⟩ := hrel
    by_cases hlt : k < N
    · have hkL : k < L.length := by rw [HN.out]; exact hlt
      obtain ⟨t, ht⟩ : ∃ t, L[k]? = some t := ⟨_, List.getElem?_eq_getElem hkL⟩
      obtain ⟨c0, c1, c2⟩ := HC.out k t ht
      replace c0 := cell_nu c0 HK1.out
      replace c1 := cell_nu c1 HK1.out
      replace c2 := cell_nu c2 HK1.out
      have hltI : (k : Int) < (N : Int) := by omega
      have hkz : (0 : Int) ≤ (k : Int) := by omega
      have hkB : (k : Int) ≤ 8192 := by omega
      have e1 : L.take (k + 1) = L.take k ++ [t] := by rw [List.take_add_one, ht, Option.toList_some]
      have HE : Hid ((wiD lo hi (L.take (k + 1))).all (fun s => s.h == o) = (pcW lo hi t).all (fun s => s.h == o)) := by
        show (wiD lo hi (L.take (k + 1))).all _ = _
        rw [e1, wiD_snoc, List.all_append, hI.out, Bool.true_and]
      by_cases q1 : lo ≤ t.hi
      · by_cases q2 : t.lo ≤ hi
        · by_cases q3 : t.h = o
          · have q4 : (t.h != o) = false := by simpa using q3
            have HG : Hid ((wiD lo hi (L.take (k + 1))).all (fun s => s.h == o) = true) := by
              show _ = _
              rw [HE.out]; unfold pcW; rw [if_pos ⟨q1, q2⟩]; simpa [cutS] using q3
            clear hI ht hkL
            go_wp2
            exact ⟨⟨k + 1, by go_num, by omega, HG, trivial⟩, by simp [intOf]; omega⟩
          · have q4 : (t.h != o) = true := by simpa using q3
            have HG := hide (wi_false ht q1 q2 q3)
            clear hI ht hkL
            go_wp2
            go_ret
            rw [HG.out]
            exact ⟨rfl, HK1.out⟩
        · have HG : Hid ((wiD lo hi (L.take (k + 1))).all (fun s => s.h == o) = true) := by
            show _ = _
            rw [HE.out]; unfold pcW; rw [if_neg (fun h => q2 h.2)]; rfl
          clear hI ht hkL
          go_wp2
          exact ⟨⟨k + 1, by go_num, by omega, HG, trivial⟩, by simp [intOf]; omega⟩
      · have HG : Hid ((wiD lo hi (L.take (k + 1))).all (fun s => s.h == o) = true) := by
          show _ = _
          rw [HE.out]; unfold pcW; rw [if_neg (fun h => q1 h.1)]; rfl
        clear hI ht hkL
        go_wp2
        exact ⟨⟨k + 1, by go_num, by omega, HG, trivial⟩, by simp [intOf]; omega⟩
    · have hge : ¬ (k : Int) < (N : Int) := by omega
      have HG : Hid ((wiD lo hi L).all (fun s => s.h == o) = true) := by
        have h := hI.out
        rw [List.take_of_length_le (by rw [HN.out]; omega)] at h
        exact h
      clear hI
      go_wp2
      go_ret
      rw [HG.out]
      exact ⟨rfl, HK1.out⟩
end Go.Proofs.YtffcnonhhfhlhaaDoor.Rg
namespace Go.Proofs.YtffcnonhhfhlhaaDoor.Rg
open Go.RowKit Go.Shelf Go.Sort
open Go.Proofs.YtffcnonhhfhlhaaDoor.It
set_option linter.unusedVariables false

theorem cells_one (L : List Sg) : ∀ u ∈ cells L, u.oneCell' = true := fun u hu => by
  simp only [cells, List.mem_flatMap, cellsG] at hu
  obtain ⟨s, _, hu⟩ := hu
  simp at hu
  rcases hu with rfl | rfl | rfl <;> rfl

set_option maxRecDepth 100000 in
set_option maxHeartbeats 1000000 in
theorem sclone_any (B : Nat) (w : World) (v : Value) (L : List Sg) (hown : w.ownsRow B 26 3 v L.length (cells L)) (hne : 0 < L.length) (hl : L.length ≤ 8192) :
    Calls Tryd.prog 60 #[v] w fun e w' => ∃ u', e = .returned u' ∧ w'.ownsRow w.heap.size 26 3 u' L.length (cells L) ∧ Kp Nu w w' := by
  obtain ⟨i0, hi, hz0, hz1, hz2⟩ := info_parts info40
  have hrow : ∃ r cap, v = .slice (some ⟨r, 0, none⟩) L.length cap := by
    rcases hown.2 with ⟨_, h0⟩ | ⟨r, cap, cur, e, _⟩
    · omega
    · exact ⟨r, cap, e⟩
  obtain ⟨r, cap, e⟩ := hrow
  subst e
  have hr : r < w.heap.size := own_lt hown rfl
  have hcell : ∀ j u, (cells L)[j]? = some u → (w.alloc (.cells #[] 26)).cell? ((⟨r, 0, none⟩ : Addr).add j) = some u := fun j u h => by
    rw [World.cell?_alloc_lt _ _ _ (by rw [add_block]; exact hr)]
    exact hown.cells rfl j u h
  have HCE := hide hcell
  have hlen := cells_length L
  have HL := hide hlen
  have HO := hide (cells_one L)
  generalize hN : L.length = N at *
  have hnil : ∀ W, (binOp .eql 22 (.slice (some ⟨r, 0, none⟩) N cap) (.slice none 0 0)).run Tryd.prog W = .ok (.bool false) W := fun W => rfl
  clear hown hcell hlen
  go_enter Tryd.func60, Tryd.ntmps60
  go_wp2_with (at_builtin; refine wpList_append_own _ rfl _ _ 22 rfl w.heap.size 26 i0 (.agg #[.int .u64 0, .int .u64 0, .int .u8 0]) 3 24 Tryd.underlying22 hi hz0 hz1 hz2 rfl (by decide) _ 0 [] rfl (World.ownsRow_made w #[] 0 (Nat.le_refl _) (Nat.zero_le _) rfl) ⟨r, 0, none⟩ N cap (cells L) rfl HL.out HCE.out HO.out (by unfold maxLen; omega) (by omega) (by simp) ?_; intro v3 w3 hown3 hg3 _)
  have K3 : Kp Nu w w3 := (Kp.alloc w _ Nu).trans (Kp.of_grown hg3) (fun i h1 e => by have e2 : i = w.heap.size := Option.some.inj e; omega)
  rw [Nat.zero_add, List.nil_append] at hown3
  obtain ⟨ad3, cp3, hv3⟩ := own_slice hown3
  have HF := hide (And.intro hown3 K3)
  subst hv3
  clear hown3 hg3 K3
  go_wp2
  go_ret
  exact ⟨_, rfl, HF.out⟩

set_option maxRecDepth 100000 in
set_option maxHeartbeats 2000000 in
theorem clone_any {B b : Nat} {w : World} {lim : Int} {v : Value} {L : List Sg} (h : Tb B w b lim v L) :
    Calls Tryd.prog 27 #[.pointer (some ⟨b, 0, none⟩)] w fun e w' => ∃ b' v', e = .returned (.pointer (some ⟨b', 0, none⟩)) ∧ Tb w.heap.size w' b' lim v' L ∧ Kp Nu w w' := by
  have mixed : Tryd.prog.follows .mixedOrders = true := by kernel_rfl
  have MA := made_any h
  have hM : L.length ≤ 8192 := by have := h.len; have := h.lim1; omega
  have SC := fun W (hW : Kp Nu w W) => sclone_any B W v L (h.nu hW).own h.tab.ne hM
  have CC : ∀ W, Kp Nu w W → W.cell? ⟨b, 0, none⟩ = some (.int .i64 lim) ∧ W.cell? ⟨b, 1, none⟩ = some v := fun W hW => ⟨(h.nu hW).c0, (h.nu hW).c1⟩
  have HH := hide h
  have kk0 : Kp Nu w w := Kp.refl _ _
  obtain ⟨adv, cpv, hv⟩ := own_slice h.own
  generalize hN : L.length = N at *
  subst hv
  clear h
  go_enter Tryd.func27, Tryd.ntmps27
  go_wp2_with (go_at_call 50; refine MA.mono ?_; rintro e w' ⟨rfl, hw'⟩; obtain rfl := hw'.symm; clear hw')
  clear MA
  go_region_held (fun W => W.cell? ⟨b, 0, none⟩ = some (.int .i64 lim) ∧ W.cell? ⟨b, 1, none⟩ = some (.slice adv N cpv)) (first | (refine CC _ ?_; repeat (first | assumption | apply Kp.drew | apply Kp.andAlloc))) (first
    | (go_at_call 60; refine (SC _ ?_).mono ?_; (repeat (first | assumption | apply Kp.drew)); rintro e w3 ⟨u3, rfl, ho3, hk3⟩; have hkA : Kp Nu w w3 := Kp.andNu (by repeat (first | assumption | apply Kp.drew)) hk3; obtain ⟨ad3, cp3, hu3⟩ := own_slice ho3; have HO3 := hide ho3; subst hu3; clear ho3))
  go_wp2
  go_ret
  have hT := HH.out
  have ho4 := HO3.out.alloc (.cells #[.int .i64 lim, .slice ad3 N cp3] 93)
  exact ⟨_, _, rfl, ⟨heap_alloc_new w3 _, hkA.size, own_base (by rw [hN]; exact ho4) (by simp), hT.tab, hT.len, hT.lim1⟩, hkA.andAlloc _⟩
end Go.Proofs.YtffcnonhhfhlhaaDoor.Rg
