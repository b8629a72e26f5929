import Derived.Test.YtffcnonhhfhlhaaDoorLdH
import Derived.Test.YtffcnonhhfhlhaaDoorTxE
namespace Go.Proofs.YtffcnonhhfhlhaaDoor.Rg
open Go.RowKit Go.Shelf Go.Sort
open Go.Proofs.YtffcnonhhfhlhaaDoor.It
set_option linter.unusedVariables false

theorem Sgs.rz {w : World} {u : Value} {M : List Sg} (h : Sgs w u M) : Rz w u M := by
  rcases h with ⟨⟨ad, cap, rfl⟩, rfl⟩ | ⟨b, off, cap, rfl, h3⟩
  · exact .inl ⟨rfl, ad, cap, rfl⟩
  · exact .inr ⟨b, off, cap, rfl, fun i s hs => ⟨(h3 i s hs).c0, (h3 i s hs).c1, (h3 i s hs).c2⟩⟩
theorem Sgs.sgb {w : World} {u : Value} {M : List Sg} (h : Sgs w u M) : ∀ s ∈ M, SgB s := fun s hs => by
  obtain ⟨i, hi⟩ := List.getElem?_of_mem hs
  rcases h with ⟨_, rfl⟩ | ⟨b, off, cap, _, h3⟩
  · cases hs
  · have f := (h3 i s hi).fit
    exact ⟨f.1, f.2.1, f.2.2.1, f.2.2.2.1, f.2.2.2.2.1, f.2.2.2.2.2⟩
theorem Sgs.nu {w w' : World} {u : Value} {M : List Sg} (h : Sgs w u M) (k : Kp Nu w w') : Sgs w' u M := by
  rcases h with h | ⟨b, off, cp, h0, h3⟩
  · exact .inl h
  · exact .inr ⟨b, off, cp, h0, fun i s hs => ⟨cell_nu (h3 i s hs).c0 k, cell_nu (h3 i s hs).c1 k, cell_nu (h3 i s hs).c2 k, (h3 i s hs).fit⟩⟩
/-- both codes are one, and where it is 0 both tables are the same -/
theorem codes {w wa wb wc : World} {lim : Int} {M : List Sg} {p v : Value} {c L f : Int} (h : Lrt wb wc lim M p c) (g : Rrs w wa lim M L v f) : c = f := by
  rcases h with ⟨h0, _, h1⟩ | ⟨h0, i, h1⟩
  · rcases g with ⟨_, g1, _⟩ | ⟨g0, _⟩
    · omega
    · exact absurd g0 h0
  · rcases g with ⟨g0, _⟩ | ⟨_, p', f', g1, g2, _⟩
    · exact absurd h0 g0
    · rw [g2]; exact code_same h1 g1

set_option maxRecDepth 100000 in
set_option maxHeartbeats 1000000 in
theorem loaded_any (w : World) (u : Value) (M : List Sg) (hM : Sgs w u M) (hlen : (M.length : Int) ≤ 5864062014634) (lim : Int) :
    Calls Tryd.prog 10 #[u, .int .i64 lim] w fun e w' => ∃ p L v, e = .returned (.tuple #[p, .agg #[.int .i64 L, v], .bool true]) ∧ (∃ ad n cp, v = .slice ad n cp) ∧ (p = .pointer none ∨ ∃ b vt B, w.heap.size ≤ B ∧ p = .pointer (some ⟨b, 0, none⟩) ∧ Tb B w' b lim vt (lays [] M) ∧ L = lim ∧ w'.ownsRow w.heap.size 26 3 v (lays [] M).length (cells (lays [] M)) ∧ ∀ g, v.ownBlock = some g → g < B) ∧ Kp Nu w w' := by
  have mixed : Tryd.prog.follows .mixedOrders = true := by kernel_rfl
  have K0 := Kp.alloc w (.cells #[.int .i64 0, .slice none 0 0] 29) Nu
  have RL := refLoad_any _ u M (hM.nu K0) hlen lim
  have HM := hide (hM.nu K0)
  have HS := hide hM.sgb
  have HL := hide hlen
  have hb0 : (w.alloc (.cells #[.int .i64 0, .slice none 0 0] 29)).heap[w.heap.size]? = some (.cells #[.int .i64 0, .slice none 0 0] 29 (0, 0)) := heap_alloc_new w _
  have HB := hide hb0
  have HK0 := hide K0
  obtain ⟨ad, cap, hu⟩ := hM.slice
  generalize hN : M.length = N at hu hlen
  have HNN := hide hN
  subst hu
  clear hM hb0 K0 hN hlen
  go_enter Tryd.func10, Tryd.ntmps10
  go_wp2_with fail
  refine RL.mono ?_; rintro e w2 ⟨L, v, f, rfl, hR, hk2⟩
  obtain ⟨w3, hw3⟩ : ∃ w3, w2.alloc (.cells #[.int .i64 L, v] 29) = w3 := ⟨_, rfl⟩
  have k23 : Kp Nu w2 w3 := by rw [← hw3]; exact Kp.alloc w2 _ Nu
  have hb3 : w3.heap[w2.heap.size]? = some (.cells #[.int .i64 L, v] 29 (0, 0)) := by rw [← hw3]; exact heap_alloc_new w2 _
  have hr3 := ((hk2.andNu k23).block _ (blk_lt HB.out) (fun h => h)).trans HB.out
  have LO := Load_any w3 _ M (HM.out.nu (hk2.andNu k23)).rz HS.out (by have := HL.out; omega) lim
  have HR := hide hR
  have HK3 := hide (HK0.out.andNu (hk2.andNu k23))
  have HK23 := hide k23
  have HB3 := hide hb3
  have HR3 := hide hr3
  have hlt : w.heap.size < w2.heap.size := Nat.lt_of_lt_of_le (blk_lt HB.out) hk2.size
  have hv : v = .slice none 0 0 ∨ ∃ ad n cp, v = .slice ad n cp := by
    rcases hR with ⟨_, _, _, h⟩ | ⟨_, _, _, _, _, ⟨_, _, h⟩ | ⟨_, _, h⟩⟩
    · exact .inl h
    · exact .inl h
    · obtain ⟨ad, cp, h⟩ := own_slice h
      exact .inr ⟨_, _, _, h⟩
  obtain ⟨adv, nv, cpv, hv⟩ : ∃ ad n cp, v = .slice ad n cp := by
    rcases hv with h | h
    · exact ⟨_, _, _, h⟩
    · exact h
  subst hv
  clear RL hR hk2 k23 hb3 hr3
  go_wp2_with fail
  refine LO.mono ?_; rintro e w4 ⟨p, c, rfl, hL, hk4⟩
  obtain rfl := codes hL HR.out
  have nm := num_any c w4
  have hb4 := (hk4.block _ (blk_lt HB3.out) (fun h => h)).trans HB3.out
  have hr4 := (hk4.block _ (blk_lt HR3.out) (fun h => h)).trans HR3.out
  obtain ⟨a0, a1⟩ := cell2' hb4
  obtain ⟨r0, r1⟩ := cell2' hr4
  have g0 := free3 hr4 0
  have g1 := free3 hr4 1
  have HL4 := hide hL
  have HK4 := hide hk4
  have HRR4 := hide hr4
  have hcc : (c != c) = false := by simp
  clear LO hb4 hr4 hk4
  rcases hL.ptr with ⟨rfl, hc⟩ | ⟨hc, b, rfl⟩
  · have hcb : (c != 0) = true := by simpa using hc
    clear hL
    go_wp2_with fail
    refine nm.mono ?_; rintro e wz ⟨rfl, hwz⟩
    obtain rfl := hwz.symm
    clear nm hwz
    go_wp2_with fail
    go_region
    go_wp2
    have hb6 : (w4.setCell ⟨w.heap.size, 0, none⟩ (.int .i64 L)).heap[w.heap.size]? = some (.cells #[.int .i64 L, .slice none 0 0] 29 (0, 0)) := set3 HRR4.out 0 (.int .i64 L)
    have hb5 : ((w4.setCell ⟨w.heap.size, 0, none⟩ (.int .i64 L)).setCell ⟨w.heap.size, 1, none⟩ (.slice adv nv cpv)).heap[w.heap.size]? = some (.cells #[.int .i64 L, .slice adv nv cpv] 29 (0, 0)) := set3 hb6 1 (.slice adv nv cpv)
    have z0 := (cell2' hb6).1
    obtain ⟨y0, y1⟩ := cell2' hb5
    exact bodyPost_ret (v := .tuple #[.pointer none, .agg #[.int .i64 L, .slice adv nv cpv], .bool true]) (by simp [results, Tryd.results10, go_sem, y0, y1]) rfl ⟨_, _, _, rfl, ⟨_, _, _, rfl⟩, .inl rfl, (((HK3.out.andNu HK4.out).andSet _ _ (.inl (Nat.le_refl _))).andSet _ _ (.inl (Nat.le_refl _))).drew⟩
  · subst hc
    clear hL
    go_wp2_with fail
    refine nm.mono ?_; rintro e wz ⟨rfl, hwz⟩
    obtain rfl := hwz.symm
    clear nm hwz
    go_wp2_with fail
    go_region
    go_wp2
    have hb6 : (w4.setCell ⟨w.heap.size, 0, none⟩ (.int .i64 L)).heap[w.heap.size]? = some (.cells #[.int .i64 L, .slice none 0 0] 29 (0, 0)) := set3 HRR4.out 0 (.int .i64 L)
    have hb5 : ((w4.setCell ⟨w.heap.size, 0, none⟩ (.int .i64 L)).setCell ⟨w.heap.size, 1, none⟩ (.slice adv nv cpv)).heap[w.heap.size]? = some (.cells #[.int .i64 L, .slice adv nv cpv] 29 (0, 0)) := set3 hb6 1 (.slice adv nv cpv)
    have z0 := (cell2' hb6).1
    obtain ⟨y0, y1⟩ := cell2' hb5
    have kk : Kp (fun k => k = w.heap.size) w4 ((w4.setCell ⟨w.heap.size, 0, none⟩ (.int .i64 L)).setCell ⟨w.heap.size, 1, none⟩ (.slice adv nv cpv)).drew := (((Kp.refl (fun k => k = w.heap.size) w4).andSet ⟨w.heap.size, 0, none⟩ _ (.inr rfl)).andSet ⟨w.heap.size, 1, none⟩ _ (.inr rfl)).drew
    refine bodyPost_ret (v := .tuple #[.pointer (some ⟨b, 0, none⟩), .agg #[.int .i64 L, .slice adv nv cpv], .bool true]) (by simp [results, Tryd.results10, go_sem, y0, y1]) rfl ⟨_, _, _, rfl, ⟨_, _, _, rfl⟩, .inr ?_, (((HK3.out.andNu HK4.out).andSet _ _ (.inl (Nat.le_refl _))).andSet _ _ (.inl (Nat.le_refl _))).drew⟩
    have h3 : w.heap.size < w3.heap.size := Nat.lt_of_lt_of_le hlt HK23.out.size
    rcases HL4.out with ⟨_, h, _⟩ | ⟨hlim, i, ⟨h, _⟩ | ⟨h, _⟩ | ⟨_, _, _, _, _, b', vt, h, hT⟩⟩
    · cases h
    · cases h
    · cases h
    · cases h
      rcases HR.out with ⟨h, _⟩ | ⟨_, p', f', _, _, ⟨h, _⟩ | ⟨_, hLl, hown⟩⟩
      · exact absurd hlim h
      · exact absurd rfl h
      · refine ⟨b, vt, w3.heap.size, Nat.le_of_lt h3, rfl, ?_, hLl, ?_, fun g hg => ?_⟩
        · have hlow := hT.low
          refine ⟨(kk.block _ (blk_lt hT.blk) (fun e => by have e2 : b = w.heap.size := e; omega)).trans hT.blk, hT.low, own_keep hT.own (fun g hg => kk.block g (own_lt hT.own hg) (fun e => by have e2 : g = w.heap.size := e; have := (hT.own.lt g hg).1; omega)), hT.tab, hT.len, hT.lim1⟩
        · refine own_base (base := (w.alloc (.cells #[.int .i64 0, .slice none 0 0] 29)).heap.size) ?_ (by simp)
          exact own_keep (own_keep (own_keep hown (fun g hg => HK23.out.block g (own_lt hown hg) (fun h => h))) (fun g hg => HK4.out.block g (Nat.lt_of_lt_of_le (own_lt hown hg) HK23.out.size) (fun h => h))) (fun g hg => kk.block g (Nat.lt_of_lt_of_le (own_lt hown hg) (Nat.le_trans HK23.out.size HK4.out.size)) (fun e => by have e2 : g = w.heap.size := e; have := (hown.lt g hg).1; simp at this; omega))
        · exact Nat.lt_of_lt_of_le (own_lt hown hg) HK23.out.size
end Go.Proofs.YtffcnonhhfhlhaaDoor.Rg
namespace Go.Proofs.YtffcnonhhfhlhaaDoor.Rg
open Go.RowKit Go.Shelf Go.Sort
open Go.Proofs.YtffcnonhhfhlhaaDoor.It
set_option linter.unusedVariables false

theorem limit_any {B b : Nat} {w : World} {lim : Int} {v : Value} {L : List Sg} (h : Tb B w b lim v L) : Calls Tryd.prog 23 #[.pointer (some ⟨b, 0, none⟩)] w fun e w' => e = .returned (.int .i64 lim) ∧ w' = w := by
  have MA := made_any h
  have c0 := h.c0
  go_enter Tryd.func23, Tryd.ntmps23
  go_wp2_with (go_at_call 50; refine MA.mono ?_; rintro e w' ⟨rfl, rfl⟩)
  go_ret
  exact ⟨rfl, rfl⟩
theorem PowB.nu {w w' : World} (h : PowB w.heap.size w) (k : Kp Nu w w') : PowB w'.heap.size w' := fun W hW => h W (k.toBelow.trans (hW.mono k.size))

set_option maxRecDepth 100000 in
set_option maxHeartbeats 2000000 in
theorem stands_any {B b : Nat} {w : World} {lim : Int} {v : Value} {L : List Sg} (h : Tb B w b lim v L) (hp : PowB w.heap.size w) (rv : Value) (hrs : Rs w rv L) :
    Calls Tryd.prog 12 #[.pointer (some ⟨b, 0, none⟩), .agg #[.int .i64 lim, rv]] w fun e w' => e = .returned (.bool true) ∧ Kp Nu w w' := by
  have mixed : Tryd.prog.follows .mixedOrders = true := by kernel_rfl
  have hM : L.length ≤ 8192 := by have := h.len; have := h.lim1; omega
  have hsgb := h.sgb
  obtain ⟨w1, hw1⟩ : ∃ w1, w.alloc (.cells #[.int .i64 lim, rv] 29) = w1 := ⟨_, rfl⟩
  have K1 : Kp Nu w w1 := by rw [← hw1]; exact Kp.alloc w _ Nu
  have b1 : w1.heap[w.heap.size]? = some (.cells #[.int .i64 lim, rv] 29 (0, 0)) := by rw [← hw1]; exact heap_alloc_new w _
  have LI := list_any (h.nu K1)
  have HH := hide h
  have HP := hide hp
  have HR := hide hrs
  have HK1 := hide K1
  have HB1 := hide b1
  have hne : 0 < L.length := h.tab.ne
  have HSB := hide hsgb
  obtain ⟨rr, off, cap, hrv, _⟩ := hrs
  obtain ⟨N, hN⟩ : ∃ N, L.length = N := ⟨_, rfl⟩
  rw [hN] at hrv hM hne
  have HN := hide hN
  subst hrv
  clear h hp b1 K1 hsgb
  go_enter Tryd.func12, Tryd.ntmps12
  go_wp2_with fail
  refine LI.mono ?_; rintro e w2 ⟨u, rfl, ho2, hk2⟩
  have HO2 := hide ho2
  have HK2 := hide (HK1.out.andNu hk2)
  have HB2 := hide ((hk2.block _ (blk_lt HB1.out) (fun h => h)).trans HB1.out)
  have LE := len_any (HH.out.nu HK2.out)
  have LM := limit_any (HH.out.nu HK2.out)
  have TX := text_any (HH.out.nu HK2.out) (HP.out.nu HK2.out)
  obtain ⟨ad2, cp2, hu2⟩ := own_slice ho2
  rw [HN.out] at hu2 LE
  subst hu2
  clear LI ho2 hk2 hN
  go_wp2_with (first | (go_at_call 22; refine LE.mono ?_; rintro e wl ⟨rfl, rfl⟩) | (go_at_call 23; refine LM.mono ?_; rintro e wm ⟨rfl, rfl⟩))
  refine TX.mono ?_; rintro e w3 ⟨rfl, hk3⟩
  have HK3 := hide hk3
  have HB3 := hide ((hk3.block _ (blk_lt HB2.out) (fun h => h)).trans HB2.out)
  have HK03 := hide (HK2.out.andNu hk3)
  obtain ⟨a0, a1⟩ := cell2' HB3.out
  have RT := refText_any w3 _ L lim (HR.out.nu HK03.out) (by rw [HN.out]; exact hM) HSB.out
  generalize txt L = T at *
  clear TX LE LM hk3
  go_wp2_with fail
  refine RT.mono ?_; rintro e w4 ⟨rfl, hk4⟩
  have HK04 := hide (HK03.out.andNu hk4)
  have HB4 := hide ((hk4.block _ (blk_lt HB3.out) (fun h => h)).trans HB3.out)
  have hk24 := HK3.out.andNu hk4
  have RS2 := (rs_of_own (own_keep HO2.out (fun g e => hk24.block g (own_lt HO2.out e) (fun h => h))) (by rw [HN.out]; exact hne))
  have SA := fun W (hW : Kp Nu w4 W) => same_true W _ _ L (RS2.nu hW) ((HR.out.nu HK04.out).nu hW) (by rw [HN.out]; exact hM)
  obtain ⟨a0', a1'⟩ := cell2' HB4.out
  clear RT hk4 hk24 a0 a1 RS2
  go_wp2_with fail
  refine (SA w4 (Kp.refl _ _)).mono ?_; rintro e w5 ⟨rfl, hk5⟩
  have HK05 := hide (HK04.out.andNu hk5)
  obtain ⟨a0, a1⟩ := cell2' ((hk5.block _ (blk_lt HB4.out) (fun h => h)).trans HB4.out)
  have z1 : ((N : Int) == (N : Int)) = true := by simp
  have z2 : (lim == lim) = true := by simp
  clear SA a0' a1' hk5
  go_wp2
  go_ret
  exact ⟨rfl, HK05.out⟩
end Go.Proofs.YtffcnonhhfhlhaaDoor.Rg
namespace Go.Proofs.YtffcnonhhfhlhaaDoor.Rg
open Go.RowKit Go.Shelf Go.Sort
open Go.Proofs.YtffcnonhhfhlhaaDoor.It
set_option linter.unusedVariables false

theorem sgs_of_own {w : World} {B : Nat} {u : Value} {M : List Sg} (h : w.ownsRow B 26 3 u M.length (cells M)) (hb : ∀ s ∈ M, SgB s) : Sgs w u M := by
  rcases Nat.eq_zero_or_pos M.length with h0 | h0
  · obtain rfl := List.eq_nil_of_length_eq_zero h0
    obtain ⟨ad, cp, e⟩ := own_slice h
    exact .inl ⟨⟨ad, cp, e⟩, rfl⟩
  · obtain ⟨r, off, cap, e, hc⟩ := rs_of_own h h0
    refine .inr ⟨r, off, cap, e, fun i s hs => ?_⟩
    obtain ⟨x0, x1, x2⟩ := hc i s hs
    have f := hb s (List.mem_of_getElem? hs)
    exact ⟨x0, x1, x2, f.l0, f.l1, f.h0, f.h1, f.o0, f.o1⟩

set_option maxRecDepth 100000 in
set_option maxHeartbeats 1000000 in
/-- two lists of the same segments, however long -/
theorem same_rz (w : World) (u1 u2 : Value) (L : List Sg) (h1 : Rz w u1 L) (h2 : Rz w u2 L) (hl : L.length ≤ 5864062014634) :
    Calls Tryd.prog 11 #[u1, u2] w fun e w' => e = .returned (.bool true) ∧ Kp Nu w w' := by
  have mixed : Tryd.prog.follows .mixedOrders = true := by kernel_rfl
  obtain ⟨a1, c1, e1⟩ := h1.slice
  obtain ⟨a2, c2, e2⟩ := h2.slice
  have HX1 := hide h1
  have HX2 := hide h2
  obtain ⟨N, hN⟩ : ∃ N, L.length = N := ⟨_, rfl⟩
  have HN := hide hN
  rw [hN] at e1 e2 hl
  have z0 : ((N : Int) != (N : Int)) = false := by simp
  subst e1 e2
  clear h1 h2 hN
  go_enter Tryd.func11, Tryd.ntmps11
  go_wp2_with fail
  go_loopw [5] (fun i wr => ∃ k : Nat, i = .int .i64 (k : Int) ∧ k ≤ N ∧ Hid (Kp Nu w wr)) (fun i _ => N - (intOf i).toNat)
  case atStart => exact ⟨0, rfl, Nat.zero_le _, Kp.refl _ _⟩
  case round =>
    obtain ⟨k, rfl, hk, hI⟩ := hrel
    by_cases hlt : k < N
    · have hkL : k < L.length := by rw [HN.out]; exact hlt
      obtain ⟨s, hs⟩ : ∃ s, L[k]? = some s := ⟨_, List.getElem?_eq_getElem hkL⟩
      have hX1 : ∃ r off cap, (.slice a1 N c1 : Value) = .slice (some ⟨r, off, none⟩) N cap ∧ w.cell? ⟨r, off + k * 3, none⟩ = some (.int .u64 s.lo) ∧ w.cell? ⟨r, off + k * 3 + 1, none⟩ = some (.int .u64 s.hi) ∧ w.cell? ⟨r, off + k * 3 + 2, none⟩ = some (.int .u8 s.h) := by
        rcases HX1.out with ⟨h0, _⟩ | ⟨r, off, cap, e, hc⟩
        · rw [h0] at hs; simp at hs
        · rw [HN.out] at e; exact ⟨r, off, cap, e, hc k s hs⟩
      have hX2 : ∃ r off cap, (.slice a2 N c2 : Value) = .slice (some ⟨r, off, none⟩) N cap ∧ w.cell? ⟨r, off + k * 3, none⟩ = some (.int .u64 s.lo) ∧ w.cell? ⟨r, off + k * 3 + 1, none⟩ = some (.int .u64 s.hi) ∧ w.cell? ⟨r, off + k * 3 + 2, none⟩ = some (.int .u8 s.h) := by
        rcases HX2.out with ⟨h0, _⟩ | ⟨r, off, cap, e, hc⟩
        · rw [h0] at hs; simp at hs
        · rw [HN.out] at e; exact ⟨r, off, cap, e, hc k s hs⟩
      obtain ⟨r1, o1, cp1, q1, x0, x1, x2⟩ := hX1
      obtain ⟨r2, o2, cp2, q2, y0, y1, y2⟩ := hX2
      simp only [Value.slice.injEq] at q1 q2
      obtain ⟨rfl, q1'⟩ := q1
      obtain ⟨rfl, q2'⟩ := q2
      clear q1' q2'
      replace x0 := cell_nu x0 hI.out.drew; replace x1 := cell_nu x1 hI.out.drew; replace x2 := cell_nu x2 hI.out.drew
      replace y0 := cell_nu y0 hI.out.drew; replace y1 := cell_nu y1 hI.out.drew; replace y2 := cell_nu y2 hI.out.drew
      have hltI : (k : Int) < (N : Int) := by omega
      have hk0 : (0 : Int) ≤ (k : Int) := by omega
      have hkN : (k : Int) ≤ 5864062014634 := by omega
      have HF : Hid (Kp Nu w wr.drew) := hI.out.drew
      have t0 : (s.lo == s.lo) = true := by simp
      have t1 : (s.hi == s.hi) = true := by simp
      have t2 : (s.h == s.h) = true := by simp
      clear hI hs hkL
      go_wp2_with fail
      go_region
      go_wp2
      go_roundw
      case rel => exact ⟨k + 1, by go_num, by omega, HF⟩
      case measure => simp [intOf]; omega
    · have hge : ¬ (k : Int) < (N : Int) := by omega
      go_wp2
      go_ret
      exact ⟨rfl, hI.out⟩
end Go.Proofs.YtffcnonhhfhlhaaDoor.Rg
