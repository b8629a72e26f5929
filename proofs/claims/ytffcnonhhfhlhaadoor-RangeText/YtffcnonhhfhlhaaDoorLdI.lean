import Derived.Test.YtffcnonhhfhlhaaDoorLdG
namespace Go.Proofs.YtffcnonhhfhlhaaDoor.Rg
open Go.RowKit Go.Shelf Go.Sort
open Go.Proofs.YtffcnonhhfhlhaaDoor.It
set_option linter.unusedVariables false

/-- what the document's Load answers -/
def Rrs (w w' : World) (lim : Int) (M : List Sg) (L : Int) (v : Value) (f : Int) : Prop :=
  (¬ (1 ≤ lim ∧ lim ≤ 8192) ∧ f = 63 ∧ L = 0 ∧ v = .slice none 0 0) ∨
  ((1 ≤ lim ∧ lim ≤ 8192) ∧ ∃ p f', Frs M p f' ∧ f = refC lim M f' ∧ ((f ≠ 0 ∧ L = 0 ∧ v = .slice none 0 0) ∨ (f = 0 ∧ L = lim ∧ w'.ownsRow w.heap.size 26 3 v (lays [] M).length (cells (lays [] M)))))

theorem cell2' {w : World} {b : Nat} {x0 x1 : Value} {t : TypeId} (h : w.heap[b]? = some (.cells #[x0, x1] t (0, 0))) : w.cell? ⟨b, 0, none⟩ = some x0 ∧ w.cell? ⟨b, 1, none⟩ = some x1 := by
  refine ⟨?_, ?_⟩ <;> simp [World.cell?, h]

set_option maxRecDepth 100000 in
set_option maxHeartbeats 1000000 in
theorem refLoad_any (w : World) (u : Value) (M : List Sg) (hM : Sgs w u M) (hlen : (M.length : Int) ≤ 5864062014634) (lim : Int) :
    Calls Tryd.prog 40 #[u, .int .i64 lim] w fun e w' => ∃ L v f, e = .returned (.tuple #[.agg #[.int .i64 L, v], .int .i64 f]) ∧ Rrs w w' lim M L v f ∧ Kp Nu w w' := by
  obtain ⟨ad, cap, hu⟩ := hM.slice
  have K0 := Kp.alloc w (.cells #[.int .i64 0, .slice none 0 0] 29) Nu
  by_cases h1 : lim < 1
  · generalize M.length = N at hu hlen
    subst hu
    clear hM
    go_enter Tryd.func40, Tryd.ntmps40
    go_wp2
    exact bodyPost_ret (v := .tuple #[.agg #[.int .i64 0, .slice none 0 0], .int .i64 63]) (by simp [results, Tryd.results40, go_sem]) rfl ⟨0, _, _, rfl, .inl ⟨by omega, rfl, rfl, rfl⟩, K0⟩
  by_cases h2 : lim > 8192
  · generalize M.length = N at hu hlen
    subst hu
    clear hM
    go_enter Tryd.func40, Tryd.ntmps40
    go_wp2
    exact bodyPost_ret (v := .tuple #[.agg #[.int .i64 0, .slice none 0 0], .int .i64 63]) (by simp [results, Tryd.results40, go_sem]) rfl ⟨0, _, _, rfl, .inl ⟨by omega, rfl, rfl, rfl⟩, K0⟩
  have hl : 1 ≤ lim ∧ lim ≤ 8192 := ⟨by omega, by omega⟩
  have nuS : ∀ {W W' : World}, Sgs W u M → Kp Nu W W' → Sgs W' u M := fun {W W'} h k => by
    rcases h with h | ⟨b, off, cp, h0, h3⟩
    · exact .inl h
    · exact .inr ⟨b, off, cp, h0, fun i s hs => ⟨cell_nu (h3 i s hs).c0 k, cell_nu (h3 i s hs).c1 k, cell_nu (h3 i s hs).c2 k, (h3 i s hs).fit⟩⟩
  have FA := fault_refA _ u M (nuS hM K0) (by omega)
  have HM := hide (nuS hM K0)
  have HL := hide hlen
  have HNS : Hid (∀ (W W' : World), Sgs W u M → Kp Nu W W' → Sgs W' u M) := fun W W' h k => nuS h k
  have hb0 : (w.alloc (.cells #[.int .i64 0, .slice none 0 0] 29)).heap[w.heap.size]? = some (.cells #[.int .i64 0, .slice none 0 0] 29 (0, 0)) := heap_alloc_new w _
  have HB := hide hb0
  have HK0 := hide K0
  have HUU := hide hu
  generalize hN : M.length = N at hu hlen
  have HNN := hide hN
  subst hu
  clear hM nuS hb0 K0 hN
  go_enter Tryd.func40, Tryd.ntmps40
  go_wp2_with fail
  refine FA.mono ?_; rintro e w2 ⟨p, f, rfl, hF, hk2⟩
  have HF := hide hF
  have hb2 := (hk2.block _ (blk_lt HB.out) (fun h => h)).trans HB.out
  obtain ⟨a0, a1⟩ := cell2' hb2
  have g0 := free3 hb2 0
  have g1 := free3 hb2 1
  clear FA hF
  by_cases hf : f = 0
  · subst hf
    have JO := join_any w2 _ M (HNS.out _ _ HM.out hk2) HL.out
    have HB2 := hide hb2
    have HK2 := hide (HK0.out.andNu hk2)
    clear hb2 hk2 a0 a1 g0 g1
    go_wp2_with fail
    refine JO.mono ?_; rintro e w3 ⟨u', rfl, ho, hk3⟩
    obtain ⟨ad3, cp3, hu3⟩ := own_slice ho
    have hb3 := (hk3.block _ (blk_lt HB2.out) (fun h => h)).trans HB2.out
    obtain ⟨a0, a1⟩ := cell2' hb3
    have g0 := free3 hb3 0
    have g1 := free3 hb3 1
    have HK3 := hide (HK2.out.andNu hk3)
    have hsz : w.heap.size ≤ w2.heap.size := HK2.out.size
    have HO := hide ho
    obtain ⟨NL, hNL⟩ : ∃ NL, (lays [] M).length = NL := ⟨_, rfl⟩
    have HNL := hide hNL
    rw [hNL] at hu3
    subst hu3
    have HB3 := hide hb3
    clear JO ho hk3 hNL hb3
    by_cases hgt : (NL : Int) > lim
    · go_wp2
      have hb4 := set3 (set3 HB3.out 0 (.int .i64 0)) 1 (.slice none 0 0)
      obtain ⟨y0, y1⟩ := cell2' (show ((w3.setCell ⟨w.heap.size, 0, none⟩ (.int .i64 0)).setCell ⟨w.heap.size, 1, none⟩ (.slice none 0 0)).heap[w.heap.size]? = some (.cells #[.int .i64 0, .slice none 0 0] 29 (0, 0)) from hb4)
      exact bodyPost_ret (v := .tuple #[.agg #[.int .i64 0, .slice none 0 0], .int .i64 61]) (by simp [results, Tryd.results40, go_sem, y0, y1]) rfl ⟨0, _, _, rfl, .inr ⟨hl, p, 0, HF.out, by unfold refC; rw [if_neg (by omega), HNL.out, if_pos (by omega)], .inl ⟨by omega, rfl, rfl⟩⟩, (HK3.out.andSet _ _ (.inl (Nat.le_refl _))).andSet _ _ (.inl (Nat.le_refl _))⟩
    · go_wp2
      have hb4 := set3 (set3 HB3.out 0 (.int .i64 lim)) 1 (.slice ad3 NL cp3)
      obtain ⟨y0, y1⟩ := cell2' (show ((w3.setCell ⟨w.heap.size, 0, none⟩ (.int .i64 lim)).setCell ⟨w.heap.size, 1, none⟩ (.slice ad3 NL cp3)).heap[w.heap.size]? = some (.cells #[.int .i64 lim, .slice ad3 NL cp3] 29 (0, 0)) from hb4)
      refine bodyPost_ret (v := .tuple #[.agg #[.int .i64 lim, .slice ad3 NL cp3], .int .i64 0]) (by simp [results, Tryd.results40, go_sem, y0, y1]) rfl ⟨lim, _, _, rfl, .inr ⟨hl, p, 0, HF.out, by unfold refC; rw [if_neg (by omega), HNL.out, if_neg (by omega)], .inr ⟨rfl, rfl, ?_⟩⟩, (HK3.out.andSet _ _ (.inl (Nat.le_refl _))).andSet _ _ (.inl (Nat.le_refl _))⟩
      have kk : Kp (fun k => k = w.heap.size) w3 ((w3.setCell ⟨w.heap.size, 0, none⟩ (.int .i64 lim)).setCell ⟨w.heap.size, 1, none⟩ (.slice ad3 NL cp3)) := ((Kp.setCell w3 ⟨w.heap.size, 0, none⟩ _).trans (Kp.setCell _ ⟨w.heap.size, 1, none⟩ _) (fun _ _ h => h))
      have h2sz : w.heap.size < w2.heap.size := blk_lt HB2.out
      refine own_base (base := w2.heap.size) ?_ hsz
      exact own_keep HO.out (fun g hg => kk.block g (own_lt HO.out hg) (fun e => by have e2 : g = w.heap.size := e; have := (HO.out.lt g hg).1; omega))
  · have hfb : (f != 0) = true := by simpa using hf
    have HK2 := hide (HK0.out.andNu hk2)
    have HB2 := hide hb2
    clear hk2 hb2
    go_wp2
    have hb4 := set3 (set3 HB2.out 0 (.int .i64 0)) 1 (.slice none 0 0)
    obtain ⟨y0, y1⟩ := cell2' (show ((w2.setCell ⟨w.heap.size, 0, none⟩ (.int .i64 0)).setCell ⟨w.heap.size, 1, none⟩ (.slice none 0 0)).heap[w.heap.size]? = some (.cells #[.int .i64 0, .slice none 0 0] 29 (0, 0)) from hb4)
    exact bodyPost_ret (v := .tuple #[.agg #[.int .i64 0, .slice none 0 0], .int .i64 f]) (by simp [results, Tryd.results40, go_sem, y0, y1]) rfl ⟨0, _, _, rfl, .inr ⟨hl, p, f, HF.out, by unfold refC; rw [if_pos hf], .inl ⟨hf, rfl, rfl⟩⟩, (HK2.out.andSet _ _ (.inl (Nat.le_refl _))).andSet _ _ (.inl (Nat.le_refl _))⟩
end Go.Proofs.YtffcnonhhfhlhaaDoor.Rg
namespace Go.Proofs.YtffcnonhhfhlhaaDoor.Rg
open Go.RowKit Go.Shelf Go.Sort
open Go.Proofs.YtffcnonhhfhlhaaDoor.It
set_option linter.unusedVariables false

theorem Sgs.rz {w : World} {u : Value} {M : List Sg} (h : Sgs w u M) : Rz w u M := by
  rcases h with ⟨⟨ad, cap, rfl⟩, rfl⟩ | ⟨b, off, cap, rfl, h3⟩
  · exact .inl ⟨rfl, ad, cap, rfl⟩
  · exact .inr ⟨b, off, cap, rfl, fun i s hs => ⟨(h3 i s hs).c0, (h3 i s hs).c1, (h3 i s hs).c2⟩⟩
theorem Sgs.sgb {w : World} {u : Value} {M : List Sg} (h : Sgs w u M) : ∀ s ∈ M, SgB s := fun s hs => by
  obtain ⟨i, hi⟩ := List.getElem?_of_mem hs
  rcases h with ⟨_, rfl⟩ | ⟨b, off, cap, _, h3⟩
  · cases hs
  · have f := (h3 i s hi).fit
    exact ⟨f.1, f.2.1, f.2.2.1, f.2.2.2.1, f.2.2.2.2.1, f.2.2.2.2.2⟩
theorem Sgs.nu {w w' : World} {u : Value} {M : List Sg} (h : Sgs w u M) (k : Kp Nu w w') : Sgs w' u M := by
  rcases h with h | ⟨b, off, cp, h0, h3⟩
  · exact .inl h
  · exact .inr ⟨b, off, cp, h0, fun i s hs => ⟨cell_nu (h3 i s hs).c0 k, cell_nu (h3 i s hs).c1 k, cell_nu (h3 i s hs).c2 k, (h3 i s hs).fit⟩⟩
/-- both codes are one, and where it is 0 both tables are the same -/
theorem codes {w wa wb wc : World} {lim : Int} {M : List Sg} {p v : Value} {c L f : Int} (h : Lrt wb wc lim M p c) (g : Rrs w wa lim M L v f) : c = f := by
  rcases h with ⟨h0, _, h1⟩ | ⟨h0, i, h1⟩
  · rcases g with ⟨_, g1, _⟩ | ⟨g0, _⟩
    · omega
    · exact absurd g0 h0
  · rcases g with ⟨g0, _⟩ | ⟨_, p', f', g1, g2, _⟩
    · exact absurd h0 g0
    · rw [g2]; exact code_same h1 g1

set_option maxRecDepth 100000 in
set_option maxHeartbeats 1000000 in
theorem loaded_any (w : World) (u : Value) (M : List Sg) (hM : Sgs w u M) (hlen : (M.length : Int) ≤ 5864062014634) (lim : Int) :
    Calls Tryd.prog 10 #[u, .int .i64 lim] w fun e w' => ∃ p L v, e = .returned (.tuple #[p, .agg #[.int .i64 L, v], .bool true]) ∧ (∃ ad n cp, v = .slice ad n cp) ∧ (p = .pointer none ∨ ∃ b vt B, w.heap.size ≤ B ∧ p = .pointer (some ⟨b, 0, none⟩) ∧ Tb B w' b lim vt (lays [] M) ∧ L = lim ∧ w'.ownsRow w.heap.size 26 3 v (lays [] M).length (cells (lays [] M)) ∧ ∀ g, v.ownBlock = some g → g < B) ∧ Kp Nu w w' := by
  have mixed : Tryd.prog.follows .mixedOrders = true := by kernel_rfl
  have K0 := Kp.alloc w (.cells #[.int .i64 0, .slice none 0 0] 29) Nu
  have RL := refLoad_any _ u M (hM.nu K0) hlen lim
  have HM := hide (hM.nu K0)
  have HS := hide hM.sgb
  have HL := hide hlen
  have hb0 : (w.alloc (.cells #[.int .i64 0, .slice none 0 0] 29)).heap[w.heap.size]? = some (.cells #[.int .i64 0, .slice none 0 0] 29 (0, 0)) := heap_alloc_new w _
  have HB := hide hb0
  have HK0 := hide K0
  obtain ⟨ad, cap, hu⟩ := hM.slice
  generalize hN : M.length = N at hu hlen
  have HNN := hide hN
  subst hu
  clear hM hb0 K0 hN hlen
  go_enter Tryd.func10, Tryd.ntmps10
  go_wp2_with fail
  refine RL.mono ?_; rintro e w2 ⟨L, v, f, rfl, hR, hk2⟩
  obtain ⟨w3, hw3⟩ : ∃ w3, w2.alloc (.cells #[.int .i64 L, v] 29) = w3 := ⟨_, rfl⟩
  have k23 : Kp Nu w2 w3 := by rw [← hw3]; exact Kp.alloc w2 _ Nu
  have hb3 : w3.heap[w2.heap.size]? = some (.cells #[.int .i64 L, v] 29 (0, 0)) := by rw [← hw3]; exact heap_alloc_new w2 _
  have hr3 := ((hk2.andNu k23).block _ (blk_lt HB.out) (fun h => h)).trans HB.out
  have LO := Load_any w3 _ M (HM.out.nu (hk2.andNu k23)).rz HS.out (by have := HL.out; omega) lim
  have HR := hide hR
  have HK3 := hide (HK0.out.andNu (hk2.andNu k23))
  have HK23 := hide k23
  have HB3 := hide hb3
  have HR3 := hide hr3
  have hlt : w.heap.size < w2.heap.size := Nat.lt_of_lt_of_le (blk_lt HB.out) hk2.size
  have hv : v = .slice none 0 0 ∨ ∃ ad n cp, v = .slice ad n cp := by
    rcases hR with ⟨_, _, _, h⟩ | ⟨_, _, _, _, _, ⟨_, _, h⟩ | ⟨_, _, h⟩⟩
    · exact .inl h
    · exact .inl h
    · obtain ⟨ad, cp, h⟩ := own_slice h
      exact .inr ⟨_, _, _, h⟩
  obtain ⟨adv, nv, cpv, hv⟩ : ∃ ad n cp, v = .slice ad n cp := by
    rcases hv with h | h
    · exact ⟨_, _, _, h⟩
    · exact h
  subst hv
  clear RL hR hk2 k23 hb3 hr3
  go_wp2_with fail
  refine LO.mono ?_; rintro e w4 ⟨p, c, rfl, hL, hk4⟩
  obtain rfl := codes hL HR.out
  have nm := num_any c w4
  have hb4 := (hk4.block _ (blk_lt HB3.out) (fun h => h)).trans HB3.out
  have hr4 := (hk4.block _ (blk_lt HR3.out) (fun h => h)).trans HR3.out
  obtain ⟨a0, a1⟩ := cell2' hb4
  obtain ⟨r0, r1⟩ := cell2' hr4
  have g0 := free3 hr4 0
  have g1 := free3 hr4 1
  have HL4 := hide hL
  have HK4 := hide hk4
  have HRR4 := hide hr4
  have hcc : (c != c) = false := by simp
  clear LO hb4 hr4 hk4
  rcases hL.ptr with ⟨rfl, hc⟩ | ⟨hc, b, rfl⟩
  · have hcb : (c != 0) = true := by simpa using hc
    clear hL
    go_wp2_with fail
    refine nm.mono ?_; rintro e wz ⟨rfl, hwz⟩
    obtain rfl := hwz.symm
    clear nm hwz
    go_wp2_with fail
    go_region
    go_wp2
    have hb6 : (w4.setCell ⟨w.heap.size, 0, none⟩ (.int .i64 L)).heap[w.heap.size]? = some (.cells #[.int .i64 L, .slice none 0 0] 29 (0, 0)) := set3 HRR4.out 0 (.int .i64 L)
    have hb5 : ((w4.setCell ⟨w.heap.size, 0, none⟩ (.int .i64 L)).setCell ⟨w.heap.size, 1, none⟩ (.slice adv nv cpv)).heap[w.heap.size]? = some (.cells #[.int .i64 L, .slice adv nv cpv] 29 (0, 0)) := set3 hb6 1 (.slice adv nv cpv)
    have z0 := (cell2' hb6).1
    obtain ⟨y0, y1⟩ := cell2' hb5
    exact bodyPost_ret (v := .tuple #[.pointer none, .agg #[.int .i64 L, .slice adv nv cpv], .bool true]) (by simp [results, Tryd.results10, go_sem, y0, y1]) rfl ⟨_, _, _, rfl, ⟨_, _, _, rfl⟩, .inl rfl, (((HK3.out.andNu HK4.out).andSet _ _ (.inl (Nat.le_refl _))).andSet _ _ (.inl (Nat.le_refl _))).drew⟩
  · subst hc
    clear hL
    go_wp2_with fail
    refine nm.mono ?_; rintro e wz ⟨rfl, hwz⟩
    obtain rfl := hwz.symm
    clear nm hwz
    go_wp2_with fail
    go_region
    go_wp2
    have hb6 : (w4.setCell ⟨w.heap.size, 0, none⟩ (.int .i64 L)).heap[w.heap.size]? = some (.cells #[.int .i64 L, .slice none 0 0] 29 (0, 0)) := set3 HRR4.out 0 (.int .i64 L)
    have hb5 : ((w4.setCell ⟨w.heap.size, 0, none⟩ (.int .i64 L)).setCell ⟨w.heap.size, 1, none⟩ (.slice adv nv cpv)).heap[w.heap.size]? = some (.cells #[.int .i64 L, .slice adv nv cpv] 29 (0, 0)) := set3 hb6 1 (.slice adv nv cpv)
    have z0 := (cell2' hb6).1
    obtain ⟨y0, y1⟩ := cell2' hb5
    have kk : Kp (fun k => k = w.heap.size) w4 ((w4.setCell ⟨w.heap.size, 0, none⟩ (.int .i64 L)).setCell ⟨w.heap.size, 1, none⟩ (.slice adv nv cpv)).drew := (((Kp.refl (fun k => k = w.heap.size) w4).andSet ⟨w.heap.size, 0, none⟩ _ (.inr rfl)).andSet ⟨w.heap.size, 1, none⟩ _ (.inr rfl)).drew
    refine bodyPost_ret (v := .tuple #[.pointer (some ⟨b, 0, none⟩), .agg #[.int .i64 L, .slice adv nv cpv], .bool true]) (by simp [results, Tryd.results10, go_sem, y0, y1]) rfl ⟨_, _, _, rfl, ⟨_, _, _, rfl⟩, .inr ?_, (((HK3.out.andNu HK4.out).andSet _ _ (.inl (Nat.le_refl _))).andSet _ _ (.inl (Nat.le_refl _))).drew⟩
    have h3 : w.heap.size < w3.heap.size := Nat.lt_of_lt_of_le hlt HK23.out.size
    rcases HL4.out with ⟨_, h, _⟩ | ⟨hlim, i, ⟨h, _⟩ | ⟨h, _⟩ | ⟨_, _, _, _, _, b', vt, h, hT⟩⟩
    · cases h
    · cases h
    · cases h
    · cases h
      rcases HR.out with ⟨h, _⟩ | ⟨_, p', f', _, _, ⟨h, _⟩ | ⟨_, hLl, hown⟩⟩
      · exact absurd hlim h
      · exact absurd rfl h
      · refine ⟨b, vt, w3.heap.size, Nat.le_of_lt h3, rfl, ?_, hLl, ?_, fun g hg => ?_⟩
        · have hlow := hT.low
          refine ⟨(kk.block _ (blk_lt hT.blk) (fun e => by have e2 : b = w.heap.size := e; omega)).trans hT.blk, hT.low, own_keep hT.own (fun g hg => kk.block g (own_lt hT.own hg) (fun e => by have e2 : g = w.heap.size := e; have := (hT.own.lt g hg).1; omega)), hT.tab, hT.len, hT.lim1⟩
        · refine own_base (base := (w.alloc (.cells #[.int .i64 0, .slice none 0 0] 29)).heap.size) ?_ (by simp)
          exact own_keep (own_keep (own_keep hown (fun g hg => HK23.out.block g (own_lt hown hg) (fun h => h))) (fun g hg => HK4.out.block g (Nat.lt_of_lt_of_le (own_lt hown hg) HK23.out.size) (fun h => h))) (fun g hg => kk.block g (Nat.lt_of_lt_of_le (own_lt hown hg) (Nat.le_trans HK23.out.size HK4.out.size)) (fun e => by have e2 : g = w.heap.size := e; have := (hown.lt g hg).1; simp at this; omega))
        · exact Nat.lt_of_lt_of_le (own_lt hown hg) HK23.out.size
end Go.Proofs.YtffcnonhhfhlhaaDoor.Rg
