import Derived.Test.YtbifmcadllilhaaLdG
namespace Go.Proofs.Ytbifmcadllilhaa.Rg
open Go.RowKit Go.Shelf Go.Sort
open Go.Proofs.Ytbifmcadllilhaa.It
set_option linter.unusedVariables false

/-- what the document's Load answers -/
def Rrs (w w' : World) (lim : Int) (M : List Sg) (L : Int) (v : Value) (f : Int) : Prop :=
  (¬ (1 ≤ lim ∧ lim ≤ 8192) ∧ f = 63 ∧ L = 0 ∧ v = .slice none 0 0) ∨
  ((1 ≤ lim ∧ lim ≤ 8192) ∧ ∃ p f', Frs M p f' ∧ f = refC lim M f' ∧ ((f ≠ 0 ∧ L = 0 ∧ v = .slice none 0 0) ∨ (f = 0 ∧ L = lim ∧ w'.ownsRow w.heap.size 82 3 v (lays [] M).length (cells (lays [] M)))))

theorem cell2' {w : World} {b : Nat} {x0 x1 : Value} {t : TypeId} (h : w.heap[b]? = some (.cells #[x0, x1] t (0, 0))) : w.cell? ⟨b, 0, none⟩ = some x0 ∧ w.cell? ⟨b, 1, none⟩ = some x1 := by
  refine ⟨?_, ?_⟩ <;> simp [World.cell?, h]

set_option maxRecDepth 100000 in
set_option maxHeartbeats 1000000 in
theorem refLoad_any (w : World) (u : Value) (M : List Sg) (hM : Sgs w u M) (hlen : (M.length : Int) ≤ 5864062014634) (lim : Int) :
    Calls Try.prog 38 #[u, .int .i64 lim] w fun e w' => ∃ L v f, e = .returned (.tuple #[.agg #[.int .i64 L, v], .int .i64 f]) ∧ Rrs w w' lim M L v f ∧ Kp Nu w w' := by
  obtain ⟨ad, cap, hu⟩ := hM.slice
  have K0 := Kp.alloc w (.cells #[.int .i64 0, .slice none 0 0] 76) Nu
  by_cases h1 : lim < 1
  · generalize M.length = N at hu hlen
    subst hu
    clear hM
    go_enter Try.func38, Try.ntmps38
    go_wp2
    exact bodyPost_ret (v := .tuple #[.agg #[.int .i64 0, .slice none 0 0], .int .i64 63]) (by simp [results, Try.results38, go_sem]) rfl ⟨0, _, _, rfl, .inl ⟨by omega, rfl, rfl, rfl⟩, K0⟩
  by_cases h2 : lim > 8192
  · generalize M.length = N at hu hlen
    subst hu
    clear hM
    go_enter Try.func38, Try.ntmps38
    go_wp2
    exact bodyPost_ret (v := .tuple #[.agg #[.int .i64 0, .slice none 0 0], .int .i64 63]) (by simp [results, Try.results38, go_sem]) rfl ⟨0, _, _, rfl, .inl ⟨by omega, rfl, rfl, rfl⟩, K0⟩
  have hl : 1 ≤ lim ∧ lim ≤ 8192 := ⟨by omega, by omega⟩
  have nuS : ∀ {W W' : World}, Sgs W u M → Kp Nu W W' → Sgs W' u M := fun {W W'} h k => by
    rcases h with h | ⟨b, off, cp, h0, h3⟩
    · exact .inl h
    · exact .inr ⟨b, off, cp, h0, fun i s hs => ⟨cell_nu (h3 i s hs).c0 k, cell_nu (h3 i s hs).c1 k, cell_nu (h3 i s hs).c2 k, (h3 i s hs).fit⟩⟩
  have FA := fault_refA _ u M (nuS hM K0) (by omega)
  have HM := hide (nuS hM K0)
  have HL := hide hlen
  have HNS : Hid (∀ (W W' : World), Sgs W u M → Kp Nu W W' → Sgs W' u M) := fun W W' h k => nuS h k
  have hb0 : (w.alloc (.cells #[.int .i64 0, .slice none 0 0] 76)).heap[w.heap.size]? = some (.cells #[.int .i64 0, .slice none 0 0] 76 (0, 0)) := heap_alloc_new w _
  have HB := hide hb0
  have HK0 := hide K0
  have HUU := hide hu
  generalize hN : M.length = N at hu hlen
  have HNN := hide hN
  subst hu
  clear hM nuS hb0 K0 hN
  go_enter Try.func38, Try.ntmps38
  go_wp2_with fail
  refine FA.mono ?_; rintro e w2 ⟨p, f, rfl, hF, hk2⟩
  have HF := hide hF
  have hb2 := (hk2.block _ (blk_lt HB.out) (fun h => h)).trans HB.out
  obtain ⟨a0, a1⟩ := cell2' hb2
  have g0 := free3 hb2 0
  have g1 := free3 hb2 1
  clear FA hF
  by_cases hf : f = 0
  · subst hf
    have JO := join_any w2 _ M (HNS.out _ _ HM.out hk2) HL.out
    have HB2 := hide hb2
    have HK2 := hide (HK0.out.andNu hk2)
    clear hb2 hk2 a0 a1 g0 g1
    go_wp2_with fail
    refine JO.mono ?_; rintro e w3 ⟨u', rfl, ho, hk3⟩
    obtain ⟨ad3, cp3, hu3⟩ := own_slice ho
    have hb3 := (hk3.block _ (blk_lt HB2.out) (fun h => h)).trans HB2.out
    obtain ⟨a0, a1⟩ := cell2' hb3
    have g0 := free3 hb3 0
    have g1 := free3 hb3 1
    have HK3 := hide (HK2.out.andNu hk3)
    have hsz : w.heap.size ≤ w2.heap.size := HK2.out.size
    have HO := hide ho
    obtain ⟨NL, hNL⟩ : ∃ NL, (lays [] M).length = NL := ⟨_, rfl⟩
    have HNL := hide hNL
    rw [hNL] at hu3
    subst hu3
    have HB3 := hide hb3
    clear JO ho hk3 hNL hb3
    by_cases hgt : (NL : Int) > lim
    · go_wp2
      have hb4 := set3 (set3 HB3.out 0 (.int .i64 0)) 1 (.slice none 0 0)
      obtain ⟨y0, y1⟩ := cell2' (show ((w3.setCell ⟨w.heap.size, 0, none⟩ (.int .i64 0)).setCell ⟨w.heap.size, 1, none⟩ (.slice none 0 0)).heap[w.heap.size]? = some (.cells #[.int .i64 0, .slice none 0 0] 76 (0, 0)) from hb4)
      exact bodyPost_ret (v := .tuple #[.agg #[.int .i64 0, .slice none 0 0], .int .i64 61]) (by simp [results, Try.results38, go_sem, y0, y1]) rfl ⟨0, _, _, rfl, .inr ⟨hl, p, 0, HF.out, by unfold refC; rw [if_neg (by omega), HNL.out, if_pos (by omega)], .inl ⟨by omega, rfl, rfl⟩⟩, (HK3.out.andSet _ _ (.inl (Nat.le_refl _))).andSet _ _ (.inl (Nat.le_refl _))⟩
    · go_wp2
      have hb4 := set3 (set3 HB3.out 0 (.int .i64 lim)) 1 (.slice ad3 NL cp3)
      obtain ⟨y0, y1⟩ := cell2' (show ((w3.setCell ⟨w.heap.size, 0, none⟩ (.int .i64 lim)).setCell ⟨w.heap.size, 1, none⟩ (.slice ad3 NL cp3)).heap[w.heap.size]? = some (.cells #[.int .i64 lim, .slice ad3 NL cp3] 76 (0, 0)) from hb4)
      refine bodyPost_ret (v := .tuple #[.agg #[.int .i64 lim, .slice ad3 NL cp3], .int .i64 0]) (by simp [results, Try.results38, go_sem, y0, y1]) rfl ⟨lim, _, _, rfl, .inr ⟨hl, p, 0, HF.out, by unfold refC; rw [if_neg (by omega), HNL.out, if_neg (by omega)], .inr ⟨rfl, rfl, ?_⟩⟩, (HK3.out.andSet _ _ (.inl (Nat.le_refl _))).andSet _ _ (.inl (Nat.le_refl _))⟩
      have kk : Kp (fun k => k = w.heap.size) w3 ((w3.setCell ⟨w.heap.size, 0, none⟩ (.int .i64 lim)).setCell ⟨w.heap.size, 1, none⟩ (.slice ad3 NL cp3)) := ((Kp.setCell w3 ⟨w.heap.size, 0, none⟩ _).trans (Kp.setCell _ ⟨w.heap.size, 1, none⟩ _) (fun _ _ h => h))
      have h2sz : w.heap.size < w2.heap.size := blk_lt HB2.out
      refine own_base (base := w2.heap.size) ?_ hsz
      exact own_keep HO.out (fun g hg => kk.block g (own_lt HO.out hg) (fun e => by have e2 : g = w.heap.size := e; have := (HO.out.lt g hg).1; omega))
  · have hfb : (f != 0) = true := by simpa using hf
    have HK2 := hide (HK0.out.andNu hk2)
    have HB2 := hide hb2
    clear hk2 hb2
    go_wp2
    have hb4 := set3 (set3 HB2.out 0 (.int .i64 0)) 1 (.slice none 0 0)
    obtain ⟨y0, y1⟩ := cell2' (show ((w2.setCell ⟨w.heap.size, 0, none⟩ (.int .i64 0)).setCell ⟨w.heap.size, 1, none⟩ (.slice none 0 0)).heap[w.heap.size]? = some (.cells #[.int .i64 0, .slice none 0 0] 76 (0, 0)) from hb4)
    exact bodyPost_ret (v := .tuple #[.agg #[.int .i64 0, .slice none 0 0], .int .i64 f]) (by simp [results, Try.results38, go_sem, y0, y1]) rfl ⟨0, _, _, rfl, .inr ⟨hl, p, f, HF.out, by unfold refC; rw [if_pos hf], .inl ⟨hf, rfl, rfl⟩⟩, (HK2.out.andSet _ _ (.inl (Nat.le_refl _))).andSet _ _ (.inl (Nat.le_refl _))⟩
end Go.Proofs.Ytbifmcadllilhaa.Rg
