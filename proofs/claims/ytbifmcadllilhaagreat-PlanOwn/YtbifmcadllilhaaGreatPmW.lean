import Derived.Test.YtbifmcadllilhaaGreatPmV
namespace Go.Proofs.YtbifmcadllilhaaGreat.Rg
open Go.RowKit Go.Shelf Go.Sort
set_option linter.unusedVariables false
theorem Pls.nu {w w' : World} {B : Nat} {pv : Value} {vs : List Value} {ls : List (List St)} (h : Pls w B pv vs ls) (k : Kp Nu w w') : Pls w' B pv vs ls :=
  ⟨own_keep h.row (fun g e => k.block g (own_lt h.row e) (fun h => h)), h.len, fun i v l hv hl => own_keep (h.each i v l hv hl) (fun g e => k.block g (own_lt (h.each i v l hv hl) e) (fun h => h)), h.apart⟩
theorem Pla.nu {w w' : World} {B pb : Nat} {ls : List (List St)} {lg lt : List Wt} {pv gv tv : Value} {vs : List Value} (h : Pla w B pb ls lg lt pv gv tv vs) (k : Kp Nu w w') : Pla w' B pb ls lg lt pv gv tv vs :=
  ⟨box2 h.blk k, h.pls.nu k, h.rg.nu k, h.rt.nu k, h.ne⟩
theorem Pls.off {w : World} {B : Nat} {pv : Value} {vs : List Value} {ls : List (List St)} (h : Pls w B pv vs ls) {i g : Nat} {cs : Array Value} {ty : TypeId} (hg : w.heap[g]? = some (.cells cs ty (0, 0))) (h1 : ty ≠ 68) (h2 : ty ≠ 99) (hi : i < vs.length) : ¬ (some g = pv.ownBlock ∨ ∃ v, vs[i]? = some v ∧ some g = v.ownBlock) := by
  rintro (e | ⟨v, hv, e⟩)
  · obtain ⟨c, hc⟩ := own_obj h.row e.symm
    rw [hg] at hc; cases hc; exact h1 rfl
  · obtain ⟨l, hl⟩ : ∃ l, ls[i]? = some l := ⟨_, List.getElem?_eq_getElem (by rw [h.len]; exact hi)⟩
    obtain ⟨c, hc⟩ := own_obj (h.each i v l hv hl) e.symm
    rw [hg] at hc; cases hc; exact h2 rfl
theorem Pla.after {w w' : World} {B pb : Nat} {ls ls' : List (List St)} {lg lt : List Wt} {pv gv tv : Value} {vs vs' : List Value} (h : Pla w B pb ls lg lt pv gv tv vs) (hp : Pls w' B pv vs' ls') {i : Nat} (hi : i < vs.length) (k : Kp (fun g => some g = pv.ownBlock ∨ ∃ v, vs[i]? = some v ∧ some g = v.ownBlock) w w') : Pla w' B pb ls' lg lt pv gv tv vs' := by
  have row : ∀ {v : Value} {l : List Wt}, Wr w B v l → Wr w' B v l := fun {v l} hr => own_keep hr (fun g e => k.block g (own_lt hr e) (by
    obtain ⟨c, hc⟩ := own_obj hr e
    exact h.pls.off hc (by decide) (by decide) hi))
  exact ⟨(k.block pb (blk_lt h.blk) (h.pls.off h.blk (by decide) (by decide) hi)).trans h.blk, hp, row h.rg, row h.rt, h.ne⟩
theorem Pla.bound {w : World} {B pb : Nat} {ls : List (List St)} {lg lt : List Wt} {pv gv tv : Value} {vs : List Value} (h : Pla w B pb ls lg lt pv gv tv vs) (i g : Nat) (e : some g = pv.ownBlock ∨ ∃ v, vs[i]? = some v ∧ some g = v.ownBlock) : B ≤ g := by
  rcases e with e | ⟨v, hv, e⟩
  · exact (h.pls.row.lt g e.symm).1
  · obtain ⟨l, hl⟩ : ∃ l, ls[i]? = some l := ⟨_, List.getElem?_eq_getElem (by rw [h.pls.len]; exact (List.getElem?_eq_some_iff.1 hv).1)⟩
    exact ((h.pls.each i v l hv hl).lt g e.symm).1
/-- what a move may change: the planner, its rows -/
def Sp4 (w : World) (B pb g : Nat) : Prop := g = pb ∨ (B ≤ g ∧ ∃ c t, w.heap[g]? = some (.cells c t (0, 0)) ∧ (t = 68 ∨ t = 99 ∨ t = 105))
theorem Pla.sp4 {w W2 : World} {B pb : Nat} {ls : List (List St)} {lg lt : List Wt} {pv gv tv : Value} {vs : List Value} (h : Pla W2 B pb ls lg lt pv gv tv vs) (k : Kp Nu w W2) {i g : Nat} (hg : g < w.heap.size) (e : some g = pv.ownBlock ∨ ∃ v, vs[i]? = some v ∧ some g = v.ownBlock) : Sp4 w B pb g := by
  refine .inr ⟨h.bound i g e, ?_⟩
  rcases e with e | ⟨v, hv, e⟩
  · obtain ⟨c, hc⟩ := own_obj h.pls.row e.symm
    exact ⟨c, 68, (k.block g hg (fun h => h)).symm.trans hc, .inl rfl⟩
  · obtain ⟨l, hl⟩ : ∃ l, ls[i]? = some l := ⟨_, List.getElem?_eq_getElem (by rw [h.pls.len]; exact (List.getElem?_eq_some_iff.1 hv).1)⟩
    obtain ⟨c, hc⟩ := own_obj (h.pls.each i v l hv hl) e.symm
    exact ⟨c, 99, (k.block g hg (fun h => h)).symm.trans hc, .inr (.inl rfl)⟩
theorem wr_sp4 {w : World} {B pb g n c : Nat} {l : List Wt} (h : Wr w B (.slice (some ⟨g, 0, none⟩) n c) l) : Sp4 w B pb g := by
  obtain ⟨c, hc⟩ := own_obj h (g := g) rfl
  exact .inr ⟨(h.lt g rfl).1, c, 105, hc, .inr (.inr rfl)⟩
theorem Pls.keep {w w' : World} {B : Nat} {pv : Value} {vs : List Value} {ls : List (List St)} (h : Pls w B pv vs ls) (k : ∀ (g : Nat) c ty, w.heap[g]? = some (.cells c ty (0, 0)) → (ty = 68 ∨ ty = 99) → w'.heap[g]? = w.heap[g]?) : Pls w' B pv vs ls :=
  ⟨own_keep h.row (fun g e => by obtain ⟨c, hc⟩ := own_obj h.row e; exact k g c _ hc (.inl rfl)), h.len, fun i v l hv hl => own_keep (h.each i v l hv hl) (fun g e => by obtain ⟨c, hc⟩ := own_obj (h.each i v l hv hl) e; exact k g c _ hc (.inr rfl)), h.apart⟩
theorem other_set5 {W : World} {R g : Nat} (y0 y1 y2 y3 y4 : Value) {ob : Obj} (h : W.heap[g]? = some ob) (hne : g ≠ R) : (((((W.setCell ⟨R, 0, none⟩ y0).setCell ⟨R, 1, none⟩ y1).setCell ⟨R, 2, none⟩ y2).setCell ⟨R, 3, none⟩ y3).setCell ⟨R, 4, none⟩ y4).heap[g]? = some ob :=
  other_set (other_set (other_set (other_set (other_set h hne) hne) hne) hne) hne
theorem next_end {W4 W5 W6 : World} {B pb gb tb NG NT cg ct R : Nat} {ls : List (List St)} {lg lt lg' lt' : List Wt} {pv gv' tv' : Value} {vs : List Value} {rc : Array Value} (pa4 : Pla W4 B pb ls lg lt pv (.slice (some ⟨gb, 0, none⟩) NG cg) (.slice (some ⟨tb, 0, none⟩) NT ct) vs)
    (hq5 : Qb W5 pb 1 B (#[pv, .slice (some ⟨gb, 0, none⟩) NG cg, .slice (some ⟨tb, 0, none⟩) NT ct].setIfInBounds 1 gv') gv' lg') (hf5 : Qf W4 W5 pb 1 #[pv, .slice (some ⟨gb, 0, none⟩) NG cg, .slice (some ⟨tb, 0, none⟩) NT ct] (.slice (some ⟨gb, 0, none⟩) NG cg) gv')
    (hq6 : Qb W6 pb 2 B (#[pv, gv', .slice (some ⟨tb, 0, none⟩) NT ct].setIfInBounds 2 tv') tv' lt') (hf6 : Qf W5 W6 pb 2 #[pv, gv', .slice (some ⟨tb, 0, none⟩) NT ct] (.slice (some ⟨tb, 0, none⟩) NT ct) tv')
    (hR4 : W4.heap[R]? = some (.cells rc 41 (0, 0))) (hgR : gb ≠ R) (htR : tb ≠ R) (y0 y1 y2 y3 y4 : Value) :
    Pla (((((W6.setCell ⟨R, 0, none⟩ y0).setCell ⟨R, 1, none⟩ y1).setCell ⟨R, 2, none⟩ y2).setCell ⟨R, 3, none⟩ y3).setCell ⟨R, 4, none⟩ y4) B pb ls lg' lt' pv gv' tv' vs := by
  have hgt : gb ≠ tb := fun e => pa4.ne gb rfl (by rw [e]; rfl)
  have hgl : gb < W4.heap.size := own_lt pa4.rg rfl
  have htl : tb < W4.heap.size := own_lt pa4.rt rfl
  have s5 := hf5.kp.size
  have keep : ∀ (g : Nat) ob, g ≠ pb → g ≠ gb → g ≠ tb → W4.heap[g]? = some ob → W6.heap[g]? = some ob := fun g ob n1 n2 n3 hg => by
    have hl : g < W4.heap.size := by
      rcases Nat.lt_or_ge g W4.heap.size with e | e
      · exact e
      · rw [Array.getElem?_eq_none e] at hg; cases hg
    have q1 := hf5.kp.block g hl (fun e => by
      rcases e with e | e
      · exact n1 e
      · have e3 : some g = some gb := e
        cases e3; exact n2 rfl)
    have q2 := hf6.kp.block g (by omega) (fun e => by
      rcases e with e | e
      · exact n1 e
      · have e3 : some g = some tb := e
        cases e3; exact n3 rfl)
    exact q2.trans (q1.trans hg)
  obtain ⟨cgr, hcg⟩ := own_obj pa4.rg (g := gb) rfl
  obtain ⟨ctr, hct⟩ := own_obj pa4.rt (g := tb) rfl
  have hpR : pb ≠ R := fun e => by have := pa4.blk; rw [e, hR4] at this; cases this
  have hR6 := keep R _ (Ne.symm hpR) (Ne.symm hgR) (Ne.symm htR) hR4
  have row7 : ∀ {v : Value} {l : List Wt}, Wr W6 B v l → Wr (((((W6.setCell ⟨R, 0, none⟩ y0).setCell ⟨R, 1, none⟩ y1).setCell ⟨R, 2, none⟩ y2).setCell ⟨R, 3, none⟩ y3).setCell ⟨R, 4, none⟩ y4) B v l := fun {v l} hr => own_keep hr (fun g e => by
    obtain ⟨c, hc⟩ := own_obj hr e
    rw [hc]
    exact other_set5 _ _ _ _ _ hc (fun e2 => by rw [e2, hR6] at hc; cases hc))
  have rg6 : Wr W6 B gv' lg' := own_keep hq5.row (fun g e => hf6.kp.block g (own_lt hq5.row e) (fun e2 => by
    rcases e2 with e2 | e2
    · obtain ⟨c, hc⟩ := own_obj hq5.row e
      rw [e2, hq5.blk] at hc; cases hc
    · have e3 : some g = some tb := e2
      cases e3
      rcases hf5.lie with q | ⟨g', hg', q⟩
      · rw [e] at q
        have q3 : some tb = some gb := q
        cases q3; exact hgt rfl
      · rw [e] at q; cases q; omega))
  refine ⟨other_set5 _ _ _ _ _ hq6.blk hpR, pa4.pls.keep (fun g c ty hg hty => ?_), row7 rg6, row7 hq6.row, fun g eg et => ?_⟩
  · rw [hg]
    refine other_set5 _ _ _ _ _ (keep g _ ?_ ?_ ?_ hg) ?_
    · intro e; rw [e, pa4.blk] at hg; cases hg; rcases hty with h | h <;> cases h
    · intro e; rw [e, hcg] at hg; cases hg; rcases hty with h | h <;> cases h
    · intro e; rw [e, hct] at hg; cases hg; rcases hty with h | h <;> cases h
    · intro e; rw [e, hR4] at hg; cases hg; rcases hty with h | h <;> cases h
  · have l5 := own_lt hq5.row eg
    rcases hf6.lie with q | ⟨g', hg', q⟩
    · rw [et] at q
      have q3 : some g = some tb := q
      cases q3
      rcases hf5.lie with p | ⟨g', hg', p⟩
      · rw [eg] at p
        have p3 : some tb = some gb := p
        cases p3; exact hgt rfl
      · rw [eg] at p; cases p; omega
    · rw [et] at q
      cases q
      omega
set_option maxRecDepth 100000 in
set_option maxHeartbeats 2000000 in
theorem next51 (w : World) (B pb : Nat) (ls : List (List St)) (lg lt : List Wt) (pv gv tv : Value) (vs : List Value) (most : Int) (ho : Nat) (l : List St) (s : St) (kl : List Int) (hp : Pla w B pb ls lg lt pv gv tv vs) (hg0 : 0 < lg.length) (ht0 : 0 < lt.length) (hgl : lg.length ≤ 16) (htl : lt.length ≤ 16) (hgo : Hok lg lg.length) (hto : Hok lt lt.length) (eh : (we lg 0).h = (ho : Int)) (hh : ho < 16) (hl : ls[ho]? = some (l ++ [s])) (hll : l.length ≤ 8192) (hU : Us w (.slice s.a s.n s.c) kl) (hr : Ris kl) (hk : ∀ x ∈ kl, 0 ≤ x ∧ x < 18446744073709551616) (hsb : s.n ≤ 100000) (hs1 : 1 ≤ s.n)
    (hm1 : 1 ≤ most) (hm2 : most ≤ 32) (hgp : 1 ≤ (we lg 0).p ∧ (we lg 0).p ≤ 100000) (htp : 1 ≤ (we lt 0).p ∧ (we lt 0).p ≤ 100000) :
    Calls Tryz.prog 29 #[.pointer (some ⟨pb, 0, none⟩), .int .i64 most] w fun e w' => ∃ lo, ∃ m : Nat, ∃ t lg' lt', e = .returned (.agg #[.int .u8 (we lg 0).h, .int .u8 (we lt 0).h, .int .u64 lo, .int .u64 s.sg.hi, .int .i64 (m : Int)]) ∧ Tko l s kl (min (min (we lg 0).p (we lt 0).p) most) lo m t ∧ lg'.Perm (lsn lg (m : Int)) ∧ Hok lg' lg'.length ∧ lt'.Perm (lsn lt (m : Int)) ∧ Hok lt' lt'.length ∧ (∃ gv' tv' vs', Pla w' B pb (ls.set ho t) lg' lt' pv gv' tv' vs') ∧ Kp (Sp4 w B pb) w w' := by
  have mixed : Tryz.prog.follows .mixedOrders = true := by kernel_rfl
  obtain ⟨gb, cg, egv, hBg, g0, g1, curg, hcg⟩ := hp.rg.at_ (k := 0) hg0
  obtain ⟨tb, ct, etv, hBt, t0, t1, curt, hct⟩ := hp.rt.at_ (k := 0) ht0
  simp only [Nat.zero_mul, Nat.zero_add] at g0 g1 t0 t1
  obtain ⟨G, eG⟩ : ∃ G, we lg 0 = G := ⟨_, rfl⟩
  obtain ⟨T, eT⟩ : ∃ T, we lt 0 = T := ⟨_, rfl⟩
  obtain ⟨NG, eNG⟩ : ∃ N, lg.length = N := ⟨_, rfl⟩
  obtain ⟨NT, eNT⟩ : ∃ N, lt.length = N := ⟨_, rfl⟩
  rw [eG] at g0 g1 eh hgp ⊢
  rw [eT] at t0 t1 htp ⊢
  rw [eNG] at egv
  rw [eNT] at etv
  obtain ⟨pc0, pc1, pc2⟩ := cell3 hp.blk
  have HU := hide (And.intro hp (And.intro hg0 (And.intro ht0 (And.intro hgl (And.intro htl (And.intro hgo (And.intro hto (And.intro hl (And.intro hll (And.intro hU (And.intro hr (And.intro hk (And.intro eG (And.intro eT (And.intro eNG (And.intro eNT (And.intro hgp htp)))))))))))))))))
  have hNG : (0 : Int) < (NG : Int) := by omega
  have hNT : (0 : Int) < (NT : Int) := by omega
  subst egv
  subst etv
  clear hp hg0 ht0 hgl htl hgo hto hl hll hU hr hk eG eT eNG eNT hcg hct
  obtain ⟨w1, hw1⟩ : ∃ w1, w.alloc (.cells #[.int .u8 0, .int .u8 0, .int .u64 0, .int .u64 0, .int .i64 0] 41) = w1 := ⟨_, rfl⟩
  have kA : Kp Nu w w1 := by rw [← hw1]; exact Kp.alloc _ _ _
  have bA : w1.heap[w.heap.size]? = some (.cells #[.int .u8 0, .int .u8 0, .int .u64 0, .int .u64 0, .int .i64 0] 41 (0, 0)) := by rw [← hw1]; exact heap_alloc_new w _
  have HA := hide (And.intro kA bA)
  have kB := Kp.alloc w1 (.cells #[.int .u8 0, .int .i64 0] 105) Nu
  have kC := kB.andAlloc (.cells #[.int .u8 0, .int .i64 0] 105)
  replace pc1 := cell_nu pc1 kA
  replace pc2 := cell_nu pc2 kA
  replace g0 := cell_nu g0 kA
  replace g1 := cell_nu g1 kA
  replace t0 := cell_nu t0 kA
  replace t1 := cell_nu t1 kA
  have pcb1 := cell_nu pc1 kB
  have pcb2 := cell_nu pc2 kB
  have gb0 := cell_nu g0 kB
  have gb1 := cell_nu g1 kB
  have tb0 := cell_nu t0 kB
  have tb1 := cell_nu t1 kB
  have pcc1 := cell_nu pc1 kC
  have pcc2 := cell_nu pc2 kC
  have gc0 := cell_nu g0 kC
  have gc1 := cell_nu g1 kC
  have tc0 := cell_nu t0 kC
  have tc1 := cell_nu t1 kC
  have kD := (Kp.alloc w1 (.cells #[.int .u8 G.h, .int .i64 G.p] 105) Nu).andAlloc (.cells #[.int .u8 0, .int .i64 0] 105)
  have kE := kB.andAlloc (.cells #[.int .u8 G.h, .int .i64 G.p] 105)
  have pcd2 := cell_nu pc2 kD
  have td0 := cell_nu t0 kD
  have td1 := cell_nu t1 kD
  have pce2 := cell_nu pc2 kE
  have te0 := cell_nu t0 kE
  have te1 := cell_nu t1 kE
  rw [eh] at pcd2 td0 td1 pce2 te0 te1 g0 gb0 gc0
  have hNG' : 0 < NG := by omega
  have hNT' : 0 < NT := by omega
  clear kA bA kB kC kD kE pc0
  go_enter Tryz.func29, Tryz.ntmps29
  go_wp2_with fail
  go_region
  · have k2 := ((Kp.alloc w1 (.cells #[.int .u8 (ho : Int), .int .i64 G.p] 105) Nu).andAlloc (.cells #[.int .u8 T.h, .int .i64 T.p] 105)).drew
    have b1 : (((w1.alloc (.cells #[.int .u8 (ho : Int), .int .i64 G.p] 105)).alloc (.cells #[.int .u8 T.h, .int .i64 T.p] 105)).drew).heap[w1.heap.size]? = some (.cells #[.int .u8 (ho : Int), .int .i64 G.p] 105 (0, 0)) := box2 (heap_alloc_new w1 _) ((Kp.alloc _ _ Nu).drew)
    have b2 : (((w1.alloc (.cells #[.int .u8 (ho : Int), .int .i64 G.p] 105)).alloc (.cells #[.int .u8 T.h, .int .i64 T.p] 105)).drew).heap[w1.heap.size + 1]? = some (.cells #[.int .u8 T.h, .int .i64 T.p] 105 (0, 0)) := (by
      have h := heap_alloc_new (w1.alloc (.cells #[.int .u8 (ho : Int), .int .i64 G.p] 105)) (.cells #[.int .u8 T.h, .int .i64 T.p] 105)
      rw [World.size_alloc] at h
      exact h)
    generalize ((w1.alloc (.cells #[.int .u8 (ho : Int), .int .i64 G.p] 105)).alloc (.cells #[.int .u8 T.h, .int .i64 T.p] 105)).drew = W2 at k2 b1 b2 ⊢
    have kw := HA.out.1.andNu k2
    have TO := fun Z (q : Kp Nu W2 Z) => (takeOff76 Z B pb pv _ _ vs ls ho l s kl (min (min G.p T.p) most) (box2 HU.out.1.blk (kw.andNu q)) (HU.out.1.pls.nu (kw.andNu q)) hh HU.out.2.2.2.2.2.2.2.1 (by omega) (by omega) HU.out.2.2.2.2.2.2.2.2.1 (HU.out.2.2.2.2.2.2.2.2.2.1.nu (kw.andNu q)) HU.out.2.2.2.2.2.2.2.2.2.2.1 HU.out.2.2.2.2.2.2.2.2.2.2.2.1 hsb).mono (fun e w' r => (by
      obtain ⟨lo, m, a, c, t, e1, e2, vs', e3, e4⟩ := r
      exact ⟨_, e1, lo, m, a, c, t, vs', rfl, hide ⟨e2, e3⟩, hide e4⟩ : ∃ v, e = .returned v ∧ ∃ lo m a c t vs', v = .agg #[.int .u64 lo, .int .u64 s.sg.hi, .int .u8 s.sg.h, .slice a m c] ∧ Hid (Tko l s kl (min (min G.p T.p) most) lo m t ∧ Pls w' B pv vs' (ls.set ho t)) ∧ Hid (Kp (fun g => some g = pv.ownBlock ∨ ∃ v, vs[ho]? = some v ∧ some g = v.ownBlock) Z w')))
    obtain ⟨p1, p2⟩ := cell2' b1
    obtain ⟨q1, q2⟩ := cell2' b2
    have HB := hide (And.intro k2 (And.intro b1 (And.intro b2 kw)))
    clear k2 b1 b2 kw pc1 pc2 g0 g1 t0 t1 pcb1 pcb2 gb0 gb1 tb0 tb1 pcc1 pcc2 gc0 gc1 tc0 tc1 pcd2 td0 td1 pce2 te0 te1 hw1
    go_wp2_with fail
    all_goals
      have TO' := TO W2 (Kp.refl _ _)
      first
      | (rw [show min (min G.p T.p) most = G.p by omega] at TO'; refine TO'.mono ?_; have HM : Hid (min (min G.p T.p) most = G.p) := hide (by omega))
      | (rw [show min (min G.p T.p) most = T.p by omega] at TO'; refine TO'.mono ?_; have HM : Hid (min (min G.p T.p) most = T.p) := hide (by omega))
      | (rw [show min (min G.p T.p) most = most by omega] at TO'; refine TO'.mono ?_; have HM : Hid (min (min G.p T.p) most = most) := hide (by omega))
      rintro e W3 ⟨v, rfl, lo, m, a, c, t, vs', rfl, hT, hK⟩
      rw [← HM.out] at hT
      clear TO TO' HM
      have hvl : ho < vs.length := by rw [← HU.out.1.pls.len]; exact (List.getElem?_eq_some_iff.1 HU.out.2.2.2.2.2.2.2.1).1
      have pa2 := HU.out.1.nu HB.out.2.2.2
      have pa3 := pa2.after hT.out.2 hvl hK.out
      have b13 := (hK.out.block w1.heap.size (blk_lt HB.out.2.1) (pa2.pls.off HB.out.2.1 (by decide) (by decide) hvl)).trans HB.out.2.1
      have b23 := (hK.out.block (w1.heap.size + 1) (blk_lt HB.out.2.2.1) (pa2.pls.off HB.out.2.2.1 (by decide) (by decide) hvl)).trans HB.out.2.2.1
      have bA2 := box2 HA.out.2 HB.out.1
      have bA3 := (hK.out.block w.heap.size (blk_lt bA2) (pa2.pls.off bA2 (by decide) (by decide) hvl)).trans bA2
      obtain ⟨W4, hW4⟩ : ∃ W4, W3.alloc (.cells #[.int .u64 lo, .int .u64 s.sg.hi, .int .u8 s.sg.h, .slice a m c] 99) = W4 := ⟨_, rfl⟩
      have k4 : Kp Nu W3 W4 := by rw [← hW4]; exact Kp.alloc _ _ _
      have b4 : W4.heap[W3.heap.size]? = some (.cells #[.int .u64 lo, .int .u64 s.sg.hi, .int .u8 s.sg.h, .slice a m c] 99 (0, 0)) := by rw [← hW4]; exact heap_alloc_new W3 _
      have pa4 := pa3.nu k4
      have hmb : (0 : Int) ≤ (m : Int) ∧ (m : Int) ≤ G.p ∧ (m : Int) ≤ T.p := by
        rcases hT.out.1 with ⟨q1, q2, _⟩ | ⟨q1, q2, _⟩
        · omega
        · omega
      have LG := lessen77 W4 pb 1 B #[pv, _, _] _ lg (m : Int) ⟨pa4.blk, rfl, pa4.rg⟩ HU.out.2.1 (by have := HU.out.2.2.2.1; omega) HU.out.2.2.2.2.2.1 (by rw [HU.out.2.2.2.2.2.2.2.2.2.2.2.2.1]; omega)
      obtain ⟨d0, d1, d2, d3⟩ := cell4 b4
      have hgw : gb < w.heap.size := own_lt HU.out.1.rg rfl
      have htw : tb < w.heap.size := own_lt HU.out.1.rt rfl
      have hpw : pb < w.heap.size := blk_lt HU.out.1.blk
      have hww : w.heap.size < w1.heap.size := blk_lt HA.out.2
      have hw13 : w1.heap.size + 1 < W3.heap.size := blk_lt b23
      have HC := hide (And.intro pa4 (And.intro (box2 b13 k4) (And.intro (box2 b23 k4) (And.intro (box2 bA3 k4) (And.intro b4 (And.intro pa2 k4))))))
      clear pa2 pa3 b13 b23 bA2 bA3 k4 b4 pa4 p1 p2 q1 q2
      go_wp2_with fail
      refine LG.mono ?_; rintro e W5 ⟨rfl, gv', lg', hq5, hp5, hk5, hf5⟩
      have rt5 : Wr W5 B (.slice (some ⟨tb, 0, none⟩) NT ct) lt := own_keep HC.out.1.rt (fun g e => hf5.kp.block g (own_lt HC.out.1.rt e) (fun e2 => by
        rcases e2 with e2 | e2
        · obtain ⟨c, hc⟩ := own_obj HC.out.1.rt e
          rw [e2, HC.out.1.blk] at hc; cases hc
        · exact HC.out.1.ne g e2.symm e))
      have LT := lessen77 W5 pb 2 B #[pv, gv', _] _ lt (m : Int) ⟨hq5.blk, rfl, rt5⟩ HU.out.2.2.1 (by have := HU.out.2.2.2.2.1; omega) HU.out.2.2.2.2.2.2.1 (by rw [HU.out.2.2.2.2.2.2.2.2.2.2.2.2.2.1]; omega)
      have HD := hide (And.intro hq5 (And.intro hp5 (And.intro hk5 hf5)))
      clear LG hq5 hp5 hk5 hf5 rt5 d0 d1 d2 d3 hW4
      go_wp2_with fail
      refine LT.mono ?_; rintro e W6 ⟨rfl, tv', lt', hq6, hp6, hk6, hf6⟩
      have keep : ∀ (g : Nat) ob, w.heap.size ≤ g → W4.heap[g]? = some ob → W6.heap[g]? = some ob := fun g ob hg hgo => by
        have hl : g < W4.heap.size := by
          rcases Nat.lt_or_ge g W4.heap.size with e | e
          · exact e
          · rw [Array.getElem?_eq_none e] at hgo; cases hgo
        have q1 := HD.out.2.2.2.kp.block g hl (fun e => by
          rcases e with e | e
          · omega
          · have e3 : some g = some gb := e
            cases e3; omega)
        have q2 := hf6.kp.block g (Nat.lt_of_lt_of_le hl HD.out.2.2.2.kp.size) (fun e => by
          rcases e with e | e
          · omega
          · have e3 : some g = some tb := e
            cases e3; omega)
        exact q2.trans (q1.trans hgo)
      obtain ⟨p1, p2⟩ := cell2' (keep _ _ (by omega) HC.out.2.1)
      obtain ⟨q1, q2⟩ := cell2' (keep _ _ (by omega) HC.out.2.2.1)
      have bR6 := keep _ _ (Nat.le_refl _) HC.out.2.2.2.1
      obtain ⟨r0, r1, r2, r3, r4⟩ := cell5 bR6
      obtain ⟨d0, d1, d2, d3⟩ := cell4 (keep _ _ (by omega) HC.out.2.2.2.2.1)
      have fr0 := free3 bR6 0
      have fr1 := free3 bR6 1
      have fr2 := free3 bR6 2
      have fr3 := free3 bR6 3
      have fr4 := free3 bR6 4
      have HE := hide (And.intro hq6 (And.intro hp6 (And.intro hk6 (And.intro hf6 bR6))))
      clear LT keep hq6 hp6 hk6 hf6 bR6
      go_wp2
      obtain ⟨hq6, hp6, hk6, hf6, bR6⟩ := HE.out
      obtain ⟨hq5, hp5, hk5, hf5⟩ := HD.out
      obtain ⟨pa4, bb1, bb2, bR4, bs4, pa2, k4⟩ := HC.out
      have b5 := five_set bR6 (.int .u8 (ho : Int)) (.int .u8 T.h) (.int .u64 lo) (.int .u64 s.sg.hi) (.int .i64 (m : Int))
      obtain ⟨y0, y1, y2, y3, y4⟩ := cell5 b5
      have kk1 : Kp (Sp4 w B pb) w W3 := (HB.out.2.2.2.mono (T := Sp4 w B pb) (fun _ _ e => e.elim)).trans hK.out (fun g hg e => pa2.sp4 HB.out.2.2.2 hg e)
      have kk2 := (kk1.trans k4 (fun _ _ e => e.elim)).trans hf5.kp (fun g _ e => by
        rcases e with e | e
        · exact .inl e
        · have e3 : some g = some gb := e
          cases e3; exact wr_sp4 HU.out.1.rg)
      have kk3 := kk2.trans hf6.kp (fun g _ e => by
        rcases e with e | e
        · exact .inl e
        · have e3 : some g = some tb := e
          cases e3; exact wr_sp4 HU.out.1.rt)
      have kk4 := ((((kk3.andSet ⟨w.heap.size, 0, none⟩ (.int .u8 (ho : Int)) (.inl (Nat.le_refl _))).andSet ⟨w.heap.size, 1, none⟩ (.int .u8 T.h) (.inl (Nat.le_refl _))).andSet ⟨w.heap.size, 2, none⟩ (.int .u64 lo) (.inl (Nat.le_refl _))).andSet ⟨w.heap.size, 3, none⟩ (.int .u64 s.sg.hi) (.inl (Nat.le_refl _))).andSet ⟨w.heap.size, 4, none⟩ (.int .i64 (m : Int)) (.inl (Nat.le_refl _))
      exact bodyPost_ret (v := .agg #[.int .u8 (ho : Int), .int .u8 T.h, .int .u64 lo, .int .u64 s.sg.hi, .int .i64 (m : Int)]) (by simp [results, Tryz.results29, go_sem, y0, y1, y2, y3, y4]) rfl ⟨lo, m, t, lg', lt', by rw [eh], hT.out.1, hp5, hk5, hp6, hk6, ⟨gv', tv', vs', next_end pa4 hq5 hf5 hq6 hf6 bR4 (by omega) (by omega) _ _ _ _ _⟩, kk4⟩
  · have k2 := ((Kp.alloc w1 (.cells #[.int .u8 T.h, .int .i64 T.p] 105) Nu).andAlloc (.cells #[.int .u8 (ho : Int), .int .i64 G.p] 105)).drew
    have b1 : (((w1.alloc (.cells #[.int .u8 T.h, .int .i64 T.p] 105)).alloc (.cells #[.int .u8 (ho : Int), .int .i64 G.p] 105)).drew).heap[w1.heap.size]? = some (.cells #[.int .u8 T.h, .int .i64 T.p] 105 (0, 0)) := box2 (heap_alloc_new w1 _) ((Kp.alloc _ _ Nu).drew)
    have b2 : (((w1.alloc (.cells #[.int .u8 T.h, .int .i64 T.p] 105)).alloc (.cells #[.int .u8 (ho : Int), .int .i64 G.p] 105)).drew).heap[w1.heap.size + 1]? = some (.cells #[.int .u8 (ho : Int), .int .i64 G.p] 105 (0, 0)) := (by
      have h := heap_alloc_new (w1.alloc (.cells #[.int .u8 T.h, .int .i64 T.p] 105)) (.cells #[.int .u8 (ho : Int), .int .i64 G.p] 105)
      rw [World.size_alloc] at h
      exact h)
    generalize ((w1.alloc (.cells #[.int .u8 T.h, .int .i64 T.p] 105)).alloc (.cells #[.int .u8 (ho : Int), .int .i64 G.p] 105)).drew = W2 at k2 b1 b2 ⊢
    have kw := HA.out.1.andNu k2
    have TO := fun Z (q : Kp Nu W2 Z) => (takeOff76 Z B pb pv _ _ vs ls ho l s kl (min (min G.p T.p) most) (box2 HU.out.1.blk (kw.andNu q)) (HU.out.1.pls.nu (kw.andNu q)) hh HU.out.2.2.2.2.2.2.2.1 (by omega) (by omega) HU.out.2.2.2.2.2.2.2.2.1 (HU.out.2.2.2.2.2.2.2.2.2.1.nu (kw.andNu q)) HU.out.2.2.2.2.2.2.2.2.2.2.1 HU.out.2.2.2.2.2.2.2.2.2.2.2.1 hsb).mono (fun e w' r => (by
      obtain ⟨lo, m, a, c, t, e1, e2, vs', e3, e4⟩ := r
      exact ⟨_, e1, lo, m, a, c, t, vs', rfl, hide ⟨e2, e3⟩, hide e4⟩ : ∃ v, e = .returned v ∧ ∃ lo m a c t vs', v = .agg #[.int .u64 lo, .int .u64 s.sg.hi, .int .u8 s.sg.h, .slice a m c] ∧ Hid (Tko l s kl (min (min G.p T.p) most) lo m t ∧ Pls w' B pv vs' (ls.set ho t)) ∧ Hid (Kp (fun g => some g = pv.ownBlock ∨ ∃ v, vs[ho]? = some v ∧ some g = v.ownBlock) Z w')))
    obtain ⟨p1, p2⟩ := cell2' b1
    obtain ⟨q1, q2⟩ := cell2' b2
    have HB := hide (And.intro k2 (And.intro b1 (And.intro b2 kw)))
    clear k2 b1 b2 kw pc1 pc2 g0 g1 t0 t1 pcb1 pcb2 gb0 gb1 tb0 tb1 pcc1 pcc2 gc0 gc1 tc0 tc1 pcd2 td0 td1 pce2 te0 te1 hw1
    go_wp2_with fail
    all_goals
      have TO' := TO W2 (Kp.refl _ _)
      first
      | (rw [show min (min G.p T.p) most = G.p by omega] at TO'; refine TO'.mono ?_; have HM : Hid (min (min G.p T.p) most = G.p) := hide (by omega))
      | (rw [show min (min G.p T.p) most = T.p by omega] at TO'; refine TO'.mono ?_; have HM : Hid (min (min G.p T.p) most = T.p) := hide (by omega))
      | (rw [show min (min G.p T.p) most = most by omega] at TO'; refine TO'.mono ?_; have HM : Hid (min (min G.p T.p) most = most) := hide (by omega))
      rintro e W3 ⟨v, rfl, lo, m, a, c, t, vs', rfl, hT, hK⟩
      rw [← HM.out] at hT
      clear TO TO' HM
      have hvl : ho < vs.length := by rw [← HU.out.1.pls.len]; exact (List.getElem?_eq_some_iff.1 HU.out.2.2.2.2.2.2.2.1).1
      have pa2 := HU.out.1.nu HB.out.2.2.2
      have pa3 := pa2.after hT.out.2 hvl hK.out
      have b13 := (hK.out.block w1.heap.size (blk_lt HB.out.2.1) (pa2.pls.off HB.out.2.1 (by decide) (by decide) hvl)).trans HB.out.2.1
      have b23 := (hK.out.block (w1.heap.size + 1) (blk_lt HB.out.2.2.1) (pa2.pls.off HB.out.2.2.1 (by decide) (by decide) hvl)).trans HB.out.2.2.1
      have bA2 := box2 HA.out.2 HB.out.1
      have bA3 := (hK.out.block w.heap.size (blk_lt bA2) (pa2.pls.off bA2 (by decide) (by decide) hvl)).trans bA2
      obtain ⟨W4, hW4⟩ : ∃ W4, W3.alloc (.cells #[.int .u64 lo, .int .u64 s.sg.hi, .int .u8 s.sg.h, .slice a m c] 99) = W4 := ⟨_, rfl⟩
      have k4 : Kp Nu W3 W4 := by rw [← hW4]; exact Kp.alloc _ _ _
      have b4 : W4.heap[W3.heap.size]? = some (.cells #[.int .u64 lo, .int .u64 s.sg.hi, .int .u8 s.sg.h, .slice a m c] 99 (0, 0)) := by rw [← hW4]; exact heap_alloc_new W3 _
      have pa4 := pa3.nu k4
      have hmb : (0 : Int) ≤ (m : Int) ∧ (m : Int) ≤ G.p ∧ (m : Int) ≤ T.p := by
        rcases hT.out.1 with ⟨q1, q2, _⟩ | ⟨q1, q2, _⟩
        · omega
        · omega
      have LG := lessen77 W4 pb 1 B #[pv, _, _] _ lg (m : Int) ⟨pa4.blk, rfl, pa4.rg⟩ HU.out.2.1 (by have := HU.out.2.2.2.1; omega) HU.out.2.2.2.2.2.1 (by rw [HU.out.2.2.2.2.2.2.2.2.2.2.2.2.1]; omega)
      obtain ⟨d0, d1, d2, d3⟩ := cell4 b4
      have hgw : gb < w.heap.size := own_lt HU.out.1.rg rfl
      have htw : tb < w.heap.size := own_lt HU.out.1.rt rfl
      have hpw : pb < w.heap.size := blk_lt HU.out.1.blk
      have hww : w.heap.size < w1.heap.size := blk_lt HA.out.2
      have hw13 : w1.heap.size + 1 < W3.heap.size := blk_lt b23
      have HC := hide (And.intro pa4 (And.intro (box2 b13 k4) (And.intro (box2 b23 k4) (And.intro (box2 bA3 k4) (And.intro b4 (And.intro pa2 k4))))))
      clear pa2 pa3 b13 b23 bA2 bA3 k4 b4 pa4 p1 p2 q1 q2
      go_wp2_with fail
      refine LG.mono ?_; rintro e W5 ⟨rfl, gv', lg', hq5, hp5, hk5, hf5⟩
      have rt5 : Wr W5 B (.slice (some ⟨tb, 0, none⟩) NT ct) lt := own_keep HC.out.1.rt (fun g e => hf5.kp.block g (own_lt HC.out.1.rt e) (fun e2 => by
        rcases e2 with e2 | e2
        · obtain ⟨c, hc⟩ := own_obj HC.out.1.rt e
          rw [e2, HC.out.1.blk] at hc; cases hc
        · exact HC.out.1.ne g e2.symm e))
      have LT := lessen77 W5 pb 2 B #[pv, gv', _] _ lt (m : Int) ⟨hq5.blk, rfl, rt5⟩ HU.out.2.2.1 (by have := HU.out.2.2.2.2.1; omega) HU.out.2.2.2.2.2.2.1 (by rw [HU.out.2.2.2.2.2.2.2.2.2.2.2.2.2.1]; omega)
      have HD := hide (And.intro hq5 (And.intro hp5 (And.intro hk5 hf5)))
      clear LG hq5 hp5 hk5 hf5 rt5 d0 d1 d2 d3 hW4
      go_wp2_with fail
      refine LT.mono ?_; rintro e W6 ⟨rfl, tv', lt', hq6, hp6, hk6, hf6⟩
      have keep : ∀ (g : Nat) ob, w.heap.size ≤ g → W4.heap[g]? = some ob → W6.heap[g]? = some ob := fun g ob hg hgo => by
        have hl : g < W4.heap.size := by
          rcases Nat.lt_or_ge g W4.heap.size with e | e
          · exact e
          · rw [Array.getElem?_eq_none e] at hgo; cases hgo
        have q1 := HD.out.2.2.2.kp.block g hl (fun e => by
          rcases e with e | e
          · omega
          · have e3 : some g = some gb := e
            cases e3; omega)
        have q2 := hf6.kp.block g (Nat.lt_of_lt_of_le hl HD.out.2.2.2.kp.size) (fun e => by
          rcases e with e | e
          · omega
          · have e3 : some g = some tb := e
            cases e3; omega)
        exact q2.trans (q1.trans hgo)
      obtain ⟨p1, p2⟩ := cell2' (keep _ _ (by omega) HC.out.2.1)
      obtain ⟨q1, q2⟩ := cell2' (keep _ _ (by omega) HC.out.2.2.1)
      have bR6 := keep _ _ (Nat.le_refl _) HC.out.2.2.2.1
      obtain ⟨r0, r1, r2, r3, r4⟩ := cell5 bR6
      obtain ⟨d0, d1, d2, d3⟩ := cell4 (keep _ _ (by omega) HC.out.2.2.2.2.1)
      have fr0 := free3 bR6 0
      have fr1 := free3 bR6 1
      have fr2 := free3 bR6 2
      have fr3 := free3 bR6 3
      have fr4 := free3 bR6 4
      have HE := hide (And.intro hq6 (And.intro hp6 (And.intro hk6 (And.intro hf6 bR6))))
      clear LT keep hq6 hp6 hk6 hf6 bR6
      go_wp2
      obtain ⟨hq6, hp6, hk6, hf6, bR6⟩ := HE.out
      obtain ⟨hq5, hp5, hk5, hf5⟩ := HD.out
      obtain ⟨pa4, bb1, bb2, bR4, bs4, pa2, k4⟩ := HC.out
      have b5 := five_set bR6 (.int .u8 (ho : Int)) (.int .u8 T.h) (.int .u64 lo) (.int .u64 s.sg.hi) (.int .i64 (m : Int))
      obtain ⟨y0, y1, y2, y3, y4⟩ := cell5 b5
      have kk1 : Kp (Sp4 w B pb) w W3 := (HB.out.2.2.2.mono (T := Sp4 w B pb) (fun _ _ e => e.elim)).trans hK.out (fun g hg e => pa2.sp4 HB.out.2.2.2 hg e)
      have kk2 := (kk1.trans k4 (fun _ _ e => e.elim)).trans hf5.kp (fun g _ e => by
        rcases e with e | e
        · exact .inl e
        · have e3 : some g = some gb := e
          cases e3; exact wr_sp4 HU.out.1.rg)
      have kk3 := kk2.trans hf6.kp (fun g _ e => by
        rcases e with e | e
        · exact .inl e
        · have e3 : some g = some tb := e
          cases e3; exact wr_sp4 HU.out.1.rt)
      have kk4 := ((((kk3.andSet ⟨w.heap.size, 0, none⟩ (.int .u8 (ho : Int)) (.inl (Nat.le_refl _))).andSet ⟨w.heap.size, 1, none⟩ (.int .u8 T.h) (.inl (Nat.le_refl _))).andSet ⟨w.heap.size, 2, none⟩ (.int .u64 lo) (.inl (Nat.le_refl _))).andSet ⟨w.heap.size, 3, none⟩ (.int .u64 s.sg.hi) (.inl (Nat.le_refl _))).andSet ⟨w.heap.size, 4, none⟩ (.int .i64 (m : Int)) (.inl (Nat.le_refl _))
      exact bodyPost_ret (v := .agg #[.int .u8 (ho : Int), .int .u8 T.h, .int .u64 lo, .int .u64 s.sg.hi, .int .i64 (m : Int)]) (by simp [results, Tryz.results29, go_sem, y0, y1, y2, y3, y4]) rfl ⟨lo, m, t, lg', lt', by rw [eh], hT.out.1, hp5, hk5, hp6, hk6, ⟨gv', tv', vs', next_end pa4 hq5 hf5 hq6 hf6 bR4 (by omega) (by omega) _ _ _ _ _⟩, kk4⟩
end Go.Proofs.YtbifmcadllilhaaGreat.Rg
