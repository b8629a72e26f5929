import Derived.Test.YtbifmcadllilhaaGreatPmT
namespace Go.Proofs.YtbifmcadllilhaaGreat.Rg
open Go.RowKit Go.Shelf Go.Sort
set_option linter.unusedVariables false
/-- the stretches of a host that have a key -/
def hst (l : List St) (h : Nat) : List St := l.filter (fun s => decide (s.sg.h = (h : Int)) && decide (0 < s.n))
theorem info84z : (Tryz.prog.info? 68).map (fun i => (i.zero, i.size, i.bytes)) = some (some (.slice none 0 0), 1, 24) := by kernel_rfl
theorem pls_zero {w1 : World} {base g N : Nat} (h : w1.ownsRow base 68 1 (.slice (some ⟨g, 0, none⟩) N N) N (madeCells (Value.slice none 0 0).cells (N * 1)).toList) : Pls w1 base (.slice (some ⟨g, 0, none⟩) N N) (List.replicate N (.slice none 0 0)) ((List.range N).map (hst [])) := by
  have e : (madeCells (Value.slice none 0 0).cells (N * 1)).toList = List.replicate N (.slice none 0 0) := by
    simp only [madeCells, Value.cells]
    simp [Nat.mod_one, List.map_const']
  rw [e] at h
  refine ⟨by rw [List.length_replicate]; exact h, by simp, fun i v l hv hl => ?_, fun i j v v' g' hv hv' hne hg' => ?_⟩
  · have e1 : v = .slice none 0 0 := (List.mem_replicate.1 (List.mem_of_getElem? hv)).2
    have e2 : l = [] := by
      rw [List.getElem?_map] at hl
      obtain ⟨a, _, ha⟩ := Option.map_eq_some_iff.1 hl
      rw [← ha]; rfl
    rw [e1, e2]
    exact World.ownsRow_nil _ _ _ _
  · have e1 : v = .slice none 0 0 := (List.mem_replicate.1 (List.mem_of_getElem? hv)).2
    rw [e1] at hg'
    cases hg'
theorem Pls.app {w w4 : World} {B : Nat} {pv : Value} {vs : List Value} {ls : List (List St)} (hP : Pls w B pv vs ls) {q r cr : Nat} {v v' : Value} {lq : List St} {s : St} {curr : Array Value} (hv : vs[q]? = some v) (hl : ls[q]? = some lq) (ho4 : w4.ownsRow B 99 4 v' (lq.length + 1) (cellsT lq ++ cellsS s)) (kp : Kp (fun g => some g = v.ownBlock) w w4) (lie : v'.ownBlock = v.ownBlock ∨ ∃ g, w.heap.size ≤ g ∧ v'.ownBlock = some g)
    (epv : pv = .slice (some ⟨r, 0, none⟩) vs.length cr) (hrr : w.heap[r]? = some (.cells curr 68 (0, 0))) : Pls (w4.setCell ⟨r, q, none⟩ v') B pv (vs.set q v') (ls.set q (lq ++ [s])) := by
  have hh : q < vs.length := (List.getElem?_eq_some_iff.1 hv).1
  have hh2 : q < ls.length := (List.getElem?_eq_some_iff.1 hl).1
  have hrv : some r ≠ v.ownBlock := fun e => by
    obtain ⟨c, hc⟩ := own_obj (hP.each q v lq hv hl) e.symm
    rw [hrr] at hc; cases hc
  have hr4 : w4.heap[r]? = some (.cells curr 68 (0, 0)) := (kp.block r (blk_lt hrr) (fun e => hrv e)).trans hrr
  have set1 : ∀ {u : Value} {m : List St}, w4.ownsRow B 99 4 u m.length (cellsT m) → (w4.setCell ⟨r, q, none⟩ v').ownsRow B 99 4 u m.length (cellsT m) := fun {u m} ho => own_keep ho (fun g e => by
    obtain ⟨c, hc⟩ := own_obj ho e
    rw [hc]
    exact ((Kp.setCell w4 ⟨r, q, none⟩ v').block g (blk_lt hc) (fun e2 => by have e3 : g = r := e2; rw [e3, hr4] at hc; cases hc)).trans hc)
  refine ⟨?_, by rw [List.length_set, List.length_set]; exact hP.len, fun h' u m hu hm => ?_, fun h1 h2 v1 v2 g e1 e2 hne eg => ?_⟩
  · have h0 := own_keep hP.row (w' := w4) (fun g e => kp.block g (own_lt hP.row e) (fun e2 => by
      rw [epv] at e
      have e3 : some r = some g := e
      cases e3
      exact hrv e2))
    rw [epv] at h0 ⊢
    have h1 := own_put h0 q v' hh
    rw [List.length_set]
    exact h1
  · by_cases e : q = h'
    · subst e
      rw [List.getElem?_set_self hh] at hu
      rw [List.getElem?_set_self hh2] at hm
      cases hu
      cases hm
      refine set1 ?_
      rw [List.length_append, List.length_singleton, cellsT_snoc]
      exact ho4
    · rw [List.getElem?_set_ne e] at hu hm
      have ho := hP.each h' u m hu hm
      exact set1 (own_keep ho (fun g eg => kp.block g (own_lt ho eg) (fun e2 => hP.apart q h' v u g hv hu e e2.symm eg)))
  · have f : ∀ (i : Nat) u, (vs.set q v')[i]? = some u → ∃ u', vs[i]? = some u' ∧ (u.ownBlock = u'.ownBlock ∨ (i = q ∧ ∃ g, w.heap.size ≤ g ∧ u.ownBlock = some g)) := fun i u hu => by
      by_cases e : q = i
      · subst e
        rw [List.getElem?_set_self hh] at hu
        cases hu
        refine ⟨v, hv, ?_⟩
        rcases lie with e | e
        · exact .inl e
        · exact .inr ⟨rfl, e⟩
      · rw [List.getElem?_set_ne e] at hu
        exact ⟨u, hu, .inl rfl⟩
    have lt : ∀ (i : Nat) u g, vs[i]? = some u → u.ownBlock = some g → g < w.heap.size := fun i u g hu hg => by
      obtain ⟨m, hm⟩ : ∃ m, ls[i]? = some m := ⟨_, List.getElem?_eq_getElem (by rw [hP.len]; exact (List.getElem?_eq_some_iff.1 hu).1)⟩
      exact own_lt (hP.each i u m hu hm) hg
    obtain ⟨u1, a1, b1⟩ := f h1 v1 e1
    obtain ⟨u2, a2, b2⟩ := f h2 v2 e2
    intro e9
    rcases b1 with b1 | ⟨i1, g1, l1, b1⟩
    · rcases b2 with b2 | ⟨i2, g2, l2, b2⟩
      · exact hP.apart h1 h2 u1 u2 g a1 a2 hne (b1 ▸ eg) (b2 ▸ e9)
      · have := lt h1 u1 g a1 (b1 ▸ eg)
        rw [b2] at e9
        cases e9
        omega
    · rcases b2 with b2 | ⟨i2, g2, l2, b2⟩
      · have := lt h2 u2 g a2 (b2 ▸ e9)
        rw [b1] at eg
        cases eg
        omega
      · omega
end Go.Proofs.YtbifmcadllilhaaGreat.Rg
namespace Go.Proofs.YtbifmcadllilhaaGreat.Rg
open Go.RowKit Go.Shelf Go.Sort
set_option linter.unusedVariables false
theorem other_set {W : World} {b q o : Nat} {x : Value} {ob : Obj} (h : W.heap[q]? = some ob) (hne : q ≠ b) : (W.setCell ⟨b, o, none⟩ x).heap[q]? = some ob := ((Kp.setCell W ⟨b, o, none⟩ x).block q (by
  rcases Nat.lt_or_ge q W.heap.size with e | e
  · exact e
  · rw [Array.getElem?_eq_none e] at h; cases h) (fun e => hne e)).trans h
theorem sets_end {W : World} {U L q R K : Nat} {curq : Array Value} {x0 x1 x2 x3 : Value} (a0 a1 v0 v1 v2 v3 y0 y1 y2 y3 : Value) (bQ : W.heap[q]? = some (.cells curq 99 (0, 0))) (bA : W.heap[R]? = some (.cells #[x0, x1, x2, x3] 99 (0, 0))) (hqU : q ≠ U) (hqL : q ≠ L) (hRU : R ≠ U) (hRL : R ≠ L) (hqR : q ≠ R) :
    ((((((((((W.setCell ⟨U, 0, none⟩ a0).setCell ⟨L, 1, none⟩ a1).setCell ⟨q, K * 4, none⟩ v0).setCell ⟨q, K * 4 + 1, none⟩ v1).setCell ⟨q, K * 4 + 2, none⟩ v2).setCell ⟨q, K * 4 + 3, none⟩ v3).setCell ⟨R, 0, none⟩ y0).setCell ⟨R, 1, none⟩ y1).setCell ⟨R, 2, none⟩ y2).setCell ⟨R, 3, none⟩ y3).heap[q]? = some (.cells ((((curq.setIfInBounds (K * 4) v0).setIfInBounds (K * 4 + 1) v1).setIfInBounds (K * 4 + 2) v2).setIfInBounds (K * 4 + 3) v3) 99 (0, 0)) ∧
    ((((((((((W.setCell ⟨U, 0, none⟩ a0).setCell ⟨L, 1, none⟩ a1).setCell ⟨q, K * 4, none⟩ v0).setCell ⟨q, K * 4 + 1, none⟩ v1).setCell ⟨q, K * 4 + 2, none⟩ v2).setCell ⟨q, K * 4 + 3, none⟩ v3).setCell ⟨R, 0, none⟩ y0).setCell ⟨R, 1, none⟩ y1).setCell ⟨R, 2, none⟩ y2).setCell ⟨R, 3, none⟩ y3).heap[R]? = some (.cells #[y0, y1, y2, y3] 99 (0, 0)) := by
  constructor
  · exact other_set (other_set (other_set (other_set (set3 (set3 (set3 (set3 (other_set (other_set bQ hqU) hqL) _ v0) _ v1) _ v2) _ v3) hqR) hqR) hqR) hqR
  · exact set3 (set3 (set3 (set3 (other_set (other_set (other_set (other_set (other_set (other_set bA hRU) hRL) hqR.symm) hqR.symm) hqR.symm) hqR.symm) 0 y0) 1 y1) 2 y2) 3 y3
theorem cellsT_len (l : List St) : (cellsT l).length = l.length * 4 := by
  induction l with
  | nil => rfl
  | cons a l ih =>
    have e : cellsT (a :: l) = cellsS a ++ cellsT l := rfl
    rw [e, List.length_append, ih, List.length_cons]
    simp only [cellsS, List.length_cons, List.length_nil]
    omega
theorem cellsT_turn (l : List St) (s t : St) : ((((cellsT (l ++ [s])).set (l.length * 4) (.int .u64 t.sg.lo)).set (l.length * 4 + 1) (.int .u64 t.sg.hi)).set (l.length * 4 + 2) (.int .u8 t.sg.h)).set (l.length * 4 + 3) (.slice t.a t.n t.c) = cellsT (l ++ [t]) := by
  rw [cellsT_snoc, cellsT_snoc]
  have h := cellsT_len l
  rw [← h]
  simp [cellsS]
theorem Pls.turn {w w' : World} {B : Nat} {pv : Value} {vs : List Value} {ls : List (List St)} (hP : Pls w B pv vs ls) {h K q cq M : Nat} {l : List St} {s : St} {curq : Array Value} (t : St) (hv : vs[h]? = some (.slice (some ⟨q, 0, none⟩) M cq)) (hl : ls[h]? = some (l ++ [s])) (eK : l.length = K) (eM : K + 1 = M) (hq : w.heap[q]? = some (.cells curq 99 (0, 0)))
    (kp : Kp (fun g => g = q) w w') (hq' : w'.heap[q]? = some (.cells ((((curq.setIfInBounds (K * 4) (.int .u64 t.sg.lo)).setIfInBounds (K * 4 + 1) (.int .u64 t.sg.hi)).setIfInBounds (K * 4 + 2) (.int .u8 t.sg.h)).setIfInBounds (K * 4 + 3) (.slice t.a t.n t.c)) 99 (0, 0))) : Pls w' B pv vs (ls.set h (l ++ [t])) := by
  have hh2 : h < ls.length := (List.getElem?_eq_some_iff.1 hl).1
  have h0 := hP.each h _ _ hv hl
  have hlen : (l ++ [s]).length = M := by simp; omega
  have hlen2 : (l ++ [t]).length = M := by simp; omega
  rw [hlen] at h0
  have hcl : (cellsT (l ++ [s])).length = K * 4 + 4 := by rw [cellsT_len, hlen]; omega
  refine ⟨?_, by rw [List.length_set]; exact hP.len, fun h' v m hv' hm' => ?_, hP.apart⟩
  · refine own_keep hP.row (fun g e => kp.block g (own_lt hP.row e) (fun e2 => ?_))
    obtain ⟨c, hc⟩ := own_obj hP.row e
    rw [e2, hq] at hc; cases hc
  · by_cases e : h = h'
    · subst e
      rw [List.getElem?_set_self hh2] at hm'
      cases hm'
      rw [hv] at hv'
      cases hv'
      have h1 := own_put (own_put (own_put (own_put h0 (K * 4) (.int .u64 t.sg.lo) (by omega)) (K * 4 + 1) (.int .u64 t.sg.hi) (by rw [List.length_set]; omega)) (K * 4 + 2) (.int .u8 t.sg.h) (by rw [List.length_set, List.length_set]; omega)) (K * 4 + 3) (.slice t.a t.n t.c) (by rw [List.length_set, List.length_set, List.length_set]; omega)
      have e1 := cellsT_turn l s t
      rw [eK] at e1
      rw [e1] at h1
      rw [hlen2]
      refine own_keep h1 (fun g e => ?_)
      have e2 : q = g := by simpa [Value.ownBlock] using e
      subst e2
      rw [hq']
      exact (set3 (set3 (set3 (set3 hq _ _) _ _) _ _) _ _).symm
    · rw [List.getElem?_set_ne e] at hm'
      have ho := hP.each h' v m hv' hm'
      refine own_keep ho (fun g eg => kp.block g (own_lt ho eg) (fun e2 => ?_))
      exact hP.apart h h' _ v q hv hv' e rfl (e2 ▸ eg)
set_option maxRecDepth 100000 in
set_option maxHeartbeats 2000000 in
theorem takeOff76b (w : World) (B pb : Nat) (pv gv tv : Value) (vs : List Value) (ls : List (List St)) (h : Nat) (l : List St) (s : St) (n : Int) (hb : w.heap[pb]? = some (.cells #[pv, gv, tv] 77 (0, 0))) (hP : Pls w B pv vs ls) (hh : h < 16) (hl : ls[h]? = some (l ++ [s])) (hn : 1 ≤ n) (hn2 : n ≤ 100000) (hll : l.length ≤ 8192) (hsn : n < (s.n : Int)) (hsb : s.n ≤ 100000) (ba : Addr) (hsa : s.a = some ba) (lo : Int) (hlo : w.cell? (ba.add (s.n - n.toNat)) = some (.int .u64 lo)) (hlo1 : 1 ≤ lo) (hlo2 : lo < 18446744073709551616) (hsc : s.n ≤ s.c) :
    Calls Tryz.prog 50 #[.pointer (some ⟨pb, 0, none⟩), .int .u8 (h : Int), .int .i64 n] w fun e w' => e = .returned (.agg #[.int .u64 lo, .int .u64 s.sg.hi, .int .u8 s.sg.h, .slice (some (ba.add (s.n - n.toNat))) n.toNat (s.c - (s.n - n.toNat))]) ∧ Pls w' B pv vs (ls.set h (l ++ [⟨⟨s.sg.lo, lo - 1, s.sg.h⟩, s.a, s.n - n.toNat, s.c⟩])) ∧ Kp (fun g => ∃ v, vs[h]? = some v ∧ some g = v.ownBlock) w w' := by
  have mixed : Tryz.prog.follows .mixedOrders = true := by kernel_rfl
  have hlt : h < vs.length := by rw [← hP.len]; exact (List.getElem?_eq_some_iff.1 hl).1
  obtain ⟨v, hv⟩ : ∃ v, vs[h]? = some v := ⟨_, List.getElem?_eq_getElem hlt⟩
  have hr := hP.each h v _ hv hl
  have hsk : (l ++ [s])[l.length]? = some s := by simp
  obtain ⟨q, cq, ev, c0, c1, c2, c3⟩ := row4_at hr hsk
  obtain ⟨q', cq', ev', hBq, hcq, curq, hq⟩ := row4_in hr hsk
  rw [ev] at ev'
  cases ev'
  obtain ⟨r, cr, epv, hBr, x0, curr, hrr⟩ := row1_at hP.row hv
  have hlen : (l ++ [s]).length = l.length + 1 := by simp
  rw [hlen] at ev hcq
  obtain ⟨N, eN⟩ : ∃ N, vs.length = N := ⟨_, rfl⟩
  obtain ⟨K, eK⟩ : ∃ K, l.length = K := ⟨_, rfl⟩
  obtain ⟨M, eM⟩ : ∃ M, K + 1 = M := ⟨_, rfl⟩
  rw [eK] at ev c0 c1 c2 c3 hll hcq
  rw [eM] at ev hcq
  rw [eN] at epv hlt
  have HU := hide (And.intro hP (And.intro hb (And.intro hl (And.intro hv (And.intro hr (And.intro hq (And.intro hrr (And.intro eN (And.intro eK (And.intro eM (And.intro hBq hBr)))))))))))
  obtain ⟨w1, hw1⟩ : ∃ w1, w.alloc (.cells #[.int .u64 0, .int .u64 0, .int .u8 0, .slice none 0 0] 99) = w1 := ⟨_, rfl⟩
  have kA : Kp Nu w w1 := by rw [← hw1]; exact Kp.alloc _ _ _
  have bA : w1.heap[w.heap.size]? = some (.cells #[.int .u64 0, .int .u64 0, .int .u8 0, .slice none 0 0] 99 (0, 0)) := by rw [← hw1]; exact heap_alloc_new w _
  obtain ⟨w2, hw2⟩ : ∃ w2, w1.alloc (.cells #[.int .u64 s.sg.lo, .int .u64 s.sg.hi, .int .u8 s.sg.h, .slice s.a s.n s.c] 99) = w2 := ⟨_, rfl⟩
  have kB : Kp Nu w1 w2 := by rw [← hw2]; exact Kp.alloc _ _ _
  have bB : w2.heap[w1.heap.size]? = some (.cells #[.int .u64 s.sg.lo, .int .u64 s.sg.hi, .int .u8 s.sg.h, .slice s.a s.n s.c] 99 (0, 0)) := by rw [← hw2]; exact heap_alloc_new w1 _
  have hx0 : w1.cell? ⟨pb, 0, none⟩ = some pv := cell_nu (cell3 hb).1 kA
  have hx2 : w2.cell? ⟨pb, 0, none⟩ = some pv := cell_nu hx0 kB
  replace x0 := cell_nu x0 kA
  have x2 := cell_nu x0 kB
  replace c0 := cell_nu c0 kA
  replace c1 := cell_nu c1 kA
  replace c2 := cell_nu c2 kA
  replace c3 := cell_nu c3 kA
  obtain ⟨d0, d1, d2, d3⟩ := cell4 bB
  have fr := free3 (box2 (box2 hrr kA) kB) h
  have bA2 := box2 bA kB
  obtain ⟨r0, r1, r2, r3⟩ := cell4 bA2
  have fr0 := free3 bA2 0
  have fr1 := free3 bA2 1
  have fr2 := free3 bA2 2
  have fr3 := free3 bA2 3
  have hl1 : w.heap.size < w1.heap.size := by rw [← hw1, World.size_alloc]; omega
  have hrl : r < w.heap.size := blk_lt hrr
  have hrne : r ≠ w.heap.size := by omega
  have HK := hide (And.intro kA (And.intro kB (And.intro bA2 bB)))
  clear kA kB bA bB bA2
  have hKI : (K : Int) ≤ 8192 := by omega
  have eM1 : (M : Int) - 1 = (K : Int) := by omega
  have hhN : (h : Int) < (N : Int) := by omega
  have eth : (h : Int).toNat = h := by omega
  have etK : (K : Int).toNat = K := by omega
  have hKM : (K : Int) < (M : Int) := by omega
  have hKcq : (K : Int) ≤ (cq : Int) := by omega
  have hMI : (M : Int) ≤ 8193 := by omega
  subst epv
  subst ev
  have hdec : decide ((s.n : Int) - n ≤ 0) = false := by simp; omega
  obtain ⟨F, eF⟩ : ∃ F, s.n - n.toNat = F := ⟨_, rfl⟩
  have eFI : (s.n : Int) - n = (F : Int) := by omega
  have HF := hide (And.intro eF (And.intro hlo hsa))
  rw [eF] at hlo ⊢
  rw [hsa] at hw2 d3 c3
  have hF0 : (0 : Int) ≤ (F : Int) := by omega
  have hFn : (F : Int) ≤ (s.n : Int) := by omega
  have hFc : (F : Int) ≤ (s.c : Int) := by omega
  have etF : (F : Int).toNat = F := by omega
  clear hP hb hl hv hr hq hrr eN eK eM hBq hBr hsk hlen eF
  go_enter Tryz.func50, Tryz.ntmps50
  go_wp2_with fail
  have kC := Kp.alloc w2 (.cells #[.int .u64 0, .int .u64 0, .int .u8 0, .slice none 0 0] 99) Nu
  have kD := kC.andAlloc (.cells #[.int .u64 0, .int .u64 0, .int .u8 0, .slice none 0 0] 99)
  have bB := HK.out.2.2.2
  rw [hsa] at bB
  obtain ⟨e0, e1, e2, e3⟩ := cell4 (box2 bB kC)
  obtain ⟨g0, g1, g2, g3⟩ := cell4 (box2 bB kD)
  have hw1l : w1.heap.size < w2.heap.size := blk_lt bB
  clear kC kD bB
  go_region
  all_goals
    have k4 := ((Kp.alloc w2 (.cells #[.int .u64 s.sg.lo, .int .u64 s.sg.hi, .int .u8 s.sg.h, .slice (some ba) s.n s.c] 99) Nu).andAlloc (.cells #[.int .u64 s.sg.lo, .int .u64 s.sg.hi, .int .u8 s.sg.h, .slice (some ba) s.n s.c] 99)).drew
    have bL : (((w2.alloc (.cells #[.int .u64 s.sg.lo, .int .u64 s.sg.hi, .int .u8 s.sg.h, .slice (some ba) s.n s.c] 99)).alloc (.cells #[.int .u64 s.sg.lo, .int .u64 s.sg.hi, .int .u8 s.sg.h, .slice (some ba) s.n s.c] 99)).drew).heap[w2.heap.size]? = some (.cells #[.int .u64 s.sg.lo, .int .u64 s.sg.hi, .int .u8 s.sg.h, .slice (some ba) s.n s.c] 99 (0, 0)) := box2 (heap_alloc_new w2 _) ((Kp.alloc _ _ Nu).drew)
    have bU : (((w2.alloc (.cells #[.int .u64 s.sg.lo, .int .u64 s.sg.hi, .int .u8 s.sg.h, .slice (some ba) s.n s.c] 99)).alloc (.cells #[.int .u64 s.sg.lo, .int .u64 s.sg.hi, .int .u8 s.sg.h, .slice (some ba) s.n s.c] 99)).drew).heap[w2.heap.size + 1]? = some (.cells #[.int .u64 s.sg.lo, .int .u64 s.sg.hi, .int .u8 s.sg.h, .slice (some ba) s.n s.c] 99 (0, 0)) := (by
      have h := heap_alloc_new (w2.alloc (.cells #[.int .u64 s.sg.lo, .int .u64 s.sg.hi, .int .u8 s.sg.h, .slice (some ba) s.n s.c] 99)) (.cells #[.int .u64 s.sg.lo, .int .u64 s.sg.hi, .int .u8 s.sg.h, .slice (some ba) s.n s.c] 99)
      rw [World.size_alloc] at h
      exact h)
    generalize ((w2.alloc (.cells #[.int .u64 s.sg.lo, .int .u64 s.sg.hi, .int .u8 s.sg.h, .slice (some ba) s.n s.c] 99)).alloc (.cells #[.int .u64 s.sg.lo, .int .u64 s.sg.hi, .int .u8 s.sg.h, .slice (some ba) s.n s.c] 99)).drew = W4 at k4 bL bU ⊢
    have bB := HK.out.2.2.2
    rw [hsa] at bB
    replace bB := box2 bB k4
    have HC := hide (And.intro c0 (And.intro c1 (And.intro c2 c3)))
    clear d0 d1 d2 d3 r0 r1 r2 r3 fr0 fr1 fr2 fr3 e0 e1 e2 e3 g0 g1 g2 g3 x0 x2 c0 c1 c2 c3 hx0 hx2 fr hw1 hw2
    obtain ⟨d0, d1, d2, d3⟩ := cell4 bB
    obtain ⟨l0, l1, l2, l3⟩ := cell4 bL
    obtain ⟨u0, u1, u2, u3⟩ := cell4 bU
    have fl3 := free3 bL 3
    have fu3 := free3 bU 3
    have HX := hide (And.intro k4 (And.intro bL (And.intro bU bB)))
    clear k4 bL bU bB
    go_wp2_with fail
    have hFlt : (F : Int) < (s.c : Int) := by omega
    have hFlt2 : F < s.c := by omega
    go_region
  · have kw2 := (HX.out.1.andSet ⟨w2.heap.size, 3, none⟩ (.slice (some ba) F s.c) (.inl (by show w2.heap.size ≤ w2.heap.size; omega))).andSet ⟨(w2.heap.size + 1), 3, none⟩ (.slice (some (ba.add F)) (s.n - F) (s.c - F)) (.inl (by show w2.heap.size ≤ (w2.heap.size + 1); omega))
    have bL5 : ((W4.setCell ⟨w2.heap.size, 3, none⟩ (.slice (some ba) F s.c)).setCell ⟨(w2.heap.size + 1), 3, none⟩ (.slice (some (ba.add F)) (s.n - F) (s.c - F))).heap[w2.heap.size]? = some (.cells #[.int .u64 s.sg.lo, .int .u64 s.sg.hi, .int .u8 s.sg.h, .slice (some ba) F s.c] 99 (0, 0)) :=
      ((Kp.setCell (W4.setCell ⟨w2.heap.size, 3, none⟩ (.slice (some ba) F s.c)) ⟨(w2.heap.size + 1), 3, none⟩ (.slice (some (ba.add F)) (s.n - F) (s.c - F))).block w2.heap.size (by rw [World.size_setCell]; exact blk_lt HX.out.2.1) (fun e => by have e2 : w2.heap.size = (w2.heap.size + 1) := e; omega)).trans (set3 HX.out.2.1 3 (.slice (some ba) F s.c))
    have bU5 : ((W4.setCell ⟨w2.heap.size, 3, none⟩ (.slice (some ba) F s.c)).setCell ⟨(w2.heap.size + 1), 3, none⟩ (.slice (some (ba.add F)) (s.n - F) (s.c - F))).heap[(w2.heap.size + 1)]? = some (.cells #[.int .u64 s.sg.lo, .int .u64 s.sg.hi, .int .u8 s.sg.h, .slice (some (ba.add F)) (s.n - F) (s.c - F)] 99 (0, 0)) :=
      set3 (((Kp.setCell W4 ⟨w2.heap.size, 3, none⟩ (.slice (some ba) F s.c)).block (w2.heap.size + 1) (blk_lt HX.out.2.2.1) (fun e => by have e2 : (w2.heap.size + 1) = w2.heap.size := e; omega)).trans HX.out.2.2.1) 3 _
    replace kw2 := kw2.drew
    replace bL5 : (((W4.setCell ⟨w2.heap.size, 3, none⟩ (.slice (some ba) F s.c)).setCell ⟨(w2.heap.size + 1), 3, none⟩ (.slice (some (ba.add F)) (s.n - F) (s.c - F))).drew).heap[w2.heap.size]? = some (.cells #[.int .u64 s.sg.lo, .int .u64 s.sg.hi, .int .u8 s.sg.h, .slice (some ba) F s.c] 99 (0, 0)) := bL5
    replace bU5 : (((W4.setCell ⟨w2.heap.size, 3, none⟩ (.slice (some ba) F s.c)).setCell ⟨(w2.heap.size + 1), 3, none⟩ (.slice (some (ba.add F)) (s.n - F) (s.c - F))).drew).heap[(w2.heap.size + 1)]? = some (.cells #[.int .u64 s.sg.lo, .int .u64 s.sg.hi, .int .u8 s.sg.h, .slice (some (ba.add F)) (s.n - F) (s.c - F)] 99 (0, 0)) := bU5
    generalize ((W4.setCell ⟨w2.heap.size, 3, none⟩ (.slice (some ba) F s.c)).setCell ⟨(w2.heap.size + 1), 3, none⟩ (.slice (some (ba.add F)) (s.n - F) (s.c - F))).drew = W5 at kw2 bL5 bU5 ⊢
    have kw := (HK.out.1.andNu HK.out.2.1).andNu kw2
    have bA5 := box2 HK.out.2.2.1 kw2
    have bQ5 := box2 HU.out.2.2.2.2.2.1 kw
    have hk5 := cell_nu HF.out.2.1 kw
    rw [HF.out.1] at hk5
    have hq5 : q < w.heap.size := blk_lt HU.out.2.2.2.2.2.1
    obtain ⟨c0, c1, c2, c3⟩ := HC.out
    replace c0 := cell_nu c0 (HK.out.2.1.andNu kw2)
    replace c1 := cell_nu c1 (HK.out.2.1.andNu kw2)
    replace c2 := cell_nu c2 (HK.out.2.1.andNu kw2)
    replace c3 := cell_nu c3 (HK.out.2.1.andNu kw2)
    have n1 : q ≠ w2.heap.size := by omega
    have n2 : q ≠ w2.heap.size + 1 := by omega
    have n3 : w.heap.size ≠ w2.heap.size := by omega
    have n4 : w.heap.size ≠ w2.heap.size + 1 := by omega
    have n5 : q ≠ w.heap.size := by omega
    have HY := hide (And.intro bL5 (And.intro bU5 (And.intro kw2 (And.intro kw (And.intro bA5 bQ5)))))
    clear d0 d1 d2 d3 l0 l1 l2 l3 u0 u1 u2 u3 fl3 fu3 hlo
    obtain ⟨l0, l1, l2, l3⟩ := cell4 bL5
    obtain ⟨u0, u1, u2, u3⟩ := cell4 bU5
    obtain ⟨r0, r1, r2, r3⟩ := cell4 bA5
    have fl1 := free3 bL5 1
    have fu0 := free3 bU5 0
    have fr0 := free3 bA5 0
    have fr1 := free3 bA5 1
    have fr2 := free3 bA5 2
    have fr3 := free3 bA5 3
    have fq0 := free3 bQ5 (K * 4)
    have fq1 := free3 bQ5 (K * 4 + 1)
    have fq2 := free3 bQ5 (K * 4 + 2)
    have fq3 := free3 bQ5 (K * 4 + 3)
    have hD : (0 : Int) < ((s.n - F : Nat) : Int) := by omega
    have ewl : IntKind.u64.wrap (lo - 1) = lo - 1 := by rw [IntKind.wrap_u64]; omega
    clear bL5 bU5 kw2 kw bA5 bQ5
    go_wp2
    obtain ⟨bL5, bU5, kw2, kw, bA5, bQ5⟩ := HY.out
    obtain ⟨hP, hb, hl, hv, hr, hq, hrr, eN, eK, eM, hBq, hBr⟩ := HU.out
    have hnn : s.n - F = n.toNat := by have := HF.out.1; omega
    obtain ⟨b8, b9⟩ := sets_end (K := K) (U := (w2.heap.size + 1)) (L := w2.heap.size) (.int .u64 lo) (.int .u64 (lo - 1)) (.int .u64 s.sg.lo) (.int .u64 (lo - 1)) (.int .u8 s.sg.h) (.slice (some ba) F s.c) (.int .u64 lo) (.int .u64 s.sg.hi) (.int .u8 s.sg.h) (.slice (some (ba.add F)) (s.n - F) (s.c - F)) bQ5 bA5 n2 n1 n4 n3 n5
    obtain ⟨y0, y1, y2, y3⟩ := cell4 b9
    have k1 := kw.mono (T := fun g => g = q) (fun _ _ e => e.elim)
    have k2 := k1.andSet ⟨(w2.heap.size + 1), 0, none⟩ (.int .u64 lo) (.inl (by show w.heap.size ≤ (w2.heap.size + 1); omega))
    have k3 := k2.andSet ⟨w2.heap.size, 1, none⟩ (.int .u64 (lo - 1)) (.inl (by show w.heap.size ≤ w2.heap.size; omega))
    have k4 := k3.andSet ⟨q, K * 4, none⟩ (.int .u64 s.sg.lo) (.inr rfl)
    have k5 := k4.andSet ⟨q, K * 4 + 1, none⟩ (.int .u64 (lo - 1)) (.inr rfl)
    have k6 := k5.andSet ⟨q, K * 4 + 2, none⟩ (.int .u8 s.sg.h) (.inr rfl)
    have k7 := k6.andSet ⟨q, K * 4 + 3, none⟩ (.slice (some ba) F s.c) (.inr rfl)
    have k8 := k7.andSet ⟨w.heap.size, 0, none⟩ (.int .u64 lo) (.inl (Nat.le_refl _))
    have k9 := k8.andSet ⟨w.heap.size, 1, none⟩ (.int .u64 s.sg.hi) (.inl (Nat.le_refl _))
    have k10 := k9.andSet ⟨w.heap.size, 2, none⟩ (.int .u8 s.sg.h) (.inl (Nat.le_refl _))
    have k11 := k10.andSet ⟨w.heap.size, 3, none⟩ (.slice (some (ba.add F)) (s.n - F) (s.c - F)) (.inl (Nat.le_refl _))
    refine bodyPost_ret (v := .agg #[.int .u64 lo, .int .u64 s.sg.hi, .int .u8 s.sg.h, .slice (some (ba.add F)) (s.n - F) (s.c - F)]) (by simp [results, Tryz.results50, go_sem, y0, y1, y2, y3]) rfl ⟨by rw [hnn], hP.turn ⟨⟨s.sg.lo, lo - 1, s.sg.h⟩, s.a, F, s.c⟩ hv hl eK eM hq k11 ?_, k11.mono (fun g _ e => ⟨_, hv, by show some g = some q; rw [e]⟩)⟩
    rw [HF.out.2.2]
    exact b8
  · have kw2 := (HX.out.1.andSet ⟨(w2.heap.size + 1), 3, none⟩ (.slice (some ba) F s.c) (.inl (by show w2.heap.size ≤ (w2.heap.size + 1); omega))).andSet ⟨w2.heap.size, 3, none⟩ (.slice (some (ba.add F)) (s.n - F) (s.c - F)) (.inl (by show w2.heap.size ≤ w2.heap.size; omega))
    have bL5 : ((W4.setCell ⟨(w2.heap.size + 1), 3, none⟩ (.slice (some ba) F s.c)).setCell ⟨w2.heap.size, 3, none⟩ (.slice (some (ba.add F)) (s.n - F) (s.c - F))).heap[(w2.heap.size + 1)]? = some (.cells #[.int .u64 s.sg.lo, .int .u64 s.sg.hi, .int .u8 s.sg.h, .slice (some ba) F s.c] 99 (0, 0)) :=
      ((Kp.setCell (W4.setCell ⟨(w2.heap.size + 1), 3, none⟩ (.slice (some ba) F s.c)) ⟨w2.heap.size, 3, none⟩ (.slice (some (ba.add F)) (s.n - F) (s.c - F))).block (w2.heap.size + 1) (by rw [World.size_setCell]; exact blk_lt HX.out.2.2.1) (fun e => by have e2 : (w2.heap.size + 1) = w2.heap.size := e; omega)).trans (set3 HX.out.2.2.1 3 (.slice (some ba) F s.c))
    have bU5 : ((W4.setCell ⟨(w2.heap.size + 1), 3, none⟩ (.slice (some ba) F s.c)).setCell ⟨w2.heap.size, 3, none⟩ (.slice (some (ba.add F)) (s.n - F) (s.c - F))).heap[w2.heap.size]? = some (.cells #[.int .u64 s.sg.lo, .int .u64 s.sg.hi, .int .u8 s.sg.h, .slice (some (ba.add F)) (s.n - F) (s.c - F)] 99 (0, 0)) :=
      set3 (((Kp.setCell W4 ⟨(w2.heap.size + 1), 3, none⟩ (.slice (some ba) F s.c)).block w2.heap.size (blk_lt HX.out.2.1) (fun e => by have e2 : w2.heap.size = (w2.heap.size + 1) := e; omega)).trans HX.out.2.1) 3 _
    replace kw2 := kw2.drew
    replace bL5 : (((W4.setCell ⟨(w2.heap.size + 1), 3, none⟩ (.slice (some ba) F s.c)).setCell ⟨w2.heap.size, 3, none⟩ (.slice (some (ba.add F)) (s.n - F) (s.c - F))).drew).heap[(w2.heap.size + 1)]? = some (.cells #[.int .u64 s.sg.lo, .int .u64 s.sg.hi, .int .u8 s.sg.h, .slice (some ba) F s.c] 99 (0, 0)) := bL5
    replace bU5 : (((W4.setCell ⟨(w2.heap.size + 1), 3, none⟩ (.slice (some ba) F s.c)).setCell ⟨w2.heap.size, 3, none⟩ (.slice (some (ba.add F)) (s.n - F) (s.c - F))).drew).heap[w2.heap.size]? = some (.cells #[.int .u64 s.sg.lo, .int .u64 s.sg.hi, .int .u8 s.sg.h, .slice (some (ba.add F)) (s.n - F) (s.c - F)] 99 (0, 0)) := bU5
    generalize ((W4.setCell ⟨(w2.heap.size + 1), 3, none⟩ (.slice (some ba) F s.c)).setCell ⟨w2.heap.size, 3, none⟩ (.slice (some (ba.add F)) (s.n - F) (s.c - F))).drew = W5 at kw2 bL5 bU5 ⊢
    have kw := (HK.out.1.andNu HK.out.2.1).andNu kw2
    have bA5 := box2 HK.out.2.2.1 kw2
    have bQ5 := box2 HU.out.2.2.2.2.2.1 kw
    have hk5 := cell_nu HF.out.2.1 kw
    rw [HF.out.1] at hk5
    have hq5 : q < w.heap.size := blk_lt HU.out.2.2.2.2.2.1
    obtain ⟨c0, c1, c2, c3⟩ := HC.out
    replace c0 := cell_nu c0 (HK.out.2.1.andNu kw2)
    replace c1 := cell_nu c1 (HK.out.2.1.andNu kw2)
    replace c2 := cell_nu c2 (HK.out.2.1.andNu kw2)
    replace c3 := cell_nu c3 (HK.out.2.1.andNu kw2)
    have n1 : q ≠ w2.heap.size := by omega
    have n2 : q ≠ w2.heap.size + 1 := by omega
    have n3 : w.heap.size ≠ w2.heap.size := by omega
    have n4 : w.heap.size ≠ w2.heap.size + 1 := by omega
    have n5 : q ≠ w.heap.size := by omega
    have HY := hide (And.intro bL5 (And.intro bU5 (And.intro kw2 (And.intro kw (And.intro bA5 bQ5)))))
    clear d0 d1 d2 d3 l0 l1 l2 l3 u0 u1 u2 u3 fl3 fu3 hlo
    obtain ⟨l0, l1, l2, l3⟩ := cell4 bL5
    obtain ⟨u0, u1, u2, u3⟩ := cell4 bU5
    obtain ⟨r0, r1, r2, r3⟩ := cell4 bA5
    have fl1 := free3 bL5 1
    have fu0 := free3 bU5 0
    have fr0 := free3 bA5 0
    have fr1 := free3 bA5 1
    have fr2 := free3 bA5 2
    have fr3 := free3 bA5 3
    have fq0 := free3 bQ5 (K * 4)
    have fq1 := free3 bQ5 (K * 4 + 1)
    have fq2 := free3 bQ5 (K * 4 + 2)
    have fq3 := free3 bQ5 (K * 4 + 3)
    have hD : (0 : Int) < ((s.n - F : Nat) : Int) := by omega
    have ewl : IntKind.u64.wrap (lo - 1) = lo - 1 := by rw [IntKind.wrap_u64]; omega
    clear bL5 bU5 kw2 kw bA5 bQ5
    go_wp2
    obtain ⟨bL5, bU5, kw2, kw, bA5, bQ5⟩ := HY.out
    obtain ⟨hP, hb, hl, hv, hr, hq, hrr, eN, eK, eM, hBq, hBr⟩ := HU.out
    have hnn : s.n - F = n.toNat := by have := HF.out.1; omega
    obtain ⟨b8, b9⟩ := sets_end (K := K) (U := w2.heap.size) (L := (w2.heap.size + 1)) (.int .u64 lo) (.int .u64 (lo - 1)) (.int .u64 s.sg.lo) (.int .u64 (lo - 1)) (.int .u8 s.sg.h) (.slice (some ba) F s.c) (.int .u64 lo) (.int .u64 s.sg.hi) (.int .u8 s.sg.h) (.slice (some (ba.add F)) (s.n - F) (s.c - F)) bQ5 bA5 n1 n2 n3 n4 n5
    obtain ⟨y0, y1, y2, y3⟩ := cell4 b9
    have k1 := kw.mono (T := fun g => g = q) (fun _ _ e => e.elim)
    have k2 := k1.andSet ⟨w2.heap.size, 0, none⟩ (.int .u64 lo) (.inl (by show w.heap.size ≤ w2.heap.size; omega))
    have k3 := k2.andSet ⟨(w2.heap.size + 1), 1, none⟩ (.int .u64 (lo - 1)) (.inl (by show w.heap.size ≤ (w2.heap.size + 1); omega))
    have k4 := k3.andSet ⟨q, K * 4, none⟩ (.int .u64 s.sg.lo) (.inr rfl)
    have k5 := k4.andSet ⟨q, K * 4 + 1, none⟩ (.int .u64 (lo - 1)) (.inr rfl)
    have k6 := k5.andSet ⟨q, K * 4 + 2, none⟩ (.int .u8 s.sg.h) (.inr rfl)
    have k7 := k6.andSet ⟨q, K * 4 + 3, none⟩ (.slice (some ba) F s.c) (.inr rfl)
    have k8 := k7.andSet ⟨w.heap.size, 0, none⟩ (.int .u64 lo) (.inl (Nat.le_refl _))
    have k9 := k8.andSet ⟨w.heap.size, 1, none⟩ (.int .u64 s.sg.hi) (.inl (Nat.le_refl _))
    have k10 := k9.andSet ⟨w.heap.size, 2, none⟩ (.int .u8 s.sg.h) (.inl (Nat.le_refl _))
    have k11 := k10.andSet ⟨w.heap.size, 3, none⟩ (.slice (some (ba.add F)) (s.n - F) (s.c - F)) (.inl (Nat.le_refl _))
    refine bodyPost_ret (v := .agg #[.int .u64 lo, .int .u64 s.sg.hi, .int .u8 s.sg.h, .slice (some (ba.add F)) (s.n - F) (s.c - F)]) (by simp [results, Tryz.results50, go_sem, y0, y1, y2, y3]) rfl ⟨by rw [hnn], hP.turn ⟨⟨s.sg.lo, lo - 1, s.sg.h⟩, s.a, F, s.c⟩ hv hl eK eM hq k11 ?_, k11.mono (fun g _ e => ⟨_, hv, by show some g = some q; rw [e]⟩)⟩
    rw [HF.out.2.2]
    exact b8
end Go.Proofs.YtbifmcadllilhaaGreat.Rg
namespace Go.Proofs.YtbifmcadllilhaaGreat.Rg
open Go.RowKit Go.Shelf Go.Sort
set_option linter.unusedVariables false
/-- what is taken off a stretch, and what is left of the pile -/
def Tko (l : List St) (s : St) (kl : List Int) (n : Int) (lo : Int) (m : Nat) (t : List St) : Prop :=
  ((s.n : Int) ≤ n ∧ m = s.n ∧ lo = s.sg.lo ∧ t = l) ∨ (n < (s.n : Int) ∧ (m : Int) = n ∧ kl[s.n - m]? = some lo ∧ t = l ++ [⟨⟨s.sg.lo, lo - 1, s.sg.h⟩, s.a, s.n - m, s.c⟩])
theorem takeOff76 (w : World) (B pb : Nat) (pv gv tv : Value) (vs : List Value) (ls : List (List St)) (h : Nat) (l : List St) (s : St) (kl : List Int) (n : Int) (hb : w.heap[pb]? = some (.cells #[pv, gv, tv] 77 (0, 0))) (hP : Pls w B pv vs ls) (hh : h < 16) (hl : ls[h]? = some (l ++ [s])) (hn : 1 ≤ n) (hn2 : n ≤ 100000) (hll : l.length ≤ 8192) (hU : Us w (.slice s.a s.n s.c) kl) (hr : Ris kl) (hk : ∀ x ∈ kl, 0 ≤ x ∧ x < 18446744073709551616) (hsb : s.n ≤ 100000) :
    Calls Tryz.prog 50 #[.pointer (some ⟨pb, 0, none⟩), .int .u8 (h : Int), .int .i64 n] w fun e w' => ∃ lo m a c t, e = .returned (.agg #[.int .u64 lo, .int .u64 s.sg.hi, .int .u8 s.sg.h, .slice a m c]) ∧ Tko l s kl n lo m t ∧ ∃ vs', Pls w' B pv vs' (ls.set h t) ∧ Kp (fun g => some g = pv.ownBlock ∨ ∃ v, vs[h]? = some v ∧ some g = v.ownBlock) w w' := by
  by_cases hs : (s.n : Int) ≤ n
  · refine (takeOff76a w B pb pv gv tv vs ls h l s n hb hP hh hl hn hn2 hll hs).mono ?_
    rintro e w' ⟨rfl, vs', h1, h2⟩
    exact ⟨_, _, _, _, l, rfl, .inl ⟨hs, rfl, rfl, rfl⟩, vs', h1, h2.mono (fun _ _ e => .inl e)⟩
  · obtain ⟨a, cap, e0, hcap, hat⟩ := hU
    simp only [Value.slice.injEq] at e0
    obtain ⟨ea, en, ec⟩ := e0
    obtain ⟨x, hx⟩ := get_of_lt (l := kl) (j := s.n - n.toNat) (by omega)
    obtain ⟨y, hy⟩ := get_of_lt (l := kl) (j := 0) (by omega)
    obtain ⟨ba, hba, hc⟩ := hat _ x hx
    have hxr := hk x (List.mem_of_getElem? hx)
    have hyr := hk y (List.mem_of_getElem? hy)
    obtain ⟨d, hd⟩ : ∃ d, s.n - n.toNat = 0 + d + 1 := ⟨s.n - n.toNat - 1, by omega⟩
    have hlt : y < x := hr.lt d 0 y x hy (by rw [← hd]; exact hx)
    refine (takeOff76b w B pb pv gv tv vs ls h l s n hb hP hh hl hn hn2 hll (by omega) hsb ba (ea.trans hba) x hc (by omega) hxr.2 (by omega)).mono ?_
    rintro e w' ⟨rfl, h1, h2⟩
    exact ⟨_, _, _, _, _, rfl, .inr ⟨by omega, by omega, hx, rfl⟩, vs, h1, h2.mono (fun _ _ e => .inr e)⟩
/-- the planner in memory -/
structure Pla (w : World) (B pb : Nat) (ls : List (List St)) (lg lt : List Wt) (pv gv tv : Value) (vs : List Value) : Prop where
  blk : w.heap[pb]? = some (.cells #[pv, gv, tv] 77 (0, 0))
  pls : Pls w B pv vs ls
  rg : Wr w B gv lg
  rt : Wr w B tv lt
  ne : ∀ g, gv.ownBlock = some g → tv.ownBlock ≠ some g
end Go.Proofs.YtbifmcadllilhaaGreat.Rg
