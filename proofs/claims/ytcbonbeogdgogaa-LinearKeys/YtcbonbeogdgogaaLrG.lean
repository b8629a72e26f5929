import Derived.Test.YtcbonbeogdgogaaLrF
import Derived.Test.YtcbonbeogdgogaaLoF
namespace Go.Proofs.Ytcbonbeogdgogaa.Li
open Go.RowKit
set_option linter.unusedVariables false
/-- where a call leads from each cell -/
def stT (C : List (Option (List Int))) (c : Ca) (i : Nat) : Option Nat := ((C[i]?).bind (stpc c)).bind (pl C)
/-- numbers in a row, of which the first i are told -/
structure Ir (w : World) (g N : Nat) (f : Nat → Option Nat) (i : Nat) : Prop where
  mem : ∃ cur : Array Value, w.heap[g]? = some (.cells cur 3 (0, 0)) ∧ cur.size = N ∧ ∀ q, q < i → cur[q]? = some (.int .i64 (enc (f q)))
theorem Ir.nu {w w' : World} {g N i : Nat} {f : Nat → Option Nat} (h : Ir w g N f i) (k : Kp Nu w w') : Ir w' g N f i := by
  obtain ⟨cur, h1, h2, h3⟩ := h.mem
  exact ⟨cur, box_k h1 k, h2, h3⟩
theorem Ir.lt {w : World} {g N i : Nat} {f : Nat → Option Nat} (h : Ir w g N f i) : g < w.heap.size := by
  obtain ⟨cur, h1, _⟩ := h.mem
  exact blk_lt h1
theorem Ir.at_ {w : World} {g N i q : Nat} {f : Nat → Option Nat} (h : Ir w g N f i) (hq : q < i) : w.cell? ⟨g, q, none⟩ = some (.int .i64 (enc (f q))) := by
  obtain ⟨cur, h1, h2, h3⟩ := h.mem
  exact cellAt h1 _ (h3 q hq)
theorem Ir.room {w : World} {g N i q : Nat} {f : Nat → Option Nat} (h : Ir w g N f i) (hq : q < N) : ∃ v, w.cell? ⟨g, q, none⟩ = some v := by
  obtain ⟨cur, h1, h2, h3⟩ := h.mem
  exact ⟨_, cellAt h1 _ (Array.getElem?_eq_getElem (by omega))⟩
theorem Ir.free {w : World} {g N i : Nat} {f : Nat → Option Nat} (h : Ir w g N f i) (o : Nat) : w.frozen? ⟨g, o, none⟩ = false := by
  obtain ⟨cur, h1, _⟩ := h.mem
  exact free3 h1 o
theorem Ir.set {w : World} {g N i : Nat} {f : Nat → Option Nat} (h : Ir w g N f i) (hi : i < N) (v : Value) : Ir (w.setCell ⟨g, i, none⟩ v) g N f i := by
  obtain ⟨cur, p1, p2, p3⟩ := h.mem
  refine ⟨_, set3 p1 _ _, by simp [p2], fun q hq => ?_⟩
  rw [Array.getElem?_setIfInBounds_ne (by omega), p3 q hq]
theorem Ir.put {w : World} {g N i : Nat} {f : Nat → Option Nat} (h : Ir w g N f i) (hi : i < N) : Ir (w.setCell ⟨g, i, none⟩ (.int .i64 (enc (f i)))) g N f (i + 1) := by
  obtain ⟨cur, p1, p2, p3⟩ := h.mem
  refine ⟨_, set3 p1 _ _, by simp [p2], fun q hq => ?_⟩
  by_cases e : q = i
  · subst e
    rw [Array.getElem?_setIfInBounds_self_of_lt (by omega)]
  · rw [Array.getElem?_setIfInBounds_ne (fun e' => e e'.symm), p3 q (by omega)]
theorem ir_made {w1 : World} {base g N : Nat} {xs : List Value} (f : Nat → Option Nat) (h : w1.ownsRow base 3 1 (.slice (some ⟨g, 0, none⟩) N N) N xs) : Ir w1 g N f 0 := by
  rcases h.2 with ⟨e, _⟩ | ⟨g', cap, cur, e, hb', hg, h1, h2, h3, h4⟩
  · cases e
  · cases e
    exact ⟨cur, hg, by omega, fun q hq => by omega⟩
/-- where the round of the cells stands -/
structure Sl (w wr : World) (c : Ca) (Q : List Cv) (N i : Nat) : Prop where
  kp : Kp Nu w wr
  bx : wr.heap[w.heap.size]? = some (.cells c.cells.toArray 30 (0, 0))
  ir : Ir wr (w.heap.size + 1) N (stT (Q.map Cv.o) c) i
set_option maxRecDepth 100000 in
set_option maxHeartbeats 4000000 in
theorem stepsOf88 (w : World) (c : Ca) (u : Value) (Q : List Cv) (hQ : Cq w u Q) (hc : CaOk w c) (hN : Q.length ≤ 17) :
    Calls Try.prog 88 #[.agg c.cells.toArray, u] w fun e w' => e = .returned (.slice (some ⟨w.heap.size + 1, 0, none⟩) Q.length Q.length) ∧ Ir w' (w.heap.size + 1) Q.length (stT (Q.map Cv.o) c) Q.length ∧ Kp Nu w w' := by
  obtain ⟨g, cap, hu, _⟩ := id hQ.at_
  subst hu
  obtain ⟨N, eN⟩ : ∃ N, Q.length = N := ⟨_, rfl⟩
  have HQ := hide (And.intro hQ (And.intro hc eN))
  rw [eN] at hN ⊢
  have hNI : (N : Int) ≤ 17 := by omega
  clear hQ hc eN
  obtain ⟨z0, hzi, hz0, hz1, hz2⟩ := info_parts info3z
  go_enter Try.func88, Try.ntmps88
  go_wp2_with (at_make; refine wpList_make_full _ rfl _ _ 39 rfl (w.heap.size + 1) 3 z0 _ 1 Try.underlying39 hzi hz0 hz1 _ _ _ _ N rfl rfl rfl rfl (by rw [hz2]; omega) (by unfold maxLen; omega) (by rw [World.size_alloc]; exact Nat.le_refl _) ?_; intro w4 hrow4 hgr4)
  have esz : (w.alloc (.cells c.cells.toArray 30)).heap.size = w.heap.size + 1 := World.size_alloc _ _
  have k4 : Kp Nu (w.alloc (.cells c.cells.toArray 30)) w4 := (Kp.of_grown hgr4).mono (fun _ _ e => by cases e)
  have H0 : Hid (Sl w w4 c Q N 0) := hide ⟨(Kp.alloc w _ Nu).andNu k4, box_k (heap_new w _) k4, by
    have h := hrow4
    rw [esz] at h
    exact ir_made _ h⟩
  clear hrow4 hgr4 k4 esz
  go_loopw [15] (fun iv wr => ∃ (i : Nat), iv = .int .i64 (i : Int) ∧ i ≤ N ∧ Hid (Sl w wr c Q N i)) (fun iv _ => N - (intOf iv).toNat)
  case atStart => exact ⟨0, rfl, Nat.zero_le _, H0⟩
  case round =>
    obtain ⟨i, rfl, hi, hI⟩ := hrel
    have hi0 : (0 : Int) ≤ (i : Int) := by omega
    have eti : (i : Int).toNat = i := by omega
    by_cases hlt : i < N
    · have hltI : (i : Int) < (N : Int) := by omega
      obtain ⟨d, hd⟩ : ∃ d, Q[i]? = some d := ⟨_, List.getElem?_eq_getElem (by rw [HQ.out.2.2]; exact hlt)⟩
      have hcD : (Q.map Cv.o)[i]? = some d.o := by rw [List.getElem?_map, hd]; rfl
      obtain ⟨g', cap', hu, hcc⟩ := (HQ.out.1.nu hI.out.kp).at_
      simp only [Value.slice.injEq, Option.some.injEq, Addr.mk.injEq, and_true, true_and] at hu
      obtain ⟨rfl, _, _⟩ := hu
      obtain ⟨x0, x1⟩ := hcc i d hd
      have ok := HQ.out.1.ok d (List.mem_of_getElem? hd)
      have okc := HQ.out.2.1
      obtain ⟨wA, eA⟩ : ∃ wA, wr.alloc (.cells #[.bool d.h, .slice d.a d.n d.c] 64) = wA := ⟨_, rfl⟩
      have kA : Kp Nu wr wA := by rw [← eA]; exact Kp.alloc _ _ _
      have bA : wA.heap[wr.heap.size]? = some (.cells #[.bool d.h, .slice d.a d.n d.c] 64 (0, 0)) := by rw [← eA]; exact heap_new wr _
      have iA := hI.out.ir.nu kA
      obtain ⟨vA, cA⟩ := iA.room (q := i) hlt
      have fA := iA.free i
      obtain ⟨wB, eB⟩ : ∃ wB, wA.setCell ⟨w.heap.size + 1, i, none⟩ (.int .i64 (-1)) = wB := ⟨_, rfl⟩
      have kS : Kp (fun k => k = w.heap.size + 1) wA wB := by rw [← eB]; exact Kp.setCell wA ⟨w.heap.size + 1, i, none⟩ _
      have iB : Ir wB (w.heap.size + 1) N (stT (Q.map Cv.o) c) i := by rw [← eB]; exact iA.set hlt _
      have iB2 : stpc c d.o = none → Ir wB (w.heap.size + 1) N (stT (Q.map Cv.o) c) (i + 1) := fun e => by
        have h := iA.put hlt
        have e2 : stT (Q.map Cv.o) c i = none := by
          unfold stT
          rw [hcD]
          show ((stpc c d.o).bind _) = none
          rw [e]
          rfl
        rw [e2] at h
        rw [← eB]
        exact h
      have hir := hI.out.ir.lt
      have kwB : Kp Nu w wB := by rw [← eB]; exact (hI.out.kp.andNu kA).andSet _ _ (.inl (by show w.heap.size ≤ w.heap.size + 1; omega))
      have bc : wB.heap[w.heap.size]? = some (.cells c.cells.toArray 30 (0, 0)) := (kS.block _ (blk_lt (box_k hI.out.bx kA)) (by omega)).trans (box_k hI.out.bx kA)
      have bd' : wB.heap[wr.heap.size]? = some (.cells #[.bool d.h, .slice d.a d.n d.c] 64 (0, 0)) := (kS.block _ (blk_lt bA) (by omega)).trans bA
      have EF := effect30 w wB kwB d.h d.a d.n d.c d.X c.V c.O c.Y c.who c.seq c.k c.key c.hi c.lim c.st c.beg c.en c.has c.va c.oa c.ya c.V.length c.vc c.O.length c.oc c.Y.length c.yc ok.1 okc.v okc.o okc.y ok.2
      have HB := hide (And.intro bc (And.intro bd' (And.intro kwB (And.intro iB (And.intro iB2 hcD)))))
      clear hd hcc ok okc kA bA iA kS iB iB2 kwB bc bd' hcD hir
      go_wp2_with (first | (guard_target =~ wpList _ _ _ ({ dst := _, op := Op.load 30 (Operand.tmp 2), type := _, pos := _, after := _, guard := _ } :: _) _ _; refine wpList_load_all 30 13 (.tmp 2) rfl rfl info30 _ Try.underlying30 rfl _ rfl HB.out.1 rfl ?_) | (guard_target =~ wpList _ _ _ ({ dst := _, op := Op.load 64 (Operand.tmp 7), type := _, pos := _, after := _, guard := _ } :: _) _ _; refine wpList_load_all 64 2 (.tmp 7) rfl rfl info64 _ Try.underlying64 rfl _ rfl HB.out.2.1 rfl ?_))
      refine EF.mono ?_; rintro e w1 ⟨⟨can, h', a', n', c', X', rfl, hr, hBy, hX, hcf⟩, hk1⟩
      have k1 := HB.out.2.2.1.andNu hk1
      obtain ⟨w2, e2⟩ : ∃ w2, w1.alloc (.cells #[.bool h', .slice a' n' c'] 64) = w2 := ⟨_, rfl⟩
      have k2 : Kp Nu w1 w2 := by rw [← e2]; exact Kp.alloc _ _ _
      have b2 : w2.heap[w1.heap.size]? = some (.cells #[.bool h', .slice a' n' c'] 64 (0, 0)) := by rw [← e2]; exact heap_new w1 _
      cases can with
      | false =>
        obtain rfl := hcf rfl
        have HN : Hid (Sl w w2 c Q N (i + 1)) := hide ⟨k1.andNu k2, box_k (box_k HB.out.1 hk1) k2, ((HB.out.2.2.2.2.1 (by have h2 : stpc c d.o = _ := hr; simpa using h2)).nu hk1).nu k2⟩
        clear EF hr hBy hX hk1 k1 k2 b2 x0 x1 hcf
        go_wp2
        exact ⟨⟨i + 1, by go_num, by omega, HN⟩, by simp [intOf]; omega⟩
      | true =>
        have PO := placeOf101 w2 _ Q ⟨h', a', n', c', X'⟩ (HQ.out.1.nu (k1.andNu k2)) ⟨hBy.nu (k1.andNu k2), hX⟩ (by rw [HQ.out.2.2]; exact hN)
        rw [HQ.out.2.2] at PO
        have H2 := hide (And.intro b2 (And.intro (k1.andNu k2) (And.intro ((HB.out.2.2.2.1.nu hk1).nu k2) (And.intro (box_k (box_k HB.out.1 hk1) k2) hr))))
        clear EF hr hBy hX hk1 k1 k2 b2 x0 x1 hcf
        go_wp2_with (guard_target =~ wpList _ _ _ ({ dst := _, op := Op.load 64 (Operand.tmp 9), type := _, pos := _, after := _, guard := _ } :: _) _ _; refine wpList_load_all 64 2 (.tmp 9) rfl rfl info64 _ Try.underlying64 rfl _ rfl H2.out.1 rfl ?_)
        refine PO.mono ?_; rintro e w3 ⟨rfl, hk3⟩
        have i3 := H2.out.2.2.1.nu hk3
        obtain ⟨v3, c3⟩ := i3.room (q := i) hlt
        have f3 := i3.free i
        obtain ⟨w5, e5⟩ : ∃ w5, w3.setCell ⟨w.heap.size + 1, i, none⟩ (.int .i64 (enc (pl (Q.map Cv.o) (Cv.o ⟨h', a', n', c', X'⟩)))) = w5 := ⟨_, rfl⟩
        have HN : Hid (Sl w w5 c Q N (i + 1)) := by
          have e6 : stT (Q.map Cv.o) c i = pl (Q.map Cv.o) (Cv.o ⟨h', a', n', c', X'⟩) := by
            unfold stT
            rw [HB.out.2.2.2.2.2]
            show ((stpc c d.o).bind _) = _
            have e7 : stpc c d.o = some (opt h' X') := by have h2 : stpc c d.o = _ := H2.out.2.2.2.2; simpa using h2
            rw [e7]
            rfl
          have h := i3.put hlt
          rw [e6, e5] at h
          have kS : Kp (fun k => k = w.heap.size + 1) w3 w5 := by rw [← e5]; exact Kp.setCell w3 ⟨w.heap.size + 1, i, none⟩ _
          have hb3 := box_k H2.out.2.2.2.1 hk3
          refine hide ⟨?_, (kS.block _ (blk_lt hb3) (by omega)).trans hb3, h⟩
          rw [← e5]
          exact (H2.out.2.1.andNu hk3).andSet _ _ (.inl (by show w.heap.size ≤ w.heap.size + 1; omega))
        clear PO hk3 i3
        go_wp2
        exact ⟨⟨i + 1, by go_num, by omega, HN⟩, by simp [intOf]; omega⟩
    · have hge : ¬ (i : Int) < (N : Int) := by omega
      obtain rfl : i = N := by omega
      go_wp2
      go_ret
      exact ⟨rfl, hI.out.ir, hI.out.kp⟩
end Go.Proofs.Ytcbonbeogdgogaa.Li
