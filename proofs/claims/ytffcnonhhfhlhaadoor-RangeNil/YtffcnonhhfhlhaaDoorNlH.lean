import Derived.Test.YtffcnonhhfhlhaaDoorNlG
namespace Go.Proofs.YtffcnonhhfhlhaaDoor.Rg
open Go.RowKit Go.Shelf Go.Sort Go.Maps
open Go.Proofs.YtffcnonhhfhlhaaDoor.It
attribute [local go_sem] Oper.semAt_some
set_option linter.unusedVariables false

theorem cell4 {w : World} {b : Nat} {x0 x1 x2 x3 : Value} {t : TypeId} (h : w.heap[b]? = some (.cells #[x0, x1, x2, x3] t (0, 0))) :
    w.cell? ⟨b, 0, none⟩ = some x0 ∧ w.cell? ⟨b, 1, none⟩ = some x1 ∧ w.cell? ⟨b, 2, none⟩ = some x2 ∧ w.cell? ⟨b, 3, none⟩ = some x3 := by
  refine ⟨?_, ?_, ?_, ?_⟩ <;> simp [World.cell?, h]
theorem notNil39 (w : World) (n : Nat) (a b : Array Value) : (binOp .eql 39 (.func (.func n) a b) .nilFunc).run Tryd.prog w = .ok (.bool false) w := by kernel_rfl
/-- the law's two boxes: the step, the answer -/
structure Bz (w W : World) (k lo hi h : Int) : Prop where
  s : W.heap[w.heap.size]? = some (.cells #[.int .i64 k, .int .u64 lo, .int .u64 hi, .int .u8 h] 36 (0, 0))
  r : W.heap[w.heap.size + 1]? = some (.cells #[.bool false] 4 (0, 0))
  kp : Kp Nu w W
theorem Bz.nu {w W W' : World} {k lo hi h : Int} (z : Bz w W k lo hi h) (q : Kp Nu W W') : Bz w W' k lo hi h :=
  ⟨(q.block _ (blk_lt z.s) (fun h => h)).trans z.s, (q.block _ (blk_lt z.r) (fun h => h)).trans z.r, z.kp.andNu q⟩
theorem Bz.start (w : World) (k lo hi h : Int) : Bz w ((w.alloc (.cells #[.int .i64 k, .int .u64 lo, .int .u64 hi, .int .u8 h] 36)).alloc (.cells #[.bool false] 4)) k lo hi h := by
  refine ⟨(Below.heap_alloc _ _ _ (blk_lt (heap_alloc_new w _))).trans (heap_alloc_new w _), ?_, (Kp.alloc w _ Nu).andAlloc _⟩
  have := heap_alloc_new (w.alloc (.cells #[.int .i64 k, .int .u64 lo, .int .u64 hi, .int .u8 h] 36)) (.cells #[.bool false] 4)
  rwa [World.size_alloc] at this

set_option maxRecDepth 100000 in
set_option maxHeartbeats 4000000 in
theorem nil_walk (w : World) (k lo hi h : Int) : Calls Tryd.prog 5 #[.agg #[.int .i64 k, .int .u64 lo, .int .u64 hi, .int .u8 h]] w fun e w' => e = .returned (.bool true) ∧ Kp Nu w w' := by
  obtain ⟨w1, hw1⟩ : ∃ w1, (w.alloc (.cells #[.int .i64 k, .int .u64 lo, .int .u64 hi, .int .u8 h] 36)).alloc (.cells #[.bool false] 4) = w1 := ⟨_, rfl⟩
  have Z1 := hide (Bz.start w k lo hi h)
  rw [hw1] at Z1
  refine (callsIn_wide (n := 4)).1 ?_
  refine callsIn_of_wp_marks Tryd.func5 rfl trivial ?_ rfl
  simp only [Tryd.ntmps5, List.size_toArray, List.length_cons, List.length_nil, Nat.reduceAdd, Nat.reduceSub, Array.replicate_succ, Array.replicate_zero, List.push_toArray, List.append_toArray, List.nil_append, List.cons_append]
  have C1 := cost_nil w1 lo hi h
  have A1 := assign_nil w1 lo hi h
  have S1 := segment_nil w1 lo
  obtain ⟨c0, c1, c2, c3⟩ := cell4 Z1.out.s
  gi_wp2_with fail
  refine ⟨trivial, (callsIn_wide.2 C1).mono ?_⟩
  rintro e wz ⟨rfl, hwz⟩
  obtain rfl := hwz.symm
  clear C1 hwz
  gi_wp2_with fail
  refine ⟨trivial, (callsIn_wide.2 A1).mono ?_⟩
  rintro e wz ⟨rfl, hwz⟩
  obtain rfl := hwz.symm
  clear A1 hwz
  gi_wp2_with fail
  refine ⟨trivial, (callsIn_wide.2 S1).mono ?_⟩
  rintro e w2 ⟨rfl, q2⟩
  obtain ⟨w3, hw3⟩ : ∃ w3, w2.alloc (.cells #[.int .u64 0, .int .u64 0, .int .u8 255] 26) = w3 := ⟨_, rfl⟩
  have q3 : Kp Nu w2 w3 := by rw [← hw3]; exact Kp.alloc w2 _ Nu
  have hg : w3.heap[w2.heap.size]? = some (.cells #[.int .u64 0, .int .u64 0, .int .u8 255] 26 (0, 0)) := by rw [← hw3]; exact heap_alloc_new w2 _
  have Z3 := hide (Z1.out.nu (q2.andNu q3))
  have G3 := hide hg
  clear S1 q2 q3 Z1 c0 c1 c2 c3 hw1 hg
  obtain ⟨c0, c1, c2, c3⟩ := cell4 Z3.out.s
  have X1 := lookup_nil w3 lo
  gi_wp2_with fail
  refine ⟨trivial, (callsIn_wide.2 X1).mono ?_⟩
  rintro e w4 ⟨rfl, q4⟩
  clear X1 c0 c1 c2 c3
  have Z4 := hide (Z3.out.nu q4)
  have G4 := hide ((q4.block _ (blk_lt G3.out) (fun h => h)).trans G3.out)
  clear q4 Z3 G3
  obtain ⟨c0, c1, c2, c3⟩ := cell4 Z4.out.s
  have X1 := owns_nil w4 lo hi h
  gi_wp2_with fail
  refine ⟨trivial, (callsIn_wide.2 X1).mono ?_⟩
  rintro e w5 ⟨rfl, q4⟩
  clear X1 c0 c1 c2 c3
  have Z5 := hide (Z4.out.nu q4)
  have G5 := hide ((q4.block _ (blk_lt G4.out) (fun h => h)).trans G4.out)
  clear q4 Z4 G4
  have X1 := len_nil w5
  have X2 := limit_nil w5
  have X3 := text_nil w5
  gi_wp2_with fail
  refine ⟨trivial, (callsIn_wide.2 X1).mono ?_⟩
  rintro e wz ⟨rfl, hwz⟩
  obtain rfl := hwz.symm
  clear X1 hwz
  gi_wp2_with fail
  refine ⟨trivial, (callsIn_wide.2 X2).mono ?_⟩
  rintro e wz ⟨rfl, hwz⟩
  obtain rfl := hwz.symm
  clear X2 hwz
  gi_wp2_with fail
  refine ⟨trivial, (callsIn_wide.2 X3).mono ?_⟩
  rintro e w6 ⟨rfl, q4⟩
  have Z6 := hide (Z5.out.nu q4)
  have G6 := hide ((q4.block _ (blk_lt G5.out) (fun h => h)).trans G5.out)
  clear q4 Z5 G5 X3
  have X3 := list_nil w6
  gi_wp2_with fail
  refine ⟨trivial, (callsIn_wide.2 X3).mono ?_⟩
  rintro e w7 ⟨rfl, q4⟩
  have Z7 := hide (Z6.out.nu q4)
  have G7 := hide ((q4.block _ (blk_lt G6.out) (fun h => h)).trans G6.out)
  clear q4 Z6 G6 X3
  have X3 := shares_nil w7
  gi_wp2_with fail
  refine ⟨trivial, (callsIn_wide.2 X3).mono ?_⟩
  rintro e w8 ⟨ads, cps, rfl, q4⟩
  have Z8 := hide (Z7.out.nu q4)
  have G8 := hide ((q4.block _ (blk_lt G7.out) (fun h => h)).trans G7.out)
  clear q4 Z7 G7 X3
  have X1 := clone_nil w8
  have X3 := diff_nil w8 (.pointer none) ⟨_, rfl⟩
  gi_wp2_with fail
  refine ⟨trivial, (callsIn_wide.2 X1).mono ?_⟩
  rintro e wz ⟨rfl, hwz⟩
  obtain rfl := hwz.symm
  clear X1 hwz
  gi_wp2_with fail
  refine ⟨trivial, (callsIn_wide.2 X3).mono ?_⟩
  rintro e w9 ⟨rfl, q4⟩
  have Z9 := hide (Z8.out.nu q4)
  have G9 := hide ((q4.block _ (blk_lt G8.out) (fun h => h)).trans G8.out)
  clear q4 Z8 G8 X3
  have N1 := num_any 1 w9
  have N2 := num_any 1 w9
  have N3 := num_any 1 w9
  have XW := within_nil w9 lo hi
  obtain ⟨g0, g1, g2⟩ := cell3 G9.out
  obtain ⟨c0, c1, c2, c3⟩ := cell4 Z9.out.s
  gi_wp2_with fail
  refine ⟨trivial, (callsIn_wide.2 N1).mono ?_⟩
  rintro e wz ⟨rfl, hwz⟩
  obtain rfl := hwz.symm
  clear N1 hwz
  gi_wp2_with fail
  refine ⟨trivial, (callsIn_wide.2 N2).mono ?_⟩
  rintro e wz ⟨rfl, hwz⟩
  obtain rfl := hwz.symm
  clear N2 hwz
  gi_wp2_with fail
  refine ⟨trivial, (callsIn_wide.2 N3).mono ?_⟩
  rintro e wz ⟨rfl, hwz⟩
  obtain rfl := hwz.symm
  clear N3 hwz
  gi_wp2_with fail
  refine ⟨trivial, (callsIn_wide.2 XW).mono ?_⟩
  rintro e wA ⟨Bn, B1, B2, B3, rfl, hbn, hb1, hb2, hb3, qA⟩
  have ZA := hide (Z9.out.nu qA)
  have SQ := within0_o wA B1 B2 B3 Bn lo hi hb1 hb2 hb3 hbn
  clear qA Z9 G9 XW g0 g1 g2 c0 c1 c2 c3 hbn hb1 hb2 hb3
  obtain ⟨c0, c1, c2, c3⟩ := cell4 ZA.out.s
  by_cases hk : k = 11
  · subst hk
    have XA := all_nil wA
    clear SQ
    gi_wp2_with fail
    refine ⟨trivial, (callsIn_wide.2 XA).mono ?_⟩
    rintro e wB ⟨Bm, rfl, hbm, qB⟩
    have ZB := hide (ZA.out.nu qB)
    have SQ := SeqO.of_stops fun n => from0_stops n Bm wB hbm
    clear XA qB ZA hbm c0 c1 c2 c3
    have nf := notNil39 wB
    gi_wp2_with fail
    have hbe : Below w.heap.size w wB := ZB.out.kp.toBelow
    have hr0 := ZB.out.r
    have hsz : w.heap.size + 1 < wB.heap.size := blk_lt hr0
    refine range_o (gf := 73) rfl (enters_of Tryd.func73 (by kernel_rfl) rfl) SQ (Below.refl _ _) (fun _ => rfl)
      (fun pre V => V.heap[w.heap.size + 1]? = some (.cells #[.bool false] 4 (0, 0)) ∧ Below w.heap.size w V) (fun _ _ _ => False)
      (OwnFrom.and (fun pre X Z row hs hg hr => own_cells (β := Unit) wB.heap.size _ _ _ _ () X Z row hs hg hr) (ownFrom_below (Nat.le_refl _) (by omega))) (fun _ _ _ _ _ hs _ _ => hs) ⟨hr0, hbe⟩
      (fun x a' V => True) (fun x a' _ X Z row hs hg hr => trivial)
      ?assign73 ?body73 ?done73 (fun _ _ _ _ _ _ h _ => h.elim)
    case assign73 =>
      rintro l' pre x V K ⟨hLp, hB⟩ hK
      simp only [enc]
      gi_wp2
      exact hK _ _ (kf_nu _ (Kp.refl _ _)) (kc_nu (Kp.refl _ _)) ⟨hLp, hB⟩ trivial
    case body73 =>
      rintro l' pre x a' V hl' hq hI hA hlt
      exact absurd hlt (Nat.not_lt_zero _)
    case done73 =>
      rintro D ys V hD rfl ⟨hLp, hB⟩ hK
      have r0 := cell1 hLp
      have r1 := free3 hLp 0
      have HZ := hide (And.intro hLp (And.intro hB hK))
      clear hLp hB hK
      gi_wp2_with fail
      obtain ⟨hLp, hB, hK⟩ := HZ.out
      have hVD : w.heap.size + 1 < V.heap.size := blk_lt hLp
      obtain ⟨X, hX⟩ : ∃ X, V.setCell ⟨w.heap.size + 1, 0, none⟩ (.bool true) = X := ⟨_, rfl⟩
      have x1 : X.heap[w.heap.size + 1]? = some (.cells #[.bool true] 4 (0, 0)) := by
        rw [← hX]
        exact set3 hLp 0 _
      have kX : Kp (fun j => j = w.heap.size + 1) V X := by
        rw [← hX]
        exact Kp.setCell V ⟨w.heap.size + 1, 0, none⟩ _
      rw [hX]
      have hKX : X.heap[D]? = some (.deferred (some [])) := (kX.block _ (blk_lt hK) (fun e => by have e2 : D = w.heap.size + 1 := e; omega)).trans hK
      have hBX : Below w.heap.size w X := hB.trans (kX.below _ hB.size (fun j e => by have e2 : j = w.heap.size + 1 := e; omega))
      have y2 : (X.putObj D (.deferred none)).heap[w.heap.size + 1]? = some (.cells #[.bool true] 4 (0, 0)) := (World.putObj_heap_other (by omega)).trans x1
      have e0 := cell1 y2
      refine ⟨by simp, .inl ⟨_, _, rfl, run_takeDeferred hKX, ?_⟩⟩
      refine ⟨.bool true, ?_, rfl, Kp.of_below (hBX.trans (belowK_b (w := w) (Nat.le_refl _) X D _ _ (by omega) hKX rfl rfl))⟩
      simp [results, Tryd.results5, go_sem, e0]
  · have hkb : (k == 11) = false := by simp [hk]
    have nf := notNil39 wA
    gi_wp2_with fail
    have hbe : Below w.heap.size w wA := ZA.out.kp.toBelow
    have hr0 := ZA.out.r
    have hsz : w.heap.size + 1 < wA.heap.size := blk_lt hr0
    refine range_o (gf := 45) rfl (enters_of Tryd.func45 (by kernel_rfl) rfl) SQ (Below.refl _ _) (fun _ => rfl)
      (fun pre V => V.heap[w.heap.size + 1]? = some (.cells #[.bool false] 4 (0, 0)) ∧ Below w.heap.size w V) (fun _ _ _ => False)
      (OwnFrom.and (fun pre X Z row hs hg hr => own_cells (β := Unit) wA.heap.size _ _ _ _ () X Z row hs hg hr) (ownFrom_below (Nat.le_refl _) (by omega))) (fun _ _ _ _ _ hs _ _ => hs) ⟨hr0, hbe⟩
      (fun x a' V => True) (fun x a' _ X Z row hs hg hr => trivial)
      ?assign45 ?body45 ?done45 (fun _ _ _ _ _ _ h _ => h.elim)
    case assign45 =>
      rintro l' pre x V K ⟨hLp, hB⟩ hK
      simp only [enc]
      gi_wp2
      exact hK _ _ (kf_nu _ (Kp.refl _ _)) (kc_nu (Kp.refl _ _)) ⟨hLp, hB⟩ trivial
    case body45 =>
      rintro l' pre x a' V hl' hq hI hA hlt
      exact absurd hlt (Nat.not_lt_zero _)
    case done45 =>
      rintro D ys V hD rfl ⟨hLp, hB⟩ hK
      have r0 := cell1 hLp
      have r1 := free3 hLp 0
      have HZ := hide (And.intro hLp (And.intro hB hK))
      clear hLp hB hK
      gi_wp2_with fail
      obtain ⟨hLp, hB, hK⟩ := HZ.out
      have hVD : w.heap.size + 1 < V.heap.size := blk_lt hLp
      obtain ⟨X, hX⟩ : ∃ X, V.setCell ⟨w.heap.size + 1, 0, none⟩ (.bool true) = X := ⟨_, rfl⟩
      have x1 : X.heap[w.heap.size + 1]? = some (.cells #[.bool true] 4 (0, 0)) := by
        rw [← hX]
        exact set3 hLp 0 _
      have kX : Kp (fun j => j = w.heap.size + 1) V X := by
        rw [← hX]
        exact Kp.setCell V ⟨w.heap.size + 1, 0, none⟩ _
      rw [hX]
      have hKX : X.heap[D]? = some (.deferred (some [])) := (kX.block _ (blk_lt hK) (fun e => by have e2 : D = w.heap.size + 1 := e; omega)).trans hK
      have hBX : Below w.heap.size w X := hB.trans (kX.below _ hB.size (fun j e => by have e2 : j = w.heap.size + 1 := e; omega))
      have y2 : (X.putObj D (.deferred none)).heap[w.heap.size + 1]? = some (.cells #[.bool true] 4 (0, 0)) := (World.putObj_heap_other (by omega)).trans x1
      have e0 := cell1 y2
      refine ⟨by simp, .inl ⟨_, _, rfl, run_takeDeferred hKX, ?_⟩⟩
      refine ⟨.bool true, ?_, rfl, Kp.of_below (hBX.trans (belowK_b (w := w) (Nat.le_refl _) X D _ _ (by omega) hKX rfl rfl))⟩
      simp [results, Tryd.results5, go_sem, e0]
end Go.Proofs.YtffcnonhhfhlhaaDoor.Rg
