import Derived.Test.YtffcnonhhfhlhaaDoorNlA
namespace Go.Proofs.YtffcnonhhfhlhaaDoor.Rg
open Go.RowKit Go.Shelf Go.Sort Go.Maps
open Go.Proofs.YtffcnonhhfhlhaaDoor.It
attribute [local go_sem] Oper.semAt_some
set_option linter.unusedVariables false

set_option maxRecDepth 100000 in
set_option maxHeartbeats 1000000 in
theorem segment_nil (w : World) (key : Int) : Calls Tryd.prog 19 #[.pointer none, .int .u64 key] w fun e w' => e = .returned (.agg #[.int .u64 0, .int .u64 0, .int .u8 255]) ∧ Kp Nu w w' := by
  have KA := Kp.alloc w (.cells #[.int .u64 0, .int .u64 0, .int .u8 0] 26) Nu
  have FR := from_nil (w.alloc (.cells #[.int .u64 0, .int .u64 0, .int .u8 0] 26)) key
  refine (callsIn_wide (n := 4)).1 ?_
  refine callsIn_of_wp_marks Tryd.func19 rfl trivial ?_ rfl
  simp only [Tryd.ntmps19, List.size_toArray, List.length_cons, List.length_nil, Nat.reduceAdd, Nat.reduceSub, Array.replicate_succ, Array.replicate_zero, List.push_toArray, List.append_toArray, List.nil_append, List.cons_append]
  gi_wp2_with fail
  refine ⟨trivial, (callsIn_wide.2 FR).mono ?_⟩
  rintro e w2 ⟨Bn, rfl, hbn, hk2⟩
  have hres : w2.heap[w.heap.size]? = some (.cells #[.int .u64 0, .int .u64 0, .int .u8 0] 26 (0, 0)) := (hk2.block _ (by simp) (fun h => h)).trans (heap_alloc_new w _)
  have hbel : Below w.heap.size w w2 := (KA.andNu hk2).toBelow
  have hlt2 : w.heap.size < w2.heap.size := blk_lt hres
  have SQ := SeqO.of_stops fun n => from0_stops n Bn w2 hbn
  clear FR KA hk2
  gi_wp2_with fail
  refine range_o (gf := 73) rfl (enters_of Tryd.func73 (by kernel_rfl) rfl) SQ (Below.refl _ _) (fun _ => rfl)
    (fun pre V => V.heap[w.heap.size]? = some (.cells #[.int .u64 0, .int .u64 0, .int .u8 0] 26 (0, 0)) ∧ Below w.heap.size w V) (fun _ _ _ => False)
    (OwnFrom.and (fun pre X Z row hs hg hr => own_cells (β := Unit) w2.heap.size _ _ _ _ () X Z row hs hg hr) (ownFrom_below (Nat.le_refl _) (by omega))) (fun _ _ _ _ _ hs _ _ => hs) ⟨hres, hbel⟩
    (fun x a' V => True) (fun x a' _ X Z row hs hg hr => trivial)
    ?assign1 ?body1 ?done1 (fun _ _ _ _ _ _ h _ => h.elim)
  case assign1 =>
    rintro l' pre x V K ⟨hLp, hB⟩ hK
    simp only [enc]
    have kV := Kp.alloc V (.cells #[.int .u64 x.lo, .int .u64 x.hi, .int .u8 x.h] 26) Nu
    have HZ := hide (And.intro ((kV.block _ (blk_lt hLp) (fun h => h)).trans hLp) (And.intro kV (hB.alloc hB.size (.cells #[.int .u64 x.lo, .int .u64 x.hi, .int .u8 x.h] 26))))
    clear hLp kV hB
    gi_wp2
    obtain ⟨f1, kV, hB⟩ := HZ.out
    exact hK _ _ (kf_nu _ kV) (kc_nu kV) ⟨f1, hB⟩ trivial
  case body1 =>
    rintro l' pre x a' V hl' hq hI hA hlt
    exact absurd hlt (Nat.not_lt_zero _)
  case done1 =>
    rintro D ys V hD rfl ⟨hLp, hB⟩ hK
    obtain ⟨a0, a1, a2⟩ := cell3 hLp
    have s0 := free3 hLp 0
    have s1 := free3 hLp 1
    have s2 := free3 hLp 2
    have hVD : w.heap.size < V.heap.size := blk_lt hLp
    gi_wp2
    obtain ⟨X, hX⟩ : ∃ X, (((V.setCell ⟨w.heap.size, 0, none⟩ (.int .u64 0)).setCell ⟨w.heap.size, 1, none⟩ (.int .u64 0)).setCell ⟨w.heap.size, 2, none⟩ (.int .u8 255)) = X := ⟨_, rfl⟩
    have x1 : X.heap[w.heap.size]? = some (.cells #[.int .u64 0, .int .u64 0, .int .u8 255] 26 (0, 0)) := by
      rw [← hX]
      exact set3 (set3 (set3 hLp 0 _) 1 _) 2 _
    have kX : Kp (fun k => k = w.heap.size) V X := by
      rw [← hX]
      exact ((Kp.setCell V ⟨w.heap.size, 0, none⟩ _).trans (Kp.setCell _ ⟨w.heap.size, 1, none⟩ _) (fun _ _ h => h)).trans (Kp.setCell _ ⟨w.heap.size, 2, none⟩ _) (fun _ _ h => h)
    rw [hX]
    have hKX : X.heap[D]? = some (.deferred (some [])) := (kX.block _ (blk_lt hK) (fun e => by have e2 : D = w.heap.size := e; omega)).trans hK
    have hBX : Below w.heap.size w X := hB.trans (kX.below _ hB.size (fun j e => by have e2 : j = w.heap.size := e; omega))
    have y2 : (X.putObj D (.deferred none)).heap[w.heap.size]? = some (.cells #[.int .u64 0, .int .u64 0, .int .u8 255] 26 (0, 0)) := (World.putObj_heap_other (by omega)).trans x1
    obtain ⟨e0, e1, e2⟩ := cell3 y2
    refine ⟨by simp, .inl ⟨_, _, rfl, run_takeDeferred hKX, ?_⟩⟩
    refine ⟨.agg #[.int .u64 0, .int .u64 0, .int .u8 255], ?_, rfl, Kp.of_below (hBX.trans (belowK_b (w := w) (Nat.le_refl _) X D _ _ (by omega) hKX rfl rfl))⟩
    simp [results, Tryd.results19, go_sem, e0, e1, e2]
theorem lookup_nil (w : World) (key : Int) : Calls Tryd.prog 20 #[.pointer none, .int .u64 key] w fun e w' => e = .returned (.int .u8 255) ∧ Kp Nu w w' := by
  have SG := segment_nil w key
  have fd := field26
  go_enter Tryd.func20, Tryd.ntmps20
  go_wp2_with (go_at_call 19; refine SG.mono ?_; rintro e w' ⟨rfl, hk⟩)
  go_ret
  exact ⟨rfl, hk⟩
end Go.Proofs.YtffcnonhhfhlhaaDoor.Rg
