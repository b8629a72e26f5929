import Derived.Test.YtffcnonhhfhlhaaDoorNlC
namespace Go.Proofs.YtffcnonhhfhlhaaDoor.Rg
open Go.RowKit Go.Shelf Go.Sort Go.Maps
open Go.Proofs.YtffcnonhhfhlhaaDoor.It
attribute [local go_sem] Oper.semAt_some
set_option linter.unusedVariables false

set_option maxHeartbeats 400000 in
theorem limit_nil (w : World) : Calls Tryd.prog 23 #[.pointer none] w fun e w' => e = .returned (.int .i64 0) ∧ w' = w := by
  have MA := made_nil w
  go_enter Tryd.func23, Tryd.ntmps23
  go_wp2_with (go_at_call 50; refine MA.mono ?_; rintro e w' ⟨rfl, rfl⟩)
  go_ret
  exact ⟨rfl, rfl⟩
set_option maxHeartbeats 400000 in
theorem clone_nil (w : World) : Calls Tryd.prog 27 #[.pointer none] w fun e w' => e = .returned (.pointer none) ∧ w' = w := by
  have MA := made_nil w
  go_enter Tryd.func27, Tryd.ntmps27
  go_wp2_with (go_at_call 50; refine MA.mono ?_; rintro e w' ⟨rfl, rfl⟩)
  go_ret
  exact ⟨rfl, rfl⟩
set_option maxHeartbeats 400000 in
theorem num_any (n : Int) (w : World) : Calls Tryd.prog 29 #[.int .i64 n] w fun e w' => e = .returned (.int .i64 n) ∧ w' = w := by
  go_enter Tryd.func29, Tryd.ntmps29
  go_wp2
  go_ret
  exact ⟨rfl, rfl⟩
theorem conv0 (w : World) : (convert 100 9 (.slice none 0 0)).run Tryd.prog w = .ok (.string ⟨#[]⟩) w := by kernel_rfl
set_option maxRecDepth 100000 in
set_option maxHeartbeats 1000000 in
theorem text_nil (w : World) : Calls Tryd.prog 24 #[.pointer none] w fun e w' => e = .returned (.string ⟨#[]⟩) ∧ Kp Nu w w' := by
  have KA := Kp.alloc w (.cells #[.slice none 0 0] 100) Nu
  have AL := all_nil (w.alloc (.cells #[.slice none 0 0] 100))
  refine (callsIn_wide (n := 4)).1 ?_
  refine callsIn_of_wp_marks Tryd.func24 rfl trivial ?_ rfl
  simp only [Tryd.ntmps24, List.size_toArray, List.length_cons, List.length_nil, Nat.reduceAdd, Nat.reduceSub, Array.replicate_succ, Array.replicate_zero, List.push_toArray, List.append_toArray, List.nil_append, List.cons_append]
  gi_wp2_with fail
  refine ⟨trivial, (callsIn_wide.2 AL).mono ?_⟩
  rintro e w2 ⟨Bn, rfl, hbn, hk2⟩
  have hres : w2.heap[w.heap.size]? = some (.cells #[.slice none 0 0] 100 (0, 0)) := (hk2.block _ (by simp) (fun h => h)).trans (heap_alloc_new w _)
  have hbel : Below w.heap.size w w2 := (KA.andNu hk2).toBelow
  have hlt2 : w.heap.size < w2.heap.size := blk_lt hres
  have SQ := SeqO.of_stops fun n => from0_stops n Bn w2 hbn
  clear AL KA hk2
  gi_wp2_with fail
  refine range_o (gf := 73) rfl (enters_of Tryd.func73 (by kernel_rfl) rfl) SQ (Below.refl _ _) (fun _ => rfl)
    (fun pre V => V.heap[w.heap.size]? = some (.cells #[.slice none 0 0] 100 (0, 0)) ∧ Below w.heap.size w V) (fun _ _ _ => False)
    (OwnFrom.and (fun pre X Z row hs hg hr => own_cells (β := Unit) w2.heap.size _ _ _ _ () X Z row hs hg hr) (ownFrom_below (Nat.le_refl _) (by omega))) (fun _ _ _ _ _ hs _ _ => hs) ⟨hres, hbel⟩
    (fun x a' V => True) (fun x a' _ X Z row hs hg hr => trivial)
    ?assign1 ?body1 ?done1 (fun _ _ _ _ _ _ h _ => h.elim)
  case assign1 =>
    rintro l' pre x V K ⟨hLp, hB⟩ hK
    simp only [enc]
    have kV := Kp.alloc V (.cells #[.int .u64 x.lo, .int .u64 x.hi, .int .u8 x.h] 26) Nu
    have HZ := hide (And.intro ((kV.block _ (blk_lt hLp) (fun h => h)).trans hLp) (And.intro kV (hB.alloc hB.size (.cells #[.int .u64 x.lo, .int .u64 x.hi, .int .u8 x.h] 26))))
    clear hLp kV hB
    gi_wp2
    obtain ⟨f1, kV, hB⟩ := HZ.out
    exact hK _ _ (kf_nu _ kV) (kc_nu kV) ⟨f1, hB⟩ trivial
  case body1 =>
    rintro l' pre x a' V hl' hq hI hA hlt
    exact absurd hlt (Nat.not_lt_zero _)
  case done1 =>
    rintro D ys V hD rfl ⟨hLp, hB⟩ hK
    have c1 := cell1 hLp
    have cv := conv0 V
    gi_wp2
    refine ⟨by simp, .inl ⟨_, _, rfl, run_takeDeferred hK, ?_⟩⟩
    refine ⟨.string ⟨#[]⟩, ?_, rfl, Kp.of_below (hB.trans (belowK_b (w := w) (Nat.le_refl _) V D _ _ (by omega) hK rfl rfl))⟩
    simp [results, Tryd.results24, go_sem]
end Go.Proofs.YtffcnonhhfhlhaaDoor.Rg
