import Derived.Test.YtffcnonhhfhlhaaDoorNlB
namespace Go.Proofs.YtffcnonhhfhlhaaDoor.Rg
open Go.RowKit Go.Shelf Go.Sort Go.Maps
open Go.Proofs.YtffcnonhhfhlhaaDoor.It
attribute [local go_sem] Oper.semAt_some
set_option linter.unusedVariables false

set_option maxRecDepth 100000 in
set_option maxHeartbeats 1000000 in
theorem appendSeq_nil (w : World) (Bn : Nat) (hbn : w.heap[Bn]? = some (.cells #[.slice none 0 0] 22 (0, 0))) :
    Calls Tryd.prog 75 #[.slice none 0 0, .func (.func 73) #[] #[.pointer (some ⟨Bn, 0, none⟩)]] w fun e w' => e = .returned (.slice none 0 0) ∧ Kp Nu w w' := by
  have KA := Kp.alloc w (.cells #[.slice none 0 0] 22) Nu
  have b0 : (w.alloc (.cells #[.slice none 0 0] 22)).heap[w.heap.size]? = some (.cells #[.slice none 0 0] 22 (0, 0)) := heap_alloc_new w _
  have SQ := SeqO.of_stops fun n => from0_stops n Bn (w.alloc (.cells #[.slice none 0 0] 22)) ((KA.block _ (blk_lt hbn) (fun h => h)).trans hbn)
  have hb0 : Below w.heap.size w (w.alloc (.cells #[.slice none 0 0] 22)) := KA.toBelow
  have hs0 : w.heap.size < (w.alloc (.cells #[.slice none 0 0] 22)).heap.size := by simp
  refine (callsIn_wide (n := 4)).1 ?_
  refine callsIn_of_wp_marks Tryd.func75 rfl trivial ?_ rfl
  simp only [Tryd.ntmps75, List.size_toArray, List.length_cons, List.length_nil, Nat.reduceAdd, Nat.reduceSub, Array.replicate_succ, Array.replicate_zero, List.push_toArray, List.append_toArray, List.nil_append, List.cons_append]
  clear hbn KA
  gi_wp2_with fail
  generalize w.alloc (.cells #[.slice none 0 0] 22) = w1 at SQ b0 hb0 hs0 ⊢
  refine range_o (gf := 73) rfl (enters_of Tryd.func73 (by kernel_rfl) rfl) SQ (Below.refl _ _) (fun _ => rfl)
    (fun pre V => V.heap[w.heap.size]? = some (.cells #[.slice none 0 0] 22 (0, 0)) ∧ Below w.heap.size w V) (fun _ _ _ => False)
    (OwnFrom.and (fun pre X Z row hs hg hr => own_cells (β := Unit) w1.heap.size _ _ _ _ () X Z row hs hg hr) (ownFrom_below (Nat.le_refl _) (by omega))) (fun _ _ _ _ _ hs _ _ => hs) ⟨b0, hb0⟩
    (fun x a' V => True) (fun x a' _ X Z row hs hg hr => trivial)
    ?assign1 ?body1 ?done1 (fun _ _ _ _ _ _ h _ => h.elim)
  case assign1 =>
    rintro l' pre x V K ⟨hLp, hB⟩ hK
    simp only [enc]
    have kV := Kp.alloc V (.cells #[.int .u64 x.lo, .int .u64 x.hi, .int .u8 x.h] 26) Nu
    have HZ := hide (And.intro ((kV.block _ (blk_lt hLp) (fun h => h)).trans hLp) (And.intro kV (hB.alloc hB.size (.cells #[.int .u64 x.lo, .int .u64 x.hi, .int .u8 x.h] 26))))
    clear hLp kV hB
    gi_wp2
    obtain ⟨f1, kV, hB⟩ := HZ.out
    exact hK _ _ (kf_nu _ kV) (kc_nu kV) ⟨f1, hB⟩ trivial
  case body1 =>
    rintro l' pre x a' V hl' hq hI hA hlt
    exact absurd hlt (Nat.not_lt_zero _)
  case done1 =>
    rintro D ys V hD rfl ⟨hLp, hB⟩ hK
    have c1 := cell1 hLp
    gi_wp2
    refine ⟨by simp, .inl ⟨_, _, rfl, run_takeDeferred hK, ?_⟩⟩
    refine ⟨.slice none 0 0, ?_, rfl, Kp.of_below (hB.trans (belowK_b (w := w) (Nat.le_refl _) V D _ _ (by omega) hK rfl rfl))⟩
    simp [results, Tryd.results75, go_sem]
set_option maxHeartbeats 400000 in
theorem list_nil (w : World) : Calls Tryd.prog 25 #[.pointer none] w fun e w' => e = .returned (.slice none 0 0) ∧ Kp Nu w w' := by
  have AL := all_nil w
  have CO : ∀ w2 Bn, w2.heap[Bn]? = some (.cells #[.slice none 0 0] 22 (0, 0)) → Kp Nu w w2 → Calls Tryd.prog 55 #[.func (.func 73) #[] #[.pointer (some ⟨Bn, 0, none⟩)]] w2 fun e w' => e = .returned (.slice none 0 0) ∧ Kp Nu w w' := fun w2 Bn hb hk => by
    have AP := appendSeq_nil w2 Bn hb
    go_enter Tryd.func55, Tryd.ntmps55
    go_wp2_with (go_at_call 75; refine AP.mono ?_; rintro e w' ⟨rfl, h2⟩)
    go_ret
    exact ⟨rfl, hk.andNu h2⟩
  go_enter Tryd.func25, Tryd.ntmps25
  go_wp2_with fail
  refine AL.mono ?_; rintro e w2 ⟨Bn, rfl, h1, h2⟩
  have CO1 := CO w2 Bn h1 h2
  clear AL CO h1
  go_wp2_with fail
  refine CO1.mono ?_; rintro e w3 ⟨rfl, h5⟩
  clear CO1
  go_wp2
  go_ret
  exact ⟨rfl, h5⟩

end Go.Proofs.YtffcnonhhfhlhaaDoor.Rg
