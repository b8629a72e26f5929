import Derived.Test.YtchealdgncgjoaaNlA
import Derived.Deep.OwnRows
namespace Go.Proofs.Ytchealdgncgjoaa.StI
open Go.RowKit Go.Proofs.Ytchealdgncgjoaa.St Go.Shelf Go.Sort Go.Proofs.Ytchealdgncgjoaa.It
attribute [local go_sem] Oper.semAt_some
set_option linter.unusedVariables false

theorem all_seqnil (bx : Nat) (w : World) (hb : w.heap[bx]? = some (.cells #[.pointer none] 22 (0, 0))) :
    SeqO Try.prog 82 #[.pointer (some ⟨bx, 0, none⟩)] (fun x : Int × Int => #[.int .i64 x.1, .int .i64 x.2]) (fun _ _ => True) (fun ys => ys = []) (fun pre => pre = []) 0 w := fun n l J Jx W hW hJ hJx hY h0 => by
  refine (callsIn_wide (n := n)).2 ?_
  refine (all1_nil W l bx ((hW.block bx (blk_lt hb)).trans hb)).mono ?_
  rintro e W' ⟨hv, hk⟩
  exact ⟨hv, .inl ⟨[], rfl, hJ _ _ _ none h0 (grown_nu hk) (fun r e => by cases e)⟩⟩

theorem info3 : (Try.prog.info? 3).map (fun i => (i.zero, i.size, i.bytes)) = some (some (.int .i64 0), 1, 8) := by kernel_rfl
set_option maxRecDepth 100000 in
set_option maxHeartbeats 1000000 in
theorem collect_nil (w : World) : Calls Try.prog 59 #[.pointer none] w fun e w' => ∃ a1 a2 c1 c2, e = .returned (.tuple #[.slice a1 0 c1, .slice a2 0 c2]) ∧ Kp Nu w w' := by
  have LN := len_nil
  have AL := all_nil
  have hmk : ∀ W : World, (Instr.makeSlice 47 (.int .i64 0) (.int .i64 0)).run Try.prog W = .ok (.slice (some ⟨W.heap.size, 0, none⟩) 0 0) (W.alloc (.cells (madeCells #[.int .i64 0] 0) 3)) := fun W => run_make_row' (P := Try.prog) 47 3 (.int .i64 0) 8 Try.underlying47 info3 rfl .i64 .i64 0 (by omega) (by omega) W
  refine (callsIn_wide (n := 4)).1 ?_
  refine callsIn_of_wp_marks Try.func59 rfl trivial ?_ rfl
  simp only [Try.ntmps59, List.size_toArray, List.length_cons, List.length_nil, Nat.reduceAdd, Nat.reduceSub, Array.replicate_succ, Array.replicate_zero, List.push_toArray, List.append_toArray, List.nil_append, List.cons_append]
  gi_wp2_with fail
  refine ⟨trivial, (callsIn_wide.2 (LN _)).mono ?_⟩
  rintro e w' ⟨rfl, hw⟩; obtain rfl := hw.symm
  gi_wp2_with fail
  refine ⟨trivial, (callsIn_wide.2 (LN _)).mono ?_⟩
  rintro e w' ⟨rfl, hw⟩; obtain rfl := hw.symm
  gi_wp2_with fail
  refine ⟨trivial, (callsIn_wide.2 (AL _)).mono ?_⟩
  rintro e w4 ⟨rfl, hb4, k4⟩
  have KW : Kp Nu w ((((w.alloc (.cells (madeCells #[.int .i64 0] 0) 3)).alloc (.cells #[.slice (some ⟨w.heap.size, 0, none⟩) 0 0] 47)).alloc (.cells (madeCells #[.int .i64 0] 0) 3)).alloc (.cells #[.slice (some ⟨w.heap.size + 1 + 1, 0, none⟩) 0 0] 47)) := (((Kp.alloc w _ Nu).andAlloc _).andAlloc _).andAlloc _
  have g1 : ((((w.alloc (.cells (madeCells #[.int .i64 0] 0) 3)).alloc (.cells #[.slice (some ⟨w.heap.size, 0, none⟩) 0 0] 47)).alloc (.cells (madeCells #[.int .i64 0] 0) 3)).alloc (.cells #[.slice (some ⟨w.heap.size + 1 + 1, 0, none⟩) 0 0] 47)).heap[w.heap.size + 1]? = some (.cells #[.slice (some ⟨w.heap.size, 0, none⟩) 0 0] 47 (0, 0)) :=
    (Below.heap_alloc _ _ _ (by simp)).trans ((Below.heap_alloc _ _ _ (by simp)).trans (by have := heap_alloc_new (w.alloc (.cells (madeCells #[.int .i64 0] 0) 3)) (.cells #[.slice (some ⟨w.heap.size, 0, none⟩) 0 0] 47); simpa using this))
  have g3 : ((((w.alloc (.cells (madeCells #[.int .i64 0] 0) 3)).alloc (.cells #[.slice (some ⟨w.heap.size, 0, none⟩) 0 0] 47)).alloc (.cells (madeCells #[.int .i64 0] 0) 3)).alloc (.cells #[.slice (some ⟨w.heap.size + 1 + 1, 0, none⟩) 0 0] 47)).heap[w.heap.size + 1 + 1 + 1]? = some (.cells #[.slice (some ⟨w.heap.size + 1 + 1, 0, none⟩) 0 0] 47 (0, 0)) := by
    have := heap_alloc_new (((w.alloc (.cells (madeCells #[.int .i64 0] 0) 3)).alloc (.cells #[.slice (some ⟨w.heap.size, 0, none⟩) 0 0] 47)).alloc (.cells (madeCells #[.int .i64 0] 0) 3)) (.cells #[.slice (some ⟨w.heap.size + 1 + 1, 0, none⟩) 0 0] 47)
    simpa using this
  generalize ((((w.alloc (.cells (madeCells #[.int .i64 0] 0) 3)).alloc (.cells #[.slice (some ⟨w.heap.size, 0, none⟩) 0 0] 47)).alloc (.cells (madeCells #[.int .i64 0] 0) 3)).alloc (.cells #[.slice (some ⟨w.heap.size + 1 + 1, 0, none⟩) 0 0] 47)) = w3 at *
  have h1 := (k4.block _ (blk_lt g1) (fun h => h)).trans g1
  have h3 := (k4.block _ (blk_lt g3) (fun h => h)).trans g3
  have K4 := KW.andNu k4
  have SQ := all_seqnil w3.heap.size w4 hb4
  generalize w3.heap.size = bx at *
  have hs0 := K4.size
  clear g1 g3 KW k4 hb4 LN AL hmk
  gi_wp2_with fail
  refine range_o (gf := 82) rfl (enters_of Try.func82 (by kernel_rfl) rfl) SQ (Below.refl _ _) (fun _ => rfl)
    (fun pre V => (V.heap[w.heap.size + 1]? = some (.cells #[.slice (some ⟨w.heap.size, 0, none⟩) 0 0] 47 (0, 0)) ∧ V.heap[w.heap.size + 1 + 1 + 1]? = some (.cells #[.slice (some ⟨w.heap.size + 1 + 1, 0, none⟩) 0 0] 47 (0, 0))) ∧ Below w.heap.size w V) (fun _ _ _ => False)
    (OwnFrom.and (fun pre X Z row hs hg hr => ⟨own_cells (β := Unit) w4.heap.size _ _ _ _ () X Z row hs.1 hg hr, own_cells (β := Unit) w4.heap.size _ _ _ _ () X Z row hs.2 hg hr⟩) (ownFrom_below (Nat.le_refl _) (by omega))) (fun _ _ _ _ _ hs _ _ => hs) ⟨⟨h1, h3⟩, K4.toBelow⟩
    (fun x a' V => True) (fun x a' _ X Z row hs hg hr => trivial)
    ?assign1 ?body1 ?done1 (fun _ _ _ _ _ _ h _ => h.elim)
  case assign1 =>
    rintro l' pre x V K hI hK
    have HI := hide hI
    clear hI
    gi_wp2
    exact hK _ _ (kf_nu _ (Kp.refl _ _)) (kc_nu (Kp.refl _ _)) HI.out trivial
  case body1 =>
    rintro l' pre x a' V hl' hq hI hA hlt
    exact absurd hlt (Nat.not_lt_zero _)
  case done1 =>
    rintro D ys V hD rfl ⟨⟨hA, hB⟩, hBe⟩ hK
    have c1 := cell1 hA
    have c3 := cell1 hB
    clear h1 h3 SQ
    have HF : Hid (Kp Nu w (V.drew.putObj D (.deferred none))) := Kp.of_below (hBe.drew.trans (belowK_b (w := w) (Nat.le_refl _) V.drew D _ _ (by omega) hK rfl rfl))
    have hK' : V.drew.heap[D]? = some (.deferred (some [])) := hK
    have mixed : Try.prog.follows .mixedOrders = true := by kernel_rfl
    gi_wp2_with fail
    rename_i Kx hKx
    refine wp_calm (wpIn_wide.2 ?_)
    go_region
    all_goals refine hKx _ _ ?_
    all_goals gi_wp2
    all_goals refine ⟨by simp, .inl ⟨_, _, rfl, run_takeDeferred hK', ?_⟩⟩
    all_goals refine ⟨.tuple #[.slice (some ⟨w.heap.size, 0, none⟩) 0 0, .slice (some ⟨w.heap.size + 1 + 1, 0, none⟩) 0 0], ?_, _, _, _, _, rfl, HF.out⟩
    all_goals simp [results, Try.results59, go_sem]
end Go.Proofs.Ytchealdgncgjoaa.StI
