import Derived.Test.YtckjededijgjgaaDoorWdA
namespace Go.Proofs.YtckjededijgjgaaDoor.Wd
open Go.RowKit Go.Shelf
open Go.Proofs.YtckjededijgjgaaDoor.Pc (P4 encP pieces Kp cut_in cut_stops kp_t kp_b kp_others)
open Go.Proofs.YtckjededijgjgaaDoor.Nm (cellsP box_turn box_below others_below)
open Go.Proofs.YtckjededijgjgaaDoor.Enc (kindF Spans)
attribute [local go_sem] Oper.semAt_some
set_option linter.unusedVariables false

set_option maxRecDepth 100000 in
set_option maxHeartbeats 1000000 in
theorem width_in (n : Nat) (hn : 4 ≤ n) (s : ByteArray) (hs : s.size ≤ 4611686018427387903) (w : World) (R off cap : Nat) (hS : Spans w R off cap) :
    CallsIn Fence.wide n Tryd.prog 36 #[.string s] w fun e W' => e = .returned (.int .i64 (wS (pieces s))) ∧ Below w.heap.size w W' := by
  have h1 : 1 ≤ n := by omega
  have mixed : Tryd.prog.follows .mixedOrders = true := by kernel_rfl
  refine callsIn_of_wp_marks Tryd.func36 rfl trivial ?_ rfl
  simp only [Tryd.ntmps36, List.size_toArray, List.length_cons, List.length_nil, Nat.reduceAdd, Nat.reduceSub, Array.replicate_succ, Array.replicate_zero, List.push_toArray, List.append_toArray, List.nil_append, List.cons_append]
  gi_wp2_with (refine ⟨trivial, ?_⟩; gi_at_call 50; refine (cut_in _ _ _).mono ?_; rintro e w' ⟨rfl, rfl⟩)
  have x0 := (Boxed.new w 3 (.int .i64 0)).alloc (.cells #[.string s] 9)
  have x1 := Boxed.new (w.alloc (.cells #[.int .i64 0] 3)) 9 (.string s)
  simp only [World.size_alloc] at x1
  have hB3 : Below w.heap.size w ((w.alloc (.cells #[.int .i64 0] 3)).alloc (.cells #[.string s] 9)) := ((Below.refl _ w).alloc (Nat.le_refl _) _).alloc (by simp) _
  have hsz3 : ((w.alloc (.cells #[.int .i64 0] 3)).alloc (.cells #[.string s] 9)).heap.size = w.heap.size + 2 := by simp
  obtain ⟨W0, hW0⟩ : ∃ W0, (w.alloc (.cells #[.int .i64 0] 3)).alloc (.cells #[.string s] 9) = W0 := ⟨_, rfl⟩
  rw [hW0] at x0 x1 hB3 hsz3 ⊢
  clear hW0
  refine wpIn_rangeFunc_ownH rfl h1 (gf := 89) (lb := #[.pointer (some ⟨w.heap.size + 1, 0, none⟩)]) rfl trivial (enters_of Tryd.func89 (by kernel_rfl) rfl)
    (cut_stops (n - 1) (by omega) (w.heap.size + 1) s (by omega) W0 x1) kp_t kp_b (Below.refl _ _) (fun _ => rfl)
    (fun pre W => (Boxed W w.heap.size 3 (.int .i64 (wS pre)) ∧ Boxed W (w.heap.size + 1) 9 (.string s)) ∧ Below w.heap.size w W) (fun c pre W => False ∧ Below w.heap.size w W)
    (OwnFrom.and (Own.from (fun pre X Y row hs hg hr => ?_) _) (ownFrom_below (Nat.le_refl _) (by omega)))
    (fun c => OwnFrom.and (Own.from (fun pre X Y row hs hg hr => ?_) _) (ownFrom_below (Nat.le_refl _) (by omega)))
    ⟨⟨x0, x1⟩, hB3⟩
    (fun x a' W => ∃ Bx, W.heap[Bx]? = some (.cells (cellsP x).toArray 55) ∧ a' = { tmps := #[.string s, undef, .int .i64 0, .pointer (some ⟨w.heap.size, 0, none⟩), .pointer (some ⟨Bx, 0, none⟩), .string s, .func (.func 89) #[] #[.pointer (some ⟨w.heap.size + 1, 0, none⟩)], encP x, undef, undef, undef, undef, undef], defers := [] })
    (fun x a' _ X Y row hs hg hr => by
      obtain ⟨Bx, h1, h2⟩ := hs
      refine ⟨Bx, (hg.block Bx (Array.getElem?_eq_some_iff.1 h1).1 (fun e => ?_)).trans h1, h2⟩
      obtain ⟨_, o, ho, hc⟩ := hr Bx e.symm
      rw [h1] at ho; cases ho; cases hc)
    ?assign ?body ?done ?stop
  · obtain ⟨y0, y1⟩ := hs
    exact ⟨box_turn y0 hg hr, box_turn y1 hg hr⟩
  · exact hs.elim
  case assign =>
    rintro l pre x W K ⟨⟨y0, y1⟩, hB1⟩ hK
    simp only [encP]
    gi_wp2
    exact hK _ _ ((KeepsOthers.alloc _ _).from _) (kp_others (KeepsOthers.alloc _ _) (fun v hv => hv.alloc _)) ⟨⟨y0.alloc _, y1.alloc _⟩, hB1.alloc hB1.size _⟩ ⟨W.heap.size, World.alloc_heap_new W _, rfl⟩
  case body =>
    rintro l pre x a' W hl hq ⟨⟨y0, y1⟩, hB1⟩ ⟨Bx, hX, rfl⟩ hlt
    have hlen : (wS pre) ≤ 9223372036854775804 := by have := (wS_range pre).2; omega
    have hlo := (wS_range pre).1
    have hx0 := wF_range x
    have hsn := wS_snoc pre x
    have HSN := Enc.hide hsn
    clear hsn
    have C := pieceWidth_any x W.drew R off cap (hS.below hB1.drew (Nat.le_refl _))
    obtain ⟨z0, z1⟩ := hx0
    generalize wF x = wx at *
    generalize wS pre = wp at *
    obtain ⟨r, pl, sz, br⟩ := x
    have p0 : W.cell? ⟨Bx, 0, none⟩ = some (.int .i32 r) := by simp [World.cell?, hX]
    have p1 : W.cell? ⟨Bx, 1, none⟩ = some (.int .i64 pl) := by simp [World.cell?, hX]
    have p2 : W.cell? ⟨Bx, 2, none⟩ = some (.int .i64 sz) := by simp [World.cell?, hX]
    have p3 : W.cell? ⟨Bx, 3, none⟩ = some (.bool br) := by simp [World.cell?, hX]
    have k0 := y0.cell
    have f0 := y0.frozen
    gi_wp2_with fail
    gi_region_with_o (refine ⟨trivial, fun _ => by omega, (CallsIn.inRound l (callsIn_wide.2 C)).mono ?_⟩; rintro e W1 ⟨rfl, hb⟩; have j0 := box_below (show Boxed W.drew w.heap.size 3 (.int .i64 wp) from y0) hb; have k0' := j0.cell; have f0' := j0.frozen)
    all_goals gi_wp2
    all_goals
      rw [show IntKind.i64.wrap (wp + wx) = wp + wx by rw [IntKind.wrap_i64]; omega]
      have j1 := box_below (show Boxed W.drew (w.heap.size + 1) 9 (.string s) from y1) hb
      have hko : KeepsOthers W (W1.setCell ⟨w.heap.size, 0, none⟩ (.int .i64 (wp + wx))) := ((KeepsOthers.drew W).trans (others_below hb)).trans (KeepsOthers.setCell W1 ⟨w.heap.size, 0, none⟩ _)
      refine ⟨hko.from _, kp_others hko (fun u hu => (box_below (show Boxed W.drew (w.heap.size + 1) 9 u from hu) hb).other (by omega) _), ⟨?_, j1.other (by omega) _⟩, ?_⟩
      · rw [HSN.out]; exact j0.set _
      · exact (hB1.drew.trans (hb.mono hB1.size)).setCell (p := ⟨w.heap.size, 0, none⟩) (Nat.le_refl _) _
  case done =>
    rintro D ys W hD rfl ⟨⟨y0, y1⟩, hB1⟩ hK
    have k0 := y0.cell
    gi_wp2
    refine ⟨by simp, .inl ⟨_, _, rfl, run_takeDeferred hK, ?_⟩⟩
    refine ⟨.int .i64 (wS (pieces s)), ?_, rfl, hB1.trans (belowK_b (w := w) (Nat.le_refl _) W D _ _ (by omega) hK rfl rfl)⟩
    simp [results, Tryd.results36, go_sem]
  case stop =>
    rintro D c pre W hD hpre ⟨hf, hB1⟩ hK
    exact hf.elim

/-- what Width answers, of whatever string -/
theorem width_any (s : ByteArray) (hs : s.size ≤ 4611686018427387903) (w : World) (R off cap : Nat) (hS : Spans w R off cap) :
    Calls Tryd.prog 36 #[.string s] w fun e W' => e = .returned (.int .i64 (wS (pieces s))) ∧ Below w.heap.size w W' :=
  (callsIn_wide (n := 4)).1 (width_in 4 (by omega) s hs w R off cap hS)
end Go.Proofs.YtckjededijgjgaaDoor.Wd
