import Derived.Test.YtckjededijgjgaaDoorPcF
namespace Go.Proofs.YtckjededijgjgaaDoor.Pc
open Go.RowKit Go.Shelf
attribute [local go_sem] Oper.semAt_some

set_option maxRecDepth 100000 in
set_option maxHeartbeats 1000000 in
theorem pieces_big (n : Nat) (hn : 4 ≤ n) (s : ByteArray) (hs : s.size ≤ 11000000) (w : World) :
    CallsIn Fence.wide n Tryd.prog 34 #[.string s] w fun e W' => ∃ v, e = .returned v ∧ W'.ownsRow w.heap.size 55 4 v (pieces s).length (cellsL (pieces s)) ∧ Below w.heap.size w W' := by
  have h1 : 1 ≤ n := by omega
  obtain ⟨i0, hi, hz0, hz1, hz2⟩ := info_parts info55
  refine callsIn_of_wp_marks Tryd.func34 rfl trivial ?_ rfl
  simp only [Tryd.ntmps34, List.size_toArray, List.length_cons, List.length_nil, Nat.reduceAdd, Nat.reduceSub, Array.replicate_succ, Array.replicate_zero, List.push_toArray, List.append_toArray, List.nil_append, List.cons_append]
  have hrc := Lib.runeCount_le s
  gi_wp2_with fail
  refine ⟨trivial, (callsIn_wide.2 (runeCount_any s _ (by omega))).mono ?_⟩
  rintro e w' ⟨rfl, pos, rfl⟩
  have hBi : Below w.heap.size w (w.iter s pos) := (Below.refl _ w).alloc (Nat.le_refl _) _
  generalize w.iter s pos = wi at hBi ⊢
  gi_wp2_with (first | (gi_at_make; refine wpListIn_make_own _ rfl _ _ 52 rfl w.heap.size 55 i0 _ 4 Tryd.underlying52 hi hz0 hz1 .i64 .i64 _ (Lib.runeCount s) rfl rfl rfl ?b2 ?b3 ?b4 ?_; rotate_left 3; intro w2 hown0 hg0) | (refine ⟨trivial, ?_⟩; gi_at_call 50; refine (cut_in _ _ _).mono ?_; rintro e w' ⟨rfl, rfl⟩))

  rotate_left
  · rw [hz2]; omega
  · unfold maxLen; omega
  · exact hBi.size
  have hB2 : Below w.heap.size w w2 := hBi.grown hg0 hBi.size (fun k e => by cases e)
  have hsz2 : w.heap.size ≤ w2.heap.size := hB2.size
  obtain ⟨B, hBe⟩ : ∃ B, w2.heap.size = B := ⟨_, rfl⟩
  have bO := (Boxed.new w2 52 (.slice (some ⟨wi.heap.size, 0, none⟩) 0 (Lib.runeCount s))).alloc (.cells #[.string s] 9)
  have bN := Boxed.new (w2.alloc (.cells #[.slice (some ⟨wi.heap.size, 0, none⟩) 0 (Lib.runeCount s)] 52)) 9 (.string s)
  simp only [World.size_alloc] at bN
  have hB3 : Below w.heap.size w ((w2.alloc (.cells #[.slice (some ⟨wi.heap.size, 0, none⟩) 0 (Lib.runeCount s)] 52)).alloc (.cells #[.string s] 9)) := (hB2.alloc hB2.size _).alloc (by simp; omega) _
  have hrow0 := (hown0.alloc (.cells #[.slice (some ⟨wi.heap.size, 0, none⟩) 0 (Lib.runeCount s)] 52)).alloc (.cells #[.string s] 9)
  have hsz3 : ((w2.alloc (.cells #[.slice (some ⟨wi.heap.size, 0, none⟩) 0 (Lib.runeCount s)] 52)).alloc (.cells #[.string s] 9)).heap.size = w2.heap.size + 2 := by simp
  obtain ⟨W0, hW0⟩ : ∃ W0, (w2.alloc (.cells #[.slice (some ⟨wi.heap.size, 0, none⟩) 0 (Lib.runeCount s)] 52)).alloc (.cells #[.string s] 9) = W0 := ⟨_, rfl⟩
  rw [hW0] at bO bN hB3 hrow0 hsz3 ⊢
  clear hW0 hown0 hg0
  rw [hBe] at bO bN hsz3 hsz2 ⊢
  refine wpIn_rangeFunc_ownH rfl h1 (gf := 89) (lb := #[.pointer (some ⟨B + 1, 0, none⟩)]) rfl trivial (enters_of Tryd.func89 (by kernel_rfl) rfl)
    (cut_stops (n - 1) (by omega) (B + 1) s (by omega) W0 bN) kp_t kp_b (Below.refl _ _) (fun _ => rfl)
    (fun pre W => (∃ v, Boxed W B 52 v ∧ W.ownsRow w.heap.size 55 4 v pre.length (cellsL pre) ∧ True) ∧ (Boxed W (B + 1) 9 (.string s) ∧ Below w.heap.size w W))
    (fun _ _ _ => False)
    (OwnFrom.and (Own.from (holdsRow_own w.heap.size B 52 55 4 (fun pre => pre.length) (fun pre => cellsL pre) (fun _ _ => True)) _) (OwnFrom.and (Own.from (boxed_own _ _ _) _) (ownFrom_below (Nat.le_refl _) (by omega))))
    (fun _ _ _ _ _ hs _ _ => hs)
    ⟨⟨_, bO, hrow0, trivial⟩, bN, hB3⟩
    (fun x a' W => ∃ Bx, W.heap[Bx]? = some (.cells (cells4 x).toArray 55) ∧ a' = { tmps := #[.string s, undef, .slice none 0 0, .pointer (some ⟨B, 0, none⟩), .pointer (some ⟨Bx, 0, none⟩), .string s, .int .i64 (Lib.runeCount s : Int), .slice (some ⟨wi.heap.size, 0, none⟩) 0 (Lib.runeCount s), .string s, .func (.func 89) #[] #[.pointer (some ⟨B + 1, 0, none⟩)], encP x, undef, undef, undef, undef, undef], defers := [] })
    (fun x a' _ X Y row hs hg hr => by
      obtain ⟨Bx, h1, h2⟩ := hs
      refine ⟨Bx, (hg.block Bx (Array.getElem?_eq_some_iff.1 h1).1 (fun e => ?_)).trans h1, h2⟩
      obtain ⟨_, o, ho, hc⟩ := hr Bx e.symm
      rw [h1] at ho; cases ho; cases hc)
    ?assign ?body ?done ?stop
  case assign =>
    rintro l pre x W K ⟨⟨v, hv, hrow, _⟩, hS, hB1⟩ hK
    simp only [encP]
    gi_wp2
    exact hK _ _ ((KeepsOthers.alloc _ _).from _) (kp_others (KeepsOthers.alloc _ _) (fun v hv => hv.alloc _)) ⟨⟨v, hv.alloc _, hrow.alloc _, trivial⟩, hS.alloc _, hB1.alloc hB1.size _⟩ ⟨W.heap.size, World.alloc_heap_new W _, rfl⟩
  case body =>
    rintro l pre x a' W hl _ ⟨⟨v, hv, hrow, _⟩, hS, hB1⟩ ⟨Bx, hX, rfl⟩ hlt
    have hc := hv.cell
    have x0 : W.cell? ⟨Bx, 0, none⟩ = some (.int .i32 x.1) := by simp [World.cell?, hX, cells4]
    have x1 : W.cell? ⟨Bx, 1, none⟩ = some (.int .i64 x.2.1) := by simp [World.cell?, hX, cells4]
    have x2 : W.cell? ⟨Bx, 2, none⟩ = some (.int .i64 x.2.2.1) := by simp [World.cell?, hX, cells4]
    have x3 : W.cell? ⟨Bx, 3, none⟩ = some (.bool x.2.2.2) := by simp [World.cell?, hX, cells4]
    gi_wp2_with (gi_at_builtin; refine wpListIn_append_own _ rfl _ _ 52 rfl w.heap.size 55 i0 _ 4 32 Tryd.underlying52 hi hz0 hz1 hz2 rfl (by decide) _ _ _ rfl (hrow.alloc _) ⟨W.heap.size, 0, none⟩ 1 1 (cells4 x) rfl rfl (new4 W x) (one4 x) ?q1 ?q2 ?q3 ?_; rotate_left 3; intro v' w1 hown' hgrow _; obtain ⟨g', cap', rfl⟩ := ownsRow_succ hown'; obtain ⟨hv1, hv2, hr2, hk2, hb2⟩ := hv.appended (by decide) hrow hB1.size hsz2 hown' hgrow; have hc1 := hv1.cell; have hf1 := hv1.frozen)
    · have keep : ∀ z u, Boxed W (B + 1) 9 u → Boxed (w1.setCell ⟨B, 0, none⟩ z) (B + 1) 9 u := fun z u hu => ((hu.alloc _).kept hgrow (hu.not_row (by decide) hrow)).other (by omega) z
      exact ⟨hk2.from _, kp_others hk2 (keep _), ⟨_, hv2, by rw [cellsL_snoc, List.length_append]; exact hr2, trivial⟩, keep _ _ hS, hB1.trans hb2⟩
    · unfold maxLen; omega
    · omega
    · have := hB1.size; simp; omega
  case done =>
    rintro D ys W hD rfl ⟨⟨v, hv, hrow, _⟩, hS, hB1⟩ hK
    have hc := hv.cell
    gi_wp2
    refine ⟨by simp, .inl ⟨_, _, rfl, run_takeDeferred hK, ?_⟩⟩
    exact ⟨_, results_tmp rfl _ _ _, v, rfl, ownsRow_putObj hrow _ hK rfl, hB1.trans (belowK_b (w := w) (Nat.le_refl _) W D _ _ (by omega) hK rfl rfl)⟩
  case stop =>
    rintro D c pre W _ _ h _
    exact h.elim
end Go.Proofs.YtckjededijgjgaaDoor.Pc
