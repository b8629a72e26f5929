import Derived.Test.YtckjededijgjgaaDoorPcF
namespace Go.Proofs.YtckjededijgjgaaDoor.Pc
open Go.RowKit Go.Shelf
attribute [local go_sem] Oper.semAt_some

/-- a piece of s -/
def Ofs (s : ByteArray) (x : P4) : Prop := ∃ pos, pos < s.size ∧ x = pcF s pos
theorem Ofs.place {s : ByteArray} {x : P4} (h : Ofs s x) : ∃ pos : Nat, pos < s.size ∧ x.2.1 = (pos : Int) := by
  obtain ⟨pos, hp, rfl⟩ := h
  refine ⟨pos, hp, ?_⟩
  unfold pcF
  split <;> rfl

set_option maxRecDepth 100000 in
set_option maxHeartbeats 1000000 in
theorem cut1_q (n : Nat) (hn : 1 ≤ n) (l Bn : Nat) (s : ByteArray) (hs : s.size ≤ 9223372036854775807) (J Jx : List P4 → World → Prop)
    (hY : ∀ pre x W, Ofs s x → J pre W → pre.length < s.size → YieldAt Fence.wide (n - 1) Tryd.prog l #[encP x] W fun e W' =>
      (e = .returned (.bool true) ∧ J (pre ++ [x]) W' ∧ Kp Bn W W') ∨ (e = .returned (.bool false) ∧ Jx (pre ++ [x]) W'))
    (W : World) (hJ : AbidesFrom W.heap.size J) (hc : Boxed W Bn 9 (.string s)) (h0 : J [] W) :
    CallsIn Fence.wide n Tryd.prog 89 #[.func (.yield l) #[] #[], .pointer (some ⟨Bn, 0, none⟩)] W fun e W' => (∃ v, e = .returned v) ∧
      ((∃ ys, ys = pieces s ∧ J ys W') ∨ (∃ pre, pre <+: pieces s ∧ Jx pre W')) := by
  refine callsIn_of_wp Tryd.func89 rfl trivial ?_ rfl
  simp only [Tryd.ntmps89, List.size_toArray, List.length_cons, List.length_nil, Nat.reduceAdd, Nat.reduceSub, Array.replicate_succ, Array.replicate_zero, List.push_toArray, List.append_toArray, List.nil_append, List.cons_append]
  have hcc := hc.cell
  gi_wp2
  gi_loopw [3] (fun _ wr => ∃ (pos f : Nat) (pre : List P4), wr.heap[W.heap.size]? = some (.stringIter s pos) ∧ J pre wr ∧ pieces s = pre ++ piecesFrom s f pos ∧ s.size ≤ pos + f ∧ pre.length ≤ pos ∧ Boxed wr Bn 9 (.string s))
    (fun _ wr => s.size - wr.iterPos W.heap.size)
  case atStart =>
    exact ⟨0, s.size, [], World.iter_heap _ _ _, hJ [] W _ none h0 (World.grownBy_alloc W _ none) (fun r e => by cases e), by simp [pieces], by omega, Nat.le_refl _, hc.alloc _⟩
  case round =>
    obtain ⟨pos, f, pre, hit, hJs, hx, hf, hl, hB⟩ := hrel
    have hK : W.heap.size < wr.heap.size := (Array.getElem?_eq_some_iff.1 hit).1
    by_cases hp : pos < s.size
    · have hnx : ∀ ty, (Instr.next (.pointer (some ⟨W.heap.size, 0, none⟩)) true ty).run Tryd.prog wr = _ := fun ty => Lib.run_next_any_at wr W.heap.size s pos ty hit hp
      have hB2 : Boxed (wr.iterAt W.heap.size s (pos + (Utf8.decode s pos).2)) Bn 9 (.string s) := (Lib.iterAt_other wr W.heap.size Bn s _ (Nat.ne_of_lt hc.lt)).trans hB
      have hcw := hB2.cell
      have hJ2 : J pre (wr.iterAt W.heap.size s (pos + (Utf8.decode s pos).2)) := hJ pre wr _ (some W.heap.size) hJs (grownBy_putObj' wr W.heap.size _) (fun r e => by cases e; exact ⟨Nat.le_refl _, _, hit, rfl⟩)
      have hit2 := Lib.iterAt_heap wr W.heap.size s pos (pos + (Utf8.decode s pos).2) hit
      have hw1 := Lib.decode_width_pos s pos hp
      have hsz : (wr.iterAt W.heap.size s (pos + (Utf8.decode s pos).2)).heap.size = wr.heap.size := Lib.iterAt_size _ _ _ _
      obtain ⟨f, rfl⟩ : ∃ f', f = f' + 1 := ⟨f - 1, by omega⟩
      have hstep : pieces s = (pre ++ [pcF s pos]) ++ piecesFrom s f (pos + (Utf8.decode s pos).2) := by rw [hx, piecesFrom, if_pos hp]; simp
      have HX := hide hstep
      clear hstep hx
      gi_wp2_with fail
      refine ⟨trivial, (callsIn_wide.2 (pieceAt_any s pos _ hp hs)).mono ?_⟩
      rintro e w' ⟨rfl, c, rfl⟩
      generalize wr.iterAt W.heap.size s (pos + (Utf8.decode s pos).2) = wi at hJ2 hB2 hcw hit2 hsz ⊢
      have hJ3 : J pre (wi.alloc (.cells c 55)) := hJ pre wi _ none hJ2 (World.grownBy_alloc wi _ none) (fun r e => by cases e)
      obtain ⟨fn, tmps, assign, body, hy, hR⟩ := hY pre (pcF s pos) _ ⟨pos, hp, rfl⟩ hJ3 (by omega)
      gi_wp2
      refine hR.mono ?_
      rintro e W3 (⟨rfl, hJ4, hk3⟩ | ⟨rfl, hJx3⟩)
      · gi_wp2
        have hit3 : W3.heap[W.heap.size]? = some (.stringIter s (pos + (Utf8.decode s pos).2)) := hk3.1.same _ _ ((Below.heap_alloc wi _ W.heap.size (by omega)).trans hit2) rfl
        go_roundw
        case rel => exact ⟨_, f, pre ++ [pcF s pos], hit3, hJ4, HX.out, by omega, by simp; omega, hk3.2 _ (hB2.alloc _)⟩
        case measure =>
          have e1 : W3.iterPos W.heap.size = pos + (Utf8.decode s pos).2 := by simp [World.iterPos, hit3]
          have e2 : wr.iterPos W.heap.size = pos := by simp [World.iterPos, hit]
          rw [e1, e2]; omega
      · gi_wp2
        refine bodyPost_ret (results_none rfl _ _ _) rfl ?_
        exact ⟨⟨_, rfl⟩, .inr ⟨pre ++ [pcF s pos], ⟨_, HX.out.symm⟩, hJx3⟩⟩
    · have hnx : ∀ ty, (Instr.next (.pointer (some ⟨W.heap.size, 0, none⟩)) true ty).run Tryd.prog wr = _ := fun ty => Lib.run_next_end_at wr W.heap.size s pos ty hit hp
      rw [piecesFrom_end s f pos hp, List.append_nil] at hx
      have HX := hide hx
      clear hx
      gi_wp2
      go_end0
      exact ⟨⟨_, rfl⟩, .inl ⟨pre, HX.out.symm, hJs⟩⟩


/-- the iterator's contract: each element is a piece of s -/
theorem cut_stops_q (n : Nat) (hn : 1 ≤ n) (Bn : Nat) (s : ByteArray) (hs : s.size ≤ 9223372036854775807) (w : World) (hc : Boxed w Bn 9 (.string s)) :
    SeqStopsK Fence.wide n Tryd.prog 89 #[.pointer (some ⟨Bn, 0, none⟩)] (fun x : {x : P4 // Ofs s x} => #[encP x.1]) (Kp Bn) (fun ys => ys.map (·.1) = pieces s) (fun pre => pre.map (·.1) <+: pieces s) s.size w := fun l J Jx W hW hJ hJx hY h0 => by
  have C := cut1_q n hn l Bn s hs (fun p W => ∃ q : List {x : P4 // Ofs s x}, q.map (·.1) = p ∧ J q W) (fun p W => ∃ q : List {x : P4 // Ofs s x}, q.map (·.1) = p ∧ Jx q W)
    (fun pre x W1 hx hj hlt => by
      obtain ⟨q, rfl, hq⟩ := hj
      have hl : q.length < s.size := by simpa using hlt
      obtain ⟨fn, tmps, assign, body, hy, hR⟩ := hY q ⟨x, hx⟩ W1 hq hl
      refine ⟨fn, tmps, assign, body, hy, hR.mono ?_⟩
      rintro e W' (⟨h1, h2, h3⟩ | ⟨h1, h2⟩)
      · exact .inl ⟨h1, ⟨q ++ [⟨x, hx⟩], by simp, h2⟩, h3⟩
      · exact .inr ⟨h1, ⟨q ++ [⟨x, hx⟩], by simp, h2⟩⟩)
    W (fun p X Y row h hg hr => by
      obtain ⟨q, h1, h2⟩ := h
      exact ⟨q, h1, hJ q X Y row h2 hg hr⟩) ((hW.block Bn hc.lt).trans hc) ⟨[], rfl, h0⟩
  refine C.mono ?_
  rintro e W' ⟨hv, h | h⟩
  · obtain ⟨ys, rfl, q, h1, h2⟩ := h
    exact ⟨hv, .inl ⟨q, h1, h2⟩⟩
  · obtain ⟨pre, hp, q, h1, h2⟩ := h
    exact ⟨hv, .inr ⟨q, by show q.map (·.1) <+: pieces s; rw [h1]; exact hp, h2⟩⟩
end Go.Proofs.YtckjededijgjgaaDoor.Pc
