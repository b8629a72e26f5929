import Derived.Test.YtckjededijgjgaaDoorPcC
import Derived.RangeFuncNested
import Derived.RangeFuncBound
import Derived.RangeFuncCalls
import Derived.RangeFuncLeaves
import Derived.Shelf.Abstract
import Derived.Shelf.RegionOpen
import Derived.OwnWalkIn
import Derived.TacticsInMore
import Derived.LoopNIn
import Derived.LoopIn
import Derived.Lib.OthersKept
import Derived.Lib.RuneCount
import Derived.RangeFuncBox
import Derived.LoopTactic
namespace Go.Proofs.YtckjededijgjgaaDoor.Pc
open Go.RowKit Go.Shelf
attribute [local go_sem] Oper.semAt_some

def piecesFrom (s : ByteArray) : Nat → Nat → List P4
  | 0, _ => []
  | f + 1, pos => if pos < s.size then pcF s pos :: piecesFrom s f (pos + (Utf8.decode s pos).2) else []
/-- the pieces of a string -/
def pieces (s : ByteArray) : List P4 := piecesFrom s s.size 0

theorem piecesFrom_end (s : ByteArray) (f pos : Nat) (h : ¬ pos < s.size) : piecesFrom s f pos = [] := by
  cases f with
  | zero => rfl
  | succ f => rw [piecesFrom, if_neg h]

/-- what a round keeps: walks, and the string's box -/
def Kp (Bn : Nat) (W W' : World) : Prop := KeepsWalks W W' ∧ ∀ v, Boxed W Bn 9 v → Boxed W' Bn 9 v

set_option maxRecDepth 100000 in
set_option maxHeartbeats 1000000 in
theorem cut1_in (n : Nat) (hn : 1 ≤ n) (l Bn : Nat) (s : ByteArray) (hs : s.size ≤ 9223372036854775807) (J Jx : List P4 → World → Prop)
    (hY : ∀ pre x W, J pre W → pre.length < s.size → YieldAt Fence.wide (n - 1) Tryd.prog l #[encP x] W fun e W' =>
      (e = .returned (.bool true) ∧ J (pre ++ [x]) W' ∧ Kp Bn W W') ∨ (e = .returned (.bool false) ∧ Jx (pre ++ [x]) W'))
    (W : World) (hJ : AbidesFrom W.heap.size J) (hc : Boxed W Bn 9 (.string s)) (h0 : J [] W) :
    CallsIn Fence.wide n Tryd.prog 89 #[.func (.yield l) #[] #[], .pointer (some ⟨Bn, 0, none⟩)] W fun e W' => (∃ v, e = .returned v) ∧
      ((∃ ys, ys = pieces s ∧ J ys W') ∨ (∃ pre, pre <+: pieces s ∧ Jx pre W')) := by
  refine callsIn_of_wp Tryd.func89 rfl trivial ?_ rfl
  simp only [Tryd.ntmps89, List.size_toArray, List.length_cons, List.length_nil, Nat.reduceAdd, Nat.reduceSub, Array.replicate_succ, Array.replicate_zero, List.push_toArray, List.append_toArray, List.nil_append, List.cons_append]
  have hcc := hc.cell
  gi_wp2
  gi_loopw [3] (fun _ wr => ∃ (pos f : Nat) (pre : List P4), wr.heap[W.heap.size]? = some (.stringIter s pos) ∧ J pre wr ∧ pieces s = pre ++ piecesFrom s f pos ∧ s.size ≤ pos + f ∧ pre.length ≤ pos ∧ Boxed wr Bn 9 (.string s))
    (fun _ wr => s.size - wr.iterPos W.heap.size)
  case atStart =>
    exact ⟨0, s.size, [], World.iter_heap _ _ _, hJ [] W _ none h0 (World.grownBy_alloc W _ none) (fun r e => by cases e), by simp [pieces], by omega, Nat.le_refl _, hc.alloc _⟩
  case round =>
    obtain ⟨pos, f, pre, hit, hJs, hx, hf, hl, hB⟩ := hrel
    have hK : W.heap.size < wr.heap.size := (Array.getElem?_eq_some_iff.1 hit).1
    by_cases hp : pos < s.size
    · have hnx : ∀ ty, (Instr.next (.pointer (some ⟨W.heap.size, 0, none⟩)) true ty).run Tryd.prog wr = _ := fun ty => Lib.run_next_any_at wr W.heap.size s pos ty hit hp
      have hB2 : Boxed (wr.iterAt W.heap.size s (pos + (Utf8.decode s pos).2)) Bn 9 (.string s) := (Lib.iterAt_other wr W.heap.size Bn s _ (Nat.ne_of_lt hc.lt)).trans hB
      have hcw := hB2.cell
      have hJ2 : J pre (wr.iterAt W.heap.size s (pos + (Utf8.decode s pos).2)) := hJ pre wr _ (some W.heap.size) hJs (grownBy_putObj' wr W.heap.size _) (fun r e => by cases e; exact ⟨Nat.le_refl _, _, hit, rfl⟩)
      have hit2 := Lib.iterAt_heap wr W.heap.size s pos (pos + (Utf8.decode s pos).2) hit
      have hw1 := Lib.decode_width_pos s pos hp
      have hsz : (wr.iterAt W.heap.size s (pos + (Utf8.decode s pos).2)).heap.size = wr.heap.size := Lib.iterAt_size _ _ _ _
      obtain ⟨f, rfl⟩ : ∃ f', f = f' + 1 := ⟨f - 1, by omega⟩
      have hstep : pieces s = (pre ++ [pcF s pos]) ++ piecesFrom s f (pos + (Utf8.decode s pos).2) := by rw [hx, piecesFrom, if_pos hp]; simp
      have HX := hide hstep
      clear hstep hx
      gi_wp2_with fail
      refine ⟨trivial, (callsIn_wide.2 (pieceAt_any s pos _ hp hs)).mono ?_⟩
      rintro e w' ⟨rfl, c, rfl⟩
      generalize wr.iterAt W.heap.size s (pos + (Utf8.decode s pos).2) = wi at hJ2 hB2 hcw hit2 hsz ⊢
      have hJ3 : J pre (wi.alloc (.cells c 55)) := hJ pre wi _ none hJ2 (World.grownBy_alloc wi _ none) (fun r e => by cases e)
      obtain ⟨fn, tmps, assign, body, hy, hR⟩ := hY pre (pcF s pos) _ hJ3 (by omega)
      gi_wp2
      refine hR.mono ?_
      rintro e W3 (⟨rfl, hJ4, hk3⟩ | ⟨rfl, hJx3⟩)
      · gi_wp2
        have hit3 : W3.heap[W.heap.size]? = some (.stringIter s (pos + (Utf8.decode s pos).2)) := hk3.1.same _ _ ((Below.heap_alloc wi _ W.heap.size (by omega)).trans hit2) rfl
        go_roundw
        case rel => exact ⟨_, f, pre ++ [pcF s pos], hit3, hJ4, HX.out, by omega, by simp; omega, hk3.2 _ (hB2.alloc _)⟩
        case measure =>
          have e1 : W3.iterPos W.heap.size = pos + (Utf8.decode s pos).2 := by simp [World.iterPos, hit3]
          have e2 : wr.iterPos W.heap.size = pos := by simp [World.iterPos, hit]
          rw [e1, e2]; omega
      · gi_wp2
        refine bodyPost_ret (results_none rfl _ _ _) rfl ?_
        exact ⟨⟨_, rfl⟩, .inr ⟨pre ++ [pcF s pos], ⟨_, HX.out.symm⟩, hJx3⟩⟩
    · have hnx : ∀ ty, (Instr.next (.pointer (some ⟨W.heap.size, 0, none⟩)) true ty).run Tryd.prog wr = _ := fun ty => Lib.run_next_end_at wr W.heap.size s pos ty hit hp
      rw [piecesFrom_end s f pos hp, List.append_nil] at hx
      have HX := hide hx
      clear hx
      gi_wp2
      go_end0
      exact ⟨⟨_, rfl⟩, .inl ⟨pre, HX.out.symm, hJs⟩⟩

/-- the maker: the string is boxed, the function value captures the box -/
theorem cut_in (n : Nat) (s : ByteArray) (w : World) :
    CallsIn Fence.wide n Tryd.prog 50 #[.string s] w fun e w' => e = .returned (.func (.func 89) #[] #[.pointer (some ⟨w.heap.size, 0, none⟩)]) ∧ w' = w.alloc (.cells #[.string s] 9) := by
  refine callsIn_of_wp Tryd.func50 rfl trivial ?_ rfl
  simp only [Tryd.ntmps50, List.size_toArray, List.length_cons, List.length_nil, Nat.reduceAdd, Nat.reduceSub, Array.replicate_succ, Array.replicate_zero, List.push_toArray, List.append_toArray, List.nil_append, List.cons_append]
  gi_wp2
  go_ret
  exact ⟨rfl, rfl⟩

/-- the iterator's contract -/
theorem cut_stops (n : Nat) (hn : 1 ≤ n) (Bn : Nat) (s : ByteArray) (hs : s.size ≤ 9223372036854775807) (w : World) (hc : Boxed w Bn 9 (.string s)) :
    SeqStopsK Fence.wide n Tryd.prog 89 #[.pointer (some ⟨Bn, 0, none⟩)] (fun x : P4 => #[encP x]) (Kp Bn) (fun ys => ys = pieces s) (fun pre => pre <+: pieces s) s.size w := fun l J Jx W hW hJ _ hY h0 =>
  cut1_in n hn l Bn s hs J Jx hY W hJ ((hW.block Bn hc.lt).trans hc) h0

theorem kp_t {Bn : Nat} {A B C : World} (h : Kp Bn A B) (k : Kp Bn B C) : Kp Bn A C := ⟨h.1.trans k.1, fun v hv => k.2 v (h.2 v hv)⟩
theorem kp_b {Bn : Nat} {w : World} (W : World) (l : Nat) (o o' : Obj) (hl : w.heap.size ≤ l) (h : W.heap[l]? = some o) (hc : o.isCells = false) (hw : o.isWalk = false) : Kp Bn W (W.putObj l o') :=
  ⟨walksK_b (w := w) W l o o' hl h hc hw, fun v hv => (World.putObj_heap_other (fun e => by
    subst e
    have : W.heap[Bn]? = some (.cells #[v] 9) := hv
    rw [h] at this
    cases this
    cases hc)).trans hv⟩
theorem kp_others {Bn : Nat} {W W' : World} (h : KeepsOthers W W') (hb : ∀ v, Boxed W Bn 9 v → Boxed W' Bn 9 v) : Kp Bn W W' := ⟨h.walks, hb⟩

set_option maxHeartbeats 1000000 in
/-- how many runes a string has -/
theorem runeCount_any (s : ByteArray) (w : World) (hs : s.size < 9223372036854775807) :
    Calls Tryd.prog 72 #[.string s] w fun e w' => e = .returned (.int .i64 (Lib.runeCount s)) ∧ ∃ pos, w' = w.iter s pos := by
  go_enter Tryd.func72, Tryd.ntmps72
  go_wp2
  go_loopw [2] (fun n w' => ∃ (pos b acc : Nat), w' = w.iter s pos ∧ n = .int .i64 acc ∧ acc + Lib.runeCountFrom s b pos = Lib.runeCount s ∧ s.size ≤ pos + b ∧ acc ≤ pos) (fun _ w' => s.size - w'.iterPos w.heap.size)
  case atStart => exact ⟨0, s.size, 0, rfl, rfl, by simp [Lib.runeCount], by omega, Nat.le_refl _⟩
  case round =>
    obtain ⟨pos, b, acc, rfl, rfl, hc, hb, ha⟩ := hrel
    by_cases hp : pos < s.size
    · have hnx : ∀ ty, (Instr.next (.pointer (some ⟨w.heap.size, 0, none⟩)) true ty).run Tryd.prog (w.iter s pos) = _ := fun ty => run_next_any w s pos ty hp
      have hwd := Lib.decode_width_pos s pos hp
      go_wp2
      go_roundw
      case rel =>
        cases b with
        | zero => omega
        | succ b =>
          refine ⟨pos + (Utf8.decode s pos).2, b, acc + 1, rfl, by go_num, ?_, by omega, by omega⟩
          rw [← hc]
          simp [Lib.runeCountFrom, hp]
          omega
      case measure =>
        simp
        omega
    · have hnx : ∀ ty, (Instr.next (.pointer (some ⟨w.heap.size, 0, none⟩)) true ty).run Tryd.prog (w.iter s pos) = _ := fun ty => run_next_end w s pos ty hp
      go_wp2
      go_ret
      rw [Lib.runeCountFrom_end s b pos hp, Nat.add_zero] at hc
      subst hc
      exact ⟨rfl, _, rfl⟩
end Go.Proofs.YtckjededijgjgaaDoor.Pc
