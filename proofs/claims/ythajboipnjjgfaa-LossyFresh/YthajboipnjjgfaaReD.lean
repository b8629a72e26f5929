import Derived.Test.YthajboipnjjgfaaReC
import Derived.BigQuiet
import Derived.Deep.QuietTactic
namespace Go.Proofs.Ythajboipnjjgfaa.Ly
open Go.RowKit Go.Maps
set_option linter.unusedVariables false

section
variable {B p : Nat} {w w' : World} {there : Bool} {room : Int} {bs : Nat → Bool} {v : Value} {c : Ct} {H : List Hg}

theorem refDel_no (h : Rn B w p false room bs v c H) (i : Int) (keep : Bool) : Calls Try.prog 70 #[.pointer (some ⟨p, 0, none⟩), .int .i64 i, .bool keep] w fun e w' => e = .returned (.tuple #[.agg #[.int .i64 0, .int .i64 0, .slice none 0 0, .bool false], .int .i64 1]) ∧ Kp Nu w w' := by
  have AT := at_no (h.nu (Kp.alloc w (.cells #[.int .i64 0, .int .i64 0, .slice none 0 0, .bool false] 120) Nu)) i
  go_enter Try.func70, Try.ntmps70
  go_wp2_with fail
  refine AT.mono ?_; rintro e w2 ⟨rfl, rfl⟩
  go_wp2
  refine bodyPost_ret (v := .tuple #[.agg #[.int .i64 0, .int .i64 0, .slice none 0 0, .bool false], .int .i64 1]) (by simp [results, Try.results70, go_sem]) rfl ⟨rfl, ?_⟩
  exact Kp.alloc _ _ _
theorem refDel_bad (h : Rn B w p true room bs v c H) (hH : (H.length : Int) ≤ 1599289640400) (i : Int) (keep : Bool) (hi : inL i (pls 0 H).length = false) : Calls Try.prog 70 #[.pointer (some ⟨p, 0, none⟩), .int .i64 i, .bool keep] w fun e w' => e = .returned (.tuple #[.agg #[.int .i64 0, .int .i64 0, .slice none 0 0, .bool false], .int .i64 54]) ∧ Kp Nu w w' := by
  have K1 := Kp.alloc w (.cells #[.int .i64 0, .int .i64 0, .slice none 0 0, .bool false] 120) Nu
  have AT := at_bad (h.nu K1) hH i hi
  clear hi h
  go_enter Try.func70, Try.ntmps70
  go_wp2_with fail
  refine AT.mono ?_; rintro e w2 ⟨rfl, hk⟩
  have hbx := new_at w _ hk
  obtain ⟨x0, x1, x2, x3⟩ := cell4 hbx
  have g0 := free3 hbx 0
  have g1 := free3 hbx 1
  have g2 := free3 hbx 2
  have g3 := free3 hbx 3
  have HK := hide (K1.andNu hk)
  clear hk AT hbx K1
  go_wp2
  refine bodyPost_ret (v := .tuple #[.agg #[.int .i64 0, .int .i64 0, .slice none 0 0, .bool false], .int .i64 54]) (by simp [results, Try.results70, go_sem, x0, x1, x2, x3]) rfl ⟨rfl, ?_⟩
  exact (((HK.out.andSet _ _ (.inl (by simp))).andSet _ _ (.inl (by simp))).andSet _ _ (.inl (by simp))).andSet _ _ (.inl (by simp))

/-- what the answer's box, and the entry's, hold -/
theorem new_at' {w : World} {o : Obj} {W : World} {S : Nat → Prop} (k : Kp S (w.alloc o) W) (hS : ¬ S w.heap.size) : W.heap[w.heap.size]? = some o := (k.block _ (by simp) hS).trans (heap_alloc_new w o)

def Gbox (f t : Int) (d : Value) (g : Bool) : Array Value := #[.int .i64 f, .int .i64 t, d, .bool g]
theorem box4 {w : World} {b : Nat} {y0 y1 y2 y3 : Value} {t : TypeId} (h : w.heap[b]? = some (.cells #[y0, y1, y2, y3] t (0, 0))) (x0 x1 x2 x3 : Value) :
    ((((w.setCell ⟨b, 0, none⟩ x0).setCell ⟨b, 1, none⟩ x1).setCell ⟨b, 2, none⟩ x2).setCell ⟨b, 3, none⟩ x3).heap[b]? = some (.cells #[x0, x1, x2, x3] t (0, 0)) := by
  rw [set3 (set3 (set3 (set3 h 0 x0) 1 x1) 2 x2) 3 x3]
  simp
theorem kp4 {S : Nat → Prop} {w w1 : World} (h : Kp S w w1) {b : Nat} (hb : w.heap.size ≤ b ∨ S b) (x0 x1 x2 x3 : Value) : Kp S w ((((w1.setCell ⟨b, 0, none⟩ x0).setCell ⟨b, 1, none⟩ x1).setCell ⟨b, 2, none⟩ x2).setCell ⟨b, 3, none⟩ x3) :=
  (((h.andSet ⟨b, 0, none⟩ x0 hb).andSet ⟨b, 1, none⟩ x1 hb).andSet ⟨b, 2, none⟩ x2 hb).andSet ⟨b, 3, none⟩ x3 hb
/-- kept where a box of one's own is written -/
theorem Rn.box (h : Rn B w p there room bs v c H) {X : Nat} {cu : Array Value} {w1 : World} (hX : w.heap[X]? = some (.cells cu 120 (0, 0))) (hne : v.ownBlock ≠ some X) (k : Kp (fun i => i = X) w w1) : Rn B w1 p there room bs v c H := by
  refine h.keep k (fun i _ e => ?_)
  subst e
  refine ⟨?_, fun cur hc => by rw [hX] at hc; cases hc⟩
  rintro (e | e)
  · subst e
    obtain ⟨cu', hb, _⟩ := h.blk
    rw [hb] at hX; cases hX
  · exact hne e.symm
end
end Go.Proofs.Ythajboipnjjgfaa.Ly
