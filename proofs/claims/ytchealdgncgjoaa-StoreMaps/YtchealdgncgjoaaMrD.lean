import Derived.Test.YtchealdgncgjoaaMrC
import Derived.Deep.AppendLies
import Derived.Deep.RegionLaw
namespace Go.Proofs.Ytchealdgncgjoaa.StM
open Go.RowKit Go.Proofs.Ytchealdgncgjoaa.St Go.Shelf Go.Sort Go.Proofs.Ytchealdgncgjoaa.It Go.Proofs.Ytchealdgncgjoaa.StI
set_option linter.unusedVariables false
set_option linter.unusedSimpArgs false
/-- a map of the document's in the making -/
structure Cx (w W : World) (rc : Nat) (wh : Int) (vk : Value) (lk : List Value) (vv : Value) (lv : List Value) : Prop where
  kp : Kp Nu w W
  bc : W.heap[rc]? = some (.cells #[.int .i64 wh, vk, vv] 52 (0, 0))
  lo : w.heap.size ≤ rc
  tw : Tw w.heap.size W vk lk vv lv
theorem Cx.nu {w W Z : World} {rc : Nat} {wh : Int} {vk vv : Value} {lk lv : List Value} (h : Cx w W rc wh vk lk vv lv) (k : Kp Nu W Z) : Cx w Z rc wh vk lk vv lv :=
  ⟨h.kp.andNu k, (k.block _ (blk_lt h.bc) (fun h => h)).trans h.bc, h.lo, h.tw.nu k⟩
theorem rc_ne {W : World} {rc g n : Nat} {B : Nat} {c : Array Value} {v : Value} {l : List Value} (hb : W.heap[rc]? = some (.cells c 52 (0, 0))) (h : W.ownsRow B 3 1 v n l) (hg : v.ownBlock = some g) : rc ≠ g := fun e => by
  obtain ⟨cur, hc⟩ := own_obj h hg
  rw [← e, hb] at hc; cases hc
theorem Cx.k {w W W4 : World} {rc g cap : Nat} {wh : Int} {vk vv u : Value} {lk lv : List Value} {o : Obj} (h : Cx w W rc wh vk lk vv lv) (hg : ((W.alloc o).drew).grownBy W4 vk.ownBlock)
    (ho : W4.ownsRow w.heap.size 3 1 (.slice (some ⟨g, 0, none⟩) (lk.length + 1) cap) (lk.length + 1) (lk ++ [u])) (hat : vk.ownBlock = some g ∨ g = W.heap.size + 1) :
    Cx w (W4.setCell ⟨rc, 1, none⟩ (.slice (some ⟨g, 0, none⟩) (lk.length + 1) cap)) rc wh (.slice (some ⟨g, 0, none⟩) (lk.length + 1) cap) (lk ++ [u]) vv lv := by
  have kA : Kp Nu W ((W.alloc o).drew) := (Kp.alloc W o Nu).drew
  have hA := h.nu kA
  have sA : ((W.alloc o).drew).heap.size = W.heap.size + 1 := World.size_alloc _ _
  have t4 := hA.tw.stepk ho hg (by
    rcases hat with e | e
    · exact .inl (by rw [e]; rfl)
    · exact .inr (by rw [sA, ← e]; rfl))
  have b4 : W4.heap[rc]? = some (.cells #[.int .i64 wh, vk, vv] 52 (0, 0)) := (hg.block rc (blk_lt hA.bc) (fun e => by
    exact rc_ne hA.bc hA.tw.ok e.symm rfl)).trans hA.bc
  have k4 : Kp Nu w W4 := hA.kp.trans (Kp.of_grown hg) (fun i hi e => by
    have := own_low hA.tw.ok e.symm
    omega)
  refine ⟨k4.trans (Kp.setCell W4 ⟨rc, 1, none⟩ _) (fun i hi e => ?_), by rw [set3 b4]; rfl, h.lo, ⟨own_keep t4.ok (fun q hq => Below.heap_setCell W4 ⟨rc, 1, none⟩ _ q (fun e => rc_ne b4 t4.ok hq (show rc = q from (show q = rc from e).symm))), own_keep t4.ov (fun q hq => Below.heap_setCell W4 ⟨rc, 1, none⟩ _ q (fun e => rc_ne b4 t4.ov hq (show rc = q from (show q = rc from e).symm))), t4.ap⟩⟩
  have e : i = rc := e
  have := h.lo; omega
theorem Cx.v {w W W4 : World} {rc g cap : Nat} {wh : Int} {vk vv u : Value} {lk lv : List Value} {o : Obj} (h : Cx w W rc wh vk lk vv lv) (hg : ((W.alloc o).drew).grownBy W4 vv.ownBlock)
    (ho : W4.ownsRow w.heap.size 3 1 (.slice (some ⟨g, 0, none⟩) (lv.length + 1) cap) (lv.length + 1) (lv ++ [u])) (hat : vv.ownBlock = some g ∨ g = W.heap.size + 1) :
    Cx w (W4.setCell ⟨rc, 2, none⟩ (.slice (some ⟨g, 0, none⟩) (lv.length + 1) cap)) rc wh vk lk (.slice (some ⟨g, 0, none⟩) (lv.length + 1) cap) (lv ++ [u]) := by
  have kA : Kp Nu W ((W.alloc o).drew) := (Kp.alloc W o Nu).drew
  have hA := h.nu kA
  have sA : ((W.alloc o).drew).heap.size = W.heap.size + 1 := World.size_alloc _ _
  have t4 := hA.tw.stepv ho hg (by
    rcases hat with e | e
    · exact .inl (by rw [e]; rfl)
    · exact .inr (by rw [sA, ← e]; rfl))
  have b4 : W4.heap[rc]? = some (.cells #[.int .i64 wh, vk, vv] 52 (0, 0)) := (hg.block rc (blk_lt hA.bc) (fun e => by
    exact rc_ne hA.bc hA.tw.ov e.symm rfl)).trans hA.bc
  have k4 : Kp Nu w W4 := hA.kp.trans (Kp.of_grown hg) (fun i hi e => by
    have := own_low hA.tw.ov e.symm
    omega)
  refine ⟨k4.trans (Kp.setCell W4 ⟨rc, 2, none⟩ _) (fun i hi e => ?_), by rw [set3 b4]; rfl, h.lo, ⟨own_keep t4.ok (fun q hq => Below.heap_setCell W4 ⟨rc, 2, none⟩ _ q (fun e => rc_ne b4 t4.ok hq (show rc = q from (show q = rc from e).symm))), own_keep t4.ov (fun q hq => Below.heap_setCell W4 ⟨rc, 2, none⟩ _ q (fun e => rc_ne b4 t4.ov hq (show rc = q from (show q = rc from e).symm))), t4.ap⟩⟩
  have e : i = rc := e
  have := h.lo; omega
theorem Cx.kn {w W W4 : World} {rc g cap n : Nat} {wh : Int} {vk vv u : Value} {lk lv : List Value} {o : Obj} (h : Cx w W rc wh vk lk vv lv) (hn : lk.length = n) (hg : ((W.alloc o).drew).grownBy W4 vk.ownBlock)
    (ho : W4.ownsRow w.heap.size 3 1 (.slice (some ⟨g, 0, none⟩) (n + 1) cap) (n + 1) (lk ++ [u])) (hat : vk.ownBlock = some g ∨ g = W.heap.size + 1) :
    Cx w (W4.setCell ⟨rc, 1, none⟩ (.slice (some ⟨g, 0, none⟩) (n + 1) cap)) rc wh (.slice (some ⟨g, 0, none⟩) (n + 1) cap) (lk ++ [u]) vv lv := by
  subst hn; exact h.k hg ho hat
theorem Cx.vn {w W W4 : World} {rc g cap n : Nat} {wh : Int} {vk vv u : Value} {lk lv : List Value} {o : Obj} (h : Cx w W rc wh vk lk vv lv) (hn : lv.length = n) (hg : ((W.alloc o).drew).grownBy W4 vv.ownBlock)
    (ho : W4.ownsRow w.heap.size 3 1 (.slice (some ⟨g, 0, none⟩) (n + 1) cap) (n + 1) (lv ++ [u])) (hat : vv.ownBlock = some g ∨ g = W.heap.size + 1) :
    Cx w (W4.setCell ⟨rc, 2, none⟩ (.slice (some ⟨g, 0, none⟩) (n + 1) cap)) rc wh vk lk (.slice (some ⟨g, 0, none⟩) (n + 1) cap) (lv ++ [u]) := by
  subst hn; exact h.v hg ho hat
theorem Cx.box {w W W4 : World} {rc : Nat} {wh : Int} {vk vv v : Value} {lk lv : List Value} {o : Obj} (h : Cx w W rc wh vk lk vv lv) (hg : ((W.alloc o).drew).grownBy W4 v.ownBlock) (hv : v = vk ∨ v = vv) :
    W4.heap[rc]? = some (.cells #[.int .i64 wh, vk, vv] 52 (0, 0)) := by
  have hA := h.nu (Kp.alloc W o Nu).drew
  refine (hg.block rc (blk_lt hA.bc) (fun e => ?_)).trans hA.bc
  rcases hv with rfl | rfl
  · exact rc_ne hA.bc hA.tw.ok e.symm rfl
  · exact rc_ne hA.bc hA.tw.ov e.symm rfl
end Go.Proofs.Ytchealdgncgjoaa.StM
