import Derived.Test.YtchealdgncgjoaaItA
import Derived.Test.YtchealdgncgjoaaNdDU
import Derived.Sort.MapsRangeIn
import Derived.Shelf.RegionOpen
import Derived.Sort.Grow
namespace Go.Proofs.Ytchealdgncgjoaa.St
open Go.RowKit Go.Shelf Go.Sort
open Go.Proofs.Ytchealdgncgjoaa.It
set_option linter.unusedVariables false
theorem kc_nu {K : Nat → TypeId → Prop} {w w' : World} (h : Kp Nu w w') : Kc K w w' := fun k c t m _ e => (h.block k (blk_lt e) (fun h => h)).trans e
theorem grown_nu {w w' : World} (h : Kp Nu w w') : w.grownBy w' none := ⟨h.os, h.tape, h.output, h.size, fun k hk _ => h.block k hk (fun h => h)⟩
theorem kf_nu {w w' : World} (B : Nat) (h : Kp Nu w w') : KeepsFrom B w w' := ⟨h.size, fun k o _ hk _ => (h.block k (blk_lt hk) (fun h => h)).trans hk⟩
theorem kf_mono {w w' : World} {B B' : Nat} (h : KeepsFrom B w w') (hB : B ≤ B') : KeepsFrom B' w w' := ⟨h.size, fun k o hk h1 h2 => h.same k o (by omega) h1 h2⟩
theorem own_cells {β : Type} (B k : Nat) (c : Array Value) (t : TypeId) (m : Nat × Nat) : OwnFrom B (fun (_ : β) W => W.heap[k]? = some (.cells c t m)) := fun _ A C row hs hg hr =>
  (hg.block k (blk_lt hs) (fun e => by obtain ⟨_, o, ho, hc⟩ := hr k e.symm; rw [hs] at ho; cases ho; cases hc)).trans hs
/-- a piece of code that neither leaves nor panics -/
def Calm (Q : Exit → Act → World → Prop) : Exit → Act → World → Prop
  | .normal, a, w => Q .normal a w
  | _, _, _ => False
theorem wp_calm {F : Fence} {n : Nat} {P : Program} {c : Code} {Q : Exit → Act → World → Prop} {a : Act} {w : World} (h : c.wpIn F n P (Calm Q) a w) : c.wpIn F n P Q a w :=
  wpIn_mono h (fun e a w h => by cases e <;> first | exact h | exact h.elim)
theorem kf_cells {B : Nat} {S : Nat → Prop} {V V' : World} (h : Kp S V V') (hS : ∀ k, S k → ∃ c t m, V.heap[k]? = some (.cells c t m)) : KeepsFrom B V V' :=
  ⟨h.size, fun k o _ hk ho => (h.block k (blk_lt hk) (fun hs => by
    obtain ⟨c, t, m, e⟩ := hS k hs
    rw [hk] at e; cases e; cases ho)).trans hk⟩
theorem kc_cells {K : Nat → TypeId → Prop} {S : Nat → Prop} {V V' : World} (h : Kp S V V') (hS : ∀ k c t m, S k → V.heap[k]? = some (.cells c t m) → ¬ K k t) : Kc K V V' := fun k c t m hK e =>
  (h.block k (blk_lt e) (fun hs => hS k c t m hs e hK)).trans e
end Go.Proofs.Ytchealdgncgjoaa.St
