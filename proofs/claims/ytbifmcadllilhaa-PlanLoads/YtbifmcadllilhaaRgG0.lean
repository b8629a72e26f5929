import Derived.Test.YtbifmcadllilhaaRgF
import Derived.Test.YtbifmcadllilhaaOrd
namespace Go.Proofs.Ytbifmcadllilhaa.Rg
open Go.RowKit Go.Shelf Go.Sort
open Go.Proofs.Ytbifmcadllilhaa.It
set_option linter.unusedVariables false

theorem tk_append : ∀ {a : List Sg} (r : List Sg) {lo hi : Int}, (∀ s ∈ a, s.lo ≤ hi) → tk lo hi (a ++ r) = a.map (cutS lo hi) ++ tk lo hi r
  | [], r, lo, hi, h => rfl
  | s :: a, r, lo, hi, h => by
    simp only [List.cons_append, tk, List.map_cons]
    rw [if_neg (by have := h s (by simp); omega), tk_append r (fun t ht => h t (List.mem_cons_of_mem _ ht))]
theorem tk_map {a : List Sg} {lo hi : Int} (h : ∀ s ∈ a, s.lo ≤ hi) : tk lo hi a = a.map (cutS lo hi) := by
  have := tk_append (lo := lo) [] h
  simpa [tk] using this
theorem tk_halt {a : List Sg} {s : Sg} (r : List Sg) {lo hi : Int} (h : ∀ t ∈ a, t.lo ≤ hi) (hs : hi < s.lo) : tk lo hi (a ++ [s] ++ r) = a.map (cutS lo hi) := by
  rw [List.append_assoc, tk_append _ h]
  simp only [List.singleton_append, tk]
  rw [if_pos hs]; simp
theorem tk_pre {a M : List Sg} {lo hi : Int} (h : ∀ s ∈ a, s.lo ≤ hi) (hp : a <+: M) : a.map (cutS lo hi) <+: tk lo hi M := by
  obtain ⟨r, rfl⟩ := hp
  rw [tk_append r h]
  exact ⟨_, rfl⟩

/-- the blocks that a round over Within keeps -/
def KW (Bl Bh r : Nat) (k : Nat) (t : TypeId) : Prop := k = Bl ∨ k = Bh ∨ k = r ∨ t = 170
theorem kc_nu {K : Nat → TypeId → Prop} {w w' : World} (h : Kp Nu w w') : Kc K w w' := fun k c t m _ e => (h.block k (blk_lt e) (fun h => h)).trans e
theorem grown_nu {w w' : World} (h : Kp Nu w w') : w.grownBy w' none := ⟨h.os, h.tape, h.output, h.size, fun k hk _ => h.block k hk (fun h => h)⟩
theorem kf_nu {w w' : World} (B : Nat) (h : Kp Nu w w') : KeepsFrom B w w' := ⟨h.size, fun k o _ hk _ => (h.block k (blk_lt hk) (fun h => h)).trans hk⟩
theorem kf_mono {w w' : World} {B B' : Nat} (h : KeepsFrom B w w') (hB : B ≤ B') : KeepsFrom B' w w' := ⟨h.size, fun k o hk h1 h2 => h.same k o (by omega) h1 h2⟩
theorem own_cells {β : Type} (B k : Nat) (c : Array Value) (t : TypeId) (m : Nat × Nat) : OwnFrom B (fun (_ : β) W => W.heap[k]? = some (.cells c t m)) := fun _ A C row hs hg hr =>
  (hg.block k (blk_lt hs) (fun e => by obtain ⟨_, o, ho, hc⟩ := hr k e.symm; rw [hs] at ho; cases ho; cases hc)).trans hs
end Go.Proofs.Ytbifmcadllilhaa.Rg
