import Derived.Test.YtbifmcadllilhaaPtA
import Derived.Sort.Grow
import Derived.Deep.Draws
namespace Go.Proofs.Ytbifmcadllilhaa.Pn
open Go.RowKit
set_option linter.unusedVariables false
/-- a host's number -/
structure Ho (N : Nat) where
  val : Nat
  lt : val < N
def rng (N : Nat) : List (Ho N) := (List.range N).pmap (fun x h => (⟨x, h⟩ : Ho N)) (fun x hx => List.mem_range.1 hx)
theorem rng_val (N : Nat) : (rng N).map (fun x => x.1) = List.range N := by
  unfold rng
  rw [List.map_pmap]
  simp
theorem rng_len (N : Nat) : (rng N).length = N := by simp [rng]
theorem rng_at (N j : Nat) (h : j < (rng N).length) : (rng N)[j].1 = j := by
  have e := congrArg (fun l => l[j]?) (rng_val N)
  simp only [List.getElem?_map, List.getElem?_eq_getElem h] at e
  rw [rng_len] at h
  simpa [h] using e
def cfH (o : List Int) {N : Nat} (x y : Ho N) : Int := orI (cmpI (o.getD y.1 0) (o.getD x.1 0)) (cmpI (x.1 : Int) (y.1 : Int))
theorem cfH_lt (o : List Int) {N : Nat} (x y : Ho N) : decide (cfH o x y < 0) = ahd o x.1 y.1 := by
  unfold cfH orI cmpI ahd
  generalize o.getD x.1 0 = p
  generalize o.getD y.1 0 = q
  rcases Int.lt_trichotomy q p with h | h | h
  · have h1 : ¬ p < q := by omega
    simp [h]
  · subst h
    simp
    by_cases h2 : x.1 < y.1
    · simp [h2]
    · by_cases h3 : x.1 > y.1 <;> simp [h2, h3]
  · have h1 : ¬ q < p := by omega
    have h2 : ¬ p = q := by omega
    simp [h1, h2, h]
/-- sorted, no two the same: each ahead of the next -/
theorem srt_of {o : List Int} {N : Nat} (hN : o.length = N) (l : List (Ho N)) (hp : l.Perm (rng N)) (hs : l.Pairwise (fun a b => (!decide (cfH o b a < 0)) = true)) : Srt o (l.map (fun x => x.1)) := by
  have hperm : (l.map (fun x => x.1)).Perm (List.range o.length) := by rw [hN, ← rng_val]; exact hp.map _
  refine ⟨hperm, ?_⟩
  have hnd : (l.map (fun x => x.1)).Nodup := hperm.nodup_iff.2 List.nodup_range
  rw [List.pairwise_map]
  have h2 : l.Pairwise (fun a b => a.1 ≠ b.1) := by
    have := hnd
    rw [List.Nodup, List.pairwise_map] at this
    exact this
  refine (hs.and h2).imp (fun {a b} h => ?_)
  obtain ⟨h3, h4⟩ := h
  rw [cfH_lt] at h3
  have h5 : ahd o b.1 a.1 = false := by simpa using h3
  simp only [ahd, decide_eq_false_iff_not, decide_eq_true_eq] at h5 ⊢
  omega
structure Gw (w w' : World) : Prop where
  out : ∃ q os, w' = Sort.grow (w.drewN q) os
theorem Gw.refl (w : World) : Gw w w := ⟨⟨0, #[], by rw [Sort.grow_empty]; rfl⟩⟩
theorem Gw.andAlloc {w w' : World} (h : Gw w w') (o : Obj) : Gw w (w'.alloc o) := by
  obtain ⟨q, os, rfl⟩ := h.out
  exact ⟨⟨q, _, by rw [Sort.alloc_eq_grow, Sort.grow_grow]⟩⟩
theorem Gw.drew {w w' : World} (h : Gw w w') : Gw w w'.drew := by
  obtain ⟨q, os, rfl⟩ := h.out
  exact ⟨⟨q + 1, os, rfl⟩⟩
end Go.Proofs.Ytbifmcadllilhaa.Pn
