import Derived.Test.YtbifmcadllilhaaPnC
import Derived.Sort.Defs
namespace Go.Proofs.Ytbifmcadllilhaa.Pn
open Go.RowKit
set_option linter.unusedVariables false
/-- host a comes ahead of host b -/
def ahd (o : List Int) (a b : Nat) : Bool := decide (o.getD b 0 < o.getD a 0 ∨ o.getD a 0 = o.getD b 0 ∧ a < b)
theorem ahd_self (o : List Int) (a : Nat) : ahd o a a = false := by simp [ahd]
theorem ahd_asymm {o : List Int} {a b : Nat} (h : ahd o a b = true) : ahd o b a = false := by
  simp only [ahd, decide_eq_true_eq, decide_eq_false_iff_not] at *
  omega
/-- how many of the first n come ahead -/
def nAhd (o : List Int) (b n : Nat) : Nat := (List.range n).countP (fun a => ahd o a b)
theorem nAhd_succ (o : List Int) (b n : Nat) : nAhd o b (n + 1) = nAhd o b n + (if ahd o n b = true then 1 else 0) := by
  unfold nAhd
  rw [List.range_succ, List.countP_append, List.countP_singleton]
theorem nAhd_le (o : List Int) (b n : Nat) : nAhd o b n ≤ n := by
  unfold nAhd
  have := List.countP_le_length (p := fun a => ahd o a b) (l := List.range n)
  simpa using this
/-- a host's target -/
def tgt (o : List Int) (b : Nat) : Int := o.sum / (o.length : Int) + (if (nAhd o b o.length : Int) < o.sum % (o.length : Int) then 1 else 0)
/-- the hosts in their order -/
structure Srt (o : List Int) (s : List Nat) : Prop where
  perm : s.Perm (List.range o.length)
  pair : s.Pairwise (fun a b => ahd o a b = true)
theorem Srt.len {o : List Int} {s : List Nat} (h : Srt o s) : s.length = o.length := by have := h.perm.length_eq; simpa using this
theorem Srt.lt {o : List Int} {s : List Nat} (h : Srt o s) {p x : Nat} (hx : s[p]? = some x) : x < o.length := by
  have := h.perm.mem_iff.1 (List.mem_of_getElem? hx)
  simpa using this
theorem Srt.place {o : List Int} {s : List Nat} (h : Srt o s) {p x : Nat} (hx : s[p]? = some x) : nAhd o x o.length = p := by
  have hp := (List.getElem?_eq_some_iff.1 hx).1
  have e : s = s.take p ++ x :: s.drop (p + 1) := by
    have h1 : s.drop p = x :: s.drop (p + 1) := by
      rw [List.drop_eq_getElem_cons hp]
      congr 1
      exact (List.getElem?_eq_some_iff.1 hx).2
    rw [← h1, List.take_append_drop]
  have hpair := h.pair
  rw [e, List.pairwise_append] at hpair
  obtain ⟨_, h2, h3⟩ := hpair
  rw [List.pairwise_cons] at h2
  unfold nAhd
  rw [← h.perm.countP_eq]
  conv => lhs; rw [e]
  rw [List.countP_append, List.countP_cons, ahd_self]
  have c1 : (s.take p).countP (fun a => ahd o a x) = (s.take p).length := List.countP_eq_length.2 (fun a ha => h3 a ha x (by simp))
  have c2 : (s.drop (p + 1)).countP (fun a => ahd o a x) = 0 := List.countP_eq_zero.2 (fun a ha => by rw [ahd_asymm (h2.1 a ha)]; simp)
  rw [c1, c2, List.length_take]
  simp
  omega
theorem Srt.nodup {o : List Int} {s : List Nat} (h : Srt o s) {p q x : Nat} (hp : s[p]? = some x) (hq : s[q]? = some x) : p = q := by
  rw [← h.place hp, ← h.place hq]
/-- every host has a place -/
theorem Srt.has {o : List Int} {s : List Nat} (h : Srt o s) {x : Nat} (hx : x < o.length) : ∃ p : Nat, s[p]? = some x := by
  have : x ∈ s := h.perm.mem_iff.2 (by simpa using hx)
  exact List.getElem?_of_mem this
end Go.Proofs.Ytbifmcadllilhaa.Pn
