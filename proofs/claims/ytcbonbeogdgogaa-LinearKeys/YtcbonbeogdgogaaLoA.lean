import Derived.Test.YtcbonbeogdgogaaLiN
import Derived.Test.YtcbonbeogdgogaaLiI
namespace Go.Proofs.Ytcbonbeogdgogaa.Li
open Go.RowKit
set_option linter.unusedVariables false
/-- a call without the places of its bytes -/
def Ca.norm (c : Ca) : Ca := c.at_ none none none 0 0 0
def nm (L : List Ca) : List Ca := L.map Ca.norm
theorem nm_len (L : List Ca) : (nm L).length = L.length := by simp [nm]
theorem nm_at {L : List Ca} {i : Nat} {c : Ca} (h : L[i]? = some c) : (nm L)[i]? = some c.norm := by simp [nm, h]
theorem nm_alk {L D : List Ca} (hl : D.length = L.length) (h : Alk L D L.length) : nm D = nm L := by
  refine List.ext_getElem? (fun j => ?_)
  by_cases hj : j < L.length
  · obtain ⟨c, d, hc, hd, va, oa, ya, vc, oc, yc, rfl⟩ := h j hj
    rw [nm_at hc, nm_at hd]
    rfl
  · rw [List.getElem?_eq_none (by rw [nm_len]; omega), List.getElem?_eq_none (by rw [nm_len]; omega)]
/-- a call that may be -/
def MBc (c : Ca) : Prop := MB c.k c.st c.beg c.en c.has c.Y.length
def AllMB (L : List Ca) : Prop := ∀ c ∈ L, MBc c
/-- one is before the other -/
def bef (a b : Ca) : Prop := ¬ a.en = -1 ∧ a.en < b.beg
/-- the first i numbers are those of calls that are no Scans, each once -/
def Lst (L : List Ca) (o : List Int) (i : Nat) : Prop := ∀ j x, j < i → o[j]? = some x → 0 ≤ x ∧ (∃ c, L[x.toNat]? = some c ∧ ¬ c.k = 5) ∧ x ∉ o.take j
/-- every call that must stands in it -/
def Whl (L : List Ca) (o : List Int) (i : Nat) : Prop := ∀ j c, j < i → L[j]? = some c → ¬ c.en = -1 → ¬ c.k = 5 → (j : Int) ∈ o
/-- none stands behind one that it is before -/
def InT (L : List Ca) (o : List Int) (i : Nat) : Prop := ∀ p q x y c d, p < i → q < p → o[p]? = some x → o[q]? = some y → L[x.toNat]? = some c → L[y.toNat]? = some d → ¬ bef c d
def stpc (c : Ca) (on : Option (List Int)) : Option (Option (List Int)) := stp c.k c.st (c.en != -1) c.has c.V c.O c.Y on
def upd (f : Int → Option (List Int)) (k : Int) (r : Option (List Int)) : Int → Option (List Int) := fun k' => if k' = k then r else f k'
/-- what the keys have behind the first ones, if all could take effect -/
def run (L : List Ca) : List Int → (Int → Option (List Int)) → Option (Int → Option (List Int))
  | [], f => some f
  | x :: o, f => match L[x.toNat]? with
    | none => none
    | some c => match stpc c (f c.key) with
      | none => none
      | some r => run L o (upd f c.key r)
theorem run_snoc (L : List Ca) (x : Int) : ∀ (o : List Int) (f : Int → Option (List Int)), run L (o ++ [x]) f = (run L o f).bind (fun g => run L [x] g)
  | [], f => rfl
  | y :: o, f => by
    simp only [List.cons_append, run]
    cases L[y.toNat]? with
    | none => rfl
    | some c =>
      simp only
      cases stpc c (f c.key) with
      | none => rfl
      | some r => exact run_snoc L x o _
/-- an order obeys -/
structure Obs (L : List Ca) (o : List Int) : Prop where
  all : AllMB L
  lst : Lst L o o.length
  whl : Whl L o L.length
  inT : InT L o o.length
  run : (run L o (fun _ => none)).isSome = true
theorem Lst.mono {L : List Ca} {o : List Int} {i j : Nat} (h : Lst L o i) (hj : j ≤ i) : Lst L o j := fun k x hk hx => h k x (by omega) hx
theorem Lst.step {L : List Ca} {o : List Int} {i : Nat} {x : Int} (h : Lst L o i) (hx : o[i]? = some x) (h0 : 0 ≤ x) (hc : ∃ c, L[x.toNat]? = some c ∧ ¬ c.k = 5) (hn : x ∉ o.take i) : Lst L o (i + 1) := fun j y hj hy => by
  by_cases e : j = i
  · subst e
    rw [hx] at hy
    cases hy
    exact ⟨h0, hc, hn⟩
  · exact h j y (by omega) hy
end Go.Proofs.Ytcbonbeogdgogaa.Li
