import Derived.Test.YtmlnglillgplfaaGreatCrA
namespace Go.Proofs.YtmlnglillgplfaaGreat.Cl
open Go.RowKit Go.Maps
set_option linter.unusedVariables false
/-- how often host h was asked behind i sendings -/
def tm (i h : Nat) : Int := if 2 * h + 2 ≤ i then 2 else if 2 * h + 1 ≤ i then 1 else 0
def tmL (i : Nat) : List Value := (List.range 16).map (fun h => .int .i64 (tm i h))
theorem tm_at (i h : Nat) (hh : h < 16) : (tmL i).toArray[h]? = some (.int .i64 (tm i h)) := by
  simp [tmL, hh]
theorem tm_one : (tmL 1).toArray = #[.int .i64 1, .int .i64 0, .int .i64 0, .int .i64 0, .int .i64 0, .int .i64 0, .int .i64 0, .int .i64 0, .int .i64 0, .int .i64 0, .int .i64 0, .int .i64 0, .int .i64 0, .int .i64 0, .int .i64 0, .int .i64 0] := rfl
theorem tm_same (i : Nat) : tm i (i / 2) + 1 = tm (i + 1) (i / 2) := by
  unfold tm
  split
  · omega
  · split <;> (repeat (first | split | omega))
theorem tm_other (i h : Nat) (hne : h ≠ i / 2) : tm (i + 1) h = tm i h := by
  unfold tm
  repeat (first | split | omega)
theorem tm_next (i : Nat) (hi : i / 2 < 16) : (tmL i).toArray.setIfInBounds (i / 2) (.int .i64 (tm i (i / 2) + 1)) = (tmL (i + 1)).toArray := by
  rw [List.setIfInBounds_toArray]
  congr 1
  apply List.ext_getElem?
  intro h
  rw [List.getElem?_set]
  by_cases e : i / 2 = h
  · subst e
    have : i / 2 < (tmL i).length := by simpa [tmL] using hi
    rw [if_pos rfl, if_pos this]
    have h2 := tm_at (i + 1) (i / 2) hi
    simp only [List.getElem?_toArray] at h2
    rw [h2, tm_same]
  · rw [if_neg e]
    by_cases hh : h < 16
    · have h1 := tm_at i h hh
      have h2 := tm_at (i + 1) h hh
      simp only [List.getElem?_toArray] at h1 h2
      rw [h1, h2, tm_other i h (fun x => e x.symm)]
    · rw [List.getElem?_eq_none (by simp [tmL]; omega), List.getElem?_eq_none (by simp [tmL]; omega)]
theorem tm_full {i h : Nat} (hh : 2 * h + 2 ≤ i) : tm i h = 2 := by unfold tm; rw [if_pos hh]
/-- who is asked next -/
theorem to_next {i : Nat} {hosts : Int} (h1 : 1 ≤ i) (h2 : (i : Int) < 2 * hosts) : (if (((i - 1) % 2 : Nat) : Int) = 1 then nxt (((i - 1) / 2 : Nat) : Int) hosts else (((i - 1) / 2 : Nat) : Int)) = ((i / 2 : Nat) : Int) := by
  split
  · rename_i e
    unfold nxt
    rw [if_neg (by omega)]
    omega
  · rename_i e
    omega
theorem tmo_next {i : Nat} (h1 : 1 ≤ i) : (if (((i - 1) % 2 : Nat) : Int) = 1 then (0 : Int) else 1) = ((i % 2 : Nat) : Int) := by
  split
  · rename_i e; omega
  · rename_i e; omega
end Go.Proofs.YtmlnglillgplfaaGreat.Cl
