import Derived.Test.YtchealdgncgjoaaRmB
import Derived.Test.YtchealdgncgjoaaNlC
namespace Go.Proofs.Ytchealdgncgjoaa.StI
open Go.RowKit Go.Proofs.Ytchealdgncgjoaa.St Go.Shelf
set_option linter.unusedVariables false

/-- the list with a pair more at a place -/
def insL (xs : List (Int × Int)) (r : Nat) (q : Int × Int) : List (Int × Int) := xs.take r ++ q :: xs.drop r
/-- what has been laid ahead of round j -/
def laid (xs : List (Int × Int)) (r : Nat) (q : Int × Int) (j : Nat) : List (Int × Int) := if j ≤ r then (insL xs r q).take j else (insL xs r q).take (j + 1)
theorem insL_length {xs : List (Int × Int)} {r : Nat} (q : Int × Int) (hr : r ≤ xs.length) : (insL xs r q).length = xs.length + 1 := by
  unfold insL; simp; omega
theorem insL_lt {xs : List (Int × Int)} {r j : Nat} (q : Int × Int) (hr : r ≤ xs.length) (hj : j < r) : (insL xs r q)[j]? = xs[j]? := by
  unfold insL
  rw [List.getElem?_append_left (by simp; omega), List.getElem?_take_of_lt hj]
theorem insL_eq {xs : List (Int × Int)} {r : Nat} (q : Int × Int) (hr : r ≤ xs.length) : (insL xs r q)[r]? = some q := by
  unfold insL
  rw [List.getElem?_append_right (by simp; omega)]
  have : r - (xs.take r).length = 0 := by simp; omega
  rw [this]; rfl
theorem insL_gt {xs : List (Int × Int)} {r j : Nat} (q : Int × Int) (hr : r ≤ xs.length) (hj : r ≤ j) : (insL xs r q)[j + 1]? = xs[j]? := by
  unfold insL
  rw [List.getElem?_append_right (by simp; omega)]
  have : j + 1 - (xs.take r).length = (j - r) + 1 := by simp; omega
  rw [this, List.getElem?_cons_succ, List.getElem?_drop]
  congr 1; omega
theorem take_snoc {α : Type} {l : List α} {j : Nat} {x : α} (h : l[j]? = some x) : l.take (j + 1) = l.take j ++ [x] := by rw [List.take_add_one, h]; rfl
section
variable {xs : List (Int × Int)} {r j : Nat} {q : Int × Int}
theorem laid_here (hr : r ≤ xs.length) : (insL xs r q).take (r + 1) = laid xs r q r ++ [q] := by
  unfold laid
  rw [if_pos (Nat.le_refl _)]
  exact take_snoc (insL_eq q hr)
theorem laid_here2 (hr : r ≤ xs.length) {p : Int × Int} (hp : xs[r]? = some p) : laid xs r q (r + 1) = laid xs r q r ++ [q] ++ [p] := by
  rw [← laid_here hr]
  unfold laid
  rw [if_neg (by omega)]
  exact take_snoc (by rw [insL_gt q hr (Nat.le_refl _)]; exact hp)
theorem laid_end (hr : r = xs.length) : laid xs r q (r + 1) = laid xs r q r ++ [q] := by
  rw [← laid_here (by omega)]
  unfold laid
  rw [if_neg (by omega), List.take_of_length_le (by rw [insL_length q (by omega)]; omega), List.take_of_length_le (by rw [insL_length q (by omega)]; omega)]
theorem laid_other (hr : r ≤ xs.length) (hne : j ≠ r) {p : Int × Int} (hp : xs[j]? = some p) : laid xs r q (j + 1) = laid xs r q j ++ [p] := by
  unfold laid
  by_cases h : j < r
  · rw [if_pos (by omega), if_pos (by omega)]
    exact take_snoc (by rw [insL_lt q hr h]; exact hp)
  · rw [if_neg (by omega), if_neg (by omega)]
    exact take_snoc (by rw [insL_gt q hr (by omega)]; exact hp)
theorem laid_last (hr : r < xs.length) : laid xs r q (xs.length + 1) = laid xs r q xs.length := by
  unfold laid
  rw [if_neg (by omega), if_neg (by omega), List.take_of_length_le (by rw [insL_length q (by omega)]; omega), List.take_of_length_le (by rw [insL_length q (by omega)]; omega)]
theorem laid_all (hr : r ≤ xs.length) : laid xs r q (xs.length + 1) = insL xs r q := by
  unfold laid
  rw [if_neg (by omega), List.take_of_length_le (by rw [insL_length q (by omega)]; omega)]
theorem laid_len (hr : r ≤ xs.length) (hj : j ≤ xs.length + 1) : (laid xs r q j).length ≤ xs.length + 1 := by
  unfold laid
  split <;> simp [insL_length q hr] <;> omega
end
theorem kv_snoc (C : List (Int × Int)) (p : Int × Int) : kv (C ++ [p]) = kv C ++ [.int .i64 p.1] := by simp [kv]
theorem vv_snoc (C : List (Int × Int)) (p : Int × Int) : vvs (C ++ [p]) = vvs C ++ [.int .i64 p.2] := by simp [vvs]
theorem kv_len (C : List (Int × Int)) : (kv C).length = C.length := by simp [kv]
theorem vv_len (C : List (Int × Int)) : (vvs C).length = C.length := by simp [vvs]
/-- storing into the map's own block: the other rows stay -/
theorem kp_rb {w V : World} {rb : Nat} (hk : Kp Nu w V) (o : Nat) (u : Value) : Kp (fun i => i = rb) w (V.setCell ⟨rb, o, none⟩ u) := (hk.mono (fun _ _ h => h.elim)).trans (Kp.setCell V ⟨rb, o, none⟩ u) (fun _ _ h => h)
section
variable {B : Nat} {w : World} {rb : Nat} {wh : Int} {vk vv : Value} {xs : List (Int × Int)} {o : Int → Int → Int}
theorem Rm.fin {V : World} {vk' vv' : Value} {L : List (Int × Int)} (hB : B ≤ w.heap.size) (h : V.heap[rb]? = some (.cells #[.int .i64 wh, vk, vv] 52 (0, 0))) (ht : Tw w.heap.size V vk' (kv L) vv' (vvs L)) : Rm B ((V.setCell ⟨rb, 1, none⟩ vk').setCell ⟨rb, 2, none⟩ vv') rb wh vk' vv' L := by
  have h1 := set3 h 1 vk'
  have h2 := set3 h1 2 vv'
  have ne : ∀ {n : Nat} {l : List Value} {v : Value}, V.ownsRow w.heap.size 3 1 v n l → ∀ g, v.ownBlock = some g → g ≠ rb := fun ho g hg e => by
    obtain ⟨cur, hc⟩ := own_obj ho hg
    rw [e, h] at hc; cases hc
  refine ⟨by rw [h2]; rfl, ?_, ?_, ht.ap⟩
  · have := own_keep (w' := (V.setCell ⟨rb, 1, none⟩ vk').setCell ⟨rb, 2, none⟩ vv') ht.ok (fun g hg => (Below.heap_setCell _ ⟨rb, 2, none⟩ _ g (ne ht.ok g hg)).trans (Below.heap_setCell _ ⟨rb, 1, none⟩ _ g (ne ht.ok g hg)))
    rw [kv_len] at this
    exact own_base this hB
  · have := own_keep (w' := (V.setCell ⟨rb, 1, none⟩ vk').setCell ⟨rb, 2, none⟩ vv') ht.ov (fun g hg => (Below.heap_setCell _ ⟨rb, 2, none⟩ _ g (ne ht.ov g hg)).trans (Below.heap_setCell _ ⟨rb, 1, none⟩ _ g (ne ht.ov g hg)))
    rw [vv_len] at this
    exact own_base this hB
end
end Go.Proofs.Ytchealdgncgjoaa.StI
