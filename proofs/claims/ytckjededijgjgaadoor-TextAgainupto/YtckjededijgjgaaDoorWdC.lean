import Derived.Test.YtckjededijgjgaaDoorWdA
import Derived.Test.YtckjededijgjgaaDoorEncB
namespace Go.Proofs.YtckjededijgjgaaDoor.Wd
open Go.RowKit
open Go.Proofs.YtckjededijgjgaaDoor.Enc (kindF spanF spans span_at hidB)
set_option linter.unusedVariables false

def markP (r : Int) : Prop := (768 ≤ r ∧ r ≤ 879) ∨ (1155 ≤ r ∧ r ≤ 1161) ∨ (1425 ≤ r ∧ r ≤ 1469) ∨ (1611 ≤ r ∧ r ≤ 1631) ∨ (6832 ≤ r ∧ r ≤ 6911) ∨ (7616 ≤ r ∧ r ≤ 7679) ∨ (8400 ≤ r ∧ r ≤ 8447) ∨ (65024 ≤ r ∧ r ≤ 65039) ∨ (65056 ≤ r ∧ r ≤ 65071)
instance (r : Int) : Decidable (markP r) := by unfold markP; infer_instance
def broadP (r : Int) : Prop := (4352 ≤ r ∧ r ≤ 4447) ∨ (11904 ≤ r ∧ r ≤ 12350) ∨ (12353 ≤ r ∧ r ≤ 19903) ∨ (19968 ≤ r ∧ r ≤ 42191) ∨ (44032 ≤ r ∧ r ≤ 55203) ∨ (63744 ≤ r ∧ r ≤ 64255) ∨ (65072 ≤ r ∧ r ≤ 65135) ∨ (65281 ≤ r ∧ r ≤ 65376) ∨ (65504 ≤ r ∧ r ≤ 65510) ∨ (127744 ≤ r ∧ r ≤ 128591) ∨ (129280 ≤ r ∧ r ≤ 129535) ∨ (131072 ≤ r ∧ r ≤ 262141)
instance (r : Int) : Decidable (broadP r) := by unfold broadP; infer_instance

theorem span_k (r k : Int) (hk : k ≠ 0) : ∀ l : List (Int × Int × Int), spanF r l = k → ∃ x ∈ l.filter (fun x => x.2.2 == k), x.1 ≤ r ∧ r ≤ x.2.1
  | [], h => by simp [Enc.spanF] at h; exact absurd h.symm hk
  | (a, b, c) :: t, h => by
    unfold Enc.spanF at h
    split at h
    · exact absurd h.symm hk
    · split at h
      · subst h
        exact ⟨(a, b, c), by simp, by simp; omega⟩
      · obtain ⟨x, hx, h1⟩ := span_k r k hk t h
        refine ⟨x, ?_, h1⟩
        rw [List.filter_cons]
        split
        · exact List.mem_cons_of_mem _ hx
        · exact hx
theorem marks_eq : spans.filter (fun x => x.2.2 == 2) = [(768, 879, 2), (1155, 1161, 2), (1425, 1469, 2), (1611, 1631, 2), (6832, 6911, 2), (7616, 7679, 2), (8400, 8447, 2), (65024, 65039, 2), (65056, 65071, 2)] := by decide +kernel
theorem wides_eq : spans.filter (fun x => x.2.2 == 3) = [(4352, 4447, 3), (11904, 12287, 3), (12289, 12350, 3), (12353, 19903, 3), (19968, 42191, 3), (44032, 55203, 3), (63744, 64255, 3), (65072, 65135, 3), (65281, 65376, 3), (65504, 65510, 3), (127744, 128591, 3), (129280, 129535, 3), (131072, 262141, 3)] := by decide +kernel
theorem mark_of (r : Int) (h : spanF r spans = 2) : markP r := by
  obtain ⟨x, hx, h1, h2⟩ := span_k r 2 (by omega) spans h
  rw [marks_eq] at hx
  simp only [List.mem_cons, List.not_mem_nil, or_false] at hx
  unfold markP
  rcases hx with rfl | rfl | rfl | rfl | rfl | rfl | rfl | rfl | rfl
  all_goals simp only at h1 h2
  all_goals omega
theorem broad_of (r : Int) (h : spanF r spans = 3) : broadP r ∧ ¬ markP r := by
  obtain ⟨x, hx, h1, h2⟩ := span_k r 3 (by omega) spans h
  rw [wides_eq] at hx
  simp only [List.mem_cons, List.not_mem_nil, or_false] at hx
  unfold broadP markP
  rcases hx with rfl | rfl | rfl | rfl | rfl | rfl | rfl | rfl | rfl | rfl | rfl | rfl | rfl
  all_goals simp only at h1 h2
  all_goals omega
theorem of_mark (r : Int) (h : markP r) : spanF r spans = 2 := by
  have row : ∀ (i : Nat) (a b : Int), spans[i]? = some (a, b, 2) → (spans.take i).all (fun x => decide (x.1 ≤ x.2.1) && decide (x.2.1 < a)) = true → a ≤ r → r ≤ b → spanF r spans = 2 := fun i a b => span_at r spans i a b 2
  unfold markP at h
  rcases h with ⟨h, h'⟩ | ⟨h, h'⟩ | ⟨h, h'⟩ | ⟨h, h'⟩ | ⟨h, h'⟩ | ⟨h, h'⟩ | ⟨h, h'⟩ | ⟨h, h'⟩ | ⟨h, h'⟩
  · exact row 3 768 879 (by decide +kernel) (by decide +kernel) h h'
  · exact row 4 1155 1161 (by decide +kernel) (by decide +kernel) h h'
  · exact row 5 1425 1469 (by decide +kernel) (by decide +kernel) h h'
  · exact row 7 1611 1631 (by decide +kernel) (by decide +kernel) h h'
  · exact row 11 6832 6911 (by decide +kernel) (by decide +kernel) h h'
  · exact row 12 7616 7679 (by decide +kernel) (by decide +kernel) h h'
  · exact row 16 8400 8447 (by decide +kernel) (by decide +kernel) h h'
  · exact row 27 65024 65039 (by decide +kernel) (by decide +kernel) h h'
  · exact row 28 65056 65071 (by decide +kernel) (by decide +kernel) h h'
theorem of_broad (r : Int) (h : broadP r) : spanF r spans = 3 ∨ spanF r spans = 1 := by
  have row : ∀ (i : Nat) (a b : Int), spans[i]? = some (a, b, 3) → (spans.take i).all (fun x => decide (x.1 ≤ x.2.1) && decide (x.2.1 < a)) = true → a ≤ r → r ≤ b → spanF r spans = 3 := fun i a b => span_at r spans i a b 3
  have row1 : ∀ (i : Nat) (a b : Int), spans[i]? = some (a, b, 1) → (spans.take i).all (fun x => decide (x.1 ≤ x.2.1) && decide (x.2.1 < a)) = true → a ≤ r → r ≤ b → spanF r spans = 1 := fun i a b => span_at r spans i a b 1
  have hc : (4352 ≤ r ∧ r ≤ 4447) ∨ (11904 ≤ r ∧ r ≤ 12287) ∨ (12289 ≤ r ∧ r ≤ 12350) ∨ (12353 ≤ r ∧ r ≤ 19903) ∨ (19968 ≤ r ∧ r ≤ 42191) ∨ (44032 ≤ r ∧ r ≤ 55203) ∨ (63744 ≤ r ∧ r ≤ 64255) ∨ (65072 ≤ r ∧ r ≤ 65135) ∨ (65281 ≤ r ∧ r ≤ 65376) ∨ (65504 ≤ r ∧ r ≤ 65510) ∨ (127744 ≤ r ∧ r ≤ 128591) ∨ (129280 ≤ r ∧ r ≤ 129535) ∨ (131072 ≤ r ∧ r ≤ 262141) ∨ r = 12288 := by unfold broadP at h; omega
  rcases hc with ⟨h0, h0'⟩ | ⟨h0, h0'⟩ | ⟨h0, h0'⟩ | ⟨h0, h0'⟩ | ⟨h0, h0'⟩ | ⟨h0, h0'⟩ | ⟨h0, h0'⟩ | ⟨h0, h0'⟩ | ⟨h0, h0'⟩ | ⟨h0, h0'⟩ | ⟨h0, h0'⟩ | ⟨h0, h0'⟩ | ⟨h0, h0'⟩ | h0
  · left; exact row 8 4352 4447 (by decide +kernel) (by decide +kernel) h0 h0'
  · left; exact row 17 11904 12287 (by decide +kernel) (by decide +kernel) h0 h0'
  · left; exact row 19 12289 12350 (by decide +kernel) (by decide +kernel) h0 h0'
  · left; exact row 20 12353 19903 (by decide +kernel) (by decide +kernel) h0 h0'
  · left; exact row 21 19968 42191 (by decide +kernel) (by decide +kernel) h0 h0'
  · left; exact row 22 44032 55203 (by decide +kernel) (by decide +kernel) h0 h0'
  · left; exact row 25 63744 64255 (by decide +kernel) (by decide +kernel) h0 h0'
  · left; exact row 29 65072 65135 (by decide +kernel) (by decide +kernel) h0 h0'
  · left; exact row 31 65281 65376 (by decide +kernel) (by decide +kernel) h0 h0'
  · left; exact row 32 65504 65510 (by decide +kernel) (by decide +kernel) h0 h0'
  · left; exact row 34 127744 128591 (by decide +kernel) (by decide +kernel) h0 h0'
  · left; exact row 35 129280 129535 (by decide +kernel) (by decide +kernel) h0 h0'
  · left; exact row 36 131072 262141 (by decide +kernel) (by decide +kernel) h0 h0'
  · right; exact row1 18 12288 12288 (by decide +kernel) (by decide +kernel) (by omega) (by omega)

/-- what the document's columns says of a rune -/
def colF (r : Int) : Int := if hidB r = true ∨ markP r then 0 else if broadP r then 2 else 1
theorem col_is (r : Int) : colF r = if kindF r = 1 ∨ kindF r = 2 then 0 else if kindF r = 3 then 2 else 1 := by
  have hh : hidB r = true ↔ kindF r = 1 := by unfold Enc.hidB; simp
  unfold colF
  by_cases h1 : kindF r = 1
  · rw [if_pos (.inl (hh.2 h1)), if_pos (.inl h1)]
  · have hk : kindF r = spanF r spans := by
      unfold Enc.kindF at h1 ⊢
      split at h1
      · exact absurd rfl h1
      · rename_i hc; rw [if_neg hc]
    have h1' : ¬ hidB r = true := fun h => h1 (hh.1 h)
    rw [hk] at h1 ⊢
    by_cases h2 : spanF r spans = 2
    · rw [if_pos (.inr (mark_of r h2)), if_pos (.inr h2)]
    · have hm : ¬ markP r := fun h => h2 (of_mark r h)
      rw [if_neg (show ¬ (hidB r = true ∨ markP r) from fun h => h.elim h1' hm), if_neg (show ¬ (spanF r spans = 1 ∨ spanF r spans = 2) from fun h => h.elim h1 h2)]
      by_cases h3 : spanF r spans = 3
      · rw [if_pos (broad_of r h3).1, if_pos h3]
      · rw [if_neg (show ¬ broadP r from fun hb => (of_broad r hb).elim h3 h1), if_neg h3]

end Go.Proofs.YtckjededijgjgaaDoor.Wd
