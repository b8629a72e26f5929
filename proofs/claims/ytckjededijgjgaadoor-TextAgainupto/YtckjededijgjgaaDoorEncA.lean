import GoSem.Core.Utf8
import Derived.Laws.BitsAllLaws
namespace Go.Proofs.YtckjededijgjgaaDoor.Enc

/-- the rows of kindSpans: first, last, kind -/
def spans : List (Int × Int × Int) := [(0, 31, 1), (127, 160, 1), (173, 173, 1), (768, 879, 2), (1155, 1161, 2), (1425, 1469, 2), (1564, 1564, 1), (1611, 1631, 2), (4352, 4447, 3), (5760, 5760, 1), (6158, 6158, 1), (6832, 6911, 2), (7616, 7679, 2), (8192, 8207, 1), (8232, 8239, 1), (8287, 8303, 1), (8400, 8447, 2), (11904, 12287, 3), (12288, 12288, 1), (12289, 12350, 3), (12353, 19903, 3), (19968, 42191, 3), (44032, 55203, 3), (55296, 57343, 1), (57344, 63743, 1), (63744, 64255, 3), (64976, 65007, 1), (65024, 65039, 2), (65056, 65071, 2), (65072, 65135, 3), (65279, 65279, 1), (65281, 65376, 3), (65504, 65510, 3), (65529, 65531, 1), (127744, 128591, 3), (129280, 129535, 3), (131072, 262141, 3), (917504, 1114111, 1)]

/-- the search: stops at the first row above its rune -/
def spanF (r : Int) : List (Int × Int × Int) → Int
  | [] => 0
  | (a, b, k) :: t => if r < a then 0 else if r ≤ b then k else spanF r t

def kindF (r : Int) : Int := if r < 0 ∨ 1114111 < r ∨ 65534 ≤ r % 65536 then 1 else spanF r spans

/-- the document's list of hidden runes, as the reference asks it -/
def hidP (r : Int) : Prop :=
  (r < 0 ∨ 1114111 < r ∨ r ≤ 31 ∨ (127 ≤ r ∧ r ≤ 160) ∨ r = 173 ∨ r = 1564) ∨
  (r = 5760 ∨ r = 6158 ∨ (8192 ≤ r ∧ r ≤ 8207) ∨ (8232 ≤ r ∧ r ≤ 8239)) ∨
  ((8287 ≤ r ∧ r ≤ 8303) ∨ r = 12288 ∨ (55296 ≤ r ∧ r ≤ 63743) ∨ (64976 ≤ r ∧ r ≤ 65007)) ∨
  (r = 65279 ∨ (65529 ≤ r ∧ r ≤ 65531) ∨ r = 65534 ∨ r = 65535 ∨ 917504 ≤ r) ∨ 65534 ≤ r % 65536

/-- the same, as a bool -/
def hidB (r : Int) : Bool := kindF r == 1

/-- the rows of hidden runes alone -/
def hids : List (Int × Int × Int) := spans.filter fun x => x.2.2 == 1

theorem span_one (r : Int) : ∀ l : List (Int × Int × Int), spanF r l = 1 → ∃ x ∈ l.filter (fun x => x.2.2 == 1), x.1 ≤ r ∧ r ≤ x.2.1
  | [], h => by simp [spanF] at h
  | (a, b, k) :: t, h => by
    unfold spanF at h
    split at h
    · omega
    · split at h
      · exact ⟨(a, b, k), by simp [h], by omega, by simp; omega⟩
      · obtain ⟨x, hx, h1⟩ := span_one r t h
        refine ⟨x, ?_, h1⟩
        rw [List.filter_cons]
        split
        · exact List.mem_cons_of_mem _ hx
        · exact hx

/-- r lies in row i, all rows ahead lie below it -/
theorem span_at (r : Int) : ∀ (l : List (Int × Int × Int)) (i : Nat) (a b k : Int), l[i]? = some (a, b, k) → (l.take i).all (fun x => decide (x.1 ≤ x.2.1) && decide (x.2.1 < a)) = true → a ≤ r → r ≤ b → spanF r l = k
  | [], i, a, b, k, h, _, _, _ => by simp at h
  | (a', b', k') :: t, 0, a, b, k, h, _, h1, h2 => by
    simp at h
    obtain ⟨rfl, rfl, rfl⟩ := h
    unfold spanF
    rw [if_neg (by omega), if_pos h2]
  | (a', b', k') :: t, i + 1, a, b, k, h, hs, h1, h2 => by
    simp only [List.take_succ_cons, List.all_cons, Bool.and_eq_true, decide_eq_true_eq] at hs
    unfold spanF
    rw [if_neg (by omega), if_neg (by omega)]
    exact span_at r t i a b k (by simpa using h) hs.2 h1 h2

theorem hids_eq : hids = [(0, 31, 1), (127, 160, 1), (173, 173, 1), (1564, 1564, 1), (5760, 5760, 1), (6158, 6158, 1), (8192, 8207, 1), (8232, 8239, 1), (8287, 8303, 1), (12288, 12288, 1), (55296, 57343, 1), (57344, 63743, 1), (64976, 65007, 1), (65279, 65279, 1), (65529, 65531, 1), (917504, 1114111, 1)] := by
  decide +kernel

theorem hid_of (r : Int) (h : spanF r spans = 1) : hidP r := by
  obtain ⟨x, hx, h1, h2⟩ := span_one r spans h
  have hx' : x ∈ hids := hx
  rw [hids_eq] at hx'
  simp only [List.mem_cons, List.not_mem_nil, or_false] at hx'
  unfold hidP
  rcases hx' with rfl | rfl | rfl | rfl | rfl | rfl | rfl | rfl | rfl | rfl | rfl | rfl | rfl | rfl | rfl | rfl
  all_goals simp only at h1 h2
  all_goals first | exact .inl (by omega) | exact .inr (.inl (by omega)) | exact .inr (.inr (.inl (by omega))) | exact .inr (.inr (.inr (.inl (by omega))))

theorem of_hid (r : Int) (h0 : 0 ≤ r) (h1 : r ≤ 1114111) (h2 : r % 65536 < 65534) (h : hidP r) : spanF r spans = 1 := by
  have row : ∀ (i : Nat) (a b : Int), spans[i]? = some (a, b, 1) → (spans.take i).all (fun x => decide (x.1 ≤ x.2.1) && decide (x.2.1 < a)) = true → a ≤ r → r ≤ b → spanF r spans = 1 := fun i a b => span_at r spans i a b 1
  unfold hidP at h
  rcases h with (h | h | h | ⟨h, h'⟩ | h | h) | (h | h | ⟨h, h'⟩ | ⟨h, h'⟩) | (⟨h, h'⟩ | h | ⟨h, h'⟩ | ⟨h, h'⟩) | (h | ⟨h, h'⟩ | h | h | h) | h
  · omega
  · omega
  · exact row 0 0 31 (by decide +kernel) (by decide +kernel) (by omega) (by omega)
  · exact row 1 127 160 (by decide +kernel) (by decide +kernel) (by omega) (by omega)
  · exact row 2 173 173 (by decide +kernel) (by decide +kernel) (by omega) (by omega)
  · exact row 6 1564 1564 (by decide +kernel) (by decide +kernel) (by omega) (by omega)
  · exact row 9 5760 5760 (by decide +kernel) (by decide +kernel) (by omega) (by omega)
  · exact row 10 6158 6158 (by decide +kernel) (by decide +kernel) (by omega) (by omega)
  · exact row 13 8192 8207 (by decide +kernel) (by decide +kernel) (by omega) (by omega)
  · exact row 14 8232 8239 (by decide +kernel) (by decide +kernel) (by omega) (by omega)
  · exact row 15 8287 8303 (by decide +kernel) (by decide +kernel) (by omega) (by omega)
  · exact row 18 12288 12288 (by decide +kernel) (by decide +kernel) (by omega) (by omega)
  · by_cases e : r ≤ 57343
    · exact row 23 55296 57343 (by decide +kernel) (by decide +kernel) (by omega) (by omega)
    · exact row 24 57344 63743 (by decide +kernel) (by decide +kernel) (by omega) (by omega)
  · exact row 26 64976 65007 (by decide +kernel) (by decide +kernel) (by omega) (by omega)
  · exact row 30 65279 65279 (by decide +kernel) (by decide +kernel) (by omega) (by omega)
  · exact row 33 65529 65531 (by decide +kernel) (by decide +kernel) (by omega) (by omega)
  · omega
  · omega
  · exact row 37 917504 1114111 (by decide +kernel) (by decide +kernel) (by omega) (by omega)
  · omega

theorem kind_hid (r : Int) : kindF r = 1 ↔ hidP r := by
  unfold kindF
  split
  · rename_i h
    refine ⟨fun _ => ?_, fun _ => rfl⟩
    unfold hidP
    rcases h with h | h | h
    · exact .inl (.inl h)
    · exact .inl (.inr (.inl h))
    · exact .inr (.inr (.inr (.inr h)))
  · exact ⟨hid_of r, of_hid r (by omega) (by omega) (by omega)⟩

theorem hid_b (r : Int) (h : hidP r) : true = hidB r := by unfold hidB; rw [(kind_hid r).2 h]; rfl
theorem not_hid_b (r : Int) (h : ¬ hidP r) : false = hidB r := by
  unfold hidB; symm; rw [beq_eq_false_iff_ne]; exact fun e => h ((kind_hid r).1 e)

theorem and_even (n : Nat) : n &&& 65534 = n % 65536 / 2 * 2 := nat_midmask 16 1 n (by decide)

end Go.Proofs.YtckjededijgjgaaDoor.Enc
