import Derived.Test.YtchealdgncgjoaaTrA
namespace Go.Proofs.Ytchealdgncgjoaa.St
set_option linter.unusedVariables false
set_option linter.unusedSimpArgs false
section
variable {α : Type}
theorem cut_c (c : α → Int) : ∀ xs : List α, xs.Pairwise (fun a b => 0 ≤ c b → 0 < c a) →
    ∃ A B, xs = A ++ B ∧ A.length = xs.countP (fun a => decide (0 < c a)) ∧ (∀ a ∈ A, 0 < c a) ∧ (∀ b ∈ B, c b ≤ 0) ∧ (∀ b ∈ B.tail, c b < 0)
  | [], _ => ⟨[], [], rfl, rfl, by simp, by simp, by simp⟩
  | x :: r, h => by
    rw [List.pairwise_cons] at h
    obtain ⟨A, B, e, e1, e2, e3, e4⟩ := cut_c c r h.2
    by_cases hx : 0 < c x
    · refine ⟨x :: A, B, by rw [e]; rfl, ?_, ?_, e3, e4⟩
      · rw [List.countP_cons]; simp [e1, hx]
      · intro a ha
        rcases List.mem_cons.1 ha with rfl | ha
        · exact hx
        · exact e2 a ha
    · have r0 : ∀ a ∈ r, c a < 0 := fun a ha => by
        rcases Int.lt_or_le (c a) 0 with h1 | h1
        · exact h1
        · exact (hx (h.1 a ha h1)).elim
      refine ⟨[], x :: r, rfl, ?_, by simp, ?_, ?_⟩
      · symm
        rw [List.length_nil, List.countP_eq_zero]
        intro a ha
        rcases List.mem_cons.1 ha with rfl | ha
        · simpa using hx
        · have := r0 a ha; simp; omega
      · intro a ha
        rcases List.mem_cons.1 ha with rfl | ha
        · omega
        · have := r0 a ha; omega
      · exact fun a ha => r0 a ha
end

/-- an order: transitive, and turned round when its arguments are -/
structure OrdL {κ : Type} (o : κ → κ → Int) : Prop where
  anti : ∀ a b, o a b < 0 ↔ 0 < o b a
  tr : ∀ a b c, o a b < 0 → o b c ≤ 0 → o a c < 0
  tr' : ∀ a b c, o a b ≤ 0 → o b c < 0 → o a c < 0
section
variable {κ ν : Type} {o : κ → κ → Int}
theorem OrdL.zero (h : OrdL o) (a : κ) : o a a = 0 := by
  have := h.anti a a; omega
theorem OrdL.sym0 (h : OrdL o) {a b : κ} : o a b = 0 ↔ o b a = 0 := by
  have h1 := h.anti a b
  have h2 := h.anti b a
  omega
def Srt (o : κ → κ → Int) (xs : List (κ × ν)) : Prop := xs.Pairwise (fun a b => o a.1 b.1 < 0)
/-- on which side of a pair a key is -/
abbrev side (o : κ → κ → Int) (k : κ) (p : κ × ν) : Int := o k p.1
theorem Srt.c {xs : List (κ × ν)} (h : Srt o xs) (ho : OrdL o) (k : κ) : xs.Pairwise (fun a b => 0 ≤ side o k b → 0 < side o k a) := by
  refine List.Pairwise.imp ?_ h
  intro a b hab hk
  simp only [side] at *
  have h1 := ho.anti k b.1
  have h2 := ho.anti b.1 k
  have h3 := ho.tr a.1 b.1 k hab (by omega)
  exact (ho.anti a.1 k).1 h3
theorem Srt.ins {xs : List (κ × ν)} (h : Srt o xs) (ho : OrdL o) (k : κ) (v : ν) (i : Nat) (hi : i = xs.countP (fun a => decide (0 < side o k a))) (hn : xs.any (fun a => decide (side o k a = 0)) = false) : Srt o (xs.take i ++ (k, v) :: xs.drop i) := by
  obtain ⟨A, B, e, e1, e2, e3, e4⟩ := cut_c _ xs (h.c ho k)
  rw [← hi] at e1
  rw [List.any_eq_false] at hn
  have t : xs.take i = A := by rw [e, ← e1]; simp
  have d : xs.drop i = B := by rw [e, ← e1]; simp
  rw [t, d]
  rw [e] at h
  unfold Srt at *
  rw [List.pairwise_append] at h
  obtain ⟨hA, hB, hAB⟩ := h
  rw [List.pairwise_append]
  refine ⟨hA, ?_, ?_⟩
  · rw [List.pairwise_cons]
    refine ⟨fun b hb => ?_, hB⟩
    have := e3 b hb
    have := hn b (by rw [e]; simp [hb])
    simp only [side, decide_eq_true_eq] at *
    show o k b.1 < 0
    omega
  · intro a ha b hb
    rcases List.mem_cons.1 hb with rfl | hb
    · exact (ho.anti _ _).2 (e2 a ha)
    · exact hAB a ha b hb
theorem Srt.sub {xs ys : List (κ × ν)} (h : Srt o xs) (hs : ys.Sublist xs) : Srt o ys := List.Pairwise.sublist hs h
theorem Srt.erase {xs : List (κ × ν)} (h : Srt o xs) (i : Nat) : Srt o (xs.eraseIdx i) := h.sub (List.eraseIdx_sublist _ _)
theorem map_modify {β : Type} (g : κ × ν → β) (f : κ × ν → κ × ν) (hf : ∀ p, g (f p) = g p) : ∀ (xs : List (κ × ν)) (i : Nat), (xs.modify i f).map g = xs.map g
  | [], i => by simp
  | a :: xs, 0 => by simp [hf]
  | a :: xs, i + 1 => by simp; exact map_modify g f hf xs i
theorem Srt.keys {xs ys : List (κ × ν)} (h : Srt o xs) (e : ys.map Prod.fst = xs.map Prod.fst) : Srt o ys := by
  have h1 : (xs.map Prod.fst).Pairwise (fun a b => o a b < 0) := List.pairwise_map.2 h
  rw [← e] at h1
  exact List.pairwise_map.1 h1
theorem Srt.rep {xs : List (κ × ν)} (h : Srt o xs) (i : Nat) (v : ν) : Srt o (xs.modify i (fun p => (p.1, v))) := h.keys (map_modify Prod.fst (fun p => (p.1, v)) (fun _ => rfl) xs i)
/-- the place of a key that is there -/
theorem Srt.place {xs : List (κ × ν)} (h : Srt o xs) (ho : OrdL o) {k : κ} {p : κ × ν} {i : Nat} (hp : xs[i]? = some p) (hk : o k p.1 = 0) :
    xs.countP (fun a => decide (0 < side o k a)) = i ∧ xs.any (fun a => decide (side o k a = 0)) = true := by
  have hm : p ∈ xs := List.mem_of_getElem? hp
  refine ⟨?_, List.any_eq_true.2 ⟨p, hm, by simpa [side] using hk⟩⟩
  obtain ⟨A, B, e, e1, e2, e3, e4⟩ := cut_c _ xs (h.c ho k)
  rw [← e1]
  have hi : i < xs.length := (List.getElem?_eq_some_iff.1 hp).1
  rcases Nat.lt_trichotomy i A.length with hlt | heq | hgt
  · rw [e, List.getElem?_append_left hlt] at hp
    have := e2 p (List.mem_of_getElem? hp)
    simp only [side] at this; omega
  · exact heq.symm
  · rw [e, List.getElem?_append_right (by omega)] at hp
    have : p ∈ B.tail := by
      cases B with
      | nil => simp at hp
      | cons b B =>
        obtain ⟨j, hj⟩ : ∃ j, i - A.length = j + 1 := ⟨i - A.length - 1, by omega⟩
        rw [hj] at hp
        exact List.mem_of_getElem? (by simpa using hp)
    have := e4 p this
    simp only [side] at this; omega
theorem Srt.at {xs : List (κ × ν)} (h : Srt o xs) (ho : OrdL o) {k : κ} (ht : xs.any (fun a => decide (side o k a = 0)) = true) :
    ∃ p, xs[xs.countP (fun a => decide (0 < side o k a))]? = some p ∧ o k p.1 = 0 := by
  obtain ⟨p, hp, hk⟩ := List.any_eq_true.1 ht
  obtain ⟨i, hi⟩ := List.mem_iff_getElem?.1 hp
  have hk : o k p.1 = 0 := by simpa [side] using hk
  obtain ⟨h1, h2⟩ := h.place ho hi hk
  exact ⟨p, by rw [h1]; exact hi, hk⟩
end
/-- cmp.Compare of numbers -/
def cmpI (a b : Int) : Int := if a < b then -1 else if b < a then 1 else 0
theorem cmpI_ord : OrdL cmpI := by
  refine ⟨fun a b => ?_, fun a b c => ?_, fun a b c => ?_⟩ <;> (simp only [cmpI]; repeat' split) <;> omega
end Go.Proofs.Ytchealdgncgjoaa.St
