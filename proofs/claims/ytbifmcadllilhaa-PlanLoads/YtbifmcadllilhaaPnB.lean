import Derived.Test.YtbifmcadllilhaaPnF
namespace Go.Proofs.Ytbifmcadllilhaa.Pn
open Go.RowKit
set_option linter.unusedVariables false
/-- the greatest, the least -/
def isMx (o : List Int) (m : Int) : Prop := m ∈ o ∧ ∀ x ∈ o, x ≤ m
def isMn (o : List Int) (m : Int) : Prop := m ∈ o ∧ ∀ x ∈ o, m ≤ x
theorem isMx.one (x : Int) : isMx [x] x := ⟨by simp, fun y hy => by simp at hy; omega⟩
theorem isMn.one (x : Int) : isMn [x] x := ⟨by simp, fun y hy => by simp at hy; omega⟩
theorem isMx.snoc {o : List Int} {m : Int} (h : isMx o m) (y : Int) : isMx (o ++ [y]) (max m y) := by
  refine ⟨?_, fun x hx => ?_⟩
  · rcases Int.le_total m y with h1 | h1
    · rw [Int.max_eq_right h1]; simp
    · rw [Int.max_eq_left h1]; exact List.mem_append.2 (.inl h.1)
  · rcases List.mem_append.1 hx with hx | hx
    · have := h.2 x hx; omega
    · simp at hx; omega
theorem isMn.snoc {o : List Int} {m : Int} (h : isMn o m) (y : Int) : isMn (o ++ [y]) (min m y) := by
  refine ⟨?_, fun x hx => ?_⟩
  · rcases Int.le_total m y with h1 | h1
    · rw [Int.min_eq_left h1]; exact List.mem_append.2 (.inl h.1)
    · rw [Int.min_eq_right h1]; simp
  · rcases List.mem_append.1 hx with hx | hx
    · have := h.2 x hx; omega
    · simp at hx; omega
theorem take_more {o : List Int} {i : Nat} {y : Int} (hy : o[i]? = some y) : o.take (i + 1) = o.take i ++ [y] := by rw [List.take_add_one, hy]; rfl
/-- what Max, Min answer -/
def MxR (o : List Int) (e : Ending) : Prop := ∃ m, e = .returned (.int .i64 m) ∧ isMx o m
def MnR (o : List Int) (e : Ending) : Prop := ∃ m, e = .returned (.int .i64 m) ∧ isMn o m
set_option maxRecDepth 100000 in
set_option maxHeartbeats 1000000 in
theorem max29 (w : World) (u : Value) (o : List Int) (h : Ns w u o) (h1 : 1 ≤ o.length) (h2 : o.length ≤ 16) : Calls Try.prog 29 #[u] w fun e w' => MxR o e ∧ w' = w := by
  obtain ⟨a, cap, rfl, _, _⟩ := id h
  obtain ⟨N, eN⟩ : ∃ N, o.length = N := ⟨_, rfl⟩
  obtain ⟨x0, hx0⟩ : ∃ x, o[0]? = some x := ⟨_, List.getElem?_eq_getElem (by omega)⟩
  obtain ⟨b, rfl, c0⟩ := h.at_ hx0
  have c0' : w.cell? b = some (.int .i64 x0) := by simpa [Addr.add] using c0
  have HN := hide (And.intro h (And.intro eN hx0))
  rw [eN] at h1 h2 ⊢
  have hNI : (N : Int) ≤ 16 := by omega
  have hN1 : (1 : Int) ≤ (N : Int) := by omega
  have hN0 : (0 : Int) < (N : Int) := by omega
  have dN : decide ((N : Int) < 1) = false := by simp; omega
  clear h eN hx0
  go_enter Try.func29, Try.ntmps29
  go_wp2
  clear c0 c0'
  go_loopw [3, 4] (fun mv iv wr => ∃ (i : Nat) (m : Int), iv = .int .i64 (i : Int) ∧ mv = .int .i64 m ∧ 1 ≤ i ∧ i ≤ N ∧ wr = w ∧ Hid (isMx (o.take i) m)) (fun _ iv _ => N - (intOf iv).toNat)
  case atStart => exact ⟨1, x0, rfl, rfl, Nat.le_refl _, h1, rfl, hide (by rw [take_more (i := 0) HN.out.2.2]; exact isMx.one x0)⟩
  case round =>
    obtain ⟨i, m, rfl, rfl, hi1, hi, hw, hI⟩ := hrel
    obtain rfl := hw
    have hi0 : (0 : Int) ≤ (i : Int) := by omega
    by_cases hlt : i < N
    · have hltI : (i : Int) < (N : Int) := by omega
      obtain ⟨y, hy⟩ : ∃ y, o[i]? = some y := ⟨_, List.getElem?_eq_getElem (by rw [HN.out.2.1]; exact hlt)⟩
      obtain ⟨b', e', hc⟩ := HN.out.1.at_ hy
      simp only [Option.some.injEq] at e'
      subst e'
      have HY := hide hy
      have eti : (i : Int).toNat = i := by omega
      clear hy
      go_wp2
      refine ⟨⟨i + 1, max m y, by go_num, by congr 1; split <;> omega, by omega, by omega, trivial, hide ?_⟩, by simp [intOf]; omega⟩
      rw [take_more HY.out]
      exact hI.out.snoc y
    · have hge : ¬ (i : Int) < (N : Int) := by omega
      have HE : Hid (isMx o m) := hide (by
        have h := hI.out
        rw [List.take_of_length_le (by have := HN.out.2.1; omega)] at h
        exact h)
      go_wp2
      go_ret
      exact ⟨⟨_, rfl, HE.out⟩, rfl⟩
set_option maxRecDepth 100000 in
set_option maxHeartbeats 1000000 in
theorem min54 (w : World) (u : Value) (o : List Int) (h : Ns w u o) (h1 : 1 ≤ o.length) (h2 : o.length ≤ 16) : Calls Try.prog 54 #[u] w fun e w' => MnR o e ∧ w' = w := by
  obtain ⟨a, cap, rfl, _, _⟩ := id h
  obtain ⟨N, eN⟩ : ∃ N, o.length = N := ⟨_, rfl⟩
  obtain ⟨x0, hx0⟩ : ∃ x, o[0]? = some x := ⟨_, List.getElem?_eq_getElem (by omega)⟩
  obtain ⟨b, rfl, c0⟩ := h.at_ hx0
  have c0' : w.cell? b = some (.int .i64 x0) := by simpa [Addr.add] using c0
  have HN := hide (And.intro h (And.intro eN hx0))
  rw [eN] at h1 h2 ⊢
  have hNI : (N : Int) ≤ 16 := by omega
  have hN1 : (1 : Int) ≤ (N : Int) := by omega
  have hN0 : (0 : Int) < (N : Int) := by omega
  have dN : decide ((N : Int) < 1) = false := by simp; omega
  clear h eN hx0
  go_enter Try.func54, Try.ntmps54
  go_wp2
  clear c0 c0'
  go_loopw [3, 4] (fun mv iv wr => ∃ (i : Nat) (m : Int), iv = .int .i64 (i : Int) ∧ mv = .int .i64 m ∧ 1 ≤ i ∧ i ≤ N ∧ wr = w ∧ Hid (isMn (o.take i) m)) (fun _ iv _ => N - (intOf iv).toNat)
  case atStart => exact ⟨1, x0, rfl, rfl, Nat.le_refl _, h1, rfl, hide (by rw [take_more (i := 0) HN.out.2.2]; exact isMn.one x0)⟩
  case round =>
    obtain ⟨i, m, rfl, rfl, hi1, hi, hw, hI⟩ := hrel
    obtain rfl := hw
    have hi0 : (0 : Int) ≤ (i : Int) := by omega
    by_cases hlt : i < N
    · have hltI : (i : Int) < (N : Int) := by omega
      obtain ⟨y, hy⟩ : ∃ y, o[i]? = some y := ⟨_, List.getElem?_eq_getElem (by rw [HN.out.2.1]; exact hlt)⟩
      obtain ⟨b', e', hc⟩ := HN.out.1.at_ hy
      simp only [Option.some.injEq] at e'
      subst e'
      have HY := hide hy
      have eti : (i : Int).toNat = i := by omega
      clear hy
      go_wp2
      refine ⟨⟨i + 1, min m y, by go_num, by congr 1; split <;> omega, by omega, by omega, trivial, hide ?_⟩, by simp [intOf]; omega⟩
      rw [take_more HY.out]
      exact hI.out.snoc y
    · have hge : ¬ (i : Int) < (N : Int) := by omega
      have HE : Hid (isMn o m) := hide (by
        have h := hI.out
        rw [List.take_of_length_le (by have := HN.out.2.1; omega)] at h
        exact h)
      go_wp2
      go_ret
      exact ⟨⟨_, rfl, HE.out⟩, rfl⟩
end Go.Proofs.Ytbifmcadllilhaa.Pn
