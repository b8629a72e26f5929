import Derived.Test.YtbifmcadllilhaaGreatPnF
namespace Go.Proofs.YtbifmcadllilhaaGreat.Pn
open Go.RowKit
set_option linter.unusedVariables false
/-- the greatest, the least -/
def isMx (o : List Int) (m : Int) : Prop := m ∈ o ∧ ∀ x ∈ o, x ≤ m
def isMn (o : List Int) (m : Int) : Prop := m ∈ o ∧ ∀ x ∈ o, m ≤ x
theorem isMx.one (x : Int) : isMx [x] x := ⟨by simp, fun y hy => by simp at hy; omega⟩
theorem isMn.one (x : Int) : isMn [x] x := ⟨by simp, fun y hy => by simp at hy; omega⟩
theorem isMx.snoc {o : List Int} {m : Int} (h : isMx o m) (y : Int) : isMx (o ++ [y]) (max m y) := by
  refine ⟨?_, fun x hx => ?_⟩
  · rcases Int.le_total m y with h1 | h1
    · rw [Int.max_eq_right h1]; simp
    · rw [Int.max_eq_left h1]; exact List.mem_append.2 (.inl h.1)
  · rcases List.mem_append.1 hx with hx | hx
    · have := h.2 x hx; omega
    · simp at hx; omega
theorem isMn.snoc {o : List Int} {m : Int} (h : isMn o m) (y : Int) : isMn (o ++ [y]) (min m y) := by
  refine ⟨?_, fun x hx => ?_⟩
  · rcases Int.le_total m y with h1 | h1
    · rw [Int.min_eq_left h1]; exact List.mem_append.2 (.inl h.1)
    · rw [Int.min_eq_right h1]; simp
  · rcases List.mem_append.1 hx with hx | hx
    · have := h.2 x hx; omega
    · simp at hx; omega
theorem take_more {o : List Int} {i : Nat} {y : Int} (hy : o[i]? = some y) : o.take (i + 1) = o.take i ++ [y] := by rw [List.take_add_one, hy]; rfl
/-- what Max, Min answer -/
def MxR (o : List Int) (e : Ending) : Prop := ∃ m, e = .returned (.int .i64 m) ∧ isMx o m
def MnR (o : List Int) (e : Ending) : Prop := ∃ m, e = .returned (.int .i64 m) ∧ isMn o m
set_option maxRecDepth 100000 in
set_option maxHeartbeats 1000000 in
theorem max29 (w : World) (u : Value) (o : List Int) (h : Ns w u o) (h1 : 1 ≤ o.length) (h2 : o.length ≤ 16) : Calls Tryz.prog 38 #[u] w fun e w' => MxR o e ∧ w' = w := by
  obtain ⟨a, cap, rfl, _, _⟩ := id h
  obtain ⟨N, eN⟩ : ∃ N, o.length = N := ⟨_, rfl⟩
  obtain ⟨x0, hx0⟩ : ∃ x, o[0]? = some x := ⟨_, List.getElem?_eq_getElem (by omega)⟩
  obtain ⟨b, rfl, c0⟩ := h.at_ hx0
  have c0' : w.cell? b = some (.int .i64 x0) := by simpa [Addr.add] using c0
  have HN := hide (And.intro h (And.intro eN hx0))
  rw [eN] at h1 h2 ⊢
  have hNI : (N : Int) ≤ 16 := by omega
  have hN1 : (1 : Int) ≤ (N : Int) := by omega
  have hN0 : (0 : Int) < (N : Int) := by omega
  have dN : decide ((N : Int) < 1) = false := by simp; omega
  clear h eN hx0
  go_enter Tryz.func38, Tryz.ntmps38
  go_wp2
  clear c0 c0'
  go_loopw [3, 4] (fun mv iv wr => ∃ (i : Nat) (m : Int), iv = .int .i64 (i : Int) ∧ mv = .int .i64 m ∧ 1 ≤ i ∧ i ≤ N ∧ wr = w ∧ Hid (isMx (o.take i) m)) (fun _ iv _ => N - (intOf iv).toNat)
  case atStart => exact ⟨1, x0, rfl, rfl, Nat.le_refl _, h1, rfl, hide (by rw [take_more (i := 0) HN.out.2.2]; exact isMx.one x0)⟩
  case round =>
    obtain ⟨i, m, rfl, rfl, hi1, hi, hw, hI⟩ := hrel
    obtain rfl := hw
    have hi0 : (0 : Int) ≤ (i : Int) := by omega
    by_cases hlt : i < N
    · have hltI : (i : Int) < (N : Int) := by omega
      obtain ⟨y, hy⟩ : ∃ y, o[i]? = some y := ⟨_, List.getElem?_eq_getElem (by rw [HN.out.2.1]; exact hlt)⟩
      obtain ⟨b', e', hc⟩ := HN.out.1.at_ hy
      simp only [Option.some.injEq] at e'
      subst e'
      have HY := hide hy
      have eti : (i : Int).toNat = i := by omega
      clear hy
      go_wp2
      refine ⟨⟨i + 1, max m y, by go_num, by congr 1 <;> (split <;> omega), by omega, by omega, trivial, hide ?_⟩, by simp [intOf]; omega⟩
      rw [take_more HY.out]
      exact hI.out.snoc y
    · have hge : ¬ (i : Int) < (N : Int) := by omega
      have HE : Hid (isMx o m) := hide (by
        have h := hI.out
        rw [List.take_of_length_le (by have := HN.out.2.1; omega)] at h
        exact h)
      go_wp2
      go_ret
      exact ⟨⟨_, rfl, HE.out⟩, rfl⟩
set_option maxRecDepth 100000 in
set_option maxHeartbeats 1000000 in
theorem min54 (w : World) (u : Value) (o : List Int) (h : Ns w u o) (h1 : 1 ≤ o.length) (h2 : o.length ≤ 16) : Calls Tryz.prog 62 #[u] w fun e w' => MnR o e ∧ w' = w := by
  obtain ⟨a, cap, rfl, _, _⟩ := id h
  obtain ⟨N, eN⟩ : ∃ N, o.length = N := ⟨_, rfl⟩
  obtain ⟨x0, hx0⟩ : ∃ x, o[0]? = some x := ⟨_, List.getElem?_eq_getElem (by omega)⟩
  obtain ⟨b, rfl, c0⟩ := h.at_ hx0
  have c0' : w.cell? b = some (.int .i64 x0) := by simpa [Addr.add] using c0
  have HN := hide (And.intro h (And.intro eN hx0))
  rw [eN] at h1 h2 ⊢
  have hNI : (N : Int) ≤ 16 := by omega
  have hN1 : (1 : Int) ≤ (N : Int) := by omega
  have hN0 : (0 : Int) < (N : Int) := by omega
  have dN : decide ((N : Int) < 1) = false := by simp; omega
  clear h eN hx0
  go_enter Tryz.func62, Tryz.ntmps62
  go_wp2
  clear c0 c0'
  go_loopw [3, 4] (fun mv iv wr => ∃ (i : Nat) (m : Int), iv = .int .i64 (i : Int) ∧ mv = .int .i64 m ∧ 1 ≤ i ∧ i ≤ N ∧ wr = w ∧ Hid (isMn (o.take i) m)) (fun _ iv _ => N - (intOf iv).toNat)
  case atStart => exact ⟨1, x0, rfl, rfl, Nat.le_refl _, h1, rfl, hide (by rw [take_more (i := 0) HN.out.2.2]; exact isMn.one x0)⟩
  case round =>
    obtain ⟨i, m, rfl, rfl, hi1, hi, hw, hI⟩ := hrel
    obtain rfl := hw
    have hi0 : (0 : Int) ≤ (i : Int) := by omega
    by_cases hlt : i < N
    · have hltI : (i : Int) < (N : Int) := by omega
      obtain ⟨y, hy⟩ : ∃ y, o[i]? = some y := ⟨_, List.getElem?_eq_getElem (by rw [HN.out.2.1]; exact hlt)⟩
      obtain ⟨b', e', hc⟩ := HN.out.1.at_ hy
      simp only [Option.some.injEq] at e'
      subst e'
      have HY := hide hy
      have eti : (i : Int).toNat = i := by omega
      clear hy
      go_wp2
      refine ⟨⟨i + 1, min m y, by go_num, by congr 1 <;> (split <;> omega), by omega, by omega, trivial, hide ?_⟩, by simp [intOf]; omega⟩
      rw [take_more HY.out]
      exact hI.out.snoc y
    · have hge : ¬ (i : Int) < (N : Int) := by omega
      have HE : Hid (isMn o m) := hide (by
        have h := hI.out
        rw [List.take_of_length_le (by have := HN.out.2.1; omega)] at h
        exact h)
      go_wp2
      go_ret
      exact ⟨⟨_, rfl, HE.out⟩, rfl⟩
end Go.Proofs.YtbifmcadllilhaaGreat.Pn
namespace Go.Proofs.YtbifmcadllilhaaGreat.Pn
open Go.RowKit
set_option linter.unusedVariables false
/-- loads that may be -/
def MBL (o : List Int) : Prop := 1 ≤ o.length ∧ o.length ≤ 16 ∧ ∀ x ∈ o, 0 ≤ x ∧ x ≤ 1073741824
set_option maxHeartbeats 1000000 in
theorem hosts41 (w : World) (n : Int) : Calls Tryz.prog 25 #[.int .i64 n] w fun e w' => Ans (1 ≤ n ∧ n ≤ 16) e ∧ w' = w := by
  by_cases h1 : 1 ≤ n
  · have d1 : decide (n ≥ 1) = true := by simpa using h1
    have H := hide h1
    clear h1
    go_enter Tryz.func25, Tryz.ntmps25
    go_wp2
    go_ret
    exact ⟨⟨_, rfl, by have := H.out; simp [this]⟩, rfl⟩
  · have d1 : decide (n ≥ 1) = false := by simpa using h1
    have H := hide h1
    clear h1
    go_enter Tryz.func25, Tryz.ntmps25
    go_wp2
    go_ret
    exact ⟨⟨_, rfl, by simp; have := H.out; omega⟩, rfl⟩
set_option maxRecDepth 100000 in
set_option maxHeartbeats 1000000 in
theorem mayBe27 (w : World) (u : Value) (o : List Int) (h : Ns w u o) (hN : o.length ≤ 140737488351232) : Calls Tryz.prog 36 #[u] w fun e w' => Ans (MBL o) e ∧ w' = w := by
  obtain ⟨a, cap, rfl, _, _⟩ := id h
  obtain ⟨N, eN⟩ : ∃ N, o.length = N := ⟨_, rfl⟩
  have HO := hosts41 w (N : Int)
  have HN := hide (And.intro h eN)
  rw [eN] at hN ⊢
  clear h eN
  go_enter Tryz.func36, Tryz.ntmps36
  go_wp2_with fail
  refine HO.mono ?_; rintro e w1 ⟨⟨b1, rfl, hb1⟩, hw⟩
  obtain rfl := hw
  have HB := hide hb1
  clear HO hb1
  cases b1 with
  | false =>
    go_wp2
    go_ret
    refine ⟨⟨false, rfl, ?_⟩, rfl⟩
    simp
    rintro ⟨q1, q2, _⟩
    have := HB.out.2 ⟨by have := HN.out.2; omega, by have := HN.out.2; omega⟩
    simp at this
  | true =>
  have hr : 1 ≤ o.length ∧ o.length ≤ 16 := by
    have := HB.out.1 (by simp)
    have := HN.out.2
    omega
  have MI := min54 w1 (.slice a N cap) o (by have q := HN.out.1; rw [HN.out.2] at q; exact q) hr.1 hr.2
  have MA := max29 w1 (.slice a N cap) o (by have q := HN.out.1; rw [HN.out.2] at q; exact q) hr.1 hr.2
  have HR := hide hr
  clear hr
  go_wp2_with fail
  refine MI.mono ?_; rintro e w2 ⟨⟨m, rfl, hm⟩, hw⟩
  obtain rfl := hw
  have HM := hide hm
  clear MI hm
  by_cases h0 : 0 ≤ m
  · have d0 : decide (m ≥ 0) = true := by simpa using h0
    have H0 := hide h0
    clear h0
    go_wp2_with fail
    refine MA.mono ?_; rintro e w3 ⟨⟨M, rfl, hM⟩, hw⟩
    obtain rfl := hw
    have HX := hide hM
    clear MA hM
    go_wp2
    go_ret
    refine ⟨⟨_, rfl, ?_⟩, rfl⟩
    simp only [decide_eq_true_eq]
    refine ⟨fun q => ⟨HR.out.1, HR.out.2, fun x hx => ?_⟩, fun q => (q.2.2 M HX.out.1).2⟩
    have := HM.out.2 x hx
    have := HX.out.2 x hx
    have := H0.out
    omega
  · have d0 : decide (m ≥ 0) = false := by simpa using h0
    have H0 := hide h0
    clear h0 MA
    go_wp2
    go_ret
    refine ⟨⟨false, rfl, ?_⟩, rfl⟩
    simp
    intro q
    have q1 := (q.2.2 m HM.out.1).1
    have := H0.out
    omega
theorem sum_snoc (o : List Int) (y : Int) : (o ++ [y]).sum = o.sum + y := by simp
theorem sum_bound {o : List Int} : ∀ (h : ∀ x ∈ o, 0 ≤ x ∧ x ≤ 1073741824), 0 ≤ o.sum ∧ o.sum ≤ (o.length : Int) * 1073741824 := by
  induction o with
  | nil => intro _; simp
  | cons x o ih =>
    intro h
    have h1 := h x (by simp)
    have h2 := ih (fun y hy => h y (by simp [hy]))
    simp only [List.sum_cons, List.length_cons]
    omega
theorem sum_take {o : List Int} (h : ∀ x ∈ o, 0 ≤ x ∧ x ≤ 1073741824) (h2 : o.length ≤ 16) (i : Nat) : 0 ≤ (o.take i).sum ∧ (o.take i).sum ≤ 17179869184 := by
  have := sum_bound (o := o.take i) (fun x hx => h x (List.mem_of_mem_take hx))
  rw [List.length_take] at this
  omega
set_option maxRecDepth 100000 in
set_option maxHeartbeats 1000000 in
theorem total28 (w : World) (u : Value) (o : List Int) (h : Ns w u o) (hm : MBL o) : Calls Tryz.prog 37 #[u] w fun e w' => e = .returned (.int .i64 o.sum) ∧ w' = w := by
  obtain ⟨a, cap, rfl, _, _⟩ := id h
  obtain ⟨N, eN⟩ : ∃ N, o.length = N := ⟨_, rfl⟩
  have HN := hide (And.intro h (And.intro eN hm))
  have hNI : (N : Int) ≤ 16 := by have := hm.2.1; omega
  rw [eN]
  clear h eN hm
  go_enter Tryz.func37, Tryz.ntmps37
  go_wp2
  go_loopw [3, 8] (fun sv iv wr => ∃ (i : Nat) (s : Int), iv = .int .i64 (i : Int) ∧ sv = .int .i64 s ∧ i ≤ N ∧ wr = w ∧ Hid (s = (o.take i).sum)) (fun _ iv _ => N - (intOf iv).toNat)
  case atStart => exact ⟨0, 0, rfl, rfl, Nat.zero_le _, rfl, hide (by simp)⟩
  case round =>
    obtain ⟨i, s, rfl, rfl, hi, hw, hI⟩ := hrel
    obtain rfl := hw
    have hi0 : (0 : Int) ≤ (i : Int) := by omega
    by_cases hlt : i < N
    · have hltI : (i : Int) < (N : Int) := by omega
      obtain ⟨y, hy⟩ : ∃ y, o[i]? = some y := ⟨_, List.getElem?_eq_getElem (by rw [HN.out.2.1]; exact hlt)⟩
      obtain ⟨b', e', hc⟩ := HN.out.1.at_ hy
      subst e'
      have hs := sum_take HN.out.2.2.2.2 HN.out.2.2.2.1 i
      have hs2 := sum_take HN.out.2.2.2.2 HN.out.2.2.2.1 (i + 1)
      rw [take_more hy, sum_snoc] at hs2
      rw [← hI.out] at hs hs2
      have ew : IntKind.i64.wrap (s + y) = s + y := by rw [IntKind.wrap_i64]; omega
      have ew2 : wrap64 (s + y) = s + y := by unfold wrap64; omega
      have HY := hide hy
      have eti : (i : Int).toNat = i := by omega
      clear hy hs hs2
      go_wp2
      refine ⟨⟨i + 1, s + y, by go_num, by first | rfl | (congr 1), by omega, trivial, hide ?_⟩, by simp [intOf]; omega⟩
      rw [take_more HY.out, sum_snoc, hI.out]
    · have hge : ¬ (i : Int) < (N : Int) := by omega
      have HE : Hid (s = o.sum) := hide (by
        have h := hI.out
        rw [List.take_of_length_le (by have := HN.out.2.1; omega)] at h
        exact h)
      go_wp2
      go_ret
      have q := HE.out
      exact ⟨by first | exact q | (simp [q]), rfl⟩
/-- what Total answers -/
def TtR (o : List Int) (e : Ending) : Prop := ∃ t, e = .returned (.int .i64 t) ∧ (MBL o ∧ t = o.sum ∨ ¬ MBL o ∧ t = -1)
end Go.Proofs.YtbifmcadllilhaaGreat.Pn
