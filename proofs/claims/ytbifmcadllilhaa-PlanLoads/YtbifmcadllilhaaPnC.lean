import Derived.Test.YtbifmcadllilhaaPnB
namespace Go.Proofs.Ytbifmcadllilhaa.Pn
open Go.RowKit
set_option linter.unusedVariables false
/-- loads that may be -/
def MBL (o : List Int) : Prop := 1 ≤ o.length ∧ o.length ≤ 16 ∧ ∀ x ∈ o, 0 ≤ x ∧ x ≤ 1073741824
set_option maxHeartbeats 1000000 in
theorem hosts41 (w : World) (n : Int) : Calls Try.prog 41 #[.int .i64 n] w fun e w' => Ans (1 ≤ n ∧ n ≤ 16) e ∧ w' = w := by
  by_cases h1 : 1 ≤ n
  · have d1 : decide (n ≥ 1) = true := by simpa using h1
    have H := hide h1
    clear h1
    go_enter Try.func41, Try.ntmps41
    go_wp2
    go_ret
    exact ⟨⟨_, rfl, by have := H.out; simp [this]⟩, rfl⟩
  · have d1 : decide (n ≥ 1) = false := by simpa using h1
    have H := hide h1
    clear h1
    go_enter Try.func41, Try.ntmps41
    go_wp2
    go_ret
    exact ⟨⟨_, rfl, by simp; have := H.out; omega⟩, rfl⟩
set_option maxRecDepth 100000 in
set_option maxHeartbeats 1000000 in
theorem mayBe27 (w : World) (u : Value) (o : List Int) (h : Ns w u o) (hN : o.length ≤ 140737488351232) : Calls Try.prog 27 #[u] w fun e w' => Ans (MBL o) e ∧ w' = w := by
  obtain ⟨a, cap, rfl, _, _⟩ := id h
  obtain ⟨N, eN⟩ : ∃ N, o.length = N := ⟨_, rfl⟩
  have HO := hosts41 w (N : Int)
  have HN := hide (And.intro h eN)
  rw [eN] at hN ⊢
  clear h eN
  go_enter Try.func27, Try.ntmps27
  go_wp2_with fail
  refine HO.mono ?_; rintro e w1 ⟨⟨b1, rfl, hb1⟩, hw⟩
  obtain rfl := hw
  have HB := hide hb1
  clear HO hb1
  cases b1 with
  | false =>
    go_wp2
    go_ret
    refine ⟨⟨false, rfl, ?_⟩, rfl⟩
    simp
    rintro ⟨q1, q2, _⟩
    have := HB.out.2 ⟨by have := HN.out.2; omega, by have := HN.out.2; omega⟩
    simp at this
  | true =>
  have hr : 1 ≤ o.length ∧ o.length ≤ 16 := by
    have := HB.out.1 (by simp)
    have := HN.out.2
    omega
  have MI := min54 w1 (.slice a N cap) o (by have q := HN.out.1; rw [HN.out.2] at q; exact q) hr.1 hr.2
  have MA := max29 w1 (.slice a N cap) o (by have q := HN.out.1; rw [HN.out.2] at q; exact q) hr.1 hr.2
  have HR := hide hr
  clear hr
  go_wp2_with fail
  refine MI.mono ?_; rintro e w2 ⟨⟨m, rfl, hm⟩, hw⟩
  obtain rfl := hw
  have HM := hide hm
  clear MI hm
  by_cases h0 : 0 ≤ m
  · have d0 : decide (m ≥ 0) = true := by simpa using h0
    have H0 := hide h0
    clear h0
    go_wp2_with fail
    refine MA.mono ?_; rintro e w3 ⟨⟨M, rfl, hM⟩, hw⟩
    obtain rfl := hw
    have HX := hide hM
    clear MA hM
    go_wp2
    go_ret
    refine ⟨⟨_, rfl, ?_⟩, rfl⟩
    simp only [decide_eq_true_eq]
    refine ⟨fun q => ⟨HR.out.1, HR.out.2, fun x hx => ?_⟩, fun q => (q.2.2 M HX.out.1).2⟩
    have := HM.out.2 x hx
    have := HX.out.2 x hx
    have := H0.out
    omega
  · have d0 : decide (m ≥ 0) = false := by simpa using h0
    have H0 := hide h0
    clear h0 MA
    go_wp2
    go_ret
    refine ⟨⟨false, rfl, ?_⟩, rfl⟩
    simp
    intro q
    have q1 := (q.2.2 m HM.out.1).1
    have := H0.out
    omega
theorem sum_snoc (o : List Int) (y : Int) : (o ++ [y]).sum = o.sum + y := by simp
theorem sum_bound {o : List Int} : ∀ (h : ∀ x ∈ o, 0 ≤ x ∧ x ≤ 1073741824), 0 ≤ o.sum ∧ o.sum ≤ (o.length : Int) * 1073741824 := by
  induction o with
  | nil => intro _; simp
  | cons x o ih =>
    intro h
    have h1 := h x (by simp)
    have h2 := ih (fun y hy => h y (by simp [hy]))
    simp only [List.sum_cons, List.length_cons]
    omega
theorem sum_take {o : List Int} (h : ∀ x ∈ o, 0 ≤ x ∧ x ≤ 1073741824) (h2 : o.length ≤ 16) (i : Nat) : 0 ≤ (o.take i).sum ∧ (o.take i).sum ≤ 17179869184 := by
  have := sum_bound (o := o.take i) (fun x hx => h x (List.mem_of_mem_take hx))
  rw [List.length_take] at this
  omega
set_option maxRecDepth 100000 in
set_option maxHeartbeats 1000000 in
theorem total28 (w : World) (u : Value) (o : List Int) (h : Ns w u o) (hm : MBL o) : Calls Try.prog 28 #[u] w fun e w' => e = .returned (.int .i64 o.sum) ∧ w' = w := by
  obtain ⟨a, cap, rfl, _, _⟩ := id h
  obtain ⟨N, eN⟩ : ∃ N, o.length = N := ⟨_, rfl⟩
  have HN := hide (And.intro h (And.intro eN hm))
  have hNI : (N : Int) ≤ 16 := by have := hm.2.1; omega
  rw [eN]
  clear h eN hm
  go_enter Try.func28, Try.ntmps28
  go_wp2
  go_loopw [3, 8] (fun sv iv wr => ∃ (i : Nat) (s : Int), iv = .int .i64 (i : Int) ∧ sv = .int .i64 s ∧ i ≤ N ∧ wr = w ∧ Hid (s = (o.take i).sum)) (fun _ iv _ => N - (intOf iv).toNat)
  case atStart => exact ⟨0, 0, rfl, rfl, Nat.zero_le _, rfl, hide (by simp)⟩
  case round =>
    obtain ⟨i, s, rfl, rfl, hi, hw, hI⟩ := hrel
    obtain rfl := hw
    have hi0 : (0 : Int) ≤ (i : Int) := by omega
    by_cases hlt : i < N
    · have hltI : (i : Int) < (N : Int) := by omega
      obtain ⟨y, hy⟩ : ∃ y, o[i]? = some y := ⟨_, List.getElem?_eq_getElem (by rw [HN.out.2.1]; exact hlt)⟩
      obtain ⟨b', e', hc⟩ := HN.out.1.at_ hy
      subst e'
      have hs := sum_take HN.out.2.2.2.2 HN.out.2.2.2.1 i
      have hs2 := sum_take HN.out.2.2.2.2 HN.out.2.2.2.1 (i + 1)
      rw [take_more hy, sum_snoc] at hs2
      rw [← hI.out] at hs hs2
      have ew : IntKind.i64.wrap (s + y) = s + y := by rw [IntKind.wrap_i64]; omega
      have ew2 : wrap64 (s + y) = s + y := by unfold wrap64; omega
      have HY := hide hy
      have eti : (i : Int).toNat = i := by omega
      clear hy hs hs2
      go_wp2
      refine ⟨⟨i + 1, s + y, by go_num, by first | rfl | (congr 1), by omega, trivial, hide ?_⟩, by simp [intOf]; omega⟩
      rw [take_more HY.out, sum_snoc, hI.out]
    · have hge : ¬ (i : Int) < (N : Int) := by omega
      have HE : Hid (s = o.sum) := hide (by
        have h := hI.out
        rw [List.take_of_length_le (by have := HN.out.2.1; omega)] at h
        exact h)
      go_wp2
      go_ret
      have q := HE.out
      exact ⟨by first | exact q | (simp [q]), rfl⟩
/-- what Total answers -/
def TtR (o : List Int) (e : Ending) : Prop := ∃ t, e = .returned (.int .i64 t) ∧ (MBL o ∧ t = o.sum ∨ ¬ MBL o ∧ t = -1)
set_option maxRecDepth 100000 in
set_option maxHeartbeats 2000000 in
theorem total30 (w : World) (u : Value) (o : List Int) (h : Ns w u o) (hN : o.length ≤ 140737488351232) : Calls Try.prog 30 #[u] w fun e w' => TtR o e ∧ w' = w := by
  obtain ⟨a, cap, rfl, _, _⟩ := id h
  obtain ⟨N, eN⟩ : ∃ N, o.length = N := ⟨_, rfl⟩
  have HN := hide (And.intro h eN)
  rw [eN] at hN ⊢
  have hNI : (N : Int) ≤ 140737488351232 := by omega
  clear h eN
  by_cases h1 : N < 1
  · have d1 : decide ((N : Int) < 1) = true := by simp; omega
    have H1 := hide h1
    clear h1
    go_enter Try.func30, Try.ntmps30
    go_wp2
    go_ret
    exact ⟨⟨_, rfl, .inr ⟨fun q => by have := q.1; have := HN.out.2; have := H1.out; omega, rfl⟩⟩, rfl⟩
  have d1 : decide ((N : Int) < 1) = false := by simp; omega
  by_cases h2 : 16 < N
  · have d2 : decide ((N : Int) > 16) = true := by simp; omega
    have H1 := hide h2
    clear h1 h2
    go_enter Try.func30, Try.ntmps30
    go_wp2
    go_ret
    exact ⟨⟨_, rfl, .inr ⟨fun q => by have := q.2.1; have := HN.out.2; have := H1.out; omega, rfl⟩⟩, rfl⟩
  have d2 : decide ((N : Int) > 16) = false := by simp; omega
  have HR : Hid (1 ≤ o.length ∧ o.length ≤ 16) := hide (by have := HN.out.2; omega)
  have hN16 : (N : Int) ≤ 16 := by omega
  clear h1 h2 hNI hN
  go_enter Try.func30, Try.ntmps30
  go_wp2
  go_loopw [3, 4] (fun sv iv wr => ∃ (i : Nat) (s : Int), iv = .int .i64 (i : Int) ∧ sv = .int .i64 s ∧ i ≤ N ∧ wr = w ∧ Hid (s = (o.take i).sum ∧ ∀ x ∈ o.take i, 0 ≤ x ∧ x ≤ 1073741824)) (fun _ iv _ => N - (intOf iv).toNat)
  case atStart => exact ⟨0, 0, rfl, rfl, Nat.zero_le _, rfl, hide ⟨by simp, fun x hx => by simp at hx⟩⟩
  case round =>
    obtain ⟨i, s, rfl, rfl, hi, hw, hI⟩ := hrel
    obtain rfl := hw
    have hi0 : (0 : Int) ≤ (i : Int) := by omega
    by_cases hlt : i < N
    · have hltI : (i : Int) < (N : Int) := by omega
      obtain ⟨y, hy⟩ : ∃ y, o[i]? = some y := ⟨_, List.getElem?_eq_getElem (by rw [HN.out.2]; exact hlt)⟩
      obtain ⟨b', e', hc⟩ := HN.out.1.at_ hy
      subst e'
      have HY := hide hy
      have eti : (i : Int).toNat = i := by omega
      have bad : ¬ (0 ≤ y ∧ y ≤ 1073741824) → ¬ MBL o := fun q r => q (r.2.2 y (List.mem_of_getElem? hy))
      have HBad := hide bad
      clear hy bad
      by_cases hy0 : y < 0
      · have e0 : decide (y < 0) = true := by simpa using hy0
        have H0 := hide hy0
        clear hy0
        go_wp2
        go_ret
        exact ⟨⟨_, rfl, .inr ⟨HBad.out (by have := H0.out; omega), rfl⟩⟩, rfl⟩
      have e0 : decide (y < 0) = false := by simpa using hy0
      by_cases hy1 : y > 1073741824
      · have e1 : decide (y > 1073741824) = true := by simpa using hy1
        have H0 := hide hy1
        clear hy0 hy1
        go_wp2
        go_ret
        exact ⟨⟨_, rfl, .inr ⟨HBad.out (by have := H0.out; omega), rfl⟩⟩, rfl⟩
      have e1 : decide (y > 1073741824) = false := by simpa using hy1
      have HG : Hid (0 ≤ y ∧ y ≤ 1073741824) := hide (by omega)
      have hall : ∀ x ∈ o.take (i + 1), 0 ≤ x ∧ x ≤ 1073741824 := by
        rw [take_more HY.out]
        intro x hx
        rcases List.mem_append.1 hx with hx | hx
        · exact hI.out.2 x hx
        · simp at hx; rw [hx]; exact HG.out
      have hb := sum_bound hall
      rw [List.length_take, take_more HY.out, sum_snoc, ← hI.out.1] at hb
      have hb2 := sum_bound hI.out.2
      rw [List.length_take, ← hI.out.1] at hb2
      have hlo := HR.out
      have ew : IntKind.i64.wrap (s + y) = s + y := by rw [IntKind.wrap_i64]; omega
      have ew2 : wrap64 (s + y) = s + y := by unfold wrap64; omega
      have HA := hide hall
      clear hy0 hy1 hall hb hb2 hlo
      go_wp2
      refine ⟨⟨i + 1, s + y, by go_num, by first | rfl | (congr 1), by omega, trivial, hide ⟨?_, HA.out⟩⟩, by simp [intOf]; omega⟩
      rw [take_more HY.out, sum_snoc, hI.out.1]
    · have hge : ¬ (i : Int) < (N : Int) := by omega
      have HE : Hid (s = o.sum ∧ MBL o) := hide (by
        have h := hI.out
        rw [List.take_of_length_le (by have := HN.out.2; omega)] at h
        exact ⟨h.1, HR.out.1, HR.out.2, h.2⟩)
      go_wp2
      go_ret
      exact ⟨⟨_, rfl, .inl ⟨HE.out.2, HE.out.1⟩⟩, rfl⟩
end Go.Proofs.Ytbifmcadllilhaa.Pn
