import Derived.Test.YtbifmcadllilhaaPnC
namespace Go.Proofs.Ytbifmcadllilhaa.Pn
open Go.RowKit
set_option linter.unusedVariables false
theorem isMx.unique {o : List Int} {a b : Int} (h : isMx o a) (k : isMx o b) : a = b := by
  have h1 := h.2 b k.1
  have h2 := k.2 a h.1
  omega
/-- what Skew answers -/
def SkR (o : List Int) (e : Ending) : Prop :=
  (¬ MBL o ∧ e = .returned (.tuple #[.float .f64 0, .int .i64 150])) ∨ (MBL o ∧ o.sum = 0 ∧ e = .returned (.tuple #[.float .f64 4607182418800017408, .int .i64 0])) ∨
  (MBL o ∧ 0 < o.sum ∧ ∃ m r, isMx o m ∧ floatBits .quo .f64 (floatOfInt .f64 (m * (o.length : Int))) (floatOfInt .f64 o.sum) = some r ∧ FloatKind.f64.format.order r r = some .eq ∧ e = .returned (.tuple #[.float .f64 r, .int .i64 0]))
set_option maxRecDepth 100000 in
set_option maxHeartbeats 1000000 in
theorem skew9 (w : World) (u : Value) (o : List Int) (h : Ns w u o) (hN : o.length ≤ 140737488351232) : Calls Try.prog 9 #[u] w fun e w' => SkR o e ∧ w' = w := by
  have MB := mayBe27 w u o h hN
  have TO := total28 w u o h
  have MX := max29 w u o h
  obtain ⟨a, cap, rfl, _, _⟩ := id h
  obtain ⟨N, eN⟩ : ∃ N, o.length = N := ⟨_, rfl⟩
  have HN := hide (And.intro h (And.intro eN (And.intro TO MX)))
  rw [eN] at MB ⊢
  clear h hN eN TO MX
  go_enter Try.func9, Try.ntmps9
  go_wp2_with fail
  refine MB.mono ?_; rintro e w1 ⟨⟨b1, rfl, hb1⟩, hw⟩
  obtain rfl := hw
  have HB := hide hb1
  clear MB hb1
  cases b1 with
  | false =>
    go_wp2
    go_ret2
    exact ⟨.inl ⟨fun q => by have := HB.out.2 q; simp at this, rfl⟩, rfl⟩
  | true =>
  have hm : MBL o := HB.out.1 (by simp)
  have T := HN.out.2.2.1 hm
  have M := HN.out.2.2.2 hm.1 hm.2.1
  rw [HN.out.2.1] at T M
  have HM := hide hm
  obtain ⟨S, eS⟩ : ∃ S, o.sum = S := ⟨_, rfl⟩
  have HS := hide eS
  rw [eS] at T
  clear hm eS
  go_wp2_with fail
  refine T.mono ?_; rintro e w2 ⟨rfl, hw⟩
  obtain rfl := hw
  clear T
  by_cases h0 : S = 0
  · have e0 : (S == 0) = true := by simpa using h0
    have H0 := hide h0
    clear h0 M
    go_wp2
    go_ret2
    exact ⟨.inr (.inl ⟨HM.out, by rw [HS.out]; exact H0.out, rfl⟩), rfl⟩
  have e0 : (S == 0) = false := by simpa using h0
  have H0 := hide h0
  clear h0
  go_wp2_with fail
  refine M.mono ?_; rintro e w3 ⟨⟨m, rfl, hm⟩, hw⟩
  obtain rfl := hw
  have hb := sum_bound HM.out.2.2
  rw [HS.out] at hb
  have hl := HM.out.2.1
  have hl1 := HM.out.1
  have hmb := HM.out.2.2 m hm.1
  have hn0 := H0.out
  rw [HN.out.2.1] at hl hl1 hb
  have hmn : 0 ≤ m * (N : Int) ∧ m * (N : Int) ≤ 17179869184 := by
    refine ⟨Int.mul_nonneg hmb.1 (by omega), ?_⟩
    have h1 : m * (N : Int) ≤ 1073741824 * (N : Int) := Int.mul_le_mul_of_nonneg_right hmb.2 (by omega)
    omega
  obtain ⟨r, hr, hrr⟩ := quo_ok (m * (N : Int)) S hmn.1 (by omega) (by omega) (by omega)
  have hq : ∀ W, (binOp .quo 23 (.float .f64 (floatOfInt .f64 (m * (N : Int)))) (.float .f64 (floatOfInt .f64 S))).run Try.prog W = .ok (.float .f64 r) W := fun W => run_float_arith W _ _ _ _ _ _ hr
  have ew : IntKind.i64.wrap (m * (N : Int)) = m * (N : Int) := by rw [IntKind.wrap_i64]; omega
  have ew2 : wrap64 (m * (N : Int)) = m * (N : Int) := by unfold wrap64; omega
  have HR := hide (And.intro hm (And.intro hr (And.intro hrr (by omega : 0 < S))))
  clear M hm hb hl hl1 hmb hn0 hmn hr hrr
  go_wp2
  go_ret2
  refine ⟨.inr (.inr ⟨HM.out, by rw [HS.out]; exact HR.out.2.2.2, m, r, HR.out.1, ?_, HR.out.2.2.1, rfl⟩), rfl⟩
  rw [HN.out.2.1, HS.out]
  exact HR.out.2.1
/-- what the document's Skew answers -/
def RkR (o : List Int) (e : Ending) : Prop :=
  (¬ MBL o ∧ e = .returned (.tuple #[.int .i64 0, .int .i64 1, .int .i64 150])) ∨ (MBL o ∧ o.sum = 0 ∧ e = .returned (.tuple #[.int .i64 1, .int .i64 1, .int .i64 0])) ∨
  (MBL o ∧ 0 < o.sum ∧ ∃ m, isMx o m ∧ e = .returned (.tuple #[.int .i64 (m * (o.length : Int)), .int .i64 o.sum, .int .i64 0]))
/-- the greatest so far, 0 at least -/
structure Tp (o : List Int) (i : Nat) (t : Int) : Prop where
  ge : 0 ≤ t
  le : ∀ x ∈ o.take i, x ≤ t
  is : t = 0 ∨ t ∈ o.take i
theorem Tp.done {o : List Int} {i : Nat} {t : Int} (h : Tp o i t) (hi : o.length ≤ i) (hm : MBL o) : isMx o t := by
  have h1 := h.le
  have h2 := h.is
  rw [List.take_of_length_le hi] at h1 h2
  refine ⟨?_, h1⟩
  rcases h2 with h2 | h2
  · cases o with
    | nil => have := hm.1; simp at this
    | cons x o =>
      have q1 := h1 x (by simp)
      have q2 := (hm.2.2 x (by simp)).1
      have : t = x := by omega
      rw [this]
      simp
  · exact h2
set_option maxRecDepth 100000 in
set_option maxHeartbeats 1000000 in
theorem skew10 (w : World) (u : Value) (o : List Int) (h : Ns w u o) (hN : o.length ≤ 140737488351232) : Calls Try.prog 10 #[u] w fun e w' => RkR o e ∧ w' = w := by
  have TO := total30 w u o h hN
  obtain ⟨a, cap, rfl, _, _⟩ := id h
  obtain ⟨N, eN⟩ : ∃ N, o.length = N := ⟨_, rfl⟩
  have HN := hide (And.intro h eN)
  rw [eN] at TO ⊢
  clear h hN eN
  go_enter Try.func10, Try.ntmps10
  go_wp2_with fail
  refine TO.mono ?_; rintro e w1 ⟨⟨S, rfl, hS⟩, hw⟩
  obtain rfl := hw
  clear TO
  rcases hS with ⟨hm, rfl⟩ | ⟨hm, rfl⟩
  rotate_left
  · have HM := hide hm
    clear hm
    go_wp2
    go_ret3
    exact ⟨.inl ⟨HM.out, rfl⟩, rfl⟩
  obtain ⟨S, eS⟩ : ∃ S, o.sum = S := ⟨_, rfl⟩
  have hb := sum_bound hm.2.2
  rw [eS] at hb
  have hl := hm.2.1
  have HM := hide (And.intro hm eS)
  rw [HN.out.2] at hl hb
  have d0 : decide (S < 0) = false := by simp; omega
  rw [eS]
  by_cases h0 : S = 0
  · have e0 : (S == 0) = true := by simpa using h0
    have H0 := hide h0
    clear h0 hm eS hb
    go_wp2
    go_ret3
    exact ⟨.inr (.inl ⟨HM.out.1, by rw [HM.out.2]; exact H0.out, rfl⟩), rfl⟩
  have e0 : (S == 0) = false := by simpa using h0
  have H0 : Hid (0 < S) := hide (by omega)
  have hNI : (N : Int) ≤ 16 := by omega
  clear h0 hm eS hb hl
  go_wp2
  go_loopw [6, 7] (fun tv iv wr => ∃ (i : Nat) (t : Int), iv = .int .i64 (i : Int) ∧ tv = .int .i64 t ∧ i ≤ N ∧ wr = w1 ∧ Hid (Tp o i t)) (fun _ iv _ => N - (intOf iv).toNat)
  case atStart => exact ⟨0, 0, rfl, rfl, Nat.zero_le _, rfl, hide ⟨by omega, fun x hx => by simp at hx, .inl rfl⟩⟩
  case round =>
    obtain ⟨i, t, rfl, rfl, hi, hw, hI⟩ := hrel
    obtain rfl := hw
    have hi0 : (0 : Int) ≤ (i : Int) := by omega
    by_cases hlt : i < N
    · have hltI : (i : Int) < (N : Int) := by omega
      obtain ⟨y, hy⟩ : ∃ y, o[i]? = some y := ⟨_, List.getElem?_eq_getElem (by rw [HN.out.2]; exact hlt)⟩
      obtain ⟨b', e', hc⟩ := HN.out.1.at_ hy
      subst e'
      have HY := hide hy
      have eti : (i : Int).toNat = i := by omega
      clear hy
      by_cases hyt : y > t
      · have d1 : decide (y > t) = true := by simpa using hyt
        have H1 := hide hyt
        clear hyt
        go_wp2
        refine ⟨⟨i + 1, y, by go_num, rfl, by omega, trivial, hide ⟨?_, fun x hx => ?_, ?_⟩⟩, by simp [intOf]; omega⟩
        · have := hI.out.ge; have := H1.out; omega
        · rw [take_more HY.out] at hx
          rcases List.mem_append.1 hx with hx | hx
          · have := hI.out.le x hx; have := H1.out; omega
          · simp at hx; omega
        · rw [take_more HY.out]; exact .inr (by simp)
      · have d1 : decide (y > t) = false := by simpa using hyt
        have H1 := hide hyt
        clear hyt
        go_wp2
        refine ⟨⟨i + 1, t, by go_num, rfl, by omega, trivial, hide ⟨hI.out.ge, fun x hx => ?_, ?_⟩⟩, by simp [intOf]; omega⟩
        · rw [take_more HY.out] at hx
          rcases List.mem_append.1 hx with hx | hx
          · exact hI.out.le x hx
          · simp at hx; have := H1.out; omega
        · rw [take_more HY.out]; exact hI.out.is.imp id (fun q => List.mem_append.2 (.inl q))
    · have hge : ¬ (i : Int) < (N : Int) := by omega
      have hmx := hI.out.done (by rw [HN.out.2]; omega) HM.out.1
      have hmb := HM.out.1.2.2 t hmx.1
      have hmn : 0 ≤ t * (N : Int) ∧ t * (N : Int) ≤ 17179869184 := by
        refine ⟨Int.mul_nonneg hmb.1 (by omega), ?_⟩
        have h1 : t * (N : Int) ≤ 1073741824 * (N : Int) := Int.mul_le_mul_of_nonneg_right hmb.2 (by omega)
        omega
      have ew : IntKind.i64.wrap (t * (N : Int)) = t * (N : Int) := by rw [IntKind.wrap_i64]; omega
      have ew2 : wrap64 (t * (N : Int)) = t * (N : Int) := by unfold wrap64; omega
      have HX := hide hmx
      clear hmx hmb hmn
      go_wp2
      go_ret3
      refine ⟨.inr (.inr ⟨HM.out.1, by rw [HM.out.2]; exact H0.out, t, HX.out, ?_⟩), rfl⟩
      rw [HN.out.2, HM.out.2]
      rfl
end Go.Proofs.Ytbifmcadllilhaa.Pn
