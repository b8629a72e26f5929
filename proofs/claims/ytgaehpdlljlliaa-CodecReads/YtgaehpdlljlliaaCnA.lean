import Derived.Test.YtgaehpdlljlliaaCrG
namespace Go.Proofs.Ytgaehpdlljlliaa.Cd
open Go.RowKit
set_option linter.unusedVariables false

theorem be_numF (ys : List Int) (h : Byt ys) : ∀ (a : Int), 0 ≤ a → be ys.length (numF a ys).toNat = ys ∧ (numF a ys).toNat / 256 ^ ys.length = a.toNat := by
  induction ys with
  | nil => intro a h0; simp [be, numF]
  | cons c r ih =>
    intro a h0
    obtain ⟨c0, c1⟩ := h c (by simp)
    obtain ⟨h1, h2⟩ := ih (fun z hz => h z (by simp [hz])) (a * 256 + c) (by omega)
    rw [List.length_cons, be, numF]
    refine ⟨?_, ?_⟩
    · rw [h1, h2]
      congr 1
      omega
    · rw [Nat.pow_succ, ← Nat.div_div_eq_div_mul, h2]
      omega

theorem be_back {ys : List Int} (h : Byt ys) : be ys.length (numF 0 ys).toNat = ys := (be_numF ys h 0 (by omega)).1

theorem gv_canon (xs : List Int) : ∀ (i : Nat) (a : Int), i ≤ 9 → Byt xs → (gv i a xs).2.2 = 0 → ∃ (y : Nat) (rest : List Int), (gv i a xs).1 = a + (y : Int) * 128 ^ i ∧ xs = vi (10 - i) y ++ rest ∧ (gv i a xs).2.1 = (i : Int) + ((vi (10 - i) y).length : Int) ∧ (0 < i → y ≠ 0) := by
  induction xs with
  | nil => intro i a _ _ h; simp [gv] at h
  | cons c r ih =>
    intro i a hi hB h
    obtain ⟨c0, c1⟩ := hB c (by simp)
    rw [gv] at h ⊢
    split at h
    · simp at h
    · rename_i h9
      rw [if_neg h9]
      split at h
      · rename_i h128
        rw [if_pos h128]
        have hi8 : i ≤ 8 := by omega
        obtain ⟨y', rest, e1, e2, e3, e4⟩ := ih (i + 1) _ (by omega) (fun z hz => hB z (by simp [hz])) h
        have hy' := e4 (by omega)
        obtain ⟨C, rfl⟩ := Int.eq_ofNat_of_zero_le c0
        have hd : (C % 128 + 128 * y') / 128 = y' := by omega
        have hm : (C % 128 + 128 * y') % 128 + 128 = C := by omega
        have hvi : vi (10 - i) (C % 128 + 128 * y') = (C : Int) :: vi (10 - (i + 1)) y' := by
          rw [show 10 - i = (10 - (i + 1)) + 1 by omega, vi, if_neg (by omega), hd, hm]
        refine ⟨C % 128 + 128 * y', rest, ?_, ?_, ?_, by omega⟩
        · rw [e1, Int.pow_succ]
          have : (((C % 128 + 128 * y' : Nat)) : Int) = (C : Int) % 128 + 128 * (y' : Int) := by omega
          rw [this, Int.add_mul, Int.add_assoc]
          congr 2
          rw [Int.mul_comm ((128 : Int) ^ i) 128, ← Int.mul_assoc, Int.mul_comm (y' : Int) 128]
        · rw [hvi, List.cons_append, ← e2]
        · rw [e3, hvi, List.length_cons]
          omega
      · rename_i h128
        rw [if_neg h128]
        split at h
        · simp at h
        · rename_i h0
          rw [if_neg h0]
          obtain ⟨C, rfl⟩ := Int.eq_ofNat_of_zero_le c0
          have hvi : vi (10 - i) C = [(C : Int)] := by
            rw [show 10 - i = (9 - i) + 1 by omega, vi, if_pos (by omega)]
          refine ⟨C, r, ?_, ?_, ?_, ?_⟩
          · have : (C : Int) % 128 = (C : Int) := by omega
            rw [this]
          · rw [hvi]; rfl
          · rw [hvi]; rfl
          · intro hi0 hC
            exact h0 ⟨by rw [hC]; rfl, hi0⟩

theorem gv_back {xs : List Int} (hB : Byt xs) (h : (gv 0 0 xs).2.2 = 0) : va (gv 0 0 xs).1.toNat ++ xs.drop (gv 0 0 xs).2.1.toNat = xs := by
  obtain ⟨y, rest, e1, e2, e3, _⟩ := gv_canon xs 0 0 (by omega) hB h
  have e4 : (gv 0 0 xs).1.toNat = y := by rw [e1]; simp
  have e5 : (gv 0 0 xs).2.1.toNat = (va y).length := by rw [e3]; simp [va]
  rw [e4, e5]
  have e6 : xs = va y ++ rest := e2
  conv => lhs; rw [e6]
  rw [List.drop_append_of_le_length (Nat.le_refl _), List.drop_of_length_le (Nat.le_refl _), List.nil_append, ← e6]

theorem zz_uz {x : Int} (h : 0 ≤ x) : zz (uz x) = x := by
  unfold uz
  split
  · unfold zz; rw [if_pos (by omega)]; omega
  · unfold zz; rw [if_neg (by omega)]; omega

/-- what is read without an error, laid down again, is what was read -/
theorem tk_canon (kind n : Int) (xs : List Int) (u : Value) (hB : Byt xs) (hT : isT kind = true) (h : (tk kind n 0 xs).err = 0) :
    tb ⟨kind, (tk kind n 0 xs).N, (tk kind n 0 xs).I, (tk kind n 0 xs).F, u, (tk kind n 0 xs).bs⟩ ++ (tk kind n 0 xs).xs = xs := by
  obtain ⟨hk1, hk9⟩ := (isT_iff _).1 hT
  have num : ∀ m, (rdN m 0 xs).2.1 = 0 → be m (rdN m 0 xs).1.toNat ++ (rdN m 0 xs).2.2 = xs := by
    intro m hm
    unfold rdN at hm ⊢
    rw [if_pos rfl] at hm ⊢
    split at hm
    · simp at hm
    · rename_i hl
      rw [if_neg hl]
      simp only
      have hl2 : (xs.take m).length = m := by rw [List.length_take]; omega
      have := be_back (hB.take m)
      rw [hl2] at this
      rw [this, List.take_append_drop]
  have hc : kind = 1 ∨ kind = 2 ∨ kind = 3 ∨ kind = 4 ∨ kind = 5 ∨ kind = 6 ∨ kind = 7 ∨ kind = 8 ∨ kind = 9 := by omega
  rcases hc with rfl | rfl | rfl | rfl | rfl | rfl | rfl | rfl | rfl
  · obtain ⟨z0, z1⟩ := rdN_range (n := 1) (err := 0) hB
    simp only [tk, tkN, tb, if_true] at h ⊢
    rw [show (rdN 1 0 xs).1 % 256 = (rdN 1 0 xs).1 by omega]
    exact num 1 h
  · obtain ⟨z0, z1⟩ := rdN_range (n := 2) (err := 0) hB
    simp [tk, tkN, tb] at h ⊢
    rw [show (rdN 2 0 xs).1 % 65536 = (rdN 2 0 xs).1 by omega]
    exact num 2 h
  · obtain ⟨z0, z1⟩ := rdN_range (n := 4) (err := 0) hB
    simp [tk, tkN, tb] at h ⊢
    rw [show (rdN 4 0 xs).1 % 4294967296 = (rdN 4 0 xs).1 by omega]
    exact num 4 h
  · simp [tk, tkN, tb] at h ⊢
    exact num 8 h
  · simp [tk, tkN, tb] at h ⊢
    unfold rdV at h ⊢
    rw [if_pos rfl] at h ⊢
    split at h
    · rename_i hg
      rw [if_pos hg]
      exact gv_back hB hg
    · rename_i hg
      exact absurd h hg
  · simp [tk, tb] at h ⊢
    have hr := rdV_range (err := 0) hB
    rw [zz_uz hr.1]
    unfold rdV at h ⊢
    rw [if_pos rfl] at h ⊢
    split at h
    · rename_i hg
      rw [if_pos hg]
      exact gv_back hB hg
    · rename_i hg
      exact absurd h hg
  · simp [tk, tb] at h ⊢
    match xs, hB, h with
    | [], _, h => simp [rdF] at h
    | c :: r, hB, h =>
      obtain ⟨c0, c1⟩ := hB c (by simp)
      by_cases hc1 : c > 1
      · simp [rdF, hc1] at h
      · have hh : rdF 0 (c :: r) = (decide (c = 1), 0, r) := by simp [rdF]; omega
        rw [hh]
        by_cases h1 : c = 1
        · subst h1; rfl
        · have h0 : c = 0 := by omega
          subst h0; rfl
  · simp [tk, tkB, tb] at h ⊢
    unfold rdR at h ⊢
    rw [if_pos rfl] at h ⊢
    split at h
    · simp at h
    · rename_i h1
      rw [if_neg h1]
      split at h
      · simp at h
      · rename_i h2
        rw [if_neg h2]
        exact List.take_append_drop _ _
  · simp [tk, tkB, tb] at h ⊢
    unfold rdB at h ⊢
    rw [if_pos rfl] at h ⊢
    split at h
    · simp at h
    · rename_i h1
      rw [if_neg h1]
      split at h
      · rename_i hg
        rw [if_pos hg]
        split at h
        · simp at h
        · rename_i h2
          rw [if_neg h2]
          split at h
          · simp at h
          · rename_i h3
            rw [if_neg h3]
            simp only
            have hb := gv_back hB hg
            have hl := gv_len xs 0 0 hg
            have hr := gv_range xs hB 0 0 (by omega) (by omega) (by simp)
            have e1 : ((xs.drop (gv 0 0 xs).2.1.toNat).take (gv 0 0 xs).1.toNat).length = (gv 0 0 xs).1.toNat := by
              rw [List.length_take, List.length_drop]; omega
            rw [e1, ← List.drop_drop, List.take_append_drop]
            exact hb
      · rename_i hg
        exact absurd h hg

theorem rdN_err (m : Nat) (xs : List Int) (h : (rdN m 0 xs).2.1 ≠ 0) : (rdN m 0 xs).2.2 = xs ∧ xs.length < m := by
  unfold rdN at h ⊢
  rw [if_pos rfl] at h ⊢
  split at h
  · rename_i hl; rw [if_pos hl]; exact ⟨rfl, hl⟩
  · simp at h
theorem rdV_err (xs : List Int) (h : (rdV 0 xs).2.1 ≠ 0) : (rdV 0 xs).2.2 = xs := by
  unfold rdV at h ⊢
  rw [if_pos rfl] at h ⊢
  split at h
  · simp at h
  · rename_i hl; rw [if_neg hl]

/-- must: a thing of a fixed size can be taken -/
def mustF (kind n left : Int) : Bool :=
  if kind = 1 then decide (1 ≤ left) else if kind = 2 then decide (2 ≤ left) else if kind = 3 then decide (4 ≤ left) else if kind = 4 then decide (8 ≤ left) else
  if kind = 8 then (decide (0 ≤ n) && decide (n ≤ left)) else false

theorem tk_err (kind n : Int) (xs : List Int) (hT : isT kind = true) (h : (tk kind n 0 xs).err ≠ 0) : (tk kind n 0 xs).xs = xs ∧ mustF kind n (xs.length : Int) = false := by
  obtain ⟨hk1, hk9⟩ := (isT_iff _).1 hT
  have hc : kind = 1 ∨ kind = 2 ∨ kind = 3 ∨ kind = 4 ∨ kind = 5 ∨ kind = 6 ∨ kind = 7 ∨ kind = 8 ∨ kind = 9 := by omega
  rcases hc with rfl | rfl | rfl | rfl | rfl | rfl | rfl | rfl | rfl
  · simp only [tk, tkN, if_true] at h ⊢
    obtain ⟨h1, h2⟩ := rdN_err 1 xs h
    exact ⟨h1, by simp [mustF]; omega⟩
  · simp [tk, tkN] at h ⊢
    obtain ⟨h1, h2⟩ := rdN_err 2 xs h
    exact ⟨h1, by simp [mustF]; omega⟩
  · simp [tk, tkN] at h ⊢
    obtain ⟨h1, h2⟩ := rdN_err 4 xs h
    exact ⟨h1, by simp [mustF]; omega⟩
  · simp [tk, tkN] at h ⊢
    obtain ⟨h1, h2⟩ := rdN_err 8 xs h
    exact ⟨h1, by simp [mustF]; omega⟩
  · simp [tk, tkN] at h ⊢
    exact ⟨rdV_err xs h, by simp [mustF]⟩
  · simp [tk] at h ⊢
    exact ⟨rdV_err xs h, by simp [mustF]⟩
  · simp [tk] at h ⊢
    refine ⟨?_, by simp [mustF]⟩
    match xs, h with
    | [], h => rfl
    | c :: r, h =>
      by_cases hc1 : c > 1
      · simp [rdF, hc1]
      · exfalso
        apply h
        simp only [rdF, if_true, if_neg hc1]
  · simp [tk, tkB] at h ⊢
    unfold rdR at h ⊢
    rw [if_pos rfl] at h ⊢
    by_cases h1 : n < 0
    · rw [if_pos h1]
      exact ⟨rfl, by simp [mustF]; omega⟩
    · rw [if_neg h1] at h ⊢
      by_cases h2 : n > (xs.length : Int)
      · rw [if_pos h2]
        exact ⟨rfl, by simp [mustF]; omega⟩
      · rw [if_neg h2] at h
        simp at h
  · simp [tk, tkB] at h ⊢
    refine ⟨?_, by simp [mustF]⟩
    unfold rdB at h ⊢
    rw [if_pos rfl] at h ⊢
    split
    · rfl
    · rename_i h1
      rw [if_neg h1] at h
      split
      · rename_i hg
        rw [if_pos hg] at h
        split
        · rfl
        · rename_i h2
          rw [if_neg h2] at h
          split
          · rfl
          · rename_i h3
            rw [if_neg h3] at h
            simp at h
      · rfl

theorem must_any (kind n left : Int) (w : World) : Calls Try.prog 24 #[.int .i64 kind, .int .i64 n, .int .i64 left] w fun e w' => e = .returned (.bool (mustF kind n left)) ∧ w' = w := by
  by_cases h1 : kind = 1
  · subst h1
    go_enter Try.func24, Try.ntmps24
    go_wp2
    go_ret
    exact ⟨rfl, rfl⟩
  by_cases h2 : kind = 2
  · subst h2
    go_enter Try.func24, Try.ntmps24
    go_wp2
    go_ret
    exact ⟨rfl, rfl⟩
  by_cases h3 : kind = 3
  · subst h3
    go_enter Try.func24, Try.ntmps24
    go_wp2
    go_ret
    exact ⟨rfl, rfl⟩
  by_cases h4 : kind = 4
  · subst h4
    go_enter Try.func24, Try.ntmps24
    go_wp2
    go_ret
    exact ⟨rfl, rfl⟩
  by_cases h8 : kind = 8
  · subst h8
    by_cases hn : 0 ≤ n
    · have e : mustF 8 n left = decide (n ≤ left) := by simp [mustF, hn]
      rw [e]
      go_enter Try.func24, Try.ntmps24
      go_wp2
      go_ret
      exact ⟨rfl, rfl⟩
    · have e : mustF 8 n left = false := by simp [mustF, hn]
      rw [e]
      go_enter Try.func24, Try.ntmps24
      go_wp2
      go_ret
      exact ⟨rfl, rfl⟩
  have e : mustF kind n left = false := by simp only [mustF, if_neg h1, if_neg h2, if_neg h3, if_neg h4, if_neg h8]
  rw [e]
  go_enter Try.func24, Try.ntmps24
  go_wp2
  go_ret
  exact ⟨rfl, rfl⟩

theorem uz_range {x : Int} (h0 : 0 ≤ x) (h1 : x < 18446744073709551616) : -9223372036854775808 ≤ uz x ∧ uz x ≤ 9223372036854775807 := by
  unfold uz; split <;> omega

/-- a thing that was taken is as it must be -/
theorem tk_fit {W : World} (kind n : Int) (xs : List Int) (u : Value) (hB : Byt xs) (hl : xs.length ≤ 16777216) (hr : Rd W u (tk kind n 0 xs).bs) : Fit W ⟨kind, (tk kind n 0 xs).N, (tk kind n 0 xs).I, (tk kind n 0 xs).F, u, (tk kind n 0 xs).bs⟩ := by
  have hN : 0 ≤ (tk kind n 0 xs).N ∧ (tk kind n 0 xs).N < 18446744073709551616 := by
    have r1 := rdN_range (n := 1) (err := 0) hB
    have r2 := rdN_range (n := 2) (err := 0) hB
    have r4 := rdN_range (n := 4) (err := 0) hB
    have r8 := rdN_range (n := 8) (err := 0) hB
    have rv := rdV_range (err := 0) hB
    unfold tk
    repeat' split
    all_goals simp only [tkN, tkB]
    all_goals omega
  have hI : -9223372036854775808 ≤ (tk kind n 0 xs).I ∧ (tk kind n 0 xs).I ≤ 9223372036854775807 := by
    have rv := rdV_range (err := 0) hB
    have ru := uz_range rv.1 rv.2
    unfold tk
    repeat' split
    all_goals simp only [tkN, tkB]
    all_goals omega
  have hb : Byt (tk kind n 0 xs).bs ∧ (tk kind n 0 xs).bs.length ≤ 16777216 := by
    have hnil : Byt ([] : List Int) ∧ ([] : List Int).length ≤ 16777216 := ⟨fun z hz => by simp at hz, by simp⟩
    have hR : Byt (rdR n 0 xs).1 ∧ (rdR n 0 xs).1.length ≤ 16777216 := by
      unfold rdR
      repeat' split
      all_goals first | exact hnil | exact ⟨hB.take _, by simp only [List.length_take]; omega⟩
    have hRB : Byt (rdB n 0 xs).1 ∧ (rdB n 0 xs).1.length ≤ 16777216 := by
      unfold rdB
      repeat' split
      all_goals first | exact hnil | exact ⟨(hB.drop _).take _, by simp only [List.length_take, List.length_drop]; omega⟩
    unfold tk
    repeat' split
    all_goals simp only [tkN, tkB]
    all_goals first | exact hnil | exact hR | exact hRB
  exact ⟨hr, hb.1, hN.1, hN.2, hI.1, hI.2, by have := hb.2; show (tk kind n 0 xs).bs.length ≤ _; omega⟩
end Go.Proofs.Ytgaehpdlljlliaa.Cd
