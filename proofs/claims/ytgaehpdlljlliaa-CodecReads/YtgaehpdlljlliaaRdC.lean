import Derived.Test.YtgaehpdlljlliaaRdB
import Derived.Test.YtgaehpdlljlliaaCnA
namespace Go.Proofs.Ytgaehpdlljlliaa.Cd
open Go.RowKit
set_option linter.unusedVariables false

/-- the number that groups add up to -/
def hor : List Int → Int
  | [] => 0
  | c :: r => c % 128 + 128 * hor r

theorem hor_nn (xs : List Int) : 0 ≤ hor xs := by
  induction xs with
  | nil => exact Int.le_refl _
  | cons c r ih => rw [hor]; omega
theorem hor_snoc (xs : List Int) (c : Int) : hor (xs ++ [c]) = hor xs + c % 128 * 128 ^ xs.length := by
  induction xs with
  | nil => simp [hor]
  | cons d r ih =>
    rw [List.cons_append, hor, ih, hor, List.length_cons, Int.pow_succ, Int.mul_add]
    have : 128 * (c % 128 * 128 ^ r.length) = c % 128 * (128 ^ r.length * 128) := by
      rw [← Int.mul_assoc, Int.mul_comm 128, Int.mul_assoc, Int.mul_comm 128]
    omega
theorem hor_lt (xs : List Int) : hor xs < 128 ^ xs.length := by
  induction xs with
  | nil => simp [hor]
  | cons c r ih => rw [hor, List.length_cons, Int.pow_succ]; omega
theorem hor_drop_le (xs : List Int) : ∀ k, hor (xs.drop k) ≤ hor xs := by
  induction xs with
  | nil => intro k; simp
  | cons c r ih =>
    intro k
    cases k with
    | zero => simp
    | succ k =>
      have h1 := ih k
      have h2 := hor_nn r
      rw [List.drop_succ_cons, hor]
      omega
theorem vi_small (f : Nat) : ∀ (k x : Nat), 1 ≤ k → x < 128 ^ k → (vi f x).length ≤ k := by
  induction f with
  | zero => intro k x _ _; simp [vi]
  | succ f ih =>
    intro k x hk hx
    rw [vi]
    split
    · simpa using hk
    · rename_i h128
      match k, hk, hx with
      | 1, _, hx => simp at hx; omega
      | k + 2, _, hx =>
        have := ih (k + 1) (x / 128) (by omega) (by rw [Nat.pow_succ] at hx; omega)
        rw [List.length_cons]
        omega

theorem p128i (n : Nat) : (128 : Int) ^ n = ((128 ^ n : Nat) : Int) := by simp

theorem gr_end {xs : List Int} {e : Nat} (hB : Byt xs) (he9 : e ≤ 9) (he : e < xs.length) (hg : gv 0 0 xs = gv e (hor (xs.take e)) (xs.drop e)) (hw : ¬ (e = 9 ∧ xs[e] > 1)) (hc : xs[e] < 128) :
    hor (xs.take (e + 1)) < 18446744073709551616 ∧ gv 0 0 xs = (if (va (hor (xs.take (e + 1))).toNat).length = e + 1 then (hor (xs.take (e + 1)), (e : Int) + 1, 0) else (0, 0, 22)) := by
  have ht := take_snoc he
  have hd := drop_cons he
  obtain ⟨c0, c1⟩ := hB xs[e] (List.getElem_mem he)
  have hlen : (xs.take e).length = e := by rw [List.length_take]; omega
  have hX : hor (xs.take (e + 1)) = hor (xs.take e) + xs[e] % 128 * 128 ^ e := by rw [ht, hor_snoc, hlen]
  have hacc := hor_lt (xs.take e)
  have hacc0 := hor_nn (xs.take e)
  rw [hlen, p128i] at hacc
  have hpe : 128 ^ e ≤ 128 ^ 9 := Nat.pow_le_pow_right (by omega) he9
  have hp9 : (128 : Nat) ^ 9 = 9223372036854775808 := by decide
  rw [hd] at hg
  generalize hcz : xs[e] = c at *
  have hcm : c % 128 = c := by omega
  have hX0 := hor_nn (xs.take (e + 1))
  have hbound : hor (xs.take (e + 1)) < 18446744073709551616 := by
    by_cases h9 : e = 9
    · subst h9
      have : c ≤ 1 := by
        by_cases h : 1 < c
        · exact absurd ⟨rfl, h⟩ hw
        · omega
      rw [hX, hcm, p128i, hp9]
      rw [hp9] at hacc
      have : c = 0 ∨ c = 1 := by omega
      rcases this with rfl | rfl <;> omega
    · have h8 := hor_lt (xs.take (e + 1))
      rw [List.length_take, Nat.min_eq_left (by omega), p128i] at h8
      have : 128 ^ (e + 1) ≤ 128 ^ 9 := Nat.pow_le_pow_right (by omega) (by omega)
      omega
  refine ⟨hbound, ?_⟩
  have hgv : gv e (hor (xs.take e)) (c :: xs.drop (e + 1)) = if c = 0 ∧ 0 < e then (0, 0, 22) else (hor (xs.take (e + 1)), (e : Int) + 1, 0) := by
    rw [gv, if_neg hw, if_neg (by omega), hX]
  rw [hgv] at hg
  by_cases h0 : c = 0 ∧ 0 < e
  · rw [if_pos h0] at hg
    have hXe : hor (xs.take (e + 1)) = hor (xs.take e) := by rw [hX, h0.1]; simp
    have hs := vi_small 10 e (hor (xs.take (e + 1))).toNat (by omega) (by rw [hXe]; omega)
    rw [if_neg (by unfold va; omega)]
    exact hg
  · rw [if_neg h0] at hg
    have hb := gv_back hB (by rw [hg])
    have hl := congrArg List.length hb
    rw [hg] at hl
    simp only [List.length_append, List.length_drop] at hl
    have e1 : ((e : Int) + 1).toNat = e + 1 := by omega
    rw [e1] at hl
    rw [if_pos (by omega)]
    exact hg

theorem gr_step {xs : List Int} {e : Nat} (he9 : e < 9) (he : e < xs.length) (hg : gv 0 0 xs = gv e (hor (xs.take e)) (xs.drop e)) (hc : xs[e] ≥ 128) : gv 0 0 xs = gv (e + 1) (hor (xs.take (e + 1))) (xs.drop (e + 1)) := by
  have hlen : (xs.take e).length = e := by rw [List.length_take]; omega
  rw [hg, drop_cons he, gv, if_neg (by omega), if_pos hc, take_snoc he, hor_snoc, hlen]
theorem gr_short {xs : List Int} {e : Nat} (he : e = xs.length) (hg : gv 0 0 xs = gv e (hor (xs.take e)) (xs.drop e)) : gv 0 0 xs = (0, 0, 21) := by
  rw [hg, List.drop_of_length_le (by omega)]
  rfl
theorem gr_wide {xs : List Int} (he : 9 < xs.length) (hg : gv 0 0 xs = gv 9 (hor (xs.take 9)) (xs.drop 9)) (hc : xs[9] > 1) : gv 0 0 xs = (0, 0, 23) := by
  rw [hg, drop_cons he, gv, if_pos ⟨rfl, hc⟩]
end Go.Proofs.Ytgaehpdlljlliaa.Cd
