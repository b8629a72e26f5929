import Derived.Test.YtchealdgncgjoaaRmH
import Derived.Test.YtchealdgncgjoaaItGI
namespace Go.Proofs.Ytchealdgncgjoaa.StI
open Go.RowKit Go.Proofs.Ytchealdgncgjoaa.St Go.Shelf
set_option linter.unusedVariables false
set_option linter.unusedSimpArgs false
theorem mid_filter {α : Type} (a b : α → Bool) : ∀ xs : List α, xs.Pairwise (fun x y => (a y = true → a x = true) ∧ (b y = true → b x = true)) →
    (xs.drop (xs.countP a)).take (xs.countP b - xs.countP a) = xs.filter (fun x => !a x && b x)
  | [], _ => by simp
  | x :: xs, h => by
    obtain ⟨h1, h2⟩ := List.pairwise_cons.1 h
    have ih := mid_filter a b xs h2
    have nb : b x = false → ∀ y ∈ xs, b y = false := fun hb y hy => by
      cases hc : b y
      · rfl
      · have := (h1 y hy).2 hc; rw [hb] at this; cases this
    have na : a x = false → ∀ y ∈ xs, a y = false := fun hb y hy => by
      cases hc : a y
      · rfl
      · have := (h1 y hy).1 hc; rw [hb] at this; cases this
    have zb : b x = false → xs.countP b = 0 := fun hb => List.countP_eq_zero.2 (fun y hy => by rw [nb hb y hy]; simp)
    have za : a x = false → xs.countP a = 0 := fun hb => List.countP_eq_zero.2 (fun y hy => by rw [na hb y hy]; simp)
    have fb : b x = false → xs.filter (fun x => !a x && b x) = [] := fun hb => List.filter_eq_nil_iff.2 (fun y hy => by rw [nb hb y hy]; simp)
    cases ha : a x with
    | true =>
      cases hb : b x with
      | true =>
        simp only [List.countP_cons, ha, hb, if_true, List.filter_cons]
        simp only [List.drop_succ_cons, Nat.add_sub_add_right, Bool.not_true, Bool.false_and]
        simpa using ih
      | false =>
        simp only [List.countP_cons, ha, hb, zb hb, List.filter_cons]
        simpa using fb hb
    | false =>
      cases hb : b x with
      | true =>
        rw [za ha] at ih
        simp only [List.countP_cons, ha, hb, za ha, List.filter_cons]
        simpa using ih
      | false =>
        simp only [List.countP_cons, ha, hb, zb hb, za ha, List.filter_cons]
        simpa using fb hb
theorem upto_count {α : Type} (c : α → Int) : ∀ xs : List α, xs.Pairwise (fun x y => 0 ≤ c y → 0 < c x) →
    xs.countP (fun x => decide (0 ≤ c x)) = xs.countP (fun x => decide (0 < c x)) + (if xs.any (fun x => decide (c x = 0)) then 1 else 0)
  | [], _ => by simp
  | x :: xs, h => by
    obtain ⟨h1, h2⟩ := List.pairwise_cons.1 h
    have ih := upto_count c xs h2
    by_cases hp : 0 < c x
    · have : 0 ≤ c x := by omega
      have hn : ¬ c x = 0 := by omega
      simp only [List.countP_cons, List.any_cons, hp, this, hn, decide_true, decide_false, if_true, Bool.false_or]
      rw [ih]; omega
    · have hall : ∀ y ∈ xs, c y < 0 := fun y hy => by
        have := h1 y hy; omega
      have z1 : xs.countP (fun x => decide (0 ≤ c x)) = 0 := List.countP_eq_zero.2 (fun y hy => by have := hall y hy; simp; omega)
      have z2 : xs.countP (fun x => decide (0 < c x)) = 0 := List.countP_eq_zero.2 (fun y hy => by have := hall y hy; simp; omega)
      have z3 : xs.any (fun x => decide (c x = 0)) = false := List.any_eq_false.2 (fun y hy => by have := hall y hy; simp; omega)
      by_cases h0 : c x = 0
      · simp [List.countP_cons, z1, z2, h0]
      · have : ¬ 0 ≤ c x := by omega
        simp [List.countP_cons, z1, z2, z3, h0, this, hp]
theorem seg_filter {t : T (Int × Int)} (hs : Srt cmpI t.xs) (lo hi : Int) : seg t (lowT lo t) (highT hi t) = t.xs.filter (inB cmpI lo hi) := by
  have hl : lowT lo t = t.xs.countP (fun a => decide (0 < sd lo a)) := by unfold lowT; rw [T.fd_eq (sd lo) t (hs.c cmpI_ord lo)]
  have hh : highT hi t = t.xs.countP (fun a => decide (0 ≤ sd hi a)) := by
    unfold highT; rw [T.fd_eq (sd hi) t (hs.c cmpI_ord hi), upto_count (sd hi) t.xs (hs.c cmpI_ord hi)]
  have hp : t.xs.Pairwise (fun x y => (decide (0 < sd lo y) = true → decide (0 < sd lo x) = true) ∧ (decide (0 ≤ sd hi y) = true → decide (0 ≤ sd hi x) = true)) := by
    have p1 := hs.c cmpI_ord lo
    have p2 := hs.c cmpI_ord hi
    refine List.Pairwise.imp ?_ (List.Pairwise.and p1 p2)
    rintro x y ⟨q1, q2⟩
    simp only [decide_eq_true_eq]
    have q1 : 0 ≤ sd lo y → 0 < sd lo x := q1
    have q2 : 0 ≤ sd hi y → 0 < sd hi x := q2
    omega
  rw [seg_xs, hl, hh, Int.toNat_natCast, Int.toNat_natCast, List.drop_take, mid_filter _ _ _ hp]
  refine List.filter_congr (fun p _ => ?_)
  have a1 := cmpI_ord.anti p.1 lo
  have a2 := cmpI_ord.anti hi p.1
  have e1 : sd lo p = cmpI lo p.1 := rfl
  have e2 : sd hi p = cmpI hi p.1 := rfl
  unfold inB
  rw [e1, e2, Bool.eq_iff_iff]
  simp only [Bool.and_eq_true, Bool.not_eq_true', decide_eq_true_eq, decide_eq_false_iff_not]
  omega
end Go.Proofs.Ytchealdgncgjoaa.StI
