import Derived.Test.YtchealdgncgjoaaMpAM
import Derived.Test.YtchealdgncgjoaaMpCI
namespace Go.Proofs.Ytchealdgncgjoaa.StM
open Go.RowKit Go.Proofs.Ytchealdgncgjoaa.St Go.Proofs.Ytchealdgncgjoaa.StI
set_option linter.unusedVariables false
section
variable {w : World} {mb : Nat} {t : T (Int × Int)} {bw : Nat} {wh : Int}
set_option maxRecDepth 100000 in
set_option maxHeartbeats 1000000 in
theorem get_any (h : Mp bw wh w mb t) (k : Int) (hs : t.sz + 1 < 2 ^ 62) :
    Calls Try.prog 56 #[.pointer (some ⟨mb, 0, none⟩), .int .i64 (k)] w fun e w' => e = .returned (.tuple #[ov (getT wh k t), .bool (T.fd (sd wh k) t).2]) ∧ Kp Nu w w' := by
  obtain ⟨a, h1, h2⟩ := h.ex
  have TA := tree_any h1
  have FA := find_any h1 h.bx h2 k (by omega)
  cases hb : (T.fd (sd wh k) t).2 with
  | false =>
    have eg : getT wh k t = none := by unfold getT; rw [hb]; rfl
    rw [eg]
    rw [hb] at FA
    generalize (T.fd (sd wh k) t).1 = i at *
    clear h h1 h2 eg hb hs
    go_enter Try.func56, Try.ntmps56
    go_wp2_with (first
      | (go_at_call 83; refine TA.mono ?_; rintro e w' ⟨rfl, hw⟩; obtain rfl := hw.symm)
      | (go_at_call 78; refine FA.mono ?_; rintro e w1 ⟨rfl, k1⟩))
    go_ret2
    exact ⟨rfl, k1⟩
  | true =>
    obtain ⟨p, hp, eg⟩ := getT_some hb
    rw [eg]
    rw [hb] at FA
    have hat := atT_xs t (T.fd (sd wh k) t).1
    rw [hp] at hat
    have hlt := (T.fd_le (sd wh k) t).2 hb
    generalize (T.fd (sd wh k) t).1 = i at *
    have AT : ∀ W, Kp Nu w W → Calls Try.prog 81 #[.pointer a, .int .i64 (i : Int)] W fun e w' => ∃ b, e = .returned (.pointer (some ⟨b, 0, none⟩)) ∧ w'.cell? ⟨b, 1, none⟩ = some (.int .i64 (p.2)) ∧ w' = W := fun W q => by
      refine (at_any (h2.nu q) (i : Int) (by omega) (by omega)).mono ?_
      rintro e w' ⟨a', rfl, hn, rfl⟩
      rw [hat] at hn
      obtain ⟨b, x2, x3, x4, x5, rfl, hb⟩ := hn
      exact ⟨b, rfl, (cell6 hb).2.1, rfl⟩
    clear h h1 h2 eg hb hs hp hat hlt
    go_enter Try.func56, Try.ntmps56
    go_wp2_with (first
      | (go_at_call 83; refine TA.mono ?_; rintro e w' ⟨rfl, hw⟩; obtain rfl := hw.symm)
      | (go_at_call 78; refine FA.mono ?_; rintro e w1 ⟨rfl, k1⟩)
      | (go_at_call 81; refine (AT _ k1).mono ?_; rintro e w3 ⟨b3, rfl, c3, hw3⟩; obtain rfl := hw3.symm))
    go_ret2
    exact ⟨rfl, k1⟩
set_option maxRecDepth 100000 in
set_option maxHeartbeats 1000000 in
theorem rank_any (h : Mp bw wh w mb t) (k : Int) (hs : t.sz + 1 < 2 ^ 62) :
    Calls Try.prog 61 #[.pointer (some ⟨mb, 0, none⟩), .int .i64 (k)] w fun e w' => e = .returned (.int .i64 ((T.fd (sd wh k) t).1 : Int)) ∧ Kp Nu w w' := by
  obtain ⟨a, h1, h2⟩ := h.ex
  have TA := tree_any h1
  have FA := find_any h1 h.bx h2 k (by omega)
  generalize (T.fd (sd wh k) t).1 = i at *
  generalize (T.fd (sd wh k) t).2 = b at *
  clear h h1 h2 hs
  go_enter Try.func61, Try.ntmps61
  go_wp2_with (first
    | (go_at_call 83; refine TA.mono ?_; rintro e w' ⟨rfl, hw⟩; obtain rfl := hw.symm)
    | (go_at_call 78; refine FA.mono ?_; rintro e w1 ⟨rfl, k1⟩))
  go_ret
  exact ⟨rfl, k1⟩
--IF Floor
def floorT (wh : Int) (k : Int) (t : T (Int × Int)) : Option (Int × Int) := atT t (if (T.fd (sd wh k) t).2 then ((T.fd (sd wh k) t).1 : Int) else ((T.fd (sd wh k) t).1 : Int) - 1)
def ceilT (wh : Int) (k : Int) (t : T (Int × Int)) : Option (Int × Int) := atT t ((T.fd (sd wh k) t).1 : Int)
set_option maxRecDepth 100000 in
set_option maxHeartbeats 1000000 in
theorem floor_any (h : Mp bw wh w mb t) (k : Int) (hs : t.sz + 1 < 2 ^ 62) :
    Calls Try.prog 57 #[.pointer (some ⟨mb, 0, none⟩), .int .i64 (k)] w fun e w' => e = .returned (.tuple #[ok (floorT wh k t), ov (floorT wh k t), .bool (floorT wh k t).isSome]) ∧ Kp Nu w w' := by
  obtain ⟨a, h1, h2⟩ := h.ex
  have TA := tree_any h1
  have FA := find_any h1 h.bx h2 k (by omega)
  have hle := (T.fd_le (sd wh k) t).1
  cases hb : (T.fd (sd wh k) t).2 with
  | false =>
    have ef : floorT wh k t = atT t (((T.fd (sd wh k) t).1 : Int) - 1) := by unfold floorT; rw [hb]; rfl
    rw [ef]
    rw [hb] at FA
    generalize (T.fd (sd wh k) t).1 = i at *
    have AT : ∀ W, Kp Nu w W → Calls Try.prog 81 #[.pointer a, .int .i64 ((i : Int) - 1)] W fun e w' => ∃ a', e = .returned (.pointer a') ∧ An w' (atT t ((i : Int) - 1)) a' ∧ w' = W := fun W q =>
      (at_any (h2.nu q) ((i : Int) - 1) (by omega) (by omega)).mono fun e w' ⟨a', e1, e2, e3⟩ => ⟨a', e1, by rw [e3]; exact e2, e3⟩
    have PA : ∀ W a', An W (atT t ((i : Int) - 1)) a' → Calls Try.prog 89 #[.pointer a'] W fun e w' => e = .returned (.tuple #[ok (atT t ((i : Int) - 1)), ov (atT t ((i : Int) - 1)), .bool (atT t ((i : Int) - 1)).isSome]) ∧ Kp Nu W w' := fun W a' h => pair_any h
    have q1 : wrap64 ((i : Int) - 1) = (i : Int) - 1 := by unfold wrap64; omega
    generalize atT t ((i : Int) - 1) = o at *
    clear h h1 h2 hb hs ef hle
    go_enter Try.func57, Try.ntmps57
    go_wp2_with (first
      | (go_at_call 83; refine TA.mono ?_; rintro e w' ⟨rfl, hw⟩; obtain rfl := hw.symm)
      | (go_at_call 78; refine FA.mono ?_; rintro e w1 ⟨rfl, k1⟩)
      | (go_at_call 81; (try rw [q1]); refine (AT _ k1).mono ?_; rintro e w3 ⟨a3, rfl, c3, hw3⟩; obtain rfl := hw3.symm)
      | (go_at_call 89; refine (PA _ _ c3).mono ?_; rintro e w4 ⟨rfl, k4⟩))
    go_ret3
    exact ⟨rfl, k1.andNu k4⟩
  | true =>
    have ef : floorT wh k t = atT t ((T.fd (sd wh k) t).1 : Int) := by unfold floorT; rw [hb]; rfl
    rw [ef]
    rw [hb] at FA
    generalize (T.fd (sd wh k) t).1 = i at *
    have AT : ∀ W, Kp Nu w W → Calls Try.prog 81 #[.pointer a, .int .i64 (i : Int)] W fun e w' => ∃ a', e = .returned (.pointer a') ∧ An w' (atT t (i : Int)) a' ∧ w' = W := fun W q =>
      (at_any (h2.nu q) (i : Int) (by omega) (by omega)).mono fun e w' ⟨a', e1, e2, e3⟩ => ⟨a', e1, by rw [e3]; exact e2, e3⟩
    have PA : ∀ W a', An W (atT t (i : Int)) a' → Calls Try.prog 89 #[.pointer a'] W fun e w' => e = .returned (.tuple #[ok (atT t (i : Int)), ov (atT t (i : Int)), .bool (atT t (i : Int)).isSome]) ∧ Kp Nu W w' := fun W a' h => pair_any h
    generalize atT t (i : Int) = o at *
    clear h h1 h2 hb hs ef hle
    go_enter Try.func57, Try.ntmps57
    go_wp2_with (first
      | (go_at_call 83; refine TA.mono ?_; rintro e w' ⟨rfl, hw⟩; obtain rfl := hw.symm)
      | (go_at_call 78; refine FA.mono ?_; rintro e w1 ⟨rfl, k1⟩)
      | (go_at_call 81; refine (AT _ k1).mono ?_; rintro e w3 ⟨a3, rfl, c3, hw3⟩; obtain rfl := hw3.symm)
      | (go_at_call 89; refine (PA _ _ c3).mono ?_; rintro e w4 ⟨rfl, k4⟩))
    go_ret3
    exact ⟨rfl, k1.andNu k4⟩
set_option maxRecDepth 100000 in
set_option maxHeartbeats 1000000 in
theorem ceil_any (h : Mp bw wh w mb t) (k : Int) (hs : t.sz + 1 < 2 ^ 62) :
    Calls Try.prog 58 #[.pointer (some ⟨mb, 0, none⟩), .int .i64 (k)] w fun e w' => e = .returned (.tuple #[ok (ceilT wh k t), ov (ceilT wh k t), .bool (ceilT wh k t).isSome]) ∧ Kp Nu w w' := by
  obtain ⟨a, h1, h2⟩ := h.ex
  have TA := tree_any h1
  have FA := find_any h1 h.bx h2 k (by omega)
  have hle := (T.fd_le (sd wh k) t).1
  have ef : ceilT wh k t = atT t ((T.fd (sd wh k) t).1 : Int) := rfl
  rw [ef]
  generalize (T.fd (sd wh k) t).1 = i at *
  generalize (T.fd (sd wh k) t).2 = bb at *
  have AT : ∀ W, Kp Nu w W → Calls Try.prog 81 #[.pointer a, .int .i64 (i : Int)] W fun e w' => ∃ a', e = .returned (.pointer a') ∧ An w' (atT t (i : Int)) a' ∧ w' = W := fun W q =>
    (at_any (h2.nu q) (i : Int) (by omega) (by omega)).mono fun e w' ⟨a', e1, e2, e3⟩ => ⟨a', e1, by rw [e3]; exact e2, e3⟩
  have PA : ∀ W a', An W (atT t (i : Int)) a' → Calls Try.prog 89 #[.pointer a'] W fun e w' => e = .returned (.tuple #[ok (atT t (i : Int)), ov (atT t (i : Int)), .bool (atT t (i : Int)).isSome]) ∧ Kp Nu W w' := fun W a' h => pair_any h
  generalize atT t (i : Int) = o at *
  clear h h1 h2 hs ef hle
  go_enter Try.func58, Try.ntmps58
  go_wp2_with (first
    | (go_at_call 83; refine TA.mono ?_; rintro e w' ⟨rfl, hw⟩; obtain rfl := hw.symm)
    | (go_at_call 78; refine FA.mono ?_; rintro e w1 ⟨rfl, k1⟩)
    | (go_at_call 81; refine (AT _ k1).mono ?_; rintro e w3 ⟨a3, rfl, c3, hw3⟩; obtain rfl := hw3.symm)
    | (go_at_call 89; refine (PA _ _ c3).mono ?_; rintro e w4 ⟨rfl, k4⟩))
  go_ret3
  exact ⟨rfl, k1.andNu k4⟩
--END
end
end Go.Proofs.Ytchealdgncgjoaa.StM
