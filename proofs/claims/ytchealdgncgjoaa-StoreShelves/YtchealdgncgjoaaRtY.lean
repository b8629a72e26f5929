import Derived.Test.YtchealdgncgjoaaRuA
namespace Go.Proofs.Ytchealdgncgjoaa.StU
open Go.RowKit Go.Proofs.Ytchealdgncgjoaa.St Go.Shelf
set_option linter.unusedVariables false
set_option linter.unusedSimpArgs false
section
variable {W0 w : World} {col : Nat → Nat} {c d : Nat} {a b : Value} {o : Om}
set_option maxRecDepth 100000 in
set_option maxHeartbeats 4000000 in
theorem step_del (hnm : c ≠ 0 ∧ d ≠ 0 ∧ c < 5 ∧ d < 5 ∧ c ≠ d) (hB : Bz W0 w col) (hP : Ps w a (Co col c) o) (hD : Ds w b (Co col d) o) (os lo hi n : Int) (val prs : Value) :
    Calls Try.prog 73 #[a, b, .agg #[.int .i64 3, .int .i64 os, .int .u64 lo, .int .u64 hi, .int .i64 n, val, prs]] w fun e w' => e = .returned (.bool true) ∧ Hid (Nx W0 c d a b w col w') := by
  have HS1 := hide (Sx.start hnm hB hP hD #[.int .i64 3, .int .i64 os, .int .u64 lo, .int .u64 hi, .int .i64 n, val, prs])
  clear hB hP hD hnm
  go_enter Try.func73, Try.ntmps73
  go_wp2_with fail
  generalize w.alloc (.cells #[.int .i64 3, .int .i64 os, .int .u64 lo, .int .u64 hi, .int .i64 n, val, prs] 121) = W1 at *
  obtain ⟨q0, _, q2, q3, q4, _, _⟩ := box7 (HS1.out.box 0 rfl)
  go_wp2_with (first
    | (go_at_call 130; refine (HS1.out.delP lo).mono ?_; rintro e w2 ⟨rfl, HS2⟩; clear q0 q2 q3 q4 HS1; obtain ⟨q0, _, q2, q3, q4, _, _⟩ := box7 (HS2.out.box 0 rfl))
    | (go_at_call 141; refine (HS2.out.delD lo (all5_1 (by simp) all5_0)).mono ?_; rintro e w3 ⟨rfl, HS3⟩; clear q0 q2 q3 q4 HS2))
  go_ret
  exact ⟨by simp, HS3.out.nx⟩
set_option maxRecDepth 100000 in
set_option maxHeartbeats 4000000 in
theorem step_nth (hnm : c ≠ 0 ∧ d ≠ 0 ∧ c < 5 ∧ d < 5 ∧ c ≠ d) (hB : Bz W0 w col) (hP : Ps w a (Co col c) o) (hD : Ds w b (Co col d) o) (os lo hi n : Int) (val prs : Value) :
    Calls Try.prog 73 #[a, b, .agg #[.int .i64 6, .int .i64 os, .int .u64 lo, .int .u64 hi, .int .i64 n, val, prs]] w fun e w' => e = .returned (.bool true) ∧ Hid (Nx W0 c d a b w col w') := by
  have HS1 := hide (Sx.start hnm hB hP hD #[.int .i64 6, .int .i64 os, .int .u64 lo, .int .u64 hi, .int .i64 n, val, prs])
  clear hB hP hD hnm
  go_enter Try.func73, Try.ntmps73
  go_wp2_with fail
  generalize w.alloc (.cells #[.int .i64 6, .int .i64 os, .int .u64 lo, .int .u64 hi, .int .i64 n, val, prs] 121) = W1 at *
  obtain ⟨q0, _, q2, q3, q4, _, _⟩ := box7 (HS1.out.box 0 rfl)
  go_wp2_with (first
    | (go_at_call 53; refine (HS1.out.nthP lo hi n).mono ?_; rintro e w2 ⟨rfl, HS2⟩; clear q0 q2 q3 q4 HS1; obtain ⟨q0, _, q2, q3, q4, _, _⟩ := box7 (HS2.out.box 0 rfl))
    | (go_at_call 145; refine (HS2.out.nthD lo hi n).mono ?_; rintro e w3 ⟨rfl, HS3⟩; clear q0 q2 q3 q4 HS2))
  go_ret
  exact ⟨by simp, HS3.out.nx⟩
set_option maxRecDepth 100000 in
set_option maxHeartbeats 4000000 in
theorem step_dig (hnm : c ≠ 0 ∧ d ≠ 0 ∧ c < 5 ∧ d < 5 ∧ c ≠ d) (hB : Bz W0 w col) (hP : Ps w a (Co col c) o) (hD : Ds w b (Co col d) o) (os lo hi n : Int) (val prs : Value) :
    Calls Try.prog 73 #[a, b, .agg #[.int .i64 9, .int .i64 os, .int .u64 lo, .int .u64 hi, .int .i64 n, val, prs]] w fun e w' => e = .returned (.bool true) ∧ Hid (Nx W0 c d a b w col w') := by
  have HS1 := hide (Sx.start hnm hB hP hD #[.int .i64 9, .int .i64 os, .int .u64 lo, .int .u64 hi, .int .i64 n, val, prs])
  clear hB hP hD hnm
  obtain ⟨D, eD⟩ : ∃ D, Cd.fv f0 (pbs (rg lo hi (oM o))) = D := ⟨_, rfl⟩
  have X1 : ∀ {W obs W2} (h : Sx W0 W2 col c d a b obs o o W), Calls Try.prog 51 #[a, .int .u64 lo, .int .u64 hi] W fun e w' => e = .returned (.int .u64 D) ∧ Hid (Sx W0 W2 col c d a b obs o o w') := fun h => by rw [← eD]; exact h.digP lo hi
  have X2 : ∀ {W obs W2} (h : Sx W0 W2 col c d a b obs o o W), Calls Try.prog 147 #[b, .int .u64 lo, .int .u64 hi] W fun e w' => e = .returned (.int .u64 D) ∧ Hid (Sx W0 W2 col c d a b obs o o w') := fun h => by rw [← eD]; exact h.digD lo hi
  clear eD
  go_enter Try.func73, Try.ntmps73
  go_wp2_with fail
  generalize w.alloc (.cells #[.int .i64 9, .int .i64 os, .int .u64 lo, .int .u64 hi, .int .i64 n, val, prs] 121) = W1 at *
  obtain ⟨q0, _, q2, q3, q4, _, _⟩ := box7 (HS1.out.box 0 rfl)
  go_wp2_with (first
    | (go_at_call 51; refine (X1 HS1.out).mono ?_; rintro e w2 ⟨rfl, HS2⟩; clear q0 q2 q3 q4 HS1; obtain ⟨q0, _, q2, q3, q4, _, _⟩ := box7 (HS2.out.box 0 rfl))
    | (go_at_call 147; refine (X2 HS2.out).mono ?_; rintro e w3 ⟨rfl, HS3⟩; clear q0 q2 q3 q4 HS2))
  go_ret
  exact ⟨by simp, HS3.out.nx⟩
set_option maxRecDepth 100000 in
set_option maxHeartbeats 4000000 in
theorem step_get (hnm : c ≠ 0 ∧ d ≠ 0 ∧ c < 5 ∧ d < 5 ∧ c ≠ d) (hB : Bz W0 w col) (hP : Ps w a (Co col c) o) (hD : Ds w b (Co col d) o) (os lo hi n : Int) (val prs : Value) :
    Calls Try.prog 73 #[a, b, .agg #[.int .i64 2, .int .i64 os, .int .u64 lo, .int .u64 hi, .int .i64 n, val, prs]] w fun e w' => e = .returned (.bool true) ∧ Hid (Nx W0 c d a b w col w') := by
  have HS1 := hide (Sx.start hnm hB hP hD #[.int .i64 2, .int .i64 os, .int .u64 lo, .int .u64 hi, .int .i64 n, val, prs])
  have l1 := hide (hP.byt lo)
  have l2 := hide (hP.byt hi)
  clear hB hP hD hnm
  go_enter Try.func73, Try.ntmps73
  go_wp2_with fail
  generalize w.alloc (.cells #[.int .i64 2, .int .i64 os, .int .u64 lo, .int .u64 hi, .int .i64 n, val, prs] 121) = W1 at *
  obtain ⟨q0, _, q2, q3, q4, _, _⟩ := box7 (HS1.out.box 0 rfl)
  go_wp2_with (first
    | (go_at_call 46; refine (HS1.out.getP lo 6 (by decide)).mono ?_; rintro e w2 ⟨v2, rfl, HS2⟩; clear q0 q2 q3 q4 HS1; obtain ⟨q0, _, q2, q3, q4, _, _⟩ := box7 (HS2.out.box 1 rfl))
    | (go_at_call 46; refine (HS2.out.getP hi 7 (by decide)).mono ?_; rintro e w3 ⟨v3, rfl, HS3⟩; clear q0 q2 q3 q4 HS2; obtain ⟨q0, _, q2, q3, q4, _, _⟩ := box7 (HS3.out.box 2 rfl))
    | (go_at_call 46; refine (HS3.out.getP lo 8 (by decide)).mono ?_; rintro e w4 ⟨v4, rfl, HS4⟩; clear q0 q2 q3 q4 HS3; obtain ⟨q0, _, q2, q3, q4, _, _⟩ := box7 (HS4.out.box 3 rfl))
    | (go_at_call 140; refine (HS4.out.getD lo 9 (by decide)).mono ?_; rintro e w5 ⟨v5, rfl, HS5⟩; clear q0 q2 q3 q4 HS4; obtain ⟨q0, _, q2, q3, q4, _, _⟩ := box7 (HS5.out.box 4 rfl))
    | (go_at_call 140; refine (HS5.out.getD hi 10 (by decide)).mono ?_; rintro e w6 ⟨v6, rfl, HS6⟩; clear q0 q2 q3 q4 HS5; have ca := HS6.out.convO 4 rfl l1.out.1; have cc := HS6.out.convO 3 rfl l2.out.1; have cd := HS6.out.convO 2 rfl l1.out.1; have cb := HS6.out.convO 1 rfl l1.out.1; have co := HS6.out.convO 0 rfl l2.out.1)
    | (go_at_call 139; refine (HS6.out.spoilO 107 (by decide) 4 4 rfl (by decide) l1.out.2 (alln_1 (.inr (by simp)) (alln_1 (.inr (by simp)) (alln_1 (.inr (by simp)) (alln_1 (.inr (by simp)) alln_0))))).mono ?_; rintro e w7 ⟨⟨x7, rfl⟩, HS7⟩; clear HS6 ca cc cd cb co; have cc := HS7.out.convO 3 rfl l2.out.1; have cd := HS7.out.convO 2 rfl l1.out.1; have cb := HS7.out.convO 1 rfl l1.out.1; have co := HS7.out.convO 0 rfl l2.out.1)
    | (go_at_call 139; refine (HS7.out.spoilO 124 (by decide) 3 3 rfl (by decide) l2.out.2 (alln_1 (.inr (by simp)) (alln_1 (.inr (by simp)) (alln_1 (.inr (by simp)) alln_0)))).mono ?_; rintro e w8 ⟨⟨x8, rfl⟩, HS8⟩; clear HS7 cc cd cb co; have cd := HS8.out.convO 2 rfl l1.out.1; have cb := HS8.out.convO 1 rfl l1.out.1))
  go_ret
  exact ⟨by simp, HS8.out.nx⟩
theorem step_lists5 (hnm : c ≠ 0 ∧ d ≠ 0 ∧ c < 5 ∧ d < 5 ∧ c ≠ d) (hB : Bz W0 w col) (hP : Ps w a (Co col c) o) (hD : Ds w b (Co col d) o) (kd os lo hi n : Int) (val prs : Value) (hk : kd = 5 ∨ kd = 7) :
    Calls Try.prog 148 #[a, b, .agg #[.int .i64 kd, .int .i64 os, .int .u64 lo, .int .u64 hi, .int .i64 n, val, prs]] w fun e w' => e = .returned (.bool true) ∧ Hid (Nx W0 c d a b w col w') := by
  rcases hk with rfl | rfl
  · exact lists_scan hnm hB hP hD os lo hi n val prs
  · exact lists_cut hnm hB hP hD os lo hi n val prs
set_option maxRecDepth 100000 in
set_option maxHeartbeats 4000000 in
theorem step_lists (hnm : c ≠ 0 ∧ d ≠ 0 ∧ c < 5 ∧ d < 5 ∧ c ≠ d) (hB : Bz W0 w col) (hP : Ps w a (Co col c) o) (hD : Ds w b (Co col d) o) (kd os lo hi n : Int) (val prs : Value) (hk : kd = 5 ∨ kd = 7) :
    Calls Try.prog 73 #[a, b, .agg #[.int .i64 kd, .int .i64 os, .int .u64 lo, .int .u64 hi, .int .i64 n, val, prs]] w fun e w' => e = .returned (.bool true) ∧ Hid (Nx W0 c d a b w col w') := by
  have HS1 := hide (Sx.start hnm hB hP hD #[.int .i64 kd, .int .i64 os, .int .u64 lo, .int .u64 hi, .int .i64 n, val, prs])
  clear hB hP hD hnm
  have LS : ∀ {W W2 obs} (h : Sx W0 W2 col c d a b obs o o W), Calls Try.prog 148 #[a, b, .agg #[.int .i64 kd, .int .i64 os, .int .u64 lo, .int .u64 hi, .int .i64 n, val, prs]] W fun e w' => e = .returned (.bool true) ∧ Hid (Nx W0 c d a b W2 col w') := fun h => by
    obtain ⟨col1, h⟩ := h
    refine (step_lists5 h.nm h.bz h.ps h.ds kd os lo hi n val prs hk).mono ?_
    rintro e w' ⟨e1, e2⟩
    exact ⟨e1, h.call e2.out⟩
  have n1 : ¬ kd = 1 := by omega
  have n2 : ¬ kd = 2 := by omega
  have n3 : ¬ kd = 3 := by omega
  have n4 : ¬ kd = 4 := by omega
  have n6 : ¬ kd = 6 := by omega
  have n8 : ¬ kd = 8 := by omega
  have n9 : ¬ kd = 9 := by omega
  clear hk
  go_enter Try.func73, Try.ntmps73
  go_wp2_with fail
  generalize w.alloc (.cells #[.int .i64 kd, .int .i64 os, .int .u64 lo, .int .u64 hi, .int .i64 n, val, prs] 121) = W1 at *
  obtain ⟨q0, q1, q2, q3, q4, q5, q6⟩ := box7 (HS1.out.box 0 rfl)
  go_wp2_with (go_at_call 148; refine (LS HS1.out).mono ?_; rintro e w2 ⟨rfl, HN⟩)
  go_ret
  exact ⟨rfl, HN⟩
end
end Go.Proofs.Ytchealdgncgjoaa.StU
