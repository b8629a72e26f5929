import Derived.Test.YtchealdgncgjoaaRuA
import Derived.BigQuiet
import Derived.Deep.QuietTactic
import Derived.Deep.RegionHeld3
namespace Go.Proofs.Ytchealdgncgjoaa.StU
open Go.RowKit Go.Proofs.Ytchealdgncgjoaa.St Go.Shelf
set_option linter.unusedVariables false
set_option linter.unusedSimpArgs false
section
variable {W0 w : World} {col : Nat → Nat} {c d : Nat} {a b : Value} {o : Om}
set_option maxRecDepth 100000 in
set_option maxHeartbeats 8000000 in
theorem step_sizes (hnm : c ≠ 0 ∧ d ≠ 0 ∧ c < 5 ∧ d < 5 ∧ c ≠ d) (hB : Bz W0 w col) (hP : Ps w a (Co col c) o) (hD : Ds w b (Co col d) o) (os lo hi n : Int) (val prs : Value) :
    Calls Try.prog 73 #[a, b, .agg #[.int .i64 4, .int .i64 os, .int .u64 lo, .int .u64 hi, .int .i64 n, val, prs]] w fun e w' => e = .returned (.bool true) ∧ Hid (Nx W0 c d a b w col w') := by
  have mixed : Try.prog.follows .mixedOrders = true := by kernel_rfl
  have HS1 := hide (Sx.start hnm hB hP hD #[.int .i64 4, .int .i64 os, .int .u64 lo, .int .u64 hi, .int .i64 n, val, prs])
  clear hB hP hD hnm
  obtain ⟨N1, e1⟩ : ∃ N1, ((oM o).length : Int) = N1 := ⟨_, rfl⟩
  obtain ⟨N2, e2⟩ : ∃ N2, (sumB (oM o) : Int) = N2 := ⟨_, rfl⟩
  obtain ⟨N3, e3⟩ : ∃ N3, ((rg lo hi (oM o)).length : Int) = N3 := ⟨_, rfl⟩
  have g1 : (N1 == N1) = true := by simp
  have g2 : (N2 == N2) = true := by simp
  have g3 : (N3 == N3) = true := by simp
  have X1 : ∀ {W obs W2} (h : Hid (Sx W0 W2 col c d a b obs o o W)), Calls Try.prog 52 #[a] W fun e w' => e = .returned (.int .i64 N1) ∧ w' = W := fun h => by rw [← e1]; exact h.out.lenP
  have X2 : ∀ {W obs W2} (h : Hid (Sx W0 W2 col c d a b obs o o W)), Calls Try.prog 142 #[b] W fun e w' => e = .returned (.int .i64 N1) ∧ w' = W := fun h => by rw [← e1]; exact h.out.lenD
  have X3 : ∀ {W obs W2} (h : Hid (Sx W0 W2 col c d a b obs o o W)), Calls Try.prog 65 #[a] W fun e w' => e = .returned (.int .i64 N2) ∧ w' = W := fun h => by rw [← e2]; exact h.out.bytesP
  have X4 : ∀ {W obs W2} (h : Hid (Sx W0 W2 col c d a b obs o o W)), Calls Try.prog 143 #[b] W fun e w' => e = .returned (.int .i64 N2) ∧ w' = W := fun h => by rw [← e2]; exact h.out.bytesD
  have X5 : ∀ {W obs W2} (h : Hid (Sx W0 W2 col c d a b obs o o W)), Calls Try.prog 54 #[a, .int .u64 lo, .int .u64 hi] W fun e w' => e = .returned (.int .i64 N3) ∧ Hid (Sx W0 W2 col c d a b obs o o w') := fun h => by rw [← e3]; exact h.out.countP lo hi
  have X6 : ∀ {W obs W2} (h : Hid (Sx W0 W2 col c d a b obs o o W)), Calls Try.prog 144 #[b, .int .u64 lo, .int .u64 hi] W fun e w' => e = .returned (.int .i64 N3) ∧ Hid (Sx W0 W2 col c d a b obs o o w') := fun h => by rw [← e3]; exact h.out.countD lo hi
  have XD : ∀ {W obs W2} (h : Hid (Sx W0 W2 col c d a b obs o o W)), Hid (Sx W0 W2 col c d a b obs o o W.drew) := fun h => h.out.nu (Kp.drew (Kp.refl _ _))
  clear e1 e2 e3
  go_enter Try.func73, Try.ntmps73
  go_wp2_with fail
  generalize hB2 : w.alloc (.cells #[.int .i64 4, .int .i64 os, .int .u64 lo, .int .u64 hi, .int .i64 n, val, prs] 121) = W1 at *
  clear hB2
  have HX : ∀ {W} (h : Hid (Sx W0 w col c d a b [oBx w.heap.size #[.int .i64 4, .int .i64 os, .int .u64 lo, .int .u64 hi, .int .i64 n, val, prs]] o o W)), W.cell? ⟨w.heap.size, 2, none⟩ = some (.int .u64 lo) ∧ W.cell? ⟨w.heap.size, 3, none⟩ = some (.int .u64 hi) := fun h => ⟨(box7 (h.out.box 0 rfl)).2.2.1, (box7 (h.out.box 0 rfl)).2.2.2.1⟩
  obtain ⟨q0, _, q2, q3, q4, _, _⟩ := box7 (HS1.out.box 0 rfl)
  go_wp2_with fail
  go_region_held3 (fun W => W.cell? ⟨w.heap.size, 2, none⟩ = some (.int .u64 lo) ∧ W.cell? ⟨w.heap.size, 3, none⟩ = some (.int .u64 hi)) (first | exact HX (XD HS1) | exact HX HS5 | exact HX HS6)
    (first
      | (go_at_call 52; refine (X1 (XD HS1)).mono ?_; rintro e w2 ⟨rfl, hw⟩; obtain rfl := hw.symm)
      | (go_at_call 142; refine (X2 (XD HS1)).mono ?_; rintro e w3 ⟨rfl, hw⟩; obtain rfl := hw.symm)
      | (go_at_call 65; refine (X3 (XD HS1)).mono ?_; rintro e w4 ⟨rfl, hw⟩; obtain rfl := hw.symm)
      | (go_at_call 143; refine (X4 (XD HS1)).mono ?_; rintro e w4 ⟨rfl, hw⟩; obtain rfl := hw.symm)
      | (go_at_call 54; refine (X5 (XD HS1)).mono ?_; rintro e w5 ⟨rfl, HS5⟩)
      | (go_at_call 144; refine (X6 HS5).mono ?_; rintro e w6 ⟨rfl, HS6⟩))
  go_wp2
  go_ret
  exact ⟨by simp, HS6.out.nx⟩
set_option maxRecDepth 100000 in
set_option maxHeartbeats 8000000 in
theorem step_set (hnm : c ≠ 0 ∧ d ≠ 0 ∧ c < 5 ∧ d < 5 ∧ c ≠ d) (hB : Bz W0 w col) (hP : Ps w a (Co col c) o) (hD : Ds w b (Co col d) o) (os lo hi n : Int) (val prs : Value) (ys : List Int) (hv : Rd W0 val ys) (hby : Byt ys) (hN : ys.length ≤ 140737488351232) (hl0 : 0 ≤ lo) (hl1 : lo ≤ 18446744073709551615) :
    Calls Try.prog 73 #[a, b, .agg #[.int .i64 1, .int .i64 os, .int .u64 lo, .int .u64 hi, .int .i64 n, val, prs]] w fun e w' => e = .returned (.bool true) ∧ Hid (Nx W0 c d a b w col w') := by
  have mixed : Try.prog.follows .mixedOrders = true := by kernel_rfl
  obtain ⟨va, vc, rfl⟩ := hv.slice
  obtain ⟨vn, en⟩ : ∃ vn, ys.length = vn := ⟨_, rfl⟩
  rw [en] at hv ⊢
  have HS1 := hide (Sx.start hnm hB hP hD #[.int .i64 1, .int .i64 os, .int .u64 lo, .int .u64 hi, .int .i64 n, .slice va vn vc, prs])
  have HH := hide (And.intro hv (And.intro hby (And.intro hN (And.intro hl0 hl1))))
  clear hB hP hD hnm hv hby hN hl0 hl1 en
  obtain ⟨R, eR⟩ : ∃ R, oSetA o lo ys = R := ⟨_, rfl⟩
  obtain ⟨R1, R2⟩ := R
  have HR := hide eR
  clear eR
  have HX : ∀ {W obs o1 o2 bb} (i : Nat) (hi : obs[i]? = some (oBx bb #[.int .i64 1, .int .i64 os, .int .u64 lo, .int .u64 hi, .int .i64 n, .slice va vn vc, prs])) (h : Hid (Sx W0 w col c d a b obs o1 o2 W)), W.cell? ⟨bb, 2, none⟩ = some (.int .u64 lo) ∧ W.cell? ⟨bb, 5, none⟩ = some (.slice va vn vc) := fun i hi h => ⟨(box7 (h.out.box i hi)).2.2.1, (box7 (h.out.box i hi)).2.2.2.2.2.1⟩
  have XD : ∀ {W obs o1 o2} (h : Hid (Sx W0 w col c d a b obs o1 o2 W)), Hid (Sx W0 w col c d a b obs o1 o2 W.drew) := fun h => h.out.nu (Kp.drew (Kp.refl _ _))
  go_enter Try.func73, Try.ntmps73
  go_wp2_with fail
  generalize hB2 : w.alloc (.cells #[.int .i64 1, .int .i64 os, .int .u64 lo, .int .u64 hi, .int .i64 n, .slice va vn vc, prs] 121) = W1 at *
  clear hB2
  obtain ⟨bb, eb⟩ : ∃ bb, w.heap.size = bb := ⟨_, rfl⟩
  rw [eb] at HS1 ⊢
  clear eb
  obtain ⟨q0, q1, q2, q3, q4, q5, q6⟩ := box7 (HS1.out.box 0 rfl)
  go_wp2_with (first
    | (go_at_call 136; refine (HS1.out.roomy _ ys HH.out.1 HH.out.2.2.1 6 (by decide)).mono ?_; rintro e w2 ⟨v, rfl, HS2⟩; clear q0 q1 q2 q3 q4 q5 q6 HS1; obtain ⟨q2, q5⟩ := HX 1 rfl HS2)
    | (go_at_call 47; refine (HS2.out.setP lo HH.out.2.2.2.1 HH.out.2.2.2.2 0 rfl HH.out.2.1).mono ?_; rw [HR.out]; rintro e w3 ⟨rfl, HS3⟩; clear q2 q5 HS2; obtain ⟨q2, q5⟩ := HX 1 rfl HS3))
  go_region_held3 (fun W => W.cell? ⟨bb, 2, none⟩ = some (.int .u64 lo) ∧ W.cell? ⟨bb, 5, none⟩ = some (.slice va vn vc)) (first | exact HX 1 rfl (XD HS3) | exact HX 2 rfl HS4 | exact HX 2 rfl HS5)
    (first
      | (go_at_call 48; refine ((XD HS3).out.clone _ ys HH.out.1 HH.out.2.2.1 7 (by decide)).mono ?_; rintro e w4 ⟨u, rfl, HS4⟩)
      | (go_at_call 137; refine (HS4.out.setD lo HH.out.2.2.2.1 HH.out.2.2.2.2 0 rfl HH.out.2.1 (all5_1 (by simp) (all5_1 (by simp) (all5_1 (by simp) all5_0)))).mono ?_; rw [HR.out]; rintro e w5 ⟨rfl, HS5⟩))
  clear q2 q5 mixed HS3 HS4
  obtain ⟨q2, q5⟩ := HX 2 rfl HS5
  have cv1 := HS5.out.convM 1 rfl HH.out.2.1
  have cv2 := HS5.out.convB HH.out.1 HH.out.2.1
  generalize bstr ys = bs at *
  go_wp2_with (first
    | (go_at_call 138; refine (HS5.out.kept 1 rfl HH.out.2.2.1).mono ?_; rintro e w6 ⟨rfl, hw⟩; obtain rfl := hw.symm; clear cv1 cv2)
    | (go_at_call 139; refine ((HS5.out.take 2).spoilM 90 (by decide) 1 1 rfl (by decide) HH.out.2.2.1 (alln_1 (.inr (by simp)) alln_0)).mono ?_; rintro e w7 ⟨⟨x7, rfl⟩, HS7⟩; clear HS5 q2 q5)
    | (go_at_call 72; refine (num72 _ _).mono ?_; rintro e w8 ⟨rfl, hw⟩; obtain rfl := hw.symm))
  go_ret
  exact ⟨by simp, HS7.out.nx⟩
end
end Go.Proofs.Ytchealdgncgjoaa.StU
