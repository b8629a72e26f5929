import Derived.Test.YtchealdgncgjoaaNdDU
import Derived.Deep.QuietTactic
namespace Go.Proofs.Ytchealdgncgjoaa.StU
open Go.RowKit Go.Proofs.Ytchealdgncgjoaa.St
set_option linter.unusedVariables false

section
variable {w : World} {l r : T (Int × Sv)} {p : Int × Sv} {a al ar : Option Addr}
set_option maxRecDepth 1000000 in
set_option maxHeartbeats 4000000 in
theorem bal_2b (hn : Nd w p a) (hl : Tr w l al) (hr : Tr w r ar) (hs : l.sz + r.sz < 2 ^ 62) (h1 : l.ht + 1 < r.ht) (h2 : r.ht ≤ l.ht + 2) (rl rr : T (Int × Sv)) (rp : Int × Sv) (el : r = .node rl rp rr) (hi : ¬ rr.ht < rl.ht) :
    Calls Try.prog 196 #[.pointer a, .pointer al, .pointer ar] w fun e w' => ∃ a', e = .returned (.pointer a') ∧ Tr w' (T.mk p l r) a' ∧ Kp Nu w w' := by
  have HL : ∀ W, Kp Nu w W → Calls Try.prog 205 #[.pointer al] W fun e w' => e = .returned (.int .i64 (l.ht : Int)) ∧ w' = W := fun W k => high_any (hl.nu k)
  have HR : ∀ W, Kp Nu w W → Calls Try.prog 205 #[.pointer ar] W fun e w' => e = .returned (.int .i64 (r.ht : Int)) ∧ w' = W := fun W k => high_any (hr.nu k)
  have e1 := ht_sz l
  have e2 := ht_sz r
  have hnr : Nd w rp ar := by rw [el] at hr; exact hr.nd
  have ELT : Hid (r = .node rl rp rr) := el
  have hr2 := hr
  rw [el] at hr2
  obtain ⟨br, arl, arr, ea, hb, hrl, hrr⟩ := hr2
  have hsz : r.sz = rl.sz + 1 + rr.sz := by rw [el]; rfl
  have HI : ∀ W, Kp Nu w W → Calls Try.prog 205 #[.pointer arl] W fun e w' => e = .returned (.int .i64 (rl.ht : Int)) ∧ w' = W := fun W k => high_any (hrl.nu k)
  have HRR : ∀ W, Kp Nu w W → Calls Try.prog 205 #[.pointer arr] W fun e w' => e = .returned (.int .i64 (rr.ht : Int)) ∧ w' = W := fun W k => high_any (hrr.nu k)
  have O1 : ∀ W, Kp Nu w W → Calls Try.prog 197 #[.pointer a, .pointer al, .pointer arl] W fun e w' => ∃ a', e = .returned (.pointer a') ∧ Tr w' (.node l p rl) a' ∧ Kp Nu W w' ∧ Kp Nu w w' := fun W k => over_at k (hn.keep (Kn.nu k)) (hl.nu k) (hrl.nu k) (by omega)
  have O3 : ∀ W a1, Kp Nu w W → Tr W (.node l p rl) a1 → Calls Try.prog 197 #[.pointer ar, .pointer a1, .pointer arr] W fun e w' => ∃ a', e = .returned (.pointer a') ∧ Tr w' (T.mk p l r) a' ∧ Kp Nu w w' := fun W a1 k t1 => by
    refine (over_at k (hnr.keep (Kn.nu k)) t1 (hrr.nu k) (by simp only [T.sz]; omega)).mono ?_
    rintro e w' ⟨a', e1, e2, e3, e4⟩
    refine ⟨a', e1, ?_, e4⟩
    have : T.mk p l r = .node (.node l p rl) rp rr := by
      unfold T.mk; rw [if_neg (by omega), if_pos h1, ELT.out]; unfold T.balR; simp only [if_neg hi]
    rw [this]; exact e2
  have HS : ∀ W, Kp Nu w W → W.cell? ⟨br, 2, none⟩ = some (.pointer arl) ∧ W.cell? ⟨br, 3, none⟩ = some (.pointer arr) := fun W k => by
    obtain ⟨_, _, c2, c3, _⟩ := cell6 ((k.block _ (blk_lt hb) (fun h => h)).trans hb)
    exact ⟨c2, c3⟩
  have e4 : rr.ht ≤ 2 ^ 62 := by have := ht_sz rr; omega
  have e3 : rl.ht ≤ 2 ^ 62 := by have := ht_sz rl; omega
  generalize l.ht = A at *
  generalize r.ht = B at *
  generalize rr.ht = C at *
  generalize rl.ht = D at *
  have h1' : (A : Int) - (B : Int) = -2 := by omega
  have hA : (A : Int) < 4611686018427387904 := by omega
  have hB : (B : Int) < 4611686018427387904 := by omega
  have hi' : (D : Int) ≤ (C : Int) := by omega
  clear hi e3 e4
  generalize (C : Int) = cC at *
  generalize (D : Int) = dD at *
  obtain ⟨c2, c3⟩ := HS w (Kp.refl _ _)
  subst ea
  clear hn hl hr h1 h2 hs e1 e2 hb hrl hrr hnr hsz el
  go_enter Try.func196, Try.ntmps196
  go_wp2_with (first
    | (go_at_call_of 205 al; refine (HL _ ?_).mono ?_; (repeat (first | assumption | exact Kp.refl _ _ | exact kp_drewN _ _ | apply Kp.drew)); rintro e w' ⟨rfl, rfl⟩)
    | (go_at_call_of 205 br; refine (HR _ ?_).mono ?_; (repeat (first | assumption | exact Kp.refl _ _ | exact kp_drewN _ _ | apply Kp.drew)); rintro e w' ⟨rfl, rfl⟩))
  go_quiet (first
      | (go_at_call_of 205 arl; refine Calls.quiet_of_same (HI _ ?_); exact kp_drewN _ _)
      | (go_at_call_of 205 arr; refine Calls.quiet_of_same (HRR _ ?_); exact kp_drewN _ _))
  clear hA hB
  go_wp2_with fail
  go_region_held (fun W => W.cell? ⟨br, 2, none⟩ = some (.pointer arl) ∧ W.cell? ⟨br, 3, none⟩ = some (.pointer arr)) (first | (refine HS _ ?_; repeat (first | assumption | exact Kp.refl _ _ | exact kp_drewN _ _ | apply Kp.drew)))
    (first
      | (go_at_call_of 197 arl; refine (O1 _ ?_).mono ?_; (repeat (first | assumption | exact Kp.refl _ _ | exact kp_drewN _ _ | apply Kp.drew)); rintro e w1 ⟨a1, rfl, t1, k1, q1⟩)
      | (go_at_call_of 197 arr; refine (O3 _ _ ?_ ?_).mono ?_; (first | exact q1 | exact q1.drew); (first | exact t1 | exact t1.nu ((Kp.refl _ _).drew)); rintro e w3 ⟨a3, rfl, t3, k3⟩))
  go_wp2
  go_ret
  exact ⟨_, rfl, t3, k3⟩
end
end Go.Proofs.Ytchealdgncgjoaa.StU
