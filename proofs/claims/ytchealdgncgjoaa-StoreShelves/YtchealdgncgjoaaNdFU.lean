import Derived.Test.YtchealdgncgjoaaNdDU
import Derived.Deep.QuietTactic
namespace Go.Proofs.Ytchealdgncgjoaa.StU
open Go.RowKit Go.Proofs.Ytchealdgncgjoaa.St
set_option linter.unusedVariables false

section
variable {w : World} {l r : T (Int × Sv)} {p : Int × Sv} {a al ar : Option Addr}
set_option maxRecDepth 1000000 in
set_option maxHeartbeats 4000000 in
theorem bal_1b (hn : Nd w p a) (hl : Tr w l al) (hr : Tr w r ar) (hs : l.sz + r.sz < 2 ^ 62) (h1 : r.ht + 1 < l.ht) (ll lr : T (Int × Sv)) (lp : Int × Sv) (el : l = .node ll lp lr) (hi : ¬ ll.ht < lr.ht) :
    Calls Try.prog 196 #[.pointer a, .pointer al, .pointer ar] w fun e w' => ∃ a', e = .returned (.pointer a') ∧ Tr w' (T.mk p l r) a' ∧ Kp Nu w w' := by
  have HL : ∀ W, Kp Nu w W → Calls Try.prog 205 #[.pointer al] W fun e w' => e = .returned (.int .i64 (l.ht : Int)) ∧ w' = W := fun W k => high_any (hl.nu k)
  have HR : ∀ W, Kp Nu w W → Calls Try.prog 205 #[.pointer ar] W fun e w' => e = .returned (.int .i64 (r.ht : Int)) ∧ w' = W := fun W k => high_any (hr.nu k)
  have e1 := ht_sz l
  have e2 := ht_sz r
  have hl0 := hl
  have hnl : Nd w lp al := by rw [el] at hl; exact hl.nd
  have ELT : Hid (l = .node ll lp lr) := el
  have hl2 := hl
  rw [el] at hl2
  obtain ⟨bl, all, alr, ea, hb, hll, hlr⟩ := hl2
  have hsz : l.sz = ll.sz + 1 + lr.sz := by rw [el]; rfl
  have HI : ∀ W, Kp Nu w W → Calls Try.prog 205 #[.pointer alr] W fun e w' => e = .returned (.int .i64 (lr.ht : Int)) ∧ w' = W := fun W k => high_any (hlr.nu k)
  have HLL : ∀ W, Kp Nu w W → Calls Try.prog 205 #[.pointer all] W fun e w' => e = .returned (.int .i64 (ll.ht : Int)) ∧ w' = W := fun W k => high_any (hll.nu k)
  have O1 : ∀ W, Kp Nu w W → Calls Try.prog 197 #[.pointer a, .pointer alr, .pointer ar] W fun e w' => ∃ a', e = .returned (.pointer a') ∧ Tr w' (.node lr p r) a' ∧ Kp Nu W w' ∧ Kp Nu w w' := fun W k => over_at k (hn.keep (Kn.nu k)) (hlr.nu k) (hr.nu k) (by omega)
  have O3 : ∀ W a1, Kp Nu w W → Tr W (.node lr p r) a1 → Calls Try.prog 197 #[.pointer al, .pointer all, .pointer a1] W fun e w' => ∃ a', e = .returned (.pointer a') ∧ Tr w' (T.mk p l r) a' ∧ Kp Nu w w' := fun W a1 k t1 => by
    refine (over_at k (hnl.keep (Kn.nu k)) (hll.nu k) t1 (by simp only [T.sz]; omega)).mono ?_
    rintro e w' ⟨a', e1, e2, e3, e4⟩
    refine ⟨a', e1, ?_, e4⟩
    have : T.mk p l r = .node ll lp (.node lr p r) := by
      unfold T.mk; rw [if_pos h1, ELT.out]; unfold T.balL; simp only [if_neg hi]
    rw [this]; exact e2
  have HS : ∀ W, Kp Nu w W → W.cell? ⟨bl, 2, none⟩ = some (.pointer all) ∧ W.cell? ⟨bl, 3, none⟩ = some (.pointer alr) := fun W k => by
    obtain ⟨_, _, c2, c3, _⟩ := cell6 ((k.block _ (blk_lt hb) (fun h => h)).trans hb)
    exact ⟨c2, c3⟩
  generalize l.ht = A at *
  generalize r.ht = B at *
  have e3 : lr.ht ≤ 2 ^ 62 := by have := ht_sz lr; omega
  have e4 : ll.ht ≤ 2 ^ 62 := by have := ht_sz ll; omega
  generalize ll.ht = C at *
  generalize lr.ht = D at *
  have h1' : (1 : Int) < (A : Int) - (B : Int) := by omega
  have hA : (A : Int) < 4611686018427387904 := by omega
  have hB : (B : Int) < 4611686018427387904 := by omega
  have hi' : (D : Int) ≤ (C : Int) := by omega
  clear hi e3 e4
  generalize (C : Int) = cC at *
  generalize (D : Int) = dD at *
  obtain ⟨c2, c3⟩ := HS w (Kp.refl _ _)
  subst ea
  clear hn hl hr h1 hs e1 e2 hb hll hlr hl0 hnl hsz el
  go_enter Try.func196, Try.ntmps196
  go_wp2_with (first
    | (go_at_call_of 205 bl; refine (HL _ ?_).mono ?_; (repeat (first | assumption | exact Kp.refl _ _ | exact kp_drewN _ _ | apply Kp.drew)); rintro e w' ⟨rfl, rfl⟩)
    | (go_at_call_of 205 ar; refine (HR _ ?_).mono ?_; (repeat (first | assumption | exact Kp.refl _ _ | exact kp_drewN _ _ | apply Kp.drew)); rintro e w' ⟨rfl, rfl⟩))
  go_quiet (first
      | (go_at_call_of 205 alr; refine Calls.quiet_of_same (HI _ ?_); exact kp_drewN _ _)
      | (go_at_call_of 205 all; refine Calls.quiet_of_same (HLL _ ?_); exact kp_drewN _ _))
  clear hA hB
  go_wp2_with fail
  go_region_held (fun W => W.cell? ⟨bl, 2, none⟩ = some (.pointer all) ∧ W.cell? ⟨bl, 3, none⟩ = some (.pointer alr)) (first | (refine HS _ ?_; repeat (first | assumption | exact Kp.refl _ _ | exact kp_drewN _ _ | apply Kp.drew)))
    (first
      | (go_at_call_of 197 alr; refine (O1 _ ?_).mono ?_; (repeat (first | assumption | exact Kp.refl _ _ | exact kp_drewN _ _ | apply Kp.drew)); rintro e w1 ⟨a1, rfl, t1, k1, q1⟩)
      | (go_at_call_of 197 all; refine (O3 _ _ ?_ ?_).mono ?_; (first | exact q1 | exact q1.drew); (first | exact t1 | exact t1.nu ((Kp.refl _ _).drew)); rintro e w3 ⟨a3, rfl, t3, k3⟩))
  go_wp2
  go_ret
  exact ⟨_, rfl, t3, k3⟩
end
end Go.Proofs.Ytchealdgncgjoaa.StU
