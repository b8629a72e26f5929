import Derived.Test.YtchealdgncgjoaaNdDU
namespace Go.Proofs.Ytchealdgncgjoaa.StU
open Go.RowKit Go.Proofs.Ytchealdgncgjoaa.St
set_option linter.unusedVariables false

section
variable {w : World} {l r : T (Int × Sv)} {p : Int × Sv} {a al ar : Option Addr}
set_option maxRecDepth 100000 in
set_option maxHeartbeats 4000000 in
theorem bal_2a (hn : Nd w p a) (hl : Tr w l al) (hr : Tr w r ar) (hs : l.sz + r.sz < 2 ^ 62) (h1 : l.ht + 1 < r.ht) (h2 : r.ht ≤ l.ht + 2) (rl rr : T (Int × Sv)) (rp : Int × Sv) (el : r = .node rl rp rr) (hi : rr.ht < rl.ht) :
    Calls Try.prog 196 #[.pointer a, .pointer al, .pointer ar] w fun e w' => ∃ a', e = .returned (.pointer a') ∧ Tr w' (T.mk p l r) a' ∧ Kp Nu w w' := by
  have HL : ∀ W, Kp Nu w W → Calls Try.prog 205 #[.pointer al] W fun e w' => e = .returned (.int .i64 (l.ht : Int)) ∧ w' = W := fun W k => high_any (hl.nu k)
  have HR : ∀ W, Kp Nu w W → Calls Try.prog 205 #[.pointer ar] W fun e w' => e = .returned (.int .i64 (r.ht : Int)) ∧ w' = W := fun W k => high_any (hr.nu k)
  have e1 := ht_sz l
  have e2 := ht_sz r
  have hnr : Nd w rp ar := by rw [el] at hr; exact hr.nd
  have ELT : Hid (r = .node rl rp rr) := el
  have hr2 := hr
  rw [el] at hr2
  obtain ⟨br, arl, arr, ea, hb, hrl, hrr⟩ := hr2
  obtain ⟨x, q, y, elr⟩ := T.ht_pos (t := rl) (by omega)
  have ELR : Hid (rl = .node x q y) := elr
  have hrl2 := hrl
  rw [elr] at hrl2
  obtain ⟨bi, ax, ay, eb, hbi, hx, hy⟩ := hrl2
  have hni : Nd w q arl := by rw [elr] at hrl; exact hrl.nd
  have hsz : r.sz = (x.sz + 1 + y.sz) + 1 + rr.sz := by rw [el, elr]; rfl
  have HI : ∀ W, Kp Nu w W → Calls Try.prog 205 #[.pointer arl] W fun e w' => e = .returned (.int .i64 (rl.ht : Int)) ∧ w' = W := fun W k => high_any (hrl.nu k)
  have HRR : ∀ W, Kp Nu w W → Calls Try.prog 205 #[.pointer arr] W fun e w' => e = .returned (.int .i64 (rr.ht : Int)) ∧ w' = W := fun W k => high_any (hrr.nu k)
  have O1 : ∀ W, Kp Nu w W → Calls Try.prog 197 #[.pointer a, .pointer al, .pointer ax] W fun e w' => ∃ a', e = .returned (.pointer a') ∧ Tr w' (.node l p x) a' ∧ Kp Nu W w' ∧ Kp Nu w w' := fun W k => over_at k (hn.keep (Kn.nu k)) (hl.nu k) (hx.nu k) (by omega)
  have O2 : ∀ W, Kp Nu w W → Calls Try.prog 197 #[.pointer ar, .pointer ay, .pointer arr] W fun e w' => ∃ a', e = .returned (.pointer a') ∧ Tr w' (.node y rp rr) a' ∧ Kp Nu W w' ∧ Kp Nu w w' := fun W k => over_at k (hnr.keep (Kn.nu k)) (hy.nu k) (hrr.nu k) (by omega)
  have O3 : ∀ W a1 a2, Kp Nu w W → Tr W (.node l p x) a1 → Tr W (.node y rp rr) a2 → Calls Try.prog 197 #[.pointer arl, .pointer a1, .pointer a2] W fun e w' => ∃ a', e = .returned (.pointer a') ∧ Tr w' (T.mk p l r) a' ∧ Kp Nu w w' := fun W a1 a2 k t1 t2 => by
    refine (over_at k (hni.keep (Kn.nu k)) t1 t2 (by simp only [T.sz]; omega)).mono ?_
    rintro e w' ⟨a', e1, e2, e3, e4⟩
    refine ⟨a', e1, ?_, e4⟩
    have : T.mk p l r = .node (.node l p x) q (.node y rp rr) := by
      unfold T.mk; rw [if_neg (by omega), if_pos h1, ELT.out]; unfold T.balR; simp only [if_pos hi]; rw [ELR.out]
    rw [this]; exact e2
  have HS : ∀ W, Kp Nu w W → W.cell? ⟨br, 2, none⟩ = some (.pointer arl) ∧ W.cell? ⟨br, 3, none⟩ = some (.pointer arr) ∧ W.cell? ⟨bi, 2, none⟩ = some (.pointer ax) ∧ W.cell? ⟨bi, 3, none⟩ = some (.pointer ay) := fun W k => by
    obtain ⟨_, _, c2, c3, _⟩ := cell6 ((k.block _ (blk_lt hb) (fun h => h)).trans hb)
    obtain ⟨_, _, d2, d3, _⟩ := cell6 ((k.block _ (blk_lt hbi) (fun h => h)).trans hbi)
    exact ⟨c2, c3, d2, d3⟩
  have e3 : rl.ht ≤ 2 ^ 62 := by have := ht_sz rl; have : rl.sz = x.sz + 1 + y.sz := by rw [elr]; rfl
                                 omega
  generalize l.ht = A at *
  generalize r.ht = B at *
  generalize rr.ht = C at *
  generalize rl.ht = D at *
  have h1' : (A : Int) - (B : Int) = -2 := by omega
  have hA : (A : Int) < 4611686018427387904 := by omega
  have hB : (B : Int) < 4611686018427387904 := by omega
  have hi' : (C : Int) < (D : Int) := by omega
  obtain ⟨c2, c3, d2, d3⟩ := HS w (Kp.refl _ _)
  subst ea eb
  clear hn hl hr h1 h2 hs e1 e2 e3 hb hbi hrl hrr hx hy hnr hni hsz el elr hi
  go_enter Try.func196, Try.ntmps196
  go_wp2_with (first
    | (go_at_call_of 205 al; refine (HL _ ?_).mono ?_; (repeat (first | assumption | exact Kp.refl _ _ | apply Kp.drew)); rintro e w' ⟨rfl, rfl⟩)
    | (go_at_call_of 205 br; refine (HR _ ?_).mono ?_; (repeat (first | assumption | exact Kp.refl _ _ | apply Kp.drew)); rintro e w' ⟨rfl, rfl⟩))
  go_region_held (fun W => W.cell? ⟨br, 3, none⟩ = some (.pointer arr)) (first | (refine (HS _ ?_).2.1; repeat (first | assumption | exact Kp.refl _ _ | apply Kp.drew)))
    (first
      | (go_at_call_of 205 bi; refine (HI _ ?_).mono ?_; (repeat (first | assumption | exact Kp.refl _ _ | apply Kp.drew)); rintro e w' ⟨rfl, rfl⟩)
      | (go_at_call_of 205 arr; refine (HRR _ ?_).mono ?_; (repeat (first | assumption | exact Kp.refl _ _ | apply Kp.drew)); rintro e w' ⟨rfl, rfl⟩))
  go_wp2_with fail
  go_region_held (fun W => W.cell? ⟨br, 2, none⟩ = some (.pointer (some ⟨bi, 0, none⟩)) ∧ W.cell? ⟨br, 3, none⟩ = some (.pointer arr) ∧ W.cell? ⟨bi, 2, none⟩ = some (.pointer ax) ∧ W.cell? ⟨bi, 3, none⟩ = some (.pointer ay)) (first | (refine HS _ ?_; repeat (first | assumption | exact Kp.refl _ _ | apply Kp.drew)))
    (first
      | (go_at_call_of 197 ax; refine (O1 _ ?_).mono ?_; (repeat (first | assumption | exact Kp.refl _ _ | apply Kp.drew)); rintro e w1 ⟨a1, rfl, t1, k1, q1⟩)
      | (go_at_call_of 197 ay; refine (O2 _ ?_).mono ?_; (repeat (first | assumption | exact Kp.refl _ _ | apply Kp.drew)); rintro e w2 ⟨a2, rfl, t2, k2, q2⟩)
      | (go_at_call_of 197 bi; refine (O3 _ _ _ ?_ ?_ ?_).mono ?_; (first | exact q2 | exact q2.drew); (first | exact t1.nu k2 | exact t1.nu k2.drew); (first | exact t2 | exact t2.nu ((Kp.refl _ _).drew)); rintro e w3 ⟨a3, rfl, t3, k3⟩))
  go_wp2
  go_ret
  exact ⟨_, rfl, t3, k3⟩
end
end Go.Proofs.Ytchealdgncgjoaa.StU
