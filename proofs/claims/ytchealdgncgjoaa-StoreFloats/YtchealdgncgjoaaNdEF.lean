import Derived.Test.YtchealdgncgjoaaNdDF
namespace Go.Proofs.Ytchealdgncgjoaa.StF
open Go.RowKit Go.Proofs.Ytchealdgncgjoaa.St
set_option linter.unusedVariables false
attribute [local go_sem] run_store_float

set_option maxRecDepth 100000 in
set_option maxHeartbeats 4000000 in
theorem replace_any (v : Int) : ∀ (t : T (FK × Int)) (w : World) (a : Option Addr) (i : Nat), Tr w t a → t.sz + 1 < 2 ^ 62 → i < t.sz →
    Calls Try.prog 107 #[.pointer a, .int .i64 (i : Int), .int .i64 (v)] w fun e w' => ∃ a', e = .returned (.pointer a') ∧ Tr w' (t.rep i (fun p => (p.1, v))) a' ∧ Kp Nu w w' := by
  intro t
  induction t with
  | nil =>
    intro w a i h _ hi
    simp [T.sz] at hi
  | node l p r ihl ihr =>
    intro w a i h hs hi
    have hnd := h.nd
    obtain ⟨b, al, ar, ea, hbk, hl, hr⟩ := h
    have hs' : l.sz + 1 + r.sz + 1 < 2 ^ 62 := hs
    have hi' : i < l.sz + 1 + r.sz := hi
    have CO : Calls Try.prog 159 #[.pointer al] w fun e w' => e = .returned (.int .i64 (l.sz : Int)) ∧ w' = w := count_any hl
    have HS : ∀ W, Kp Nu w W → W.cell? ⟨b, 2, none⟩ = some (.pointer al) ∧ W.cell? ⟨b, 3, none⟩ = some (.pointer ar) := fun W k => by
      obtain ⟨_, _, c2, c3, _⟩ := cell6 ((k.block _ (blk_lt hbk) (fun h => h)).trans hbk)
      exact ⟨c2, c3⟩
    obtain ⟨c0, c1, c2, c3, c4, c5⟩ := cell6 hbk
    rcases Nat.lt_trichotomy i l.sz with hc | hc | hc
    · have IH : ∀ W, Kp Nu w W → Calls Try.prog 107 #[.pointer al, .int .i64 (i : Int), .int .i64 (v)] W fun e w' => ∃ a', e = .returned (.pointer a') ∧ Tr w' (l.rep i (fun p => (p.1, v))) a' ∧ Kp Nu w w' := fun W q =>
        (ihl W al i (hl.nu q) (by omega) hc).mono fun e w' ⟨a', e1, e2, e3⟩ => ⟨a', e1, e2, q.andNu e3⟩
      have BA : ∀ W a1, Kp Nu w W → Tr W (l.rep i (fun p => (p.1, v))) a1 → Calls Try.prog 161 #[.pointer a, .pointer a1, .pointer ar] W fun e w' => ∃ a', e = .returned (.pointer a') ∧ Tr w' ((T.node l p r).rep i (fun p => (p.1, v))) a' ∧ Kp Nu w w' := fun W a1 q t1 => by
        have hib := T.rep_ht l i (fun p => (p.1, v))
        have := (over_at q (hnd.keep (Kn.nu q)) t1 (hr.nu q) (by rw [hib.2.1]; omega)).mono fun e w' ⟨a', e1, e2, e3, e4⟩ => (⟨a', e1, e2, e4⟩ : ∃ a', e = Ending.returned (.pointer a') ∧ _ ∧ _)
        simp only [T.rep]; rw [if_pos hc]; exact this
      have hcI : (i : Int) < (l.sz : Int) := by omega
      subst ea
      clear ihl ihr hnd hbk hl hr hs hs' hi hi' hc c0 c1 c4 c5
      generalize (l.sz : Int) = L at *
      go_enter Try.func107, Try.ntmps107
      go_wp2_with (go_at_call 159; refine CO.mono ?_; rintro e w' ⟨rfl, hw⟩; obtain rfl := hw.symm)
      go_region_held (fun W => W.cell? ⟨b, 2, none⟩ = some (.pointer al) ∧ W.cell? ⟨b, 3, none⟩ = some (.pointer ar)) (first | (refine HS _ ?_; repeat (first | assumption | exact Kp.refl _ _ | apply Kp.drew)))
        (first
          | (go_at_call 107; refine (IH _ ?_).mono ?_; (repeat (first | assumption | exact Kp.refl _ _ | apply Kp.drew)); rintro e w1 ⟨a1, rfl, t1, k1⟩)
          | (go_at_call 161; refine (BA _ _ ?_ ?_).mono ?_; (first | exact k1 | exact k1.drew); (first | exact t1 | exact t1.nu ((Kp.refl _ _).drew)); rintro e w3 ⟨a3, rfl, t3, k3⟩))
      go_wp2
      go_ret
      exact ⟨_, rfl, t3, k3⟩
    · have hcI : (i : Int) = (l.sz : Int) := by omega
      rw [hcI]
      have FIN : Hid (∀ W, W.heap[w.heap.size]? = some (.cells #[.float .f64 (p.1).bits, .int .i64 (v), .pointer al, .pointer ar, .int .i64 ((l.sz + 1 + r.sz : Nat) : Int), .int .i64 ((max l.ht r.ht + 1 : Nat) : Int)] 163 (0, 0)) → Kp Nu w W → Tr W ((T.node l p r).rep i (fun p => (p.1, v))) (some ⟨w.heap.size, 0, none⟩)) := fun W hW kW => by
        simp only [T.rep]; rw [if_neg (by omega), if_neg (by omega)]
        exact ⟨_, al, ar, rfl, hW, hl.nu kW, hr.nu kW⟩
      subst ea
      clear ihl ihr hnd hbk hl hr hs hs' hi hi' hc hcI
      generalize ((l.sz + 1 + r.sz : Nat) : Int) = X4 at *
      generalize ((max l.ht r.ht + 1 : Nat) : Int) = X5 at *
      generalize (l.sz : Int) = L at *
      go_enter Try.func107, Try.ntmps107
      go_wp2_with (go_at_call 159; refine CO.mono ?_; rintro e w' ⟨rfl, hw⟩; obtain rfl := hw.symm)
      go_ret
      exact ⟨_, rfl, FIN.out _ (heap_alloc_new w _) (Kp.alloc _ _ _), Kp.alloc _ _ _⟩
    · obtain ⟨j, hj⟩ : ∃ j, i - l.sz - 1 = j := ⟨_, rfl⟩
      have IH : ∀ W, Kp Nu w W → Calls Try.prog 107 #[.pointer ar, .int .i64 (j : Int), .int .i64 (v)] W fun e w' => ∃ a', e = .returned (.pointer a') ∧ Tr w' (r.rep j (fun p => (p.1, v))) a' ∧ Kp Nu w w' := fun W q =>
        (ihr W ar j (hr.nu q) (by omega) (by omega)).mono fun e w' ⟨a', e1, e2, e3⟩ => ⟨a', e1, e2, q.andNu e3⟩
      have BA : ∀ W a1, Kp Nu w W → Tr W (r.rep j (fun p => (p.1, v))) a1 → Calls Try.prog 161 #[.pointer a, .pointer al, .pointer a1] W fun e w' => ∃ a', e = .returned (.pointer a') ∧ Tr w' ((T.node l p r).rep i (fun p => (p.1, v))) a' ∧ Kp Nu w w' := fun W a1 q t1 => by
        have hib := T.rep_ht r j (fun p => (p.1, v))
        have := (over_at q (hnd.keep (Kn.nu q)) (hl.nu q) t1 (by rw [hib.2.1]; omega)).mono fun e w' ⟨a', e1, e2, e3, e4⟩ => (⟨a', e1, e2, e4⟩ : ∃ a', e = Ending.returned (.pointer a') ∧ _ ∧ _)
        simp only [T.rep]; rw [if_neg (by omega), if_pos hc, hj]; exact this
      have hcI : (l.sz : Int) < (i : Int) := by omega
      have hcJ : ¬ (i : Int) < (l.sz : Int) := by omega
      have a1 : IntKind.i64.wrap ((i : Int) - (l.sz : Int)) = (i : Int) - (l.sz : Int) := by rw [IntKind.wrap_i64]; omega
      have a2 : IntKind.i64.wrap ((i : Int) - (l.sz : Int) - 1) = (j : Int) := by rw [IntKind.wrap_i64]; omega
      subst ea
      clear ihl ihr hnd hbk hl hr hs hs' hi hi' hc hj c0 c1 c4 c5
      generalize (l.sz : Int) = L at *
      go_enter Try.func107, Try.ntmps107
      go_wp2_with (go_at_call 159; refine CO.mono ?_; rintro e w' ⟨rfl, hw⟩; obtain rfl := hw.symm)
      go_region_held (fun W => W.cell? ⟨b, 2, none⟩ = some (.pointer al) ∧ W.cell? ⟨b, 3, none⟩ = some (.pointer ar)) (first | (refine HS _ ?_; repeat (first | assumption | exact Kp.refl _ _ | apply Kp.drew)))
        (first
          | (go_at_call 107; refine (IH _ ?_).mono ?_; (repeat (first | assumption | exact Kp.refl _ _ | apply Kp.drew)); rintro e w1 ⟨a1, rfl, t1, k1⟩)
          | (go_at_call 161; refine (BA _ _ ?_ ?_).mono ?_; (first | exact k1 | exact k1.drew); (first | exact t1 | exact t1.nu ((Kp.refl _ _).drew)); rintro e w3 ⟨a3, rfl, t3, k3⟩))
      go_wp2
      go_ret
      exact ⟨_, rfl, t3, k3⟩
end Go.Proofs.Ytchealdgncgjoaa.StF
namespace Go.Proofs.Ytchealdgncgjoaa.StF
open Go.RowKit Go.Proofs.Ytchealdgncgjoaa.St
set_option linter.unusedVariables false

section
variable {w : World} {l r : T (FK × Int)} {p : FK × Int} {a al ar : Option Addr}
set_option maxRecDepth 100000 in
set_option maxHeartbeats 4000000 in
theorem bal_1a (hn : Nd w p a) (hl : Tr w l al) (hr : Tr w r ar) (hs : l.sz + r.sz < 2 ^ 62) (h1 : r.ht + 1 < l.ht) (ll lr : T (FK × Int)) (lp : FK × Int) (el : l = .node ll lp lr) (hi : ll.ht < lr.ht) :
    Calls Try.prog 160 #[.pointer a, .pointer al, .pointer ar] w fun e w' => ∃ a', e = .returned (.pointer a') ∧ Tr w' (T.mk p l r) a' ∧ Kp Nu w w' := by
  have HL : ∀ W, Kp Nu w W → Calls Try.prog 191 #[.pointer al] W fun e w' => e = .returned (.int .i64 (l.ht : Int)) ∧ w' = W := fun W k => high_any (hl.nu k)
  have HR : ∀ W, Kp Nu w W → Calls Try.prog 191 #[.pointer ar] W fun e w' => e = .returned (.int .i64 (r.ht : Int)) ∧ w' = W := fun W k => high_any (hr.nu k)
  have e1 := ht_sz l
  have e2 := ht_sz r
  have hl0 := hl
  have hnl : Nd w lp al := by rw [el] at hl; exact hl.nd
  have ELT : Hid (l = .node ll lp lr) := el
  have hl2 := hl
  rw [el] at hl2
  obtain ⟨bl, all, alr, ea, hb, hll, hlr⟩ := hl2
  obtain ⟨x, q, y, elr⟩ := T.ht_pos (t := lr) (by omega)
  have ELR : Hid (lr = .node x q y) := elr
  have hlr2 := hlr
  rw [elr] at hlr2
  obtain ⟨bi, ax, ay, eb, hbi, hx, hy⟩ := hlr2
  have hni : Nd w q alr := by rw [elr] at hlr; exact hlr.nd
  have hsz : l.sz = ll.sz + 1 + (x.sz + 1 + y.sz) := by rw [el, elr]; rfl
  have HI : ∀ W, Kp Nu w W → Calls Try.prog 191 #[.pointer alr] W fun e w' => e = .returned (.int .i64 (lr.ht : Int)) ∧ w' = W := fun W k => high_any (hlr.nu k)
  have HLL : ∀ W, Kp Nu w W → Calls Try.prog 191 #[.pointer all] W fun e w' => e = .returned (.int .i64 (ll.ht : Int)) ∧ w' = W := fun W k => high_any (hll.nu k)
  have O1 : ∀ W, Kp Nu w W → Calls Try.prog 161 #[.pointer al, .pointer all, .pointer ax] W fun e w' => ∃ a', e = .returned (.pointer a') ∧ Tr w' (.node ll lp x) a' ∧ Kp Nu W w' ∧ Kp Nu w w' := fun W k => over_at k (hnl.keep (Kn.nu k)) (hll.nu k) (hx.nu k) (by omega)
  have O2 : ∀ W, Kp Nu w W → Calls Try.prog 161 #[.pointer a, .pointer ay, .pointer ar] W fun e w' => ∃ a', e = .returned (.pointer a') ∧ Tr w' (.node y p r) a' ∧ Kp Nu W w' ∧ Kp Nu w w' := fun W k => over_at k (hn.keep (Kn.nu k)) (hy.nu k) (hr.nu k) (by omega)
  have O3 : ∀ W a1 a2, Kp Nu w W → Tr W (.node ll lp x) a1 → Tr W (.node y p r) a2 → Calls Try.prog 161 #[.pointer alr, .pointer a1, .pointer a2] W fun e w' => ∃ a', e = .returned (.pointer a') ∧ Tr w' (T.mk p l r) a' ∧ Kp Nu w w' := fun W a1 a2 k t1 t2 => by
    refine (over_at k (hni.keep (Kn.nu k)) t1 t2 (by simp only [T.sz]; omega)).mono ?_
    rintro e w' ⟨a', e1, e2, e3, e4⟩
    refine ⟨a', e1, ?_, e4⟩
    have : T.mk p l r = .node (.node ll lp x) q (.node y p r) := by
      unfold T.mk; rw [if_pos h1, ELT.out]; unfold T.balL; simp only [if_pos hi]; rw [ELR.out]
    rw [this]; exact e2
  have HS : ∀ W, Kp Nu w W → W.cell? ⟨bl, 2, none⟩ = some (.pointer all) ∧ W.cell? ⟨bl, 3, none⟩ = some (.pointer alr) ∧ W.cell? ⟨bi, 2, none⟩ = some (.pointer ax) ∧ W.cell? ⟨bi, 3, none⟩ = some (.pointer ay) := fun W k => by
    obtain ⟨_, _, c2, c3, _⟩ := cell6 ((k.block _ (blk_lt hb) (fun h => h)).trans hb)
    obtain ⟨_, _, d2, d3, _⟩ := cell6 ((k.block _ (blk_lt hbi) (fun h => h)).trans hbi)
    exact ⟨c2, c3, d2, d3⟩
  generalize l.ht = A at *
  generalize r.ht = B at *
  have e3 : lr.ht ≤ 2 ^ 62 := by have := ht_sz lr; have : lr.sz = x.sz + 1 + y.sz := by rw [elr]; rfl
                                 omega
  generalize ll.ht = C at *
  generalize lr.ht = D at *
  have h1' : (1 : Int) < (A : Int) - (B : Int) := by omega
  have hA : (A : Int) < 4611686018427387904 := by omega
  have hB : (B : Int) < 4611686018427387904 := by omega
  have hi' : (C : Int) < (D : Int) := by omega
  obtain ⟨c2, c3, d2, d3⟩ := HS w (Kp.refl _ _)
  subst ea eb
  clear hn hl hr h1 hs e1 e2 e3 hb hbi hll hlr hx hy hl0 hnl hni hsz el elr hi
  go_enter Try.func160, Try.ntmps160
  go_wp2_with (first
    | (go_at_call_of 191 bl; refine (HL _ ?_).mono ?_; (repeat (first | assumption | exact Kp.refl _ _ | apply Kp.drew)); rintro e w' ⟨rfl, rfl⟩)
    | (go_at_call_of 191 ar; refine (HR _ ?_).mono ?_; (repeat (first | assumption | exact Kp.refl _ _ | apply Kp.drew)); rintro e w' ⟨rfl, rfl⟩))
  go_region_held (fun W => W.cell? ⟨bl, 2, none⟩ = some (.pointer all)) (first | (refine (HS _ ?_).1; repeat (first | assumption | exact Kp.refl _ _ | apply Kp.drew)))
    (first
      | (go_at_call_of 191 bi; refine (HI _ ?_).mono ?_; (repeat (first | assumption | exact Kp.refl _ _ | apply Kp.drew)); rintro e w' ⟨rfl, rfl⟩)
      | (go_at_call_of 191 all; refine (HLL _ ?_).mono ?_; (repeat (first | assumption | exact Kp.refl _ _ | apply Kp.drew)); rintro e w' ⟨rfl, rfl⟩))
  go_wp2_with fail
  go_region_held (fun W => W.cell? ⟨bl, 2, none⟩ = some (.pointer all) ∧ W.cell? ⟨bl, 3, none⟩ = some (.pointer (some ⟨bi, 0, none⟩)) ∧ W.cell? ⟨bi, 2, none⟩ = some (.pointer ax) ∧ W.cell? ⟨bi, 3, none⟩ = some (.pointer ay)) (first | (refine HS _ ?_; repeat (first | assumption | exact Kp.refl _ _ | apply Kp.drew)))
    (first
      | (go_at_call_of 161 ax; refine (O1 _ ?_).mono ?_; (repeat (first | assumption | exact Kp.refl _ _ | apply Kp.drew)); rintro e w1 ⟨a1, rfl, t1, k1, q1⟩)
      | (go_at_call_of 161 ay; refine (O2 _ ?_).mono ?_; (repeat (first | assumption | exact Kp.refl _ _ | apply Kp.drew)); rintro e w2 ⟨a2, rfl, t2, k2, q2⟩)
      | (go_at_call_of 161 bi; refine (O3 _ _ _ ?_ ?_ ?_).mono ?_; (first | exact q2 | exact q2.drew); (first | exact t1.nu k2 | exact t1.nu k2.drew); (first | exact t2 | exact t2.nu ((Kp.refl _ _).drew)); rintro e w3 ⟨a3, rfl, t3, k3⟩))
  go_wp2
  go_ret
  exact ⟨_, rfl, t3, k3⟩
end
end Go.Proofs.Ytchealdgncgjoaa.StF
