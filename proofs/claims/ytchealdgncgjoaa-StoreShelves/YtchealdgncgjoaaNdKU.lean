import Derived.Test.YtchealdgncgjoaaNdDU
namespace Go.Proofs.Ytchealdgncgjoaa.StU
open Go.RowKit Go.Proofs.Ytchealdgncgjoaa.St
set_option linter.unusedVariables false

set_option maxRecDepth 100000 in
set_option maxHeartbeats 4000000 in
theorem replace_any (v : Sv) : ∀ (t : T (Int × Sv)) (w : World) (a : Option Addr) (i : Nat), Tr w t a → t.sz + 1 < 2 ^ 62 → i < t.sz →
    Calls Try.prog 169 #[.pointer a, .int .i64 (i : Int), .slice (v).a (v).n (v).c] w fun e w' => ∃ a', e = .returned (.pointer a') ∧ Tr w' (t.rep i (fun p => (p.1, v))) a' ∧ Kp Nu w w' := by
  intro t
  induction t with
  | nil =>
    intro w a i h _ hi
    simp [T.sz] at hi
  | node l p r ihl ihr =>
    intro w a i h hs hi
    have hnd := h.nd
    obtain ⟨b, al, ar, ea, hbk, hl, hr⟩ := h
    have hs' : l.sz + 1 + r.sz + 1 < 2 ^ 62 := hs
    have hi' : i < l.sz + 1 + r.sz := hi
    have CO : Calls Try.prog 177 #[.pointer al] w fun e w' => e = .returned (.int .i64 (l.sz : Int)) ∧ w' = w := count_any hl
    have HS : ∀ W, Kp Nu w W → W.cell? ⟨b, 2, none⟩ = some (.pointer al) ∧ W.cell? ⟨b, 3, none⟩ = some (.pointer ar) := fun W k => by
      obtain ⟨_, _, c2, c3, _⟩ := cell6 ((k.block _ (blk_lt hbk) (fun h => h)).trans hbk)
      exact ⟨c2, c3⟩
    obtain ⟨c0, c1, c2, c3, c4, c5⟩ := cell6 hbk
    rcases Nat.lt_trichotomy i l.sz with hc | hc | hc
    · have IH : ∀ W, Kp Nu w W → Calls Try.prog 169 #[.pointer al, .int .i64 (i : Int), .slice (v).a (v).n (v).c] W fun e w' => ∃ a', e = .returned (.pointer a') ∧ Tr w' (l.rep i (fun p => (p.1, v))) a' ∧ Kp Nu w w' := fun W q =>
        (ihl W al i (hl.nu q) (by omega) hc).mono fun e w' ⟨a', e1, e2, e3⟩ => ⟨a', e1, e2, q.andNu e3⟩
      have BA : ∀ W a1, Kp Nu w W → Tr W (l.rep i (fun p => (p.1, v))) a1 → Calls Try.prog 197 #[.pointer a, .pointer a1, .pointer ar] W fun e w' => ∃ a', e = .returned (.pointer a') ∧ Tr w' ((T.node l p r).rep i (fun p => (p.1, v))) a' ∧ Kp Nu w w' := fun W a1 q t1 => by
        have hib := T.rep_ht l i (fun p => (p.1, v))
        have := (over_at q (hnd.keep (Kn.nu q)) t1 (hr.nu q) (by rw [hib.2.1]; omega)).mono fun e w' ⟨a', e1, e2, e3, e4⟩ => (⟨a', e1, e2, e4⟩ : ∃ a', e = Ending.returned (.pointer a') ∧ _ ∧ _)
        simp only [T.rep]; rw [if_pos hc]; exact this
      have hcI : (i : Int) < (l.sz : Int) := by omega
      subst ea
      clear ihl ihr hnd hbk hl hr hs hs' hi hi' hc c0 c1 c4 c5
      generalize (l.sz : Int) = L at *
      go_enter Try.func169, Try.ntmps169
      go_wp2_with (go_at_call 177; refine CO.mono ?_; rintro e w' ⟨rfl, hw⟩; obtain rfl := hw.symm)
      go_region_held (fun W => W.cell? ⟨b, 2, none⟩ = some (.pointer al) ∧ W.cell? ⟨b, 3, none⟩ = some (.pointer ar)) (first | (refine HS _ ?_; repeat (first | assumption | exact Kp.refl _ _ | apply Kp.drew)))
        (first
          | (go_at_call 169; refine (IH _ ?_).mono ?_; (repeat (first | assumption | exact Kp.refl _ _ | apply Kp.drew)); rintro e w1 ⟨a1, rfl, t1, k1⟩)
          | (go_at_call 197; refine (BA _ _ ?_ ?_).mono ?_; (first | exact k1 | exact k1.drew); (first | exact t1 | exact t1.nu ((Kp.refl _ _).drew)); rintro e w3 ⟨a3, rfl, t3, k3⟩))
      go_wp2
      go_ret
      exact ⟨_, rfl, t3, k3⟩
    · have hcI : (i : Int) = (l.sz : Int) := by omega
      rw [hcI]
      have FIN : Hid (∀ W, W.heap[w.heap.size]? = some (.cells #[.int .u64 (p.1), .slice (v).a (v).n (v).c, .pointer al, .pointer ar, .int .i64 ((l.sz + 1 + r.sz : Nat) : Int), .int .i64 ((max l.ht r.ht + 1 : Nat) : Int)] 211 (0, 0)) → Kp Nu w W → Tr W ((T.node l p r).rep i (fun p => (p.1, v))) (some ⟨w.heap.size, 0, none⟩)) := fun W hW kW => by
        simp only [T.rep]; rw [if_neg (by omega), if_neg (by omega)]
        exact ⟨_, al, ar, rfl, hW, hl.nu kW, hr.nu kW⟩
      subst ea
      clear ihl ihr hnd hbk hl hr hs hs' hi hi' hc hcI
      generalize ((l.sz + 1 + r.sz : Nat) : Int) = X4 at *
      generalize ((max l.ht r.ht + 1 : Nat) : Int) = X5 at *
      generalize (l.sz : Int) = L at *
      go_enter Try.func169, Try.ntmps169
      go_wp2_with (go_at_call 177; refine CO.mono ?_; rintro e w' ⟨rfl, hw⟩; obtain rfl := hw.symm)
      go_ret
      exact ⟨_, rfl, FIN.out _ (heap_alloc_new w _) (Kp.alloc _ _ _), Kp.alloc _ _ _⟩
    · obtain ⟨j, hj⟩ : ∃ j, i - l.sz - 1 = j := ⟨_, rfl⟩
      have IH : ∀ W, Kp Nu w W → Calls Try.prog 169 #[.pointer ar, .int .i64 (j : Int), .slice (v).a (v).n (v).c] W fun e w' => ∃ a', e = .returned (.pointer a') ∧ Tr w' (r.rep j (fun p => (p.1, v))) a' ∧ Kp Nu w w' := fun W q =>
        (ihr W ar j (hr.nu q) (by omega) (by omega)).mono fun e w' ⟨a', e1, e2, e3⟩ => ⟨a', e1, e2, q.andNu e3⟩
      have BA : ∀ W a1, Kp Nu w W → Tr W (r.rep j (fun p => (p.1, v))) a1 → Calls Try.prog 197 #[.pointer a, .pointer al, .pointer a1] W fun e w' => ∃ a', e = .returned (.pointer a') ∧ Tr w' ((T.node l p r).rep i (fun p => (p.1, v))) a' ∧ Kp Nu w w' := fun W a1 q t1 => by
        have hib := T.rep_ht r j (fun p => (p.1, v))
        have := (over_at q (hnd.keep (Kn.nu q)) (hl.nu q) t1 (by rw [hib.2.1]; omega)).mono fun e w' ⟨a', e1, e2, e3, e4⟩ => (⟨a', e1, e2, e4⟩ : ∃ a', e = Ending.returned (.pointer a') ∧ _ ∧ _)
        simp only [T.rep]; rw [if_neg (by omega), if_pos hc, hj]; exact this
      have hcI : (l.sz : Int) < (i : Int) := by omega
      have hcJ : ¬ (i : Int) < (l.sz : Int) := by omega
      have a1 : IntKind.i64.wrap ((i : Int) - (l.sz : Int)) = (i : Int) - (l.sz : Int) := by rw [IntKind.wrap_i64]; omega
      have a2 : IntKind.i64.wrap ((i : Int) - (l.sz : Int) - 1) = (j : Int) := by rw [IntKind.wrap_i64]; omega
      subst ea
      clear ihl ihr hnd hbk hl hr hs hs' hi hi' hc hj c0 c1 c4 c5
      generalize (l.sz : Int) = L at *
      go_enter Try.func169, Try.ntmps169
      go_wp2_with (go_at_call 177; refine CO.mono ?_; rintro e w' ⟨rfl, hw⟩; obtain rfl := hw.symm)
      go_region_held (fun W => W.cell? ⟨b, 2, none⟩ = some (.pointer al) ∧ W.cell? ⟨b, 3, none⟩ = some (.pointer ar)) (first | (refine HS _ ?_; repeat (first | assumption | exact Kp.refl _ _ | apply Kp.drew)))
        (first
          | (go_at_call 169; refine (IH _ ?_).mono ?_; (repeat (first | assumption | exact Kp.refl _ _ | apply Kp.drew)); rintro e w1 ⟨a1, rfl, t1, k1⟩)
          | (go_at_call 197; refine (BA _ _ ?_ ?_).mono ?_; (first | exact k1 | exact k1.drew); (first | exact t1 | exact t1.nu ((Kp.refl _ _).drew)); rintro e w3 ⟨a3, rfl, t3, k3⟩))
      go_wp2
      go_ret
      exact ⟨_, rfl, t3, k3⟩
end Go.Proofs.Ytchealdgncgjoaa.StU
