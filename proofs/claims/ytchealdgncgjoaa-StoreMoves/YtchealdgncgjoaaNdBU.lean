import Derived.Test.YtchealdgncgjoaaNdAU
import Derived.Deep.RegionHeld
namespace Go.Proofs.Ytchealdgncgjoaa.StU
open Go.RowKit Go.Proofs.Ytchealdgncgjoaa.St
set_option linter.unusedVariables false

theorem ht_sz : ∀ t : T (Int × Sv), t.ht ≤ t.sz
  | .nil => Nat.le_refl _
  | .node l p r => by
    have := ht_sz l
    have := ht_sz r
    simp only [T.ht, T.sz]; omega

set_option maxHeartbeats 2000000 in
theorem over_any {w : World} {l r : T (Int × Sv)} {p : Int × Sv} {a al ar : Option Addr} (hn : Nd w p a) (hl : Tr w l al) (hr : Tr w r ar) (hs : l.sz + r.sz < 2 ^ 62) :
    Calls Try.prog 197 #[.pointer a, .pointer al, .pointer ar] w fun e w' => ∃ a', e = .returned (.pointer a') ∧ Tr w' (.node l p r) a' ∧ Kp Nu w w' := by
  obtain ⟨b, x2, x3, x4, x5, rfl, hb⟩ := hn
  have HS : ∀ W, Kp Nu w W → W.cell? ⟨b, 0, none⟩ = some (.int .u64 (p.1)) ∧ W.cell? ⟨b, 1, none⟩ = some (.slice (p.2).a (p.2).n (p.2).c) := fun W k => by
    obtain ⟨c0, c1, _⟩ := cell6 ((k.block _ (blk_lt hb) (fun h => h)).trans hb)
    exact ⟨c0, c1⟩
  have CL : ∀ W, Kp Nu w W → Calls Try.prog 177 #[.pointer al] W fun e w' => e = .returned (.int .i64 (l.sz : Int)) ∧ w' = W := fun W k => count_any (hl.nu k)
  have CR : ∀ W, Kp Nu w W → Calls Try.prog 177 #[.pointer ar] W fun e w' => e = .returned (.int .i64 (r.sz : Int)) ∧ w' = W := fun W k => count_any (hr.nu k)
  have HL : ∀ W, Kp Nu w W → Calls Try.prog 205 #[.pointer al] W fun e w' => e = .returned (.int .i64 (l.ht : Int)) ∧ w' = W := fun W k => high_any (hl.nu k)
  have HR : ∀ W, Kp Nu w W → Calls Try.prog 205 #[.pointer ar] W fun e w' => e = .returned (.int .i64 (r.ht : Int)) ∧ w' = W := fun W k => high_any (hr.nu k)
  have e1 := ht_sz l
  have e2 := ht_sz r
  obtain ⟨c0, c1⟩ := HS w (Kp.refl _ _)
  have FIN : Hid (∀ x y : Int, x = (l.sz : Int) + 1 + (r.sz : Int) → y = ((max l.ht r.ht : Nat) : Int) + 1 → ∃ a', Ending.returned (.pointer (some ⟨w.heap.size, 0, none⟩)) = Ending.returned (.pointer a') ∧ Tr (w.alloc (.cells #[.int .u64 (p.1), .slice (p.2).a (p.2).n (p.2).c, .pointer al, .pointer ar, .int .i64 x, .int .i64 y] 211)).drew (.node l p r) a' ∧ Kp Nu w (w.alloc (.cells #[.int .u64 (p.1), .slice (p.2).a (p.2).n (p.2).c, .pointer al, .pointer ar, .int .i64 x, .int .i64 y] 211)).drew) := fun x y hx hy => by
    have k : Kp Nu w (w.alloc (.cells #[.int .u64 (p.1), .slice (p.2).a (p.2).n (p.2).c, .pointer al, .pointer ar, .int .i64 x, .int .i64 y] 211)).drew := (Kp.alloc w _ Nu).drew
    refine ⟨_, rfl, ⟨w.heap.size, al, ar, rfl, ?_, hl.nu k, hr.nu k⟩, k⟩
    subst hx hy
    exact heap_alloc_new w _
  generalize hL : l.sz = L at *
  generalize hR : r.sz = R at *
  generalize hHL : l.ht = A at *
  generalize hHR : r.ht = B at *
  have HH := hide (And.intro hL (And.intro hR (And.intro hHL hHR)))
  clear hL hR hHL hHR hb hl hr
  have a1 : IntKind.i64.wrap ((L : Int) + 1) = (L : Int) + 1 := by rw [IntKind.wrap_i64]; omega
  have a2 : IntKind.i64.wrap ((L : Int) + 1 + (R : Int)) = (L : Int) + 1 + (R : Int) := by rw [IntKind.wrap_i64]; omega
  have a3 : IntKind.i64.wrap ((A : Int) + 1) = (A : Int) + 1 := by rw [IntKind.wrap_i64]; omega
  have a4 : IntKind.i64.wrap ((B : Int) + 1) = (B : Int) + 1 := by rw [IntKind.wrap_i64]; omega
  go_enter Try.func197, Try.ntmps197
  go_wp2_with fail
  go_region_held (fun W => W.cell? ⟨b, 0, none⟩ = some (.int .u64 (p.1)) ∧ W.cell? ⟨b, 1, none⟩ = some (.slice (p.2).a (p.2).n (p.2).c)) (first | (refine HS _ ?_; repeat (first | assumption | exact Kp.refl _ _ | apply Kp.andAlloc | apply Kp.drew)))
    (first
      | (go_at_call_of 177 al; refine (CL _ ?_).mono ?_; (repeat (first | assumption | exact Kp.refl _ _ | apply Kp.andAlloc | apply Kp.drew)); rintro e w' ⟨rfl, rfl⟩)
      | (go_at_call_of 177 ar; refine (CR _ ?_).mono ?_; (repeat (first | assumption | exact Kp.refl _ _ | apply Kp.andAlloc | apply Kp.drew)); rintro e w' ⟨rfl, rfl⟩)
      | (go_at_call_of 205 al; refine (HL _ ?_).mono ?_; (repeat (first | assumption | exact Kp.refl _ _ | apply Kp.andAlloc | apply Kp.drew)); rintro e w' ⟨rfl, rfl⟩)
      | (go_at_call_of 205 ar; refine (HR _ ?_).mono ?_; (repeat (first | assumption | exact Kp.refl _ _ | apply Kp.andAlloc | apply Kp.drew)); rintro e w' ⟨rfl, rfl⟩))
  all_goals go_wp2
  all_goals go_ret
  all_goals refine FIN.out _ _ ?_ ?_
  all_goals (first | rfl | omega)
end Go.Proofs.Ytchealdgncgjoaa.StU
