import Derived.Test.YtchealdgncgjoaaFlB
import Derived.Test.YtchealdgncgjoaaKpA
import Derived.Deep.RegionHeld
namespace Go.Proofs.Ytchealdgncgjoaa.StF
open Go.RowKit Go.Proofs.Ytchealdgncgjoaa.St
set_option linter.unusedVariables false

/-- a tree in memory; its nodes are never written to -/
def Tr (w : World) : T (FK × Int) → Option Addr → Prop
  | .nil, a => a = none
  | .node l p r, a => ∃ b al ar, a = some ⟨b, 0, none⟩ ∧ w.heap[b]? = some (.cells #[.float .f64 (p.1).bits, .int .i64 (p.2), .pointer al, .pointer ar, .int .i64 ((l.sz + 1 + r.sz : Nat) : Int), .int .i64 ((max l.ht r.ht + 1 : Nat) : Int)] 163 (0, 0)) ∧ Tr w l al ∧ Tr w r ar
/-- the nodes are as they were -/
def Kn (w w' : World) : Prop := ∀ (b : Nat) (c : Array Value), w.heap[b]? = some (.cells c 163 (0, 0)) → w'.heap[b]? = some (.cells c 163 (0, 0))
theorem Kn.refl (w : World) : Kn w w := fun _ _ h => h
theorem Kn.trans {a b c : World} (h : Kn a b) (k : Kn b c) : Kn a c := fun i c e => k i c (h i c e)
theorem Kn.nu {w w' : World} (k : Kp Nu w w') : Kn w w' := fun b c h => (k.block b (blk_lt h) (fun h => h)).trans h
theorem Kn.of {S : Nat → Prop} {w w' : World} (k : Kp S w w') (hS : ∀ b c, w.heap[b]? = some (.cells c 163 (0, 0)) → ¬ S b) : Kn w w' := fun b c h => (k.block b (blk_lt h) (hS b c h)).trans h
theorem Tr.keep {w w' : World} (k : Kn w w') : ∀ {t : T (FK × Int)} {a : Option Addr}, Tr w t a → Tr w' t a
  | .nil, _, h => h
  | .node l p r, _, ⟨b, al, ar, e, hb, hl, hr⟩ => ⟨b, al, ar, e, k b _ hb, hl.keep k, hr.keep k⟩
theorem Tr.nu {w w' : World} {t : T (FK × Int)} {a : Option Addr} (h : Tr w t a) (k : Kp Nu w w') : Tr w' t a := h.keep (Kn.nu k)
/-- a node with this pair -/
def Nd (w : World) (p : FK × Int) (a : Option Addr) : Prop := ∃ b x2 x3 x4 x5, a = some ⟨b, 0, none⟩ ∧ w.heap[b]? = some (.cells #[.float .f64 (p.1).bits, .int .i64 (p.2), x2, x3, x4, x5] 163 (0, 0))
theorem Tr.nd {w : World} {l r : T (FK × Int)} {p : FK × Int} {a : Option Addr} (h : Tr w (.node l p r) a) : Nd w p a := by
  obtain ⟨b, al, ar, e, hb, _⟩ := h
  exact ⟨b, _, _, _, _, e, hb⟩
theorem Nd.keep {w w' : World} {p : FK × Int} {a : Option Addr} (h : Nd w p a) (k : Kn w w') : Nd w' p a := by
  obtain ⟨b, x2, x3, x4, x5, e, hb⟩ := h
  exact ⟨b, x2, x3, x4, x5, e, k b _ hb⟩
theorem cell6 {w : World} {b : Nat} {x0 x1 x2 x3 x4 x5 : Value} {t : TypeId} (h : w.heap[b]? = some (.cells #[x0, x1, x2, x3, x4, x5] t (0, 0))) :
    w.cell? ⟨b, 0, none⟩ = some x0 ∧ w.cell? ⟨b, 1, none⟩ = some x1 ∧ w.cell? ⟨b, 2, none⟩ = some x2 ∧ w.cell? ⟨b, 3, none⟩ = some x3 ∧ w.cell? ⟨b, 4, none⟩ = some x4 ∧ w.cell? ⟨b, 5, none⟩ = some x5 := by
  refine ⟨?_, ?_, ?_, ?_, ?_, ?_⟩ <;> simp [World.cell?, h]

set_option maxHeartbeats 400000 in
theorem count_any {w : World} {t : T (FK × Int)} {a : Option Addr} (h : Tr w t a) : Calls Try.prog 159 #[.pointer a] w fun e w' => e = .returned (.int .i64 (t.sz : Int)) ∧ w' = w := by
  cases t with
  | nil =>
    cases (show a = none from h)
    go_enter Try.func159, Try.ntmps159
    go_wp2
    go_ret
    exact ⟨rfl, rfl⟩
  | node l p r =>
    obtain ⟨b, al, ar, rfl, hb, _, _⟩ := h
    obtain ⟨c0, c1, c2, c3, c4, c5⟩ := cell6 hb
    have e : ((l.sz + 1 + r.sz : Nat) : Int) = ((T.node l p r).sz : Int) := rfl
    rw [e] at c4
    generalize ((T.node l p r).sz : Int) = z at *
    clear hb e c0 c1 c2 c3 c5
    go_enter Try.func159, Try.ntmps159
    go_wp2
    go_ret
    exact ⟨rfl, rfl⟩
set_option maxHeartbeats 400000 in
theorem high_any {w : World} {t : T (FK × Int)} {a : Option Addr} (h : Tr w t a) : Calls Try.prog 191 #[.pointer a] w fun e w' => e = .returned (.int .i64 (t.ht : Int)) ∧ w' = w := by
  cases t with
  | nil =>
    cases (show a = none from h)
    go_enter Try.func191, Try.ntmps191
    go_wp2
    go_ret
    exact ⟨rfl, rfl⟩
  | node l p r =>
    obtain ⟨b, al, ar, rfl, hb, _, _⟩ := h
    obtain ⟨c0, c1, c2, c3, c4, c5⟩ := cell6 hb
    have e : ((max l.ht r.ht + 1 : Nat) : Int) = ((T.node l p r).ht : Int) := rfl
    rw [e] at c5
    generalize ((T.node l p r).ht : Int) = z at *
    clear hb e c0 c1 c2 c3 c4
    go_enter Try.func191, Try.ntmps191
    go_wp2
    go_ret
    exact ⟨rfl, rfl⟩
end Go.Proofs.Ytchealdgncgjoaa.StF
namespace Go.Proofs.Ytchealdgncgjoaa.StF
open Go.RowKit Go.Proofs.Ytchealdgncgjoaa.St
set_option linter.unusedVariables false

theorem ht_sz : ∀ t : T (FK × Int), t.ht ≤ t.sz
  | .nil => Nat.le_refl _
  | .node l p r => by
    have := ht_sz l
    have := ht_sz r
    simp only [T.ht, T.sz]; omega

set_option maxHeartbeats 2000000 in
theorem over_any {w : World} {l r : T (FK × Int)} {p : FK × Int} {a al ar : Option Addr} (hn : Nd w p a) (hl : Tr w l al) (hr : Tr w r ar) (hs : l.sz + r.sz < 2 ^ 62) :
    Calls Try.prog 161 #[.pointer a, .pointer al, .pointer ar] w fun e w' => ∃ a', e = .returned (.pointer a') ∧ Tr w' (.node l p r) a' ∧ Kp Nu w w' := by
  obtain ⟨b, x2, x3, x4, x5, rfl, hb⟩ := hn
  have HS : ∀ W, Kp Nu w W → W.cell? ⟨b, 0, none⟩ = some (.float .f64 (p.1).bits) ∧ W.cell? ⟨b, 1, none⟩ = some (.int .i64 (p.2)) := fun W k => by
    obtain ⟨c0, c1, _⟩ := cell6 ((k.block _ (blk_lt hb) (fun h => h)).trans hb)
    exact ⟨c0, c1⟩
  have CL : ∀ W, Kp Nu w W → Calls Try.prog 159 #[.pointer al] W fun e w' => e = .returned (.int .i64 (l.sz : Int)) ∧ w' = W := fun W k => count_any (hl.nu k)
  have CR : ∀ W, Kp Nu w W → Calls Try.prog 159 #[.pointer ar] W fun e w' => e = .returned (.int .i64 (r.sz : Int)) ∧ w' = W := fun W k => count_any (hr.nu k)
  have HL : ∀ W, Kp Nu w W → Calls Try.prog 191 #[.pointer al] W fun e w' => e = .returned (.int .i64 (l.ht : Int)) ∧ w' = W := fun W k => high_any (hl.nu k)
  have HR : ∀ W, Kp Nu w W → Calls Try.prog 191 #[.pointer ar] W fun e w' => e = .returned (.int .i64 (r.ht : Int)) ∧ w' = W := fun W k => high_any (hr.nu k)
  have e1 := ht_sz l
  have e2 := ht_sz r
  obtain ⟨c0, c1⟩ := HS w (Kp.refl _ _)
  have FIN : Hid (∀ x y : Int, x = (l.sz : Int) + 1 + (r.sz : Int) → y = ((max l.ht r.ht : Nat) : Int) + 1 → ∃ a', Ending.returned (.pointer (some ⟨w.heap.size, 0, none⟩)) = Ending.returned (.pointer a') ∧ Tr (w.alloc (.cells #[.float .f64 (p.1).bits, .int .i64 (p.2), .pointer al, .pointer ar, .int .i64 x, .int .i64 y] 163)).drew (.node l p r) a' ∧ Kp Nu w (w.alloc (.cells #[.float .f64 (p.1).bits, .int .i64 (p.2), .pointer al, .pointer ar, .int .i64 x, .int .i64 y] 163)).drew) := fun x y hx hy => by
    have k : Kp Nu w (w.alloc (.cells #[.float .f64 (p.1).bits, .int .i64 (p.2), .pointer al, .pointer ar, .int .i64 x, .int .i64 y] 163)).drew := (Kp.alloc w _ Nu).drew
    refine ⟨_, rfl, ⟨w.heap.size, al, ar, rfl, ?_, hl.nu k, hr.nu k⟩, k⟩
    subst hx hy
    exact heap_alloc_new w _
  generalize hL : l.sz = L at *
  generalize hR : r.sz = R at *
  generalize hHL : l.ht = A at *
  generalize hHR : r.ht = B at *
  have HH := hide (And.intro hL (And.intro hR (And.intro hHL hHR)))
  clear hL hR hHL hHR hb hl hr
  have a1 : IntKind.i64.wrap ((L : Int) + 1) = (L : Int) + 1 := by rw [IntKind.wrap_i64]; omega
  have a2 : IntKind.i64.wrap ((L : Int) + 1 + (R : Int)) = (L : Int) + 1 + (R : Int) := by rw [IntKind.wrap_i64]; omega
  have a3 : IntKind.i64.wrap ((A : Int) + 1) = (A : Int) + 1 := by rw [IntKind.wrap_i64]; omega
  have a4 : IntKind.i64.wrap ((B : Int) + 1) = (B : Int) + 1 := by rw [IntKind.wrap_i64]; omega
  go_enter Try.func161, Try.ntmps161
  go_wp2_with fail
  go_region_held (fun W => W.cell? ⟨b, 0, none⟩ = some (.float .f64 (p.1).bits) ∧ W.cell? ⟨b, 1, none⟩ = some (.int .i64 (p.2))) (first | (refine HS _ ?_; repeat (first | assumption | exact Kp.refl _ _ | apply Kp.andAlloc | apply Kp.drew)))
    (first
      | (go_at_call_of 159 al; refine (CL _ ?_).mono ?_; (repeat (first | assumption | exact Kp.refl _ _ | apply Kp.andAlloc | apply Kp.drew)); rintro e w' ⟨rfl, rfl⟩)
      | (go_at_call_of 159 ar; refine (CR _ ?_).mono ?_; (repeat (first | assumption | exact Kp.refl _ _ | apply Kp.andAlloc | apply Kp.drew)); rintro e w' ⟨rfl, rfl⟩)
      | (go_at_call_of 191 al; refine (HL _ ?_).mono ?_; (repeat (first | assumption | exact Kp.refl _ _ | apply Kp.andAlloc | apply Kp.drew)); rintro e w' ⟨rfl, rfl⟩)
      | (go_at_call_of 191 ar; refine (HR _ ?_).mono ?_; (repeat (first | assumption | exact Kp.refl _ _ | apply Kp.andAlloc | apply Kp.drew)); rintro e w' ⟨rfl, rfl⟩))
  all_goals go_wp2
  all_goals go_ret
  all_goals refine FIN.out _ _ ?_ ?_
  all_goals (first | rfl | omega)
end Go.Proofs.Ytchealdgncgjoaa.StF
