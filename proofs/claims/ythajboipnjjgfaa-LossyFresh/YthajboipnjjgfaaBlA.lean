import Derived.Test.YthajboipnjjgfaaBaA
import Derived.Sort.Grow
import Derived.Deep.Draws
namespace Go.Proofs.Ythajboipnjjgfaa.Ly
open Go.RowKit Go.Maps
set_option linter.unusedVariables false

def cmpI (x y : Int) : Int := if x < y then -1 else if x > y then 1 else 0
theorem compare_any (x y : Int) (w : World) : Calls Try.prog 83 #[.int .u8 x, .int .u8 y] w fun e w' => e = .returned (.int .i64 (cmpI x y)) ∧ w' = w := by
  have N93 : ∀ x w, Calls Try.prog 93 #[.int .u8 x] w fun e w' => e = .returned (.bool false) ∧ w' = w := fun x w => by
    have hx : (x != x) = false := by simp
    go_enter Try.func93, Try.ntmps93
    go_wp2
    go_ret
    exact ⟨by simp, rfl⟩
  have n1 := N93 x w
  have n2 := N93 y w
  clear N93
  unfold cmpI
  by_cases h1 : x < y
  · rw [if_pos h1]
    go_enter Try.func83, Try.ntmps83
    go_wp2_with fail
    refine n1.mono ?_; rintro e w2 ⟨rfl, hw⟩; obtain rfl := hw.symm; clear n1 hw
    go_wp2_with fail
    refine n2.mono ?_; rintro e w2 ⟨rfl, hw⟩; obtain rfl := hw.symm; clear n2 hw
    go_wp2
    go_ret
    exact ⟨rfl, rfl⟩
  · rw [if_neg h1]
    by_cases h2 : x > y
    · rw [if_pos h2]
      go_enter Try.func83, Try.ntmps83
      go_wp2_with fail
      refine n1.mono ?_; rintro e w2 ⟨rfl, hw⟩; obtain rfl := hw.symm; clear n1 hw
      go_wp2_with fail
      refine n2.mono ?_; rintro e w2 ⟨rfl, hw⟩; obtain rfl := hw.symm; clear n2 hw
      go_wp2
      go_ret
      exact ⟨rfl, rfl⟩
    · rw [if_neg h2]
      go_enter Try.func83, Try.ntmps83
      go_wp2_with fail
      refine n1.mono ?_; rintro e w2 ⟨rfl, hw⟩; obtain rfl := hw.symm; clear n1 hw
      go_wp2_with fail
      refine n2.mono ?_; rintro e w2 ⟨rfl, hw⟩; obtain rfl := hw.symm; clear n2 hw
      go_wp2
      go_ret
      exact ⟨rfl, rfl⟩

def orI (x y : Int) : Int := if x = 0 then y else x
theorem or_any (x y : Int) (g : Nat) (w : World) (h0 : w.cell? ⟨g, 0, none⟩ = some (.int .i64 x)) (h1 : w.cell? ⟨g, 1, none⟩ = some (.int .i64 y)) :
    Calls Try.prog 82 #[.slice (some ⟨g, 0, none⟩) 2 2] w fun e w' => e = .returned (.int .i64 (orI x y)) ∧ w' = w := by
  go_enter Try.func82, Try.ntmps82
  go_wp2_with fail
  go_loopw [8] (fun i wr => wr = w ∧ ((i = .int .i64 0) ∨ (i = .int .i64 1 ∧ Hid (x = 0)) ∨ (i = .int .i64 2 ∧ Hid (x = 0 ∧ y = 0)))) (fun i _ => 3 - (intOf i).toNat)
  case atStart => exact ⟨rfl, .inl rfl⟩
  case round =>
    obtain ⟨rfl, hc⟩ := hrel
    rcases hc with rfl | ⟨rfl, hx⟩ | ⟨rfl, hx⟩
    · by_cases hx : x = 0
      · have hh : Hid (x = 0) := hx
        have hx2 : (x != 0) = false := by simpa using hx
        clear hx
        go_wp2
        exact ⟨⟨trivial, .inr (.inl ⟨rfl, hh⟩)⟩, by simp [intOf]⟩
      · have hx2 : (x != 0) = true := by simpa using hx
        have hx3 : (x == 0) = false := by simpa using hx
        go_wp2
        go_ret
        exact ⟨congrArg (fun z => Ending.returned (Value.int .i64 z)) (show x = orI x y by simp [orI, hx]), rfl⟩
    · by_cases hy : y = 0
      · have hh : Hid (x = 0 ∧ y = 0) := ⟨hx.out, hy⟩
        have hx2 : (y != 0) = false := by simpa using hy
        clear hy
        go_wp2
        exact ⟨⟨trivial, .inr (.inr ⟨rfl, hh⟩)⟩, by simp [intOf]⟩
      · have hy2 : (y != 0) = true := by simpa using hy
        have hy3 : (y == 0) = false := by simpa using hy
        go_wp2
        go_ret
        exact ⟨congrArg (fun z => Ending.returned (Value.int .i64 z)) (show y = orI x y by simp [orI, hx.out]), rfl⟩
    · go_wp2
      go_ret
      exact ⟨congrArg (fun z => Ending.returned (Value.int .i64 z)) (show 0 = orI x y by simp [orI, hx.out.1, hx.out.2]), rfl⟩

def cmpL (p q : Int × Int) : Int := orI (cmpI p.1 q.1) (cmpI p.2 q.2)
def encL (p : Int × Int) : List Value := [.int .u8 p.1, .int .u8 p.2]
/-- draws and new blocks, nothing else -/
structure Gw (w w' : World) : Prop where
  out : ∃ q os, w' = Sort.grow (w.drewN q) os
theorem Gw.refl (w : World) : Gw w w := ⟨⟨0, #[], by rw [Sort.grow_empty]; rfl⟩⟩
theorem Gw.andAlloc {w w' : World} (h : Gw w w') (o : Obj) : Gw w (w'.alloc o) := by
  obtain ⟨q, os, rfl⟩ := h.out
  exact ⟨⟨q, _, by rw [Sort.alloc_eq_grow, Sort.grow_grow]⟩⟩
theorem Gw.drew {w w' : World} (h : Gw w w') : Gw w w'.drew := by
  obtain ⟨q, os, rfl⟩ := h.out
  exact ⟨⟨q + 1, os, rfl⟩⟩
theorem Gw.block {w w' : World} (h : Gw w w') {k : Nat} (hk : k < w.heap.size) : w'.heap[k]? = w.heap[k]? := by
  obtain ⟨q, os, rfl⟩ := h.out
  show (w.heap ++ os)[k]? = _
  rw [Array.getElem?_append_left hk]
theorem Gw.cell {w w' : World} (h : Gw w w') {k n : Nat} {v : Value} (hc : w.cell? ⟨k, n, none⟩ = some v) : w'.cell? ⟨k, n, none⟩ = some v := by
  have hk : k < w.heap.size := World.block_lt_of_cell? w ⟨k, n, none⟩ hc
  simp only [World.cell?, h.block hk] at hc ⊢
  exact hc
theorem Gw.trans {w w' w'' : World} (h : Gw w w') (k : Gw w' w'') : Gw w w'' := by
  obtain ⟨q, os, rfl⟩ := h.out
  obtain ⟨q', os', rfl⟩ := k.out
  refine ⟨⟨q + q', os ++ os', ?_⟩⟩
  have : (Sort.grow (w.drewN q) os).drewN q' = Sort.grow (w.drewN (q + q')) os := by
    show Sort.grow ((w.drewN q).drewN q') os = _
    rw [World.drewN_drewN]
  rw [this, Sort.grow_grow]
theorem cell2 {w : World} {b : Nat} {x y : Value} {t : TypeId} (h : w.heap[b]? = some (.cells #[x, y] t (0, 0))) : w.cell? ⟨b, 0, none⟩ = some x ∧ w.cell? ⟨b, 1, none⟩ = some y := by
  constructor <;> simp [World.cell?, h]
set_option maxRecDepth 100000 in
set_option maxHeartbeats 400000 in
theorem by_any (p q : Int × Int) (w : World) : Calls Try.prog 62 #[.agg #[.int .u8 p.1, .int .u8 p.2], .agg #[.int .u8 q.1, .int .u8 q.2]] w fun e w' => e = .returned (.int .i64 (cmpL p q)) ∧ Gw w w' := by
  have CC : ∀ W0 (a b : Int) W, Gw W0 W → Calls Try.prog 83 #[.int .u8 a, .int .u8 b] W fun e W' => e = .returned (.int .i64 (cmpI a b)) ∧ Gw W0 W' := fun W0 a b W k => (compare_any a b W).mono (fun e W' h => ⟨h.1, by rw [h.2]; exact k⟩)
  have OR : ∀ W0 W, Gw W0 W → Calls Try.prog 82 #[.slice (some ⟨W.heap.size, 0, none⟩) 2 2] (W.alloc (.cells #[.int .i64 (cmpI p.1 q.1), .int .i64 (cmpI p.2 q.2)] 3)) fun e W' => e = .returned (.int .i64 (orI (cmpI p.1 q.1) (cmpI p.2 q.2))) ∧ Gw W0 W' := fun W0 W k =>
    (or_any _ _ W.heap.size _ (cell2 (heap_alloc_new W _)).1 (cell2 (heap_alloc_new W _)).2).mono (fun e W' h => ⟨h.1, by rw [h.2]; exact k.andAlloc _⟩)
  have mixed : Try.prog.follows .mixedOrders = true := by kernel_rfl
  unfold cmpL
  generalize p.1 = p1 at *
  generalize p.2 = p2 at *
  generalize q.1 = q1 at *
  generalize q.2 = q2 at *
  have b1 : ((w.alloc (.cells #[.int .u8 p1, .int .u8 p2] 86)).alloc (.cells #[.int .u8 q1, .int .u8 q2] 86)).heap[w.heap.size]? = some (.cells #[.int .u8 p1, .int .u8 p2] 86 (0, 0)) := (Below.heap_alloc _ _ _ (by simp)).trans (heap_alloc_new w _)
  have b2 : ((w.alloc (.cells #[.int .u8 p1, .int .u8 p2] 86)).alloc (.cells #[.int .u8 q1, .int .u8 q2] 86)).heap[w.heap.size + 1]? = some (.cells #[.int .u8 q1, .int .u8 q2] 86 (0, 0)) := by
    have := heap_alloc_new (w.alloc (.cells #[.int .u8 p1, .int .u8 p2] 86)) (.cells #[.int .u8 q1, .int .u8 q2] 86)
    simpa using this
  have K0 : Gw w ((w.alloc (.cells #[.int .u8 p1, .int .u8 p2] 86)).alloc (.cells #[.int .u8 q1, .int .u8 q2] 86)) := ((Gw.refl w).andAlloc _).andAlloc _
  obtain ⟨W0, hW0⟩ : ∃ W, (w.alloc (.cells #[.int .u8 p1, .int .u8 p2] 86)).alloc (.cells #[.int .u8 q1, .int .u8 q2] 86) = W := ⟨_, rfl⟩
  rw [hW0] at b1 b2 K0
  have HS : ∀ W, Gw W0 W → W.cell? ⟨w.heap.size, 0, none⟩ = some (.int .u8 p1) ∧ W.cell? ⟨w.heap.size, 1, none⟩ = some (.int .u8 p2) ∧ W.cell? ⟨w.heap.size + 1, 0, none⟩ = some (.int .u8 q1) ∧ W.cell? ⟨w.heap.size + 1, 1, none⟩ = some (.int .u8 q2) := fun W k =>
    ⟨k.cell (by simp [World.cell?, b1]), k.cell (by simp [World.cell?, b1]), k.cell (by simp [World.cell?, b2]), k.cell (by simp [World.cell?, b2])⟩
  replace CC := CC W0
  replace OR := OR W0
  clear b1 b2
  have k1 := (Gw.refl W0).drew
  go_enter Try.func62, Try.ntmps62
  go_wp2_with fail
  try rw [hW0]
  clear hW0
  go_region_held (fun W => W.cell? ⟨w.heap.size, 0, none⟩ = some (.int .u8 p1) ∧ W.cell? ⟨w.heap.size, 1, none⟩ = some (.int .u8 p2) ∧ W.cell? ⟨w.heap.size + 1, 0, none⟩ = some (.int .u8 q1) ∧ W.cell? ⟨w.heap.size + 1, 1, none⟩ = some (.int .u8 q2)) (first | exact HS _ hk4 | exact HS _ (hk3.andAlloc _) | exact HS _ hk3 | exact HS _ hk2 | exact HS _ k1)
    (first | (go_at_call 83; first | (refine (CC _ _ _ hk2).mono ?_; rintro e w3 ⟨rfl, hk3⟩) | (refine (CC _ _ _ k1).mono ?_; rintro e w2 ⟨rfl, hk2⟩))
           | (go_at_call 82; refine (OR _ hk3).mono ?_; rintro e w4 ⟨rfl, hk4⟩))
  all_goals go_wp2
  all_goals go_ret
  all_goals exact ⟨rfl, K0.trans hk4⟩
end Go.Proofs.Ythajboipnjjgfaa.Ly
