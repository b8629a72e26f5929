import Derived.Test.YthajboipnjjgfaaLyL
namespace Go.Proofs.Ythajboipnjjgfaa.Ly
open Go.RowKit Go.Maps
set_option linter.unusedVariables false

/-- a slice of ints that can be read -/
def RdI (w : World) (u : Value) (xs : List Int) : Prop :=
  ((∃ ad cap, u = .slice ad 0 cap) ∧ xs = []) ∨ ∃ a o cap, u = .slice (some ⟨a, o, none⟩) xs.length cap ∧ ∀ i x, xs[i]? = some x → w.cell? ⟨a, o + i, none⟩ = some (.int .i64 x)
theorem RdI.slice {w : World} {u : Value} {ys : List Int} (h : RdI w u ys) : ∃ ad cap, u = .slice ad ys.length cap := by
  rcases h with ⟨⟨ad, cap, rfl⟩, rfl⟩ | ⟨a, o, cap, rfl, _⟩
  · exact ⟨ad, cap, rfl⟩
  · exact ⟨_, cap, rfl⟩
theorem cell_below {w w' : World} {a : Addr} {u : Value} {B : Nat} (h : w.cell? a = some u) (hB : w.heap.size ≤ B) (k : Below B w w') : w'.cell? a = some u :=
  (World.cell?_of_block (k.block _ (Nat.lt_of_lt_of_le (World.block_lt_of_cell? w _ h) hB))).trans h
theorem RdI.below {w w' : World} {u : Value} {ys : List Int} {B : Nat} (h : RdI w u ys) (hB : w.heap.size ≤ B) (k : Below B w w') : RdI w' u ys := by
  rcases h with ⟨h1, rfl⟩ | ⟨a, o, cap, rfl, hc⟩
  · exact .inl ⟨h1, rfl⟩
  · exact .inr ⟨a, o, cap, rfl, fun i x hi => cell_below (hc i x hi) hB k⟩
theorem RdI.nu {w w' : World} {u : Value} {ys : List Int} (h : RdI w u ys) (k : Kp Nu w w') : RdI w' u ys := h.below (Nat.le_refl _) k.toBelow

section
variable {B b bm nb : Nat} {w w' : World} {room : Int} {D : DataW Unit} {v : Value} {c : Ct} {L : List Gm}

/-- does a number stand for an address? -/
def stF (n a : Int) : Bool := n == -1 || n == a
theorem stands_any (n a : Int) (a0 : 0 ≤ a) (a1 : a < 256) (w : World) : Calls Try.prog 65 #[.int .i64 n, .int .u8 a] w fun e w' => e = .returned (.bool (stF n a)) ∧ w' = w := by
  unfold stF
  by_cases h1 : n = -1
  · subst h1
    go_enter Try.func65, Try.ntmps65
    go_wp2
    go_ret
    exact ⟨rfl, rfl⟩
  · have h2 : (n == -1) = false := by simpa using h1
    rw [h2, Bool.false_or]
    go_enter Try.func65, Try.ntmps65
    go_wp2
    go_ret
    exact ⟨rfl, rfl⟩

theorem empty1_any (k : Nat) (f t : Int) (d : Value) (hd : ∃ ad n cap, d = .slice ad n cap) (w : World) : Calls Try.prog 52 #[.int .i64 (k : Int), .agg #[.int .u8 f, .int .u8 t, d]] w fun e w' => e = .returned (.bool true) ∧ Kp Nu w w' := by
  obtain ⟨ad, n, cap, rfl⟩ := hd
  go_enter Try.func52, Try.ntmps52
  go_wp2
  go_ret
  exact ⟨rfl, by (repeat (first | assumption | exact Kp.refl _ _ | apply Kp.andAlloc | apply Kp.drew))⟩

theorem empty_any (h : Nt B w b bm nb room D v c L) (hx0 : 0 ≤ c.x) (hx1 : c.x < 4611686018427387000) :
    Calls Try.prog 32 #[.pointer (some ⟨b, 0, none⟩)] w fun e w' => e = .returned (.int .i64 (L.length : Int)) ∧ ∃ v', Nt B w' b bm nb room D v' { c with x := c.x + (L.length : Int) } [] ∧ Fr b bm v w w' v' := by
  have e0 : ∀ (L : List Gm) k, sift (fun _ _ => true) k L = [] := fun L => by
    induction L with
    | nil => intro k; rfl
    | cons g r ih => intro k; simp [sift, ih]
  have T := takeOut_52 h (fun _ _ => true) hx0 hx1 (fun W _ k g hg => by
    obtain ⟨k0, cap, e⟩ := (h.dat g (List.mem_of_getElem? hg)).slice
    exact empty1_any k g.f g.t g.d ⟨_, _, _, e⟩ W)
  rw [e0] at T
  have e1 : (L.length : Int) - (([] : List Gm).length : Int) = (L.length : Int) := by simp
  rw [e1] at T
  clear e1
  go_enter Try.func32, Try.ntmps32
  go_wp2_with fail
  refine T.mono ?_; rintro e w2 ⟨rfl, hN⟩
  go_wp2
  go_ret
  exact ⟨rfl, hN⟩

theorem fits_any (f t n m : Int) (f0 : 0 ≤ f) (f1 : f < 256) (t0 : 0 ≤ t) (t1 : t < 256) (w : World) : Calls Try.prog 53 #[.agg #[.int .u8 f, .int .u8 t], .int .i64 n, .int .i64 m] w fun e w' => e = .returned (.bool (stF n f && stF m t)) ∧ Kp Nu w w' := by
  have S1 := fun w => stands_any n f f0 f1 w
  have S2 := fun w => stands_any m t t0 t1 w
  cases h1 : stF n f
  · rw [h1] at S1
    go_enter Try.func53, Try.ntmps53
    go_wp2_with fail
    refine (S1 _).mono ?_; rintro e w2 ⟨rfl, rfl⟩
    go_wp2
    go_ret
    exact ⟨rfl, by (repeat (first | assumption | exact Kp.refl _ _ | apply Kp.andAlloc | apply Kp.drew))⟩
  · rw [h1] at S1
    rw [Bool.true_and]
    generalize stF m t = R at *
    go_enter Try.func53, Try.ntmps53
    go_wp2_with fail
    refine (S1 _).mono ?_; rintro e w2 ⟨rfl, rfl⟩
    go_wp2_with fail
    refine (S2 _).mono ?_; rintro e w2 ⟨rfl, rfl⟩
    go_wp2
    go_ret
    exact ⟨rfl, by (repeat (first | assumption | exact Kp.refl _ _ | apply Kp.andAlloc | apply Kp.drew))⟩

theorem cell1 {w : World} {b : Nat} {x : Value} {t : TypeId} (h : w.heap[b]? = some (.cells #[x] t (0, 0))) : w.cell? ⟨b, 0, none⟩ = some x := by simp [World.cell?, h]

set_option maxHeartbeats 400000 in
theorem sweep1_any (k : Nat) (f t : Int) (f0 : 0 ≤ f) (f1 : f < 256) (t0 : 0 ≤ t) (t1 : t < 256) (d : Value) (ad : Option Addr) (nn cap : Nat) (hd : d = .slice ad nn cap) (b1 b2 : Nat) (n m : Int) (w : World) (h1 : w.heap[b1]? = some (.cells #[.int .i64 n] 3 (0, 0))) (h2 : w.heap[b2]? = some (.cells #[.int .i64 m] 3 (0, 0))) :
    Calls Try.prog 64 #[.int .i64 (k : Int), .agg #[.int .u8 f, .int .u8 t, d], .pointer (some ⟨b1, 0, none⟩), .pointer (some ⟨b2, 0, none⟩)] w fun e w' => e = .returned (.bool (stF n f && stF m t)) ∧ Kp Nu w w' := by
  have HS : ∀ W, Kp Nu (w.alloc (.cells #[.int .u8 f, .int .u8 t, d] 38)) W → W.cell? ⟨b1, 0, none⟩ = some (.int .i64 n) ∧ W.cell? ⟨b2, 0, none⟩ = some (.int .i64 m) ∧ W.cell? ⟨w.heap.size, 0, none⟩ = some (.int .u8 f) ∧ W.cell? ⟨w.heap.size, 1, none⟩ = some (.int .u8 t) ∧ W.cell? ⟨w.heap.size, 2, none⟩ = some d := fun W k => by
    have k' := (Kp.alloc w (.cells #[.int .u8 f, .int .u8 t, d] 38) Nu).andNu k
    exact ⟨cell1 ((k'.block _ (blk_lt h1) (fun h => h)).trans h1), cell1 ((k'.block _ (blk_lt h2) (fun h => h)).trans h2), cell3 (new_at w _ k)⟩
  have LO : ∀ w', Kp Nu (w.alloc (.cells #[.int .u8 f, .int .u8 t, d] 38)) w' → Calls Try.prog 63 #[.agg #[.int .u8 f, .int .u8 t, d]] w' fun e w2 => e = .returned (.agg #[.int .u8 f, .int .u8 t]) ∧ Kp Nu (w.alloc (.cells #[.int .u8 f, .int .u8 t, d] 38)) w2 := fun w' k => (linkOf_any f t d ad nn cap hd w').mono (fun e w2 h => ⟨h.1, k.andNu h.2⟩)
  have FI : ∀ w', Kp Nu (w.alloc (.cells #[.int .u8 f, .int .u8 t, d] 38)) w' → Calls Try.prog 53 #[.agg #[.int .u8 f, .int .u8 t], .int .i64 n, .int .i64 m] w' fun e w2 => e = .returned (.bool (stF n f && stF m t)) ∧ Kp Nu (w.alloc (.cells #[.int .u8 f, .int .u8 t, d] 38)) w2 := fun w' k => (fits_any f t n m f0 f1 t0 t1 w').mono (fun e w2 h => ⟨h.1, k.andNu h.2⟩)
  have mixed : Try.prog.follows .mixedOrders = true := by kernel_rfl
  subst hd
  generalize (stF n f && stF m t) = R at *
  go_enter Try.func64, Try.ntmps64
  go_wp2_with fail
  go_region_held (fun W => W.cell? ⟨b1, 0, none⟩ = some (.int .i64 n) ∧ W.cell? ⟨b2, 0, none⟩ = some (.int .i64 m) ∧ W.cell? ⟨w.heap.size, 0, none⟩ = some (.int .u8 f) ∧ W.cell? ⟨w.heap.size, 1, none⟩ = some (.int .u8 t) ∧ W.cell? ⟨w.heap.size, 2, none⟩ = some (.slice ad nn cap)) (first | (refine HS _ ?_; repeat (first | assumption | exact Kp.refl _ _ | apply Kp.andAlloc | apply Kp.drew)))
    (first | (go_at_call 63; refine (LO _ ?_).mono ?_; (repeat (first | assumption | exact Kp.refl _ _ | apply Kp.andAlloc | apply Kp.drew)); rintro e w2 ⟨rfl, hk2⟩)
           | (go_at_call 53; refine (FI _ ?_).mono ?_; (repeat (first | assumption | exact Kp.refl _ _ | apply Kp.andAlloc | apply Kp.drew)); rintro e w3 ⟨rfl, hk3⟩))
  all_goals go_wp2
  all_goals go_ret
  all_goals exact ⟨rfl, (Kp.alloc w _ Nu).andNu (by (repeat (first | assumption | exact Kp.refl _ _ | apply Kp.andAlloc | apply Kp.drew)))⟩

/-- what a sweep takes -/
def swP (n m : Int) : Nat → Gm → Bool := fun _ g => stF n g.f && stF m g.t

set_option maxHeartbeats 400000 in
theorem sweep_any (h : Nt B w b bm nb room D v c L) (n m : Int) (hx0 : 0 ≤ c.x) (hx1 : c.x < 4611686018427387000) :
    Calls Try.prog 51 #[.pointer (some ⟨b, 0, none⟩), .int .i64 n, .int .i64 m] w fun e w' => e = .returned (.int .i64 ((L.length : Int) - ((sift (swP n m) 0 L).length : Int))) ∧ ∃ v', Nt B w' b bm nb room D v' { c with x := c.x + ((L.length : Int) - ((sift (swP n m) 0 L).length : Int)) } (sift (swP n m) 0 L) ∧ Fr b bm v w w' v' := by
  have K2 : Kp Nu w ((w.alloc (.cells #[.int .i64 n] 3)).alloc (.cells #[.int .i64 m] 3)) := (Kp.alloc w _ Nu).andAlloc _
  have T := takeOut_64 (h.nu K2) w.heap.size (w.heap.size + 1) (swP n m) hx0 hx1 (fun W k i g hg => by
    have hD := h.dat g (List.mem_of_getElem? hg)
    obtain ⟨k0, cap, e⟩ := hD.slice
    refine sweep1_any i g.f g.t hD.f0 hD.f1 hD.t0 hD.t1 g.d _ _ _ e w.heap.size (w.heap.size + 1) n m W ?_ ?_
    · refine (k.block _ (by simp; omega) (fun e => ?_)).trans ?_
      · have := own_lt h.own e.symm
        omega
      · exact (Below.heap_alloc _ _ _ (by simp)).trans (heap_alloc_new w _)
    · refine (k.block _ (by simp) (fun e => ?_)).trans ?_
      · have := own_lt h.own e.symm
        omega
      · have := heap_alloc_new (w.alloc (.cells #[.int .i64 n] 3)) (.cells #[.int .i64 m] 3)
        simpa using this)
  clear h
  go_enter Try.func51, Try.ntmps51
  go_wp2_with fail
  refine T.mono ?_; rintro e w2 ⟨rfl, v', hN, hF⟩
  go_wp2
  go_ret
  exact ⟨rfl, v', hN, (Fr.of_nu K2).trans hF⟩
end
end Go.Proofs.Ythajboipnjjgfaa.Ly
