import Derived.Test.YthajboipnjjgfaaLyG
namespace Go.Proofs.Ythajboipnjjgfaa.Ly
open Go.RowKit Go.Maps
set_option linter.unusedVariables false

section
variable {B b bm nb : Nat} {w w' : World} {room : Int} {D : DataW Unit} {v : Value} {c : Ct} {L : List Gm}

theorem new_bad (w : World) (n : Int) (h : n < 1 ∨ n > 4096) : Calls Try.prog 39 #[.int .i64 n] w fun e w' => e = .returned (.tuple #[.pointer none, .int .i64 2]) ∧ w' = w := by
  by_cases h1 : n < 1
  · go_enter Try.func39, Try.ntmps39
    go_wp2
    go_ret2
    exact ⟨rfl, rfl⟩
  · have h2 : n > 4096 := by omega
    go_enter Try.func39, Try.ntmps39
    go_wp2
    go_ret2
    exact ⟨rfl, rfl⟩

theorem new_ok (w : World) (n : Int) (h0 : 1 ≤ n) (h1 : n ≤ 4096) : Calls Try.prog 39 #[.int .i64 n] w fun e w' => ∃ b, e = .returned (.tuple #[.pointer (some ⟨b, 0, none⟩), .int .i64 0]) ∧ (∃ bm, Nt w.heap.size w' b bm 0 n (.map []) (.slice none 0 0) Ct0 []) ∧ Kp Nu w w' := by
  have h2 : ¬ n > 4096 := by omega
  have h3 : ¬ n < 1 := by omega
  have hmm := @run_makeMap Try.prog
  go_enter Try.func39, Try.ntmps39
  go_wp2
  go_ret2
  refine ⟨w.heap.size + 1, rfl, ⟨w.heap.size, ?_⟩, ?_⟩
  · refine ⟨by simpa [nblk, Ct0] using heap_alloc_new (w.alloc (.map #[] 0)) (.cells (nblk n (.slice none 0 0) w.heap.size Ct0) 77), ?_, World.ownsRow_nil _ _ _ _, by simp, by simp, by simp, h0, h1, by simp; omega⟩
    exact (World.ownsMap_made w Try.prog 86 unitElem).alloc _
  · exact ((Kp.refl Nu w).andAlloc _).andAlloc _

theorem opened_ok (w : World) (n : Int) (h0 : 1 ≤ n) (h1 : n ≤ 4096) : Calls Try.prog 15 #[.int .i64 n] w fun e w' => ∃ b, e = .returned (.pointer (some ⟨b, 0, none⟩)) ∧ (∃ bm, Nt w.heap.size w' b bm 0 n (.map []) (.slice none 0 0) Ct0 []) ∧ Kp Nu w w' := by
  have NO := new_ok w n h0 h1
  go_enter Try.func15, Try.ntmps15
  go_wp2_with fail
  refine NO.mono ?_; rintro e w2 ⟨b, rfl, hN, hk⟩
  have nm := num_any 0 w2
  go_wp2_with fail
  refine nm.mono ?_; rintro e w3 ⟨rfl, rfl⟩
  go_wp2
  go_ret
  exact ⟨_, rfl, hN, hk⟩

/-- a place of the list -/
def inL (p : Int) (n : Nat) : Bool := decide (0 ≤ p) && decide (p < (n : Int))
theorem has_any (h : Nt B w b bm nb room D v c L) (p : Int) : Calls Try.prog 43 #[.pointer (some ⟨b, 0, none⟩), .int .i64 p] w fun e w' => e = .returned (.bool (inL p L.length)) ∧ w' = w := by
  obtain ⟨ad, cap, hvl⟩ := own_slice h.own
  subst hvl
  have c1 := h.c1
  unfold inL
  generalize L.length = M at *
  by_cases h1 : 0 ≤ p
  · have h2 : p ≥ 0 := h1
    rw [decide_eq_true h1, Bool.true_and]
    go_enter Try.func43, Try.ntmps43
    go_wp2
    go_ret
    exact ⟨rfl, rfl⟩
  · have h2 : ¬ p ≥ 0 := h1
    rw [decide_eq_false h1, Bool.false_and]
    go_enter Try.func43, Try.ntmps43
    go_wp2
    go_ret
    exact ⟨rfl, rfl⟩

theorem cells_at : ∀ (L : List Gm) (i : Nat) (g : Gm), L[i]? = some g → ∀ j, j < 3 → (cells L)[i * 3 + j]? = g.cells[j]?
  | [], i, g, hi, j, hj => by simp at hi
  | x :: r, 0, g, hi, j, hj => by
    simp at hi
    subst hi
    simp only [cells, List.flatMap_cons, Nat.zero_mul, Nat.zero_add]
    rw [List.getElem?_append_left (by simp [Gm.cells]; omega)]
  | x :: r, i + 1, g, hi, j, hj => by
    have := cells_at r i g (by simpa using hi) j hj
    simp only [cells, List.flatMap_cons] at this ⊢
    rw [List.getElem?_append_right (by simp [Gm.cells]; omega), ← this]
    congr 1
    simp [Gm.cells]
    omega

/-- the datagram at a place, in memory -/
theorem row_at {L : List Gm} (h : w.ownsRow B 38 3 v L.length (cells L)) {i : Nat} {g : Gm} (hi : L[i]? = some g) : ∃ r cap, v = .slice (some ⟨r, 0, none⟩) L.length cap ∧ w.cell? ⟨r, i * 3, none⟩ = some (.int .u8 g.f) ∧ w.cell? ⟨r, i * 3 + 1, none⟩ = some (.int .u8 g.t) ∧ w.cell? ⟨r, i * 3 + 2, none⟩ = some g.d := by
  have hlt : i < L.length := (List.getElem?_eq_some_iff.1 hi).1
  rcases h.2 with ⟨_, h0⟩ | ⟨r, cap, cur, e, hB, hg, h1, h2, h3, h4⟩
  · omega
  · have key : ∀ j, j < 3 → cur[i * 3 + j]? = g.cells[j]? := by
      intro j hj
      have e1 := cells_at L i g hi j hj
      rw [← h4, List.getElem?_take_of_lt (by omega)] at e1
      simpa using e1
    refine ⟨r, cap, e, ?_, ?_, ?_⟩
    · have := key 0 (by omega)
      simpa [World.cell?, hg, Gm.cells] using this
    · have := key 1 (by omega)
      simpa [World.cell?, hg, Gm.cells] using this
    · have := key 2 (by omega)
      simpa [World.cell?, hg, Gm.cells] using this

/-- told: a datagram that was handed out -/
def bare (g : Gm) : Int × Int × List Int := (g.f, g.t, g.ys)

theorem look_bad (h : Nt B w b bm nb room D v c L) (p : Int) (hp : inL p L.length = false) : Calls Try.prog 26 #[.pointer (some ⟨b, 0, none⟩), .int .i64 p] w fun e w' => e = .returned (.tuple #[.agg #[.int .u8 0, .int .u8 0, .slice none 0 0], .int .i64 54]) ∧ Kp Nu w w' := by
  have MA := fun o => made_any (h.nu (Kp.alloc w o Nu))
  have HA := fun o => has_any (h.nu (Kp.alloc w o Nu)) p
  rw [hp] at HA
  go_enter Try.func26, Try.ntmps26
  go_wp2_with fail
  refine (MA _).mono ?_; rintro e w' ⟨rfl, rfl⟩
  go_wp2_with fail
  refine (HA _).mono ?_; rintro e w' ⟨rfl, rfl⟩
  go_wp2
  refine bodyPost_ret (v := .tuple #[.agg #[.int .u8 0, .int .u8 0, .slice none 0 0], .int .i64 54]) (by simp [results, Try.results26, go_sem]) rfl ⟨rfl, ?_⟩
  exact (Kp.refl Nu w).andAlloc _

theorem Dg.nu {g : Gm} (h : Dg w B g) (k : Kp Nu w w') : Dg w' B g := h.keep (fun i cur hi => k.block i (blk_lt hi) (fun h => h))

set_option maxHeartbeats 400000 in
theorem look_ok (h : Nt B w b bm nb room D v c L) (p : Nat) {g : Gm} (hp : L[p]? = some g) : Calls Try.prog 26 #[.pointer (some ⟨b, 0, none⟩), .int .i64 (p : Int)] w fun e w' => ∃ a n cap, e = .returned (.tuple #[.agg #[.int .u8 g.f, .int .u8 g.t, .slice (some a) n cap], .int .i64 0]) ∧ w'.ownsRow w.heap.size 5 1 (.slice (some a) n cap) g.ys.length (cs g.ys) ∧ Kp Nu w w' := by
  have hlt : p < L.length := (List.getElem?_eq_some_iff.1 hp).1
  have hin : inL (p : Int) L.length = true := by simp [inL]; omega
  have MA := fun o => made_any (h.nu (Kp.alloc w o Nu))
  have HA := fun o => has_any (h.nu (Kp.alloc w o Nu)) (p : Int)
  rw [hin] at HA
  have hg := h.dat g (List.mem_of_getElem? hp)
  have CO := fun W (k : Kp Nu w W) => copied_any W g.f g.t g.d g.ys (Rd.of_own (hg.nu k).own) hg.le hg.pos
  obtain ⟨k0, cap0, hgd⟩ := hg.slice
  have K1 := (Kp.refl Nu w).andAlloc (.cells #[.int .u8 0, .int .u8 0, .slice none 0 0] 38)
  obtain ⟨r, cap, hv, e0, e1, e2⟩ := row_at (h.nu K1).own hp
  have c1 := (h.nu K1).c1
  have CO1 := CO _ K1
  rw [hv] at c1
  rw [hgd] at e2 CO1
  generalize L.length = M at *
  generalize hN : g.ys.length = N at *
  have hltI : (p : Int) < (M : Int) := by omega
  have hp0 : (0 : Int) ≤ (p : Int) := by omega
  clear CO hin hp hg h
  go_enter Try.func26, Try.ntmps26
  go_wp2_with fail
  refine (MA _).mono ?_; rintro e w' ⟨rfl, rfl⟩
  go_wp2_with fail
  refine (HA _).mono ?_; rintro e w' ⟨rfl, rfl⟩
  clear MA HA
  go_wp2_with fail
  refine CO1.mono ?_; rintro e w2 ⟨a2, n2, cap2, rfl, ho, hk⟩
  have hbx := new_at w _ hk
  obtain ⟨d0, d1, d2⟩ := cell3 hbx
  have g0 := free3 hbx 0
  have g1 := free3 hbx 1
  have g2 := free3 hbx 2
  have HO := hide ho
  clear CO1 hbx ho
  go_wp2
  refine bodyPost_ret (v := .tuple #[.agg #[.int .u8 g.f, .int .u8 g.t, .slice (some a2) n2 cap2], .int .i64 0]) (by simp [results, Try.results26, go_sem, d0, d1, d2]) rfl ⟨_, _, _, rfl, ?_, ?_⟩
  · exact own_base (own_set (own_set (own_set HO.out (by simp)) (by simp)) (by simp)) (by simp)
  · exact (((K1.andNu hk).andSet _ _ (.inl (by simp))).andSet _ _ (.inl (by simp))).andSet _ _ (.inl (by simp))
end
end Go.Proofs.Ythajboipnjjgfaa.Ly
