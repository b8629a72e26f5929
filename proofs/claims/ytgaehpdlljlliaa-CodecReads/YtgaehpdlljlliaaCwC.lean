import Derived.Test.YtgaehpdlljlliaaCwB
import Derived.Test.YtgaehpdlljlliaaCrE
import Derived.Deep.RegionHeld
namespace Go.Proofs.Ytgaehpdlljlliaa.Cd
open Go.RowKit
set_option linter.unusedVariables false

/-- the box ahead -/
theorem News.boxed {w w1 w' : World} {u : Value} {ys : List Int} (k : Kp Nu w w1) (h : News w1.heap.size w1 w' u ys) : News w.heap.size w w' u ys := by
  obtain ⟨h1, h2, h3⟩ := h
  refine ⟨h1, ?_, k.trans h3 (fun _ _ h => h)⟩
  rcases h2 with e | ⟨G, hG, e⟩
  · exact .inl e
  · exact .inr ⟨G, Nat.le_trans k.size hG, e⟩

theorem Kp.ofDrew {w w' : World} (h : Kp Nu w.drew w') : Kp Nu w w' := ⟨h.os, h.tape, h.output, h.size, h.block⟩
theorem News.ofDrew {n : Nat} {w w' : World} {u : Value} {ys : List Int} (h : News n w.drew w' u ys) : News n w w' u ys := ⟨h.1, h.2.1, h.2.2.ofDrew⟩

set_option maxHeartbeats 400000 in
theorem bytes_block {w : World} (kind N I : Int) (F : Bool) (ad : Option Addr) (L cap : Nat) (bs zs : List Int) (hrd : ∀ o, Rd (w.alloc o) (.slice ad L cap) bs) (hb : zs.length + bs.length ≤ 140737488355328)
    (C : ∀ w, Calls Try.prog 67 #[.int .u64 (L : Int)] w fun e w' => ∃ u, e = .returned u ∧ News w.heap.size w w' u zs) (hLI : (L : Int) ≤ 140737488351232)
    (h1 : kind ≠ 1) (h2 : kind ≠ 2) (h3 : kind ≠ 3) (h4 : kind ≠ 4) (h5 : kind ≠ 5) (h6 : kind ≠ 6) (h7 : kind ≠ 7) (h8 : kind ≠ 8) :
    Calls Try.prog 33 #[.agg #[.int .i64 kind, .int .u64 N, .int .i64 I, .bool F, .slice ad L cap]] w fun e w' => ∃ u, e = .returned u ∧ News w.heap.size w w' u (zs ++ bs) := by
  have J := fun o w2 u2 (h2 : News (w.alloc o).heap.size (w.alloc o) w2 u2 zs) => join_any h2.1 ((hrd o).keeps h2.2.2 (fun _ _ h => h)) hb
  have BX : ∀ w2, Kp Nu (w.alloc (.cells #[.int .i64 kind, .int .u64 N, .int .i64 I, .bool F, .slice ad L cap] 40)) w2 → w2.cell? ⟨w.heap.size, 4, none⟩ = some (.slice ad L cap) := by
    intro w2 k
    exact (cell5 ((k.block w.heap.size (by simp) (fun h => h)).trans (heap_alloc_new w _))).2.2.2.2
  have FIN : ∀ o w2 u2 w3 u3, News (w.alloc o).heap.size (w.alloc o) w2 u2 zs → News w2.heap.size w2 w3 u3 (zs ++ bs) → News w.heap.size w w3 u3 (zs ++ bs) := fun o w2 u2 w3 u3 n1 n2 => n2.boxed ((Kp.alloc w o Nu).trans n1.2.2 (fun _ _ h => h))
  have C' : Calls Try.prog 67 #[.int .u64 (IntKind.u64.wrap (L : Int))] (w.alloc (.cells #[.int .i64 kind, .int .u64 N, .int .i64 I, .bool F, .slice ad L cap] 40)).drew fun e w2 => ∃ u2, e = .returned u2 ∧ (∃ nz adz capz, u2 = .slice adz nz capz) ∧ w2.cell? ⟨w.heap.size, 4, none⟩ = some (.slice ad L cap) ∧ Calls Try.prog 47 #[u2, .slice ad L cap] w2 fun e w3 => ∃ u3, e = .returned u3 ∧ w3.cell? ⟨w.heap.size, 4, none⟩ = some (.slice ad L cap) ∧ News w.heap.size w w3 u3 (zs ++ bs) := by
    rw [show IntKind.u64.wrap (L : Int) = (L : Int) by rw [IntKind.wrap_u64]; omega]
    refine (C _).mono ?_
    rintro e w2 ⟨u2, rfl, hu2⟩
    have hn2 : News (w.alloc (.cells #[.int .i64 kind, .int .u64 N, .int .i64 I, .bool F, .slice ad L cap] 40)).heap.size (w.alloc (.cells #[.int .i64 kind, .int .u64 N, .int .i64 I, .bool F, .slice ad L cap] 40)) w2 u2 zs := hu2.ofDrew
    refine ⟨u2, rfl, ?_, BX _ hn2.2.2, ?_⟩
    · obtain ⟨a, c, e⟩ := hn2.1.slice
      exact ⟨_, a, c, e⟩
    · refine (J _ _ _ hn2).mono ?_
      rintro e w3 ⟨u3, rfl, hu3⟩
      exact ⟨u3, rfl, BX _ (hn2.2.2.trans hu3.2.2 (fun _ _ h => h)), FIN _ _ _ _ _ hn2 hu3⟩
  clear hb hrd J FIN C BX hLI
  go_enter Try.func33, Try.ntmps33
  go_wp2_with fail
  go_region_held (fun w' => w'.cell? ⟨w.heap.size, 4, none⟩ = some (.slice ad L cap)) (first | assumption | go_keep)
    (first
    | (go_at_call 67; refine C'.mono ?_; rintro e w2 ⟨u2, rfl, ⟨nz, adz, capz, rfl⟩, hb4, hJ⟩)
    | (go_at_call 47; refine hJ.mono ?_; rintro e w3 ⟨u3, rfl, hb5, hu3⟩))
  all_goals go_wp2
  all_goals go_ret
  all_goals exact ⟨_, rfl, hu3⟩
end Go.Proofs.Ytgaehpdlljlliaa.Cd
