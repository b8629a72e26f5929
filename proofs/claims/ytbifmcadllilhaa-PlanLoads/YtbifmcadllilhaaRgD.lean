import Derived.Test.YtbifmcadllilhaaRgC
import Derived.Deep.RegionHeld
import Derived.RangeFuncNested
import Derived.RangeFuncBound
import Derived.RangeFuncCalls
import Derived.RangeFuncLeaves
import Derived.Shelf.Abstract
import Derived.Shelf.RegionOpen
import Derived.OwnWalkIn
import Derived.TacticsInMore
import Derived.LoopNIn
import Derived.LoopIn
import Derived.LoopTactic
namespace Go.Proofs.Ytbifmcadllilhaa.Rg
open Go.RowKit Go.Shelf Go.Sort
open Go.Proofs.Ytbifmcadllilhaa.It
attribute [local go_sem] Oper.semAt_some
set_option linter.unusedVariables false

theorem plc_iff : ∀ {L : List Sg} {a b k : Int}, Cov a L b → ∀ i s, L[i]? = some s → (k ≤ s.hi ↔ plc L k ≤ i)
  | [], a, b, k, h, i, s, hs => by simp at hs
  | t :: r, a, b, k, h, 0, s, hs => by
    simp at hs; subst hs
    simp only [plc]
    split
    · simp_all
    · simp_all
  | t :: r, a, b, k, h, i + 1, s, hs => by
    have ih := plc_iff (k := k) h.2.2 i s (by simpa using hs)
    have hm := cov_mem h.2.2 s (List.mem_of_getElem? (by simpa using hs))
    simp only [plc]
    split
    · rename_i e; exact ⟨fun _ => by omega, fun _ => by omega⟩
    · rw [ih]; omega
section
variable {B b : Nat} {w w' : World} {lim : Int} {v : Value} {L : List Sg}

theorem kp_grow (w : World) (m : Nat) (os : Array Obj) : Kp Nu w (grow (w.drewN m) os) := Kp.of_below (below_grown_sl _ _ _ _ (Nat.le_refl _))

set_option maxHeartbeats 1000000 in
theorem place_any (h : Tb B w b lim v L) (key : Int) :
    Calls Try.prog 108 #[.pointer (some ⟨b, 0, none⟩), .int .u64 key] w fun e w' => e = .returned (.int .i64 (plc L key)) ∧ Kp Nu w w' := by
  have K2 : Kp Nu w ((w.alloc (.cells #[.pointer (some ⟨b, 0, none⟩)] 67)).alloc (.cells #[.int .u64 key] 56)) := (Kp.alloc w _ Nu).andAlloc _
  have hl : (L.length : Int) ≤ 8192 := by have := h.len; have := h.lim1; omega
  have T2 := h.nu K2
  have x0 : ((w.alloc (.cells #[.pointer (some ⟨b, 0, none⟩)] 67)).alloc (.cells #[.int .u64 key] 56)).heap[w.heap.size]? = some (.cells #[.pointer (some ⟨b, 0, none⟩)] 67 (0, 0)) := (Below.heap_alloc _ _ _ (by simp)).trans (heap_alloc_new w _)
  have x1 : ((w.alloc (.cells #[.pointer (some ⟨b, 0, none⟩)] 67)).alloc (.cells #[.int .u64 key] 56)).heap[w.heap.size + 1]? = some (.cells #[.int .u64 key] 56 (0, 0)) := by
    have := heap_alloc_new (w.alloc (.cells #[.pointer (some ⟨b, 0, none⟩)] 67)) (.cells #[.int .u64 key] 56)
    rwa [World.size_alloc] at this
  generalize hW : (w.alloc (.cells #[.pointer (some ⟨b, 0, none⟩)] 67)).alloc (.cells #[.int .u64 key] 56) = W at K2 T2 x0 x1
  have SE := Any.sort_Search Try.search 130 #[.pointer (some ⟨w.heap.size + 1, 0, none⟩), .pointer (some ⟨w.heap.size, 0, none⟩)] L.length (fun i => ((L[i]?).map fun s => decide (key ≤ s.hi)).getD true) W (enters_of Try.func130 (by kernel_rfl) rfl) (by omega)
    (fun m os i hi => by
      have kk := kp_grow W m os
      refine (place1_any (T2.nu kk) (w.heap.size + 1) w.heap.size key ((kk.block _ (blk_lt x1) (fun h => h)).trans x1) ((kk.block _ (blk_lt x0) (fun h => h)).trans x0) i hi).mono ?_
      rintro e w' ⟨rfl, rfl⟩
      exact ⟨rfl, 1, #[], by rw [grow_empty]; rfl⟩)
    (fun a c hac hc ha => by
      have e1 : L[a]? = some L[a] := List.getElem?_eq_getElem (by omega)
      have e2 : L[c]? = some L[c] := List.getElem?_eq_getElem hc
      simp only [e1, e2, Option.map_some, Option.getD_some, decide_eq_true_eq] at ha ⊢
      rw [plc_iff h.tab.cov a _ e1] at ha
      rw [plc_iff h.tab.cov c _ e2]
      omega)
  rw [count_plc h.tab.cov] at SE
  change Calls Try.prog 70 _ _ _ at SE
  have c1 := T2.c1
  obtain ⟨r, cap, e, _⟩ := T2.row
  subst e
  have HK := hide K2
  subst hW
  generalize plc L key = PK at *
  generalize L.length = N at *
  clear T2 h x0 x1 K2
  go_enter Try.func108, Try.ntmps108
  go_wp2_with (go_at_call 70; refine SE.mono ?_; rintro e w' ⟨rfl, q, os, rfl⟩)
  go_ret
  exact ⟨rfl, HK.out.andNu (kp_grow _ _ _)⟩

set_option maxHeartbeats 1000000 in
/-- the maker: the list of now, from the key's segment on, in a box -/
theorem from_any (h : Tb B w b lim v L) (key : Int) (k0 : 0 ≤ key) (k1 : key < 18446744073709551616) :
    Calls Try.prog 94 #[.pointer (some ⟨b, 0, none⟩), .int .u64 key] w fun e w' => ∃ Bn r cap, e = .returned (.func (.func 109) #[] #[.pointer (some ⟨Bn, 0, none⟩)]) ∧ w.heap.size ≤ Bn ∧ w'.heap[Bn]? = some (.cells #[.slice (some ⟨r, plc L key * 3, none⟩) (L.drop (plc L key)).length cap] 36 (0, 0)) ∧ v.ownBlock = some r ∧ Kp Nu w w' := by
  have mixed : Try.prog.follows .mixedOrders = true := by kernel_rfl
  have K1 : Kp Nu w (w.alloc (.cells #[.slice none 0 0] 36)) := Kp.alloc w _ Nu
  have MA := made_any (h.nu K1)
  have PL := place_any (h.nu K1.drew) key
  obtain ⟨r, cap, e, cur, hcur⟩ := h.row
  have hp : plc L key < L.length := h.tab.plc_lt k0 k1
  have hcap : L.length ≤ cap := by
    rcases h.own.2 with ⟨_, h0⟩ | ⟨r', cap', cur', e', hB, hg, h1, h2, h3, h4⟩
    · have := h.tab.ne; omega
    · rw [e] at e'; cases e'; exact h1
  have hbw : b < w.heap.size := blk_lt h.blk
  have c1 := (h.nu K1).c1
  have hl : (L.length : Int) ≤ 8192 := by have := h.len; have := h.lim1; omega
  have CC : ∀ W, Kp Nu (w.alloc (.cells #[.slice none 0 0] 36)) W → W.cell? ⟨b, 1, none⟩ = some v := fun W k => ((h.nu K1).nu k).c1
  have CS : ∀ W x, Kp Nu (w.alloc (.cells #[.slice none 0 0] 36)) W → (W.setCell ⟨w.heap.size, 0, none⟩ x).cell? ⟨b, 1, none⟩ = some v := fun W x k =>
    (World.cell?_of_block (Below.heap_setCell W ⟨w.heap.size, 0, none⟩ x b (by show b ≠ w.heap.size; omega))).trans (CC W k)
  have HB : Hid (∀ W, Kp Nu (w.alloc (.cells #[.slice none 0 0] 36)) W → W.heap[w.heap.size]? = some (.cells #[.slice none 0 0] 36 (0, 0))) := fun W k => new_at w _ k
  have hd : (L.drop (plc L key)).length = L.length - plc L key := by simp
  rw [hd]
  subst e
  generalize plc L key = p at *
  generalize L.length = N at *
  have hpI : (p : Int) ≤ (N : Int) := by omega
  have hne : ¬ cap = p := by omega
  clear hp hcap
  have hp0 : (0 : Int) ≤ (p : Int) := by omega
  have htn : ((p : Int)).toNat = p := by omega
  clear h hd hcur
  go_enter Try.func94, Try.ntmps94
  go_wp2_with (go_at_call 107; refine MA.mono ?_; rintro e w' ⟨rfl, rfl⟩)
  clear MA
  go_region_held (fun W => W.cell? ⟨b, 1, none⟩ = some (.slice (some ⟨r, 0, none⟩) N cap)) (first | (refine CS _ _ ?_; repeat (first | assumption | exact Kp.refl _ _ | apply Kp.andAlloc | apply Kp.drew)) | (refine CC _ ?_; repeat (first | assumption | exact Kp.refl _ _ | apply Kp.andAlloc | apply Kp.drew))) (first | (go_at_call 108; refine PL.mono ?_; rintro e w2 ⟨rfl, hk2⟩; have hk3 : Kp Nu (w.alloc (.cells #[.slice none 0 0] 36)) w2 := (Kp.refl Nu _).drew.andNu hk2; have fz := free3 (HB.out _ hk3) 0; have cz := cell1 (HB.out _ hk3)))
  all_goals go_wp2
  all_goals go_ret
  all_goals
    refine ⟨w.heap.size, r, _, rfl, Nat.le_refl _, set3 (HB.out _ (by assumption)) 0 _, rfl, ?_⟩
    exact ((Kp.alloc w _ Nu).andNu (by assumption)).andSet _ _ (.inl (Nat.le_refl _))
end
end Go.Proofs.Ytbifmcadllilhaa.Rg
