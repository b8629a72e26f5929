import Derived.Test.YtffcnonhhfhlhaaDoorSr
import Derived.Test.YtffcnonhhfhlhaaDoorRgB
import Derived.Deep.RegionHeld
import Derived.RangeFuncNested
import Derived.RangeFuncBound
import Derived.RangeFuncCalls
import Derived.RangeFuncLeaves
import Derived.Shelf.Abstract
import Derived.Shelf.RegionOpen
import Derived.OwnWalkIn
import Derived.TacticsInMore
import Derived.LoopNIn
import Derived.LoopIn
import Derived.LoopTactic
namespace Go.Proofs.YtffcnonhhfhlhaaDoor.Rg
open Go.RowKit Go.Shelf
set_option linter.unusedVariables false

def cellsG (s : Sg) : List Value := [.int .u64 s.lo, .int .u64 s.hi, .int .u8 s.h]
def cells (L : List Sg) : List Value := L.flatMap cellsG
def enc (s : Sg) : Value := .agg #[.int .u64 s.lo, .int .u64 s.hi, .int .u8 s.h]
theorem cells_length : ∀ L : List Sg, (cells L).length = L.length * 3
  | [] => rfl
  | s :: L => by
    have := cells_length L
    simp only [cells, List.flatMap_cons, List.length_append] at this ⊢
    simp [cellsG, this]; omega
theorem cells_append (A B : List Sg) : cells (A ++ B) = cells A ++ cells B := by simp [cells]
theorem cells_at : ∀ (l : List Sg) (k : Nat) (x : Sg), l[k]? = some x → ∀ j, j < 3 → (cells l)[k * 3 + j]? = (cellsG x)[j]?
  | [], k, x, h, j, _ => by simp at h
  | a :: l, 0, x, h, j, hj => by
    simp at h; subst h
    simp only [cells, List.flatMap_cons, Nat.zero_mul, Nat.zero_add]
    rw [List.getElem?_append_left (by simp [cellsG]; omega)]
  | a :: l, k + 1, x, h, j, hj => by
    have ih := cells_at l k x (by simpa using h) j hj
    simp only [cells, List.flatMap_cons]
    rw [List.getElem?_append_right (by simp [cellsG]; omega)]
    have : (k + 1) * 3 + j - (cellsG a).length = k * 3 + j := by simp [cellsG]; omega
    rw [this]; exact ih

/-- a list of segments that can be read at a slice -/
def Rs (w : World) (u : Value) (L : List Sg) : Prop := ∃ r off cap, u = .slice (some ⟨r, off, none⟩) L.length cap ∧ ∀ i s, L[i]? = some s → w.cell? ⟨r, off + i * 3, none⟩ = some (.int .u64 s.lo) ∧ w.cell? ⟨r, off + i * 3 + 1, none⟩ = some (.int .u64 s.hi) ∧ w.cell? ⟨r, off + i * 3 + 2, none⟩ = some (.int .u8 s.h)

theorem row_at {w : World} {B : Nat} {v : Value} {L : List Sg} (h : w.ownsRow B 26 3 v L.length (cells L)) {i : Nat} {g : Sg} (hi : L[i]? = some g) : ∃ r cap, v = .slice (some ⟨r, 0, none⟩) L.length cap ∧ w.cell? ⟨r, i * 3, none⟩ = some (.int .u64 g.lo) ∧ w.cell? ⟨r, i * 3 + 1, none⟩ = some (.int .u64 g.hi) ∧ w.cell? ⟨r, i * 3 + 2, none⟩ = some (.int .u8 g.h) := by
  have hlt : i < L.length := (List.getElem?_eq_some_iff.1 hi).1
  rcases h.2 with ⟨_, h0⟩ | ⟨r, cap, cur, e, hB, hg, h1, h2, h3, h4⟩
  · omega
  · have key : ∀ j, j < 3 → cur[i * 3 + j]? = (cellsG g)[j]? := by
      intro j hj
      have e1 := cells_at L i g hi j hj
      rw [← h4, List.getElem?_take_of_lt (by omega)] at e1
      simpa using e1
    refine ⟨r, cap, e, ?_, ?_, ?_⟩
    · have := key 0 (by omega)
      simpa [World.cell?, hg, cellsG] using this
    · have := key 1 (by omega)
      simpa [World.cell?, hg, cellsG] using this
    · have := key 2 (by omega)
      simpa [World.cell?, hg, cellsG] using this

/-- a table in memory -/
structure Tb (B : Nat) (w : World) (b : Nat) (lim : Int) (v : Value) (L : List Sg) : Prop where
  blk : w.heap[b]? = some (.cells #[.int .i64 lim, v] 93 (0, 0))
  low : B ≤ b
  own : w.ownsRow B 26 3 v L.length (cells L)
  tab : Tab L
  len : (L.length : Int) ≤ lim
  lim1 : lim ≤ 8192
section
variable {B b : Nat} {w w' : World} {lim : Int} {v : Value} {L : List Sg}
theorem Tb.nu (h : Tb B w b lim v L) (k : Kp Nu w w') : Tb B w' b lim v L :=
  ⟨(k.block _ (blk_lt h.blk) (fun h => h)).trans h.blk, h.low, own_keep h.own (fun g hg => k.block g (own_lt h.own hg) (fun h => h)), h.tab, h.len, h.lim1⟩
theorem Tb.c0 (h : Tb B w b lim v L) : w.cell? ⟨b, 0, none⟩ = some (.int .i64 lim) := by simp [World.cell?, h.blk]
theorem Tb.c1 (h : Tb B w b lim v L) : w.cell? ⟨b, 1, none⟩ = some v := by simp [World.cell?, h.blk]
theorem Tb.row (h : Tb B w b lim v L) : ∃ r cap, v = .slice (some ⟨r, 0, none⟩) L.length cap ∧ ∃ cur, w.heap[r]? = some (.cells cur 26 (0, 0)) := by
  have := h.tab.ne
  rcases h.own.2 with ⟨_, h0⟩ | ⟨r, cap, cur, e, hB, hg, h1, h2, h3, h4⟩
  · omega
  · exact ⟨r, cap, e, cur, hg⟩
theorem Tb.rs (h : Tb B w b lim v L) : Rs w v L := by
  obtain ⟨r, cap, e, _⟩ := h.row
  refine ⟨r, 0, cap, e, fun i s hi => ?_⟩
  obtain ⟨r', cap', e', x0, x1, x2⟩ := row_at h.own hi
  rw [e] at e'; cases e'
  simpa using And.intro x0 (And.intro x1 x2)

set_option maxHeartbeats 400000 in
theorem made_any (h : Tb B w b lim v L) : Calls Tryd.prog 50 #[.pointer (some ⟨b, 0, none⟩)] w fun e w' => e = .returned (.bool true) ∧ w' = w := by
  obtain ⟨r, cap, e, _⟩ := h.row
  have c1 := h.c1
  have hn := h.tab.ne
  subst e
  have hn' : (L.length : Int) > 0 := by omega
  clear h
  go_enter Tryd.func50, Tryd.ntmps50
  go_wp2
  go_ret
  exact ⟨rfl, rfl⟩
set_option maxHeartbeats 400000 in
theorem len_any (h : Tb B w b lim v L) : Calls Tryd.prog 22 #[.pointer (some ⟨b, 0, none⟩)] w fun e w' => e = .returned (.int .i64 L.length) ∧ w' = w := by
  have MA := made_any h
  obtain ⟨r, cap, e, _⟩ := h.row
  have c1 := h.c1
  subst e
  clear h
  go_enter Tryd.func22, Tryd.ntmps22
  go_wp2_with (go_at_call 50; refine MA.mono ?_; rintro e w' ⟨rfl, rfl⟩)
  go_ret
  exact ⟨rfl, rfl⟩
set_option maxHeartbeats 400000 in
theorem isHost_any (a : Int) (w : World) : Calls Tryd.prog 51 #[.int .u8 a] w fun e w' => e = .returned (.bool (decide (a < 16))) ∧ w' = w := by
  go_enter Tryd.func51, Tryd.ntmps51
  go_wp2
  go_ret
  exact ⟨rfl, rfl⟩
set_option maxHeartbeats 400000 in
theorem num_any (a : Int) (w : World) : Calls Tryd.prog 29 #[.int .i64 a] w fun e w' => e = .returned (.int .i64 a) ∧ w' = w := by
  go_enter Tryd.func29, Tryd.ntmps29
  go_wp2
  go_ret
  exact ⟨rfl, rfl⟩

theorem count_plc : ∀ {L : List Sg} {a b k : Int}, Cov a L b → (List.range L.length).countP (fun i => !(((L[i]?).map fun s => decide (k ≤ s.hi)).getD true)) = plc L k
  | [], a, b, k, h => rfl
  | s :: r, a, b, k, h => by
    have ih := count_plc (k := k) h.2.2
    rw [List.length_cons, List.range_succ_eq_map, List.countP_cons, List.countP_map]
    simp only [plc]
    by_cases e : k ≤ s.hi
    · rw [if_pos e]
      have : ∀ i, i ∈ List.range r.length → ¬ ((((fun i => !(((s :: r)[i]?).map fun s => decide (k ≤ s.hi)).getD true) ∘ Nat.succ) i) = true) := fun i hi => by
        have hi := List.mem_range.1 hi
        have := cov_mem h.2.2 (r[i]) (List.getElem_mem hi)
        simp [List.getElem?_eq_getElem hi]; omega
      rw [List.countP_eq_zero.2 this]
      simp [e]
    · rw [if_neg e]
      have : ((fun i => !(((s :: r)[i]?).map fun s => decide (k ≤ s.hi)).getD true) ∘ Nat.succ) = (fun i => !((r[i]?).map fun s => decide (k ≤ s.hi)).getD true) := by
        funext i; simp
      rw [this, ih]
      simp; omega

set_option maxHeartbeats 1000000 in
theorem place1_any (h : Tb B w b lim v L) (kb tb : Nat) (key : Int) (hk : w.heap[kb]? = some (.cells #[.int .u64 key] 23 (0, 0))) (ht : w.heap[tb]? = some (.cells #[.pointer (some ⟨b, 0, none⟩)] 27 (0, 0))) (i : Nat) (hi : i < L.length) :
    Calls Tryd.prog 88 #[.int .i64 (i : Int), .pointer (some ⟨kb, 0, none⟩), .pointer (some ⟨tb, 0, none⟩)] w fun e w' => e = .returned (.bool (((L[i]?).map fun s => decide (key ≤ s.hi)).getD true)) ∧ w' = w.drew := by
  have mixed : Tryd.prog.follows .mixedOrders = true := by kernel_rfl
  obtain ⟨s, hs⟩ : ∃ s, L[i]? = some s := ⟨_, List.getElem?_eq_getElem hi⟩
  obtain ⟨r, cap, e, x0, x1, x2⟩ := row_at h.own hs
  rw [hs]
  simp only [Option.map_some, Option.getD_some]
  have c1 := h.c1
  have k1 := cell1 hk
  have k2 := cell1 ht
  subst e
  have hiI : (i : Int) < (L.length : Int) := by omega
  have hi0 : (0 : Int) ≤ (i : Int) := by omega
  generalize L.length = N at *
  clear h hs hk ht
  go_enter Tryd.func88, Tryd.ntmps88
  go_wp2_with fail
  go_region
  go_wp2
  go_ret
  exact ⟨rfl, rfl⟩
end
end Go.Proofs.YtffcnonhhfhlhaaDoor.Rg
namespace Go.Proofs.YtffcnonhhfhlhaaDoor.Rg
open Go.RowKit Go.Shelf Go.Sort
open Go.Proofs.YtffcnonhhfhlhaaDoor.It
attribute [local go_sem] Oper.semAt_some
set_option linter.unusedVariables false

theorem plc_iff : ∀ {L : List Sg} {a b k : Int}, Cov a L b → ∀ i s, L[i]? = some s → (k ≤ s.hi ↔ plc L k ≤ i)
  | [], a, b, k, h, i, s, hs => by simp at hs
  | t :: r, a, b, k, h, 0, s, hs => by
    simp at hs; subst hs
    simp only [plc]
    split
    · simp_all
    · simp_all
  | t :: r, a, b, k, h, i + 1, s, hs => by
    have ih := plc_iff (k := k) h.2.2 i s (by simpa using hs)
    have hm := cov_mem h.2.2 s (List.mem_of_getElem? (by simpa using hs))
    simp only [plc]
    split
    · rename_i e; exact ⟨fun _ => by omega, fun _ => by omega⟩
    · rw [ih]; omega
section
variable {B b : Nat} {w w' : World} {lim : Int} {v : Value} {L : List Sg}

theorem kp_grow (w : World) (m : Nat) (os : Array Obj) : Kp Nu w (grow (w.drewN m) os) := Kp.of_below (below_grown_sl _ _ _ _ (Nat.le_refl _))

set_option maxHeartbeats 1000000 in
theorem place_any (h : Tb B w b lim v L) (key : Int) :
    Calls Tryd.prog 72 #[.pointer (some ⟨b, 0, none⟩), .int .u64 key] w fun e w' => e = .returned (.int .i64 (plc L key)) ∧ Kp Nu w w' := by
  have K2 : Kp Nu w ((w.alloc (.cells #[.pointer (some ⟨b, 0, none⟩)] 27)).alloc (.cells #[.int .u64 key] 23)) := (Kp.alloc w _ Nu).andAlloc _
  have hl : (L.length : Int) ≤ 8192 := by have := h.len; have := h.lim1; omega
  have T2 := h.nu K2
  have x0 : ((w.alloc (.cells #[.pointer (some ⟨b, 0, none⟩)] 27)).alloc (.cells #[.int .u64 key] 23)).heap[w.heap.size]? = some (.cells #[.pointer (some ⟨b, 0, none⟩)] 27 (0, 0)) := (Below.heap_alloc _ _ _ (by simp)).trans (heap_alloc_new w _)
  have x1 : ((w.alloc (.cells #[.pointer (some ⟨b, 0, none⟩)] 27)).alloc (.cells #[.int .u64 key] 23)).heap[w.heap.size + 1]? = some (.cells #[.int .u64 key] 23 (0, 0)) := by
    have := heap_alloc_new (w.alloc (.cells #[.pointer (some ⟨b, 0, none⟩)] 27)) (.cells #[.int .u64 key] 23)
    rwa [World.size_alloc] at this
  generalize hW : (w.alloc (.cells #[.pointer (some ⟨b, 0, none⟩)] 27)).alloc (.cells #[.int .u64 key] 23) = W at K2 T2 x0 x1
  have SE := Any.sort_Search Tryd.search 88 #[.pointer (some ⟨w.heap.size + 1, 0, none⟩), .pointer (some ⟨w.heap.size, 0, none⟩)] L.length (fun i => ((L[i]?).map fun s => decide (key ≤ s.hi)).getD true) W (enters_of Tryd.func88 (by kernel_rfl) rfl) (by omega)
    (fun m os i hi => by
      have kk := kp_grow W m os
      refine (place1_any (T2.nu kk) (w.heap.size + 1) w.heap.size key ((kk.block _ (blk_lt x1) (fun h => h)).trans x1) ((kk.block _ (blk_lt x0) (fun h => h)).trans x0) i hi).mono ?_
      rintro e w' ⟨rfl, rfl⟩
      exact ⟨rfl, 1, #[], by rw [grow_empty]; rfl⟩)
    (fun a c hac hc ha => by
      have e1 : L[a]? = some L[a] := List.getElem?_eq_getElem (by omega)
      have e2 : L[c]? = some L[c] := List.getElem?_eq_getElem hc
      simp only [e1, e2, Option.map_some, Option.getD_some, decide_eq_true_eq] at ha ⊢
      rw [plc_iff h.tab.cov a _ e1] at ha
      rw [plc_iff h.tab.cov c _ e2]
      omega)
  rw [count_plc h.tab.cov] at SE
  change Calls Tryd.prog 87 _ _ _ at SE
  have c1 := T2.c1
  obtain ⟨r, cap, e, _⟩ := T2.row
  subst e
  have HK := hide K2
  subst hW
  generalize plc L key = PK at *
  generalize L.length = N at *
  clear T2 h x0 x1 K2
  go_enter Tryd.func72, Tryd.ntmps72
  go_wp2_with (go_at_call 87; refine SE.mono ?_; rintro e w' ⟨rfl, q, os, rfl⟩)
  go_ret
  exact ⟨rfl, HK.out.andNu (kp_grow _ _ _)⟩

set_option maxHeartbeats 1000000 in
/-- the maker: the list of now, from the key's segment on, in a box -/
theorem from_any (h : Tb B w b lim v L) (key : Int) (k0 : 0 ≤ key) (k1 : key < 18446744073709551616) :
    Calls Tryd.prog 44 #[.pointer (some ⟨b, 0, none⟩), .int .u64 key] w fun e w' => ∃ Bn r cap, e = .returned (.func (.func 73) #[] #[.pointer (some ⟨Bn, 0, none⟩)]) ∧ w.heap.size ≤ Bn ∧ w'.heap[Bn]? = some (.cells #[.slice (some ⟨r, plc L key * 3, none⟩) (L.drop (plc L key)).length cap] 22 (0, 0)) ∧ v.ownBlock = some r ∧ Kp Nu w w' := by
  have mixed : Tryd.prog.follows .mixedOrders = true := by kernel_rfl
  have K1 : Kp Nu w (w.alloc (.cells #[.slice none 0 0] 22)) := Kp.alloc w _ Nu
  have MA := made_any (h.nu K1)
  have PL := place_any (h.nu K1.drew) key
  obtain ⟨r, cap, e, cur, hcur⟩ := h.row
  have hp : plc L key < L.length := h.tab.plc_lt k0 k1
  have hcap : L.length ≤ cap := by
    rcases h.own.2 with ⟨_, h0⟩ | ⟨r', cap', cur', e', hB, hg, h1, h2, h3, h4⟩
    · have := h.tab.ne; omega
    · rw [e] at e'; cases e'; exact h1
  have hbw : b < w.heap.size := blk_lt h.blk
  have c1 := (h.nu K1).c1
  have hl : (L.length : Int) ≤ 8192 := by have := h.len; have := h.lim1; omega
  have CC : ∀ W, Kp Nu (w.alloc (.cells #[.slice none 0 0] 22)) W → W.cell? ⟨b, 1, none⟩ = some v := fun W k => ((h.nu K1).nu k).c1
  have CS : ∀ W x, Kp Nu (w.alloc (.cells #[.slice none 0 0] 22)) W → (W.setCell ⟨w.heap.size, 0, none⟩ x).cell? ⟨b, 1, none⟩ = some v := fun W x k =>
    (World.cell?_of_block (Below.heap_setCell W ⟨w.heap.size, 0, none⟩ x b (by show b ≠ w.heap.size; omega))).trans (CC W k)
  have HB : Hid (∀ W, Kp Nu (w.alloc (.cells #[.slice none 0 0] 22)) W → W.heap[w.heap.size]? = some (.cells #[.slice none 0 0] 22 (0, 0))) := fun W k => new_at w _ k
  have hd : (L.drop (plc L key)).length = L.length - plc L key := by simp
  rw [hd]
  subst e
  generalize plc L key = p at *
  generalize L.length = N at *
  have hpI : (p : Int) ≤ (N : Int) := by omega
  have hne : ¬ cap = p := by omega
  clear hp hcap
  have hp0 : (0 : Int) ≤ (p : Int) := by omega
  have htn : ((p : Int)).toNat = p := by omega
  clear h hd hcur
  go_enter Tryd.func44, Tryd.ntmps44
  go_wp2_with (go_at_call 50; refine MA.mono ?_; rintro e w' ⟨rfl, rfl⟩)
  clear MA
  go_region_held (fun W => W.cell? ⟨b, 1, none⟩ = some (.slice (some ⟨r, 0, none⟩) N cap)) (first | (refine CS _ _ ?_; repeat (first | assumption | exact Kp.refl _ _ | apply Kp.andAlloc | apply Kp.drew)) | (refine CC _ ?_; repeat (first | assumption | exact Kp.refl _ _ | apply Kp.andAlloc | apply Kp.drew))) (first | (go_at_call 72; refine PL.mono ?_; rintro e w2 ⟨rfl, hk2⟩; have hk3 : Kp Nu (w.alloc (.cells #[.slice none 0 0] 22)) w2 := (Kp.refl Nu _).drew.andNu hk2; have fz := free3 (HB.out _ hk3) 0; have cz := cell1 (HB.out _ hk3)))
  all_goals go_wp2
  all_goals go_ret
  all_goals
    refine ⟨w.heap.size, r, _, rfl, Nat.le_refl _, set3 (HB.out _ (by assumption)) 0 _, rfl, ?_⟩
    exact ((Kp.alloc w _ Nu).andNu (by assumption)).andSet _ _ (.inl (Nat.le_refl _))
end
end Go.Proofs.YtffcnonhhfhlhaaDoor.Rg
