import Derived.Test.YtbifmcadllilhaaRKp
import Derived.Test.YtbifmcadllilhaaSr
import Derived.Test.YtbifmcadllilhaaRgB
namespace Go.Proofs.Ytbifmcadllilhaa.Rg
open Go.RowKit Go.Shelf
set_option linter.unusedVariables false

def cellsG (s : Sg) : List Value := [.int .u64 s.lo, .int .u64 s.hi, .int .u8 s.h]
def cells (L : List Sg) : List Value := L.flatMap cellsG
def enc (s : Sg) : Value := .agg #[.int .u64 s.lo, .int .u64 s.hi, .int .u8 s.h]
theorem cells_length : ∀ L : List Sg, (cells L).length = L.length * 3
  | [] => rfl
  | s :: L => by
    have := cells_length L
    simp only [cells, List.flatMap_cons, List.length_append] at this ⊢
    simp [cellsG, this]; omega
theorem cells_append (A B : List Sg) : cells (A ++ B) = cells A ++ cells B := by simp [cells]
theorem cells_at : ∀ (l : List Sg) (k : Nat) (x : Sg), l[k]? = some x → ∀ j, j < 3 → (cells l)[k * 3 + j]? = (cellsG x)[j]?
  | [], k, x, h, j, _ => by simp at h
  | a :: l, 0, x, h, j, hj => by
    simp at h; subst h
    simp only [cells, List.flatMap_cons, Nat.zero_mul, Nat.zero_add]
    rw [List.getElem?_append_left (by simp [cellsG]; omega)]
  | a :: l, k + 1, x, h, j, hj => by
    have ih := cells_at l k x (by simpa using h) j hj
    simp only [cells, List.flatMap_cons]
    rw [List.getElem?_append_right (by simp [cellsG]; omega)]
    have : (k + 1) * 3 + j - (cellsG a).length = k * 3 + j := by simp [cellsG]; omega
    rw [this]; exact ih

/-- a list of segments that can be read at a slice -/
def Rs (w : World) (u : Value) (L : List Sg) : Prop := ∃ r off cap, u = .slice (some ⟨r, off, none⟩) L.length cap ∧ ∀ i s, L[i]? = some s → w.cell? ⟨r, off + i * 3, none⟩ = some (.int .u64 s.lo) ∧ w.cell? ⟨r, off + i * 3 + 1, none⟩ = some (.int .u64 s.hi) ∧ w.cell? ⟨r, off + i * 3 + 2, none⟩ = some (.int .u8 s.h)

theorem row_at {w : World} {B : Nat} {v : Value} {L : List Sg} (h : w.ownsRow B 82 3 v L.length (cells L)) {i : Nat} {g : Sg} (hi : L[i]? = some g) : ∃ r cap, v = .slice (some ⟨r, 0, none⟩) L.length cap ∧ w.cell? ⟨r, i * 3, none⟩ = some (.int .u64 g.lo) ∧ w.cell? ⟨r, i * 3 + 1, none⟩ = some (.int .u64 g.hi) ∧ w.cell? ⟨r, i * 3 + 2, none⟩ = some (.int .u8 g.h) := by
  have hlt : i < L.length := (List.getElem?_eq_some_iff.1 hi).1
  rcases h.2 with ⟨_, h0⟩ | ⟨r, cap, cur, e, hB, hg, h1, h2, h3, h4⟩
  · omega
  · have key : ∀ j, j < 3 → cur[i * 3 + j]? = (cellsG g)[j]? := by
      intro j hj
      have e1 := cells_at L i g hi j hj
      rw [← h4, List.getElem?_take_of_lt (by omega)] at e1
      simpa using e1
    refine ⟨r, cap, e, ?_, ?_, ?_⟩
    · have := key 0 (by omega)
      simpa [World.cell?, hg, cellsG] using this
    · have := key 1 (by omega)
      simpa [World.cell?, hg, cellsG] using this
    · have := key 2 (by omega)
      simpa [World.cell?, hg, cellsG] using this

/-- a table in memory -/
structure Tb (B : Nat) (w : World) (b : Nat) (lim : Int) (v : Value) (L : List Sg) : Prop where
  blk : w.heap[b]? = some (.cells #[.int .i64 lim, v] 143 (0, 0))
  low : B ≤ b
  own : w.ownsRow B 82 3 v L.length (cells L)
  tab : Tab L
  len : (L.length : Int) ≤ lim
  lim1 : lim ≤ 8192
section
variable {B b : Nat} {w w' : World} {lim : Int} {v : Value} {L : List Sg}
theorem Tb.nu (h : Tb B w b lim v L) (k : Kp Nu w w') : Tb B w' b lim v L :=
  ⟨(k.block _ (blk_lt h.blk) (fun h => h)).trans h.blk, h.low, own_keep h.own (fun g hg => k.block g (own_lt h.own hg) (fun h => h)), h.tab, h.len, h.lim1⟩
theorem Tb.c0 (h : Tb B w b lim v L) : w.cell? ⟨b, 0, none⟩ = some (.int .i64 lim) := by simp [World.cell?, h.blk]
theorem Tb.c1 (h : Tb B w b lim v L) : w.cell? ⟨b, 1, none⟩ = some v := by simp [World.cell?, h.blk]
theorem Tb.row (h : Tb B w b lim v L) : ∃ r cap, v = .slice (some ⟨r, 0, none⟩) L.length cap ∧ ∃ cur, w.heap[r]? = some (.cells cur 82 (0, 0)) := by
  have := h.tab.ne
  rcases h.own.2 with ⟨_, h0⟩ | ⟨r, cap, cur, e, hB, hg, h1, h2, h3, h4⟩
  · omega
  · exact ⟨r, cap, e, cur, hg⟩
theorem Tb.rs (h : Tb B w b lim v L) : Rs w v L := by
  obtain ⟨r, cap, e, _⟩ := h.row
  refine ⟨r, 0, cap, e, fun i s hi => ?_⟩
  obtain ⟨r', cap', e', x0, x1, x2⟩ := row_at h.own hi
  rw [e] at e'; cases e'
  simpa using And.intro x0 (And.intro x1 x2)

set_option maxHeartbeats 400000 in
theorem made_any (h : Tb B w b lim v L) : Calls Try.prog 107 #[.pointer (some ⟨b, 0, none⟩)] w fun e w' => e = .returned (.bool true) ∧ w' = w := by
  obtain ⟨r, cap, e, _⟩ := h.row
  have c1 := h.c1
  have hn := h.tab.ne
  subst e
  have hn' : (L.length : Int) > 0 := by omega
  clear h
  go_enter Try.func107, Try.ntmps107
  go_wp2
  go_ret
  exact ⟨rfl, rfl⟩
set_option maxHeartbeats 400000 in
theorem len_any (h : Tb B w b lim v L) : Calls Try.prog 159 #[.pointer (some ⟨b, 0, none⟩)] w fun e w' => e = .returned (.int .i64 L.length) ∧ w' = w := by
  have MA := made_any h
  obtain ⟨r, cap, e, _⟩ := h.row
  have c1 := h.c1
  subst e
  clear h
  go_enter Try.func159, Try.ntmps159
  go_wp2_with (go_at_call 107; refine MA.mono ?_; rintro e w' ⟨rfl, rfl⟩)
  go_ret
  exact ⟨rfl, rfl⟩
set_option maxHeartbeats 400000 in
theorem isHost_any (a : Int) (w : World) : Calls Try.prog 102 #[.int .u8 a] w fun e w' => e = .returned (.bool (decide (a < 16))) ∧ w' = w := by
  go_enter Try.func102, Try.ntmps102
  go_wp2
  go_ret
  exact ⟨rfl, rfl⟩
theorem count_plc : ∀ {L : List Sg} {a b k : Int}, Cov a L b → (List.range L.length).countP (fun i => !(((L[i]?).map fun s => decide (k ≤ s.hi)).getD true)) = plc L k
  | [], a, b, k, h => rfl
  | s :: r, a, b, k, h => by
    have ih := count_plc (k := k) h.2.2
    rw [List.length_cons, List.range_succ_eq_map, List.countP_cons, List.countP_map]
    simp only [plc]
    by_cases e : k ≤ s.hi
    · rw [if_pos e]
      have : ∀ i, i ∈ List.range r.length → ¬ ((((fun i => !(((s :: r)[i]?).map fun s => decide (k ≤ s.hi)).getD true) ∘ Nat.succ) i) = true) := fun i hi => by
        have hi := List.mem_range.1 hi
        have := cov_mem h.2.2 (r[i]) (List.getElem_mem hi)
        simp [List.getElem?_eq_getElem hi]; omega
      rw [List.countP_eq_zero.2 this]
      simp [e]
    · rw [if_neg e]
      have : ((fun i => !(((s :: r)[i]?).map fun s => decide (k ≤ s.hi)).getD true) ∘ Nat.succ) = (fun i => !((r[i]?).map fun s => decide (k ≤ s.hi)).getD true) := by
        funext i; simp
      rw [this, ih]
      simp; omega

set_option maxHeartbeats 1000000 in
theorem place1_any (h : Tb B w b lim v L) (kb tb : Nat) (key : Int) (hk : w.heap[kb]? = some (.cells #[.int .u64 key] 56 (0, 0))) (ht : w.heap[tb]? = some (.cells #[.pointer (some ⟨b, 0, none⟩)] 67 (0, 0))) (i : Nat) (hi : i < L.length) :
    Calls Try.prog 130 #[.int .i64 (i : Int), .pointer (some ⟨kb, 0, none⟩), .pointer (some ⟨tb, 0, none⟩)] w fun e w' => e = .returned (.bool (((L[i]?).map fun s => decide (key ≤ s.hi)).getD true)) ∧ w' = w.drew := by
  have mixed : Try.prog.follows .mixedOrders = true := by kernel_rfl
  obtain ⟨s, hs⟩ : ∃ s, L[i]? = some s := ⟨_, List.getElem?_eq_getElem hi⟩
  obtain ⟨r, cap, e, x0, x1, x2⟩ := row_at h.own hs
  rw [hs]
  simp only [Option.map_some, Option.getD_some]
  have c1 := h.c1
  have k1 := cell1 hk
  have k2 := cell1 ht
  subst e
  have hiI : (i : Int) < (L.length : Int) := by omega
  have hi0 : (0 : Int) ≤ (i : Int) := by omega
  generalize L.length = N at *
  clear h hs hk ht
  go_enter Try.func130, Try.ntmps130
  go_wp2_with fail
  go_region
  go_wp2
  go_ret
  exact ⟨rfl, rfl⟩
end
end Go.Proofs.Ytbifmcadllilhaa.Rg
