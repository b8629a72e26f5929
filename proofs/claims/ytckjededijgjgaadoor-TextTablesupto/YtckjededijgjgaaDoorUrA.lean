import Derived.Test.YtckjededijgjgaaDoorRnD
import Derived.Test.YtckjededijgjgaaDoorNumC
namespace Go.Proofs.YtckjededijgjgaaDoor.Ur
open Go.RowKit
open Go.Proofs.YtckjededijgjgaaDoor.Pc (P4 pieces)
open Go.Proofs.YtckjededijgjgaaDoor.Rn (row_at)
set_option linter.unusedVariables false

theorem hide {p : Prop} (h : p) : Hid p := h
/-- a list of pieces in memory -/
def Lp (w : World) (ad : Option Addr) (l : List P4) : Prop := ∀ k (hk : k < l.length), ∃ g, ad = some ⟨g, 0, none⟩ ∧ g < w.heap.size ∧ w.cell? ⟨g, k * 4, none⟩ = some (.int .i64 l[k].1) ∧ w.cell? ⟨g, k * 4 + 1, none⟩ = some (.int .i64 l[k].2.1) ∧ w.cell? ⟨g, k * 4 + 2, none⟩ = some (.int .i64 l[k].2.2.1) ∧ w.cell? ⟨g, k * 4 + 3, none⟩ = some (.bool l[k].2.2.2)
theorem Lp.below {w w' : World} {ad : Option Addr} {l : List P4} (h : Lp w ad l) (hb : Below w.heap.size w w') : Lp w' ad l := by
  intro k hk
  obtain ⟨g, h0, h1, c0, c1, c2, c3⟩ := h k hk
  exact ⟨g, h0, Nat.lt_of_lt_of_le h1 hb.size, (hb.cell (p := ⟨g, k * 4, none⟩) h1).trans c0, (hb.cell (p := ⟨g, k * 4 + 1, none⟩) h1).trans c1, (hb.cell (p := ⟨g, k * 4 + 2, none⟩) h1).trans c2, (hb.cell (p := ⟨g, k * 4 + 3, none⟩) h1).trans c3⟩
theorem lp_of {w : World} {base : Nat} {v : Value} {l : List P4} (h : w.ownsRow base 97 4 v l.length (Rp.cellsR l)) : ∃ ad cap, v = .slice ad l.length cap ∧ Lp w ad l := by
  rcases Nat.eq_zero_or_pos l.length with h0 | h0
  · rcases h.2 with ⟨rfl, _⟩ | ⟨g, cap, cur, rfl, _⟩
    · exact ⟨_, _, by rw [h0], fun k hk => by omega⟩
    · exact ⟨_, _, rfl, fun k hk => by omega⟩
  · obtain ⟨g, cap, hv, hg, _⟩ := row_at h (k := 0) h0
    refine ⟨_, cap, hv, fun k hk => ?_⟩
    obtain ⟨g', cap', hv', hg', c⟩ := row_at h hk
    rw [hv] at hv'
    cases hv'
    exact ⟨g, rfl, hg, c⟩

/-- the rune of the piece number i, -1: there is none, or it is broken -/
def atL (l : List P4) (i : Nat) : Int := match l[i]? with
  | none => -1
  | some x => if x.2.2.2 = true then -1 else x.1
theorem atL_out {l : List P4} {i : Nat} (h : l.length ≤ i) : atL l i = -1 := by
  unfold atL; rw [List.getElem?_eq_none h]
theorem atL_in {l : List P4} {i : Nat} (h : i < l.length) : atL l i = if l[i].2.2.2 = true then -1 else l[i].1 := by
  unfold atL; rw [List.getElem?_eq_getElem h]

set_option maxRecDepth 100000 in
set_option maxHeartbeats 1000000 in
theorem at_any {w : World} {ad : Option Addr} {l : List P4} (cap : Nat) (hL : Lp w ad l) (hl : l.length ≤ 11000000) (i : Nat) :
    Calls Tryd.prog 77 #[.slice ad l.length cap, .int .i64 (i : Int)] w fun e w' => e = .returned (.int .i64 (atL l i)) ∧ w' = w := by
  by_cases hk : i < l.length
  · obtain ⟨g, rfl, hg, c0, c1, c2, c3⟩ := hL i hk
    rw [atL_in hk]
    have hkI : (i : Int) < (l.length : Int) := by omega
    generalize l[i] = x at *
    clear hL
    generalize l.length = N at *
    obtain ⟨r, p, z, b⟩ := x
    simp only at c0 c1 c2 c3 ⊢
    cases b
    · rw [if_neg (by simp)]
      go_enter Tryd.func77, Tryd.ntmps77
      go_wp2
      go_ret
      exact ⟨rfl, rfl⟩
    · rw [if_pos rfl]
      go_enter Tryd.func77, Tryd.ntmps77
      go_wp2
      go_ret
      exact ⟨rfl, rfl⟩
  · rw [atL_out (by omega)]
    have hkI : (l.length : Int) ≤ (i : Int) := by omega
    clear hL
    generalize l.length = N at *
    go_enter Tryd.func77, Tryd.ntmps77
    go_wp2
    go_ret
    exact ⟨rfl, rfl⟩

/-- a hexadecimal digit's number, -1: it is none -/
def dg (r : Int) : Int := if 48 ≤ r ∧ r ≤ 57 then r - 48 else if 97 ≤ r ∧ r ≤ 102 then r - 97 + 10 else if 65 ≤ r ∧ r ≤ 70 then r - 65 + 10 else -1
theorem dg_le (r : Int) : dg r = -1 ∨ (0 ≤ dg r ∧ dg r < 16) := by
  unfold dg
  split
  · right; omega
  · split
    · right; omega
    · split
      · right; omega
      · left; rfl

set_option maxHeartbeats 1000000 in
theorem digit_any (r : Int) (w : World) :
    Calls Tryd.prog 126 #[.int .i64 r] w fun e w' => e = .returned (.int .i64 (dg r)) ∧ w' = w := by
  unfold dg
  by_cases h1 : 48 ≤ r ∧ r ≤ 57
  · rw [if_pos h1]
    obtain ⟨a, b⟩ := h1
    go_enter Tryd.func126, Tryd.ntmps126
    go_wp2
    go_ret
    exact ⟨rfl, rfl⟩
  · by_cases h2 : 97 ≤ r ∧ r ≤ 102
    · rw [if_neg h1, if_pos h2]
      have a : ¬ r ≤ 57 := by omega
      have a2 : (48 : Int) ≤ r := by omega
      obtain ⟨a3, b⟩ := h2
      clear h1
      go_enter Tryd.func126, Tryd.ntmps126
      go_wp2
      go_ret
      exact ⟨rfl, rfl⟩
    · by_cases h3 : 65 ≤ r ∧ r ≤ 70
      · rw [if_neg h1, if_neg h2, if_pos h3]
        have a : ¬ r ≤ 57 := by omega
        have a2 : (48 : Int) ≤ r := by omega
        have a3 : ¬ (97 : Int) ≤ r := by omega
        obtain ⟨a4, b⟩ := h3
        clear h1 h2
        go_enter Tryd.func126, Tryd.ntmps126
        go_wp2
        go_ret
        exact ⟨rfl, rfl⟩
      · rw [if_neg h1, if_neg h2, if_neg h3]
        have hh : r < 48 ∨ (57 < r ∧ r < 65) ∨ (70 < r ∧ r < 97) ∨ 102 < r := by omega
        clear h1 h2 h3
        rcases hh with h | h | h | h
        all_goals
          go_enter Tryd.func126, Tryd.ntmps126
          go_wp2
          go_ret
          exact ⟨rfl, rfl⟩
end Go.Proofs.YtckjededijgjgaaDoor.Ur
