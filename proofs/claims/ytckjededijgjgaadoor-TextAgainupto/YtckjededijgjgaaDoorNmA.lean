import Derived.Test.YtckjededijgjgaaDoorRows
import Derived.WalkKit
import Derived.WalkLawsBesides
import Derived.WalkSpells
import Derived.Outline
namespace Go.Proofs.YtckjededijgjgaaDoor.Nm
open Go.RowKit

theorem hide {p : Prop} (h : p) : Hid p := h

/-- the rows of letterSpans: first, last, how far the small form is -/
def lets : List (Int × Int × Int) := [(65, 90, 32), (97, 122, 0), (192, 214, 32), (216, 222, 32), (223, 246, 0), (248, 255, 0), (913, 929, 32), (931, 937, 32), (945, 961, 0), (962, 962, 1), (963, 969, 0), (1040, 1071, 32), (1072, 1103, 0)]

/-- the search -/
def letF (r : Int) : List (Int × Int × Int) → Option Int
  | [] => none
  | (a, b, f) :: t => if a ≤ r ∧ r ≤ b then some (r + f) else letF r t

def lA (k : Nat) : Int := (lets.getD k (0, 0, 0)).1
def lB (k : Nat) : Int := (lets.getD k (0, 0, 0)).2.1
def lC (k : Nat) : Int := (lets.getD k (0, 0, 0)).2.2

/-- the variable letterSpans holds its rows -/
structure Lets (w : World) (R off cap : Nat) : Prop where
  var : w.cell? ⟨1, 0, none⟩ = some (.slice (some ⟨R, off, none⟩) 13 cap)
  pos : 1 < w.heap.size
  low : R < w.heap.size
  a : ∀ k, k < 13 → w.cell? ⟨R, off + k * 3, none⟩ = some (.int .i32 (lA k))
  b : ∀ k, k < 13 → w.cell? ⟨R, off + k * 3 + 1, none⟩ = some (.int .i32 (lB k))
  c : ∀ k, k < 13 → w.cell? ⟨R, off + k * 3 + 2, none⟩ = some (.int .i32 (lC k))

theorem Lets.below {w w' : World} {R off cap n : Nat} (h : Lets w R off cap) (hb : Below n w w') (hn : w.heap.size ≤ n) : Lets w' R off cap :=
  ⟨(hb.cell (p := ⟨1, 0, none⟩) (Nat.lt_of_lt_of_le h.pos hn)).trans h.var, Nat.lt_of_lt_of_le h.pos hb.size, Nat.lt_of_lt_of_le h.low hb.size,
   fun k hk => (hb.cell (p := ⟨R, off + k * 3, none⟩) (Nat.lt_of_lt_of_le h.low hn)).trans (h.a k hk),
   fun k hk => (hb.cell (p := ⟨R, off + k * 3 + 1, none⟩) (Nat.lt_of_lt_of_le h.low hn)).trans (h.b k hk),
   fun k hk => (hb.cell (p := ⟨R, off + k * 3 + 2, none⟩) (Nat.lt_of_lt_of_le h.low hn)).trans (h.c k hk)⟩

def At (r : Int) (k : Nat) : Prop := letF r lets = letF r (lets.drop k)

theorem lets_len : lets.length = 13 := by decide +kernel
theorem let_drop {k : Nat} (h : k < 13) : lets.drop k = (lA k, lB k, lC k) :: lets.drop (k + 1) := by
  have hl : k < lets.length := by rw [lets_len]; exact h
  rw [List.drop_eq_getElem_cons hl]
  congr 1
  simp [lA, lB, lC, List.getD, List.getElem?_eq_getElem hl]
theorem At.hit {r : Int} {k : Nat} (h : At r k) (hk : k < 13) (h1 : lA k ≤ r) (h2 : r ≤ lB k) : letF r lets = some (r + lC k) := by
  rw [h, let_drop hk, letF, if_pos ⟨h1, h2⟩]
theorem At.next {r : Int} {k : Nat} (h : At r k) (hk : k < 13) (h1 : ¬ (lA k ≤ r ∧ r ≤ lB k)) : At r (k + 1) := by
  unfold At; rw [h, let_drop hk, letF, if_neg h1]
theorem At.done {r : Int} {k : Nat} (h : At r k) (hk : ¬ k < 13) : letF r lets = none := by
  rw [h, List.drop_of_length_le (by rw [lets_len]; omega), letF]
theorem let_bounds {k : Nat} (h : k < 13) : 65 ≤ lA k ∧ lB k ≤ 1103 ∧ 0 ≤ lC k ∧ lC k ≤ 32 := by
  have : (List.range 13).all (fun k => decide (65 ≤ lA k ∧ lB k ≤ 1103 ∧ 0 ≤ lC k ∧ lC k ≤ 32)) = true := by decide +kernel
  rw [List.all_eq_true] at this
  exact of_decide_eq_true (this k (by simpa using h))

/-- what foldLetter answers -/
def letO (r : Int) : Int × Bool := match letF r lets with | some x => (x, true) | none => (0, false)
theorem letO_some {r x : Int} (h : letF r lets = some x) : letO r = (x, true) := by unfold letO; rw [h]
theorem letO_none {r : Int} (h : letF r lets = none) : letO r = (0, false) := by unfold letO; rw [h]

set_option maxHeartbeats 400000 in
theorem foldLetter_any (r : Int) (w : World) (R off cap : Nat) (hS : Lets w R off cap) :
    Calls Tryd.prog 91 #[.int .i32 r] w fun e w' => e = .returned (.tuple #[.int .i32 (letO r).1, .bool (letO r).2]) ∧ Below w.heap.size w w' := by
  have hv := hS.var
  go_enter Tryd.func91, Tryd.ntmps91
  go_wp2
  go_loopw [8] (fun i wr => ∃ k : Nat, k ≤ 13 ∧ i = .int .i64 k ∧ At r k ∧ Below w.heap.size w wr) (fun i _ => 13 - (intOf i).toNat)
  case atStart => exact ⟨0, by omega, rfl, rfl, Below.refl _ _⟩
  case round =>
    obtain ⟨k, hk, rfl, hA, hB⟩ := hrel
    by_cases hlt : k < 13
    · have hS' := hS.below hB (Nat.le_refl _)
      have ca := hS'.a k hlt
      have cb := hS'.b k hlt
      have cc := hS'.c k hlt
      have hbd := let_bounds hlt
      have b1 := hbd.1
      have b2 := hbd.2.1
      have b3 := hbd.2.2.1
      have b4 := hbd.2.2.2
      clear hbd
      by_cases h1 : lA k ≤ r
      · by_cases h2 : r ≤ lB k
        · go_wp2
          go_ret2
          rw [letO_some (hA.hit hlt h1 h2)]
          exact ⟨rfl, hB.alloc hB.size _⟩
        · have h2' : lB k < r := by omega
          go_wp2
          exact ⟨⟨k + 1, by omega, by go_num, hA.next hlt (by omega), hB.alloc hB.size _⟩, by simp [intOf]; omega⟩
      · have h1' : r < lA k := by omega
        go_wp2
        exact ⟨⟨k + 1, by omega, by go_num, hA.next hlt (by omega), hB.alloc hB.size _⟩, by simp [intOf]; omega⟩
    · go_wp2
      go_ret2
      rw [letO_none (hA.done hlt)]
      exact ⟨rfl, hB⟩

/-- a digit, or a sign that joins -/
def restB (r : Int) : Bool := (decide (48 ≤ r) && decide (r ≤ 57)) || (r == 45 || r == 95 || r == 46)
/-- what foldNameRune answers -/
def nameF (r : Int) (first : Bool) : Int × Bool := match letF r lets with | some x => (x, true) | none => (r, !first && restB r)

set_option maxHeartbeats 400000 in
theorem foldNameRune_some (r x : Int) (first : Bool) (w : World) (R off cap : Nat) (hS : Lets w R off cap) (h : Hid (letF r lets = some x)) :
    Calls Tryd.prog 51 #[.int .i32 r, .bool first] w fun e w' => e = .returned (.tuple #[.int .i32 x, .bool true]) ∧ Below w.heap.size w w' := by
  have C := foldLetter_any r w R off cap hS
  rw [letO_some h.out] at C
  go_enter Tryd.func51, Tryd.ntmps51
  go_wp2_with (go_at_call 91; refine C.mono ?_; rintro e w' ⟨rfl, hb⟩)
  go_ret2
  exact ⟨rfl, hb⟩
set_option maxHeartbeats 400000 in
theorem foldNameRune_none (r : Int) (first : Bool) (w : World) (R off cap : Nat) (hS : Lets w R off cap) (h : Hid (letF r lets = none)) :
    Calls Tryd.prog 51 #[.int .i32 r, .bool first] w fun e w' => e = .returned (.tuple #[.int .i32 r, .bool (!first && restB r)]) ∧ Below w.heap.size w w' := by
  have C := foldLetter_any r w R off cap hS
  rw [letO_none h.out] at C
  go_enter Tryd.func51, Tryd.ntmps51
  cases first
  · go_wp2_with (go_at_call 91; refine C.mono ?_; rintro e w' ⟨rfl, hb⟩)
    all_goals go_ret2
    all_goals (refine ⟨?_, hb⟩; simp_all [restB]; try omega)
  · go_wp2_with (go_at_call 91; refine C.mono ?_; rintro e w' ⟨rfl, hb⟩)
    all_goals go_ret2
    all_goals (refine ⟨?_, hb⟩; simp_all [restB]; try omega)
end Go.Proofs.YtckjededijgjgaaDoor.Nm
