import Derived.Test.YtckjededijgjgaaDoorRows
import Derived.Test.YtckjededijgjgaaDoorEncA
import Derived.WalkKit
import Derived.WalkLawsBesides
import Derived.WalkSpells
import Derived.Outline
namespace Go.Proofs.YtckjededijgjgaaDoor.Enc
open Go.RowKit

theorem hide {p : Prop} (h : p) : Hid p := h

def sA (k : Nat) : Int := (spans.getD k (0, 0, 0)).1
def sB (k : Nat) : Int := (spans.getD k (0, 0, 0)).2.1
def sK (k : Nat) : Int := (spans.getD k (0, 0, 0)).2.2

/-- the variable kindSpans holds its rows -/
structure Spans (w : World) (R off cap : Nat) : Prop where
  var : w.cell? ⟨0, 0, none⟩ = some (.slice (some ⟨R, off, none⟩) 38 cap)
  pos : 0 < w.heap.size
  low : R < w.heap.size
  a : ∀ k, k < 38 → w.cell? ⟨R, off + k * 3, none⟩ = some (.int .i32 (sA k))
  b : ∀ k, k < 38 → w.cell? ⟨R, off + k * 3 + 1, none⟩ = some (.int .i32 (sB k))
  c : ∀ k, k < 38 → w.cell? ⟨R, off + k * 3 + 2, none⟩ = some (.int .u8 (sK k))

theorem Spans.below {w w' : World} {R off cap n : Nat} (h : Spans w R off cap) (hb : Below n w w') (hn : w.heap.size ≤ n) : Spans w' R off cap :=
  ⟨(hb.cell (p := ⟨0, 0, none⟩) (Nat.lt_of_lt_of_le h.pos hn)).trans h.var, Nat.lt_of_lt_of_le h.pos hb.size, Nat.lt_of_lt_of_le h.low hb.size,
   fun k hk => (hb.cell (p := ⟨R, off + k * 3, none⟩) (Nat.lt_of_lt_of_le h.low hn)).trans (h.a k hk),
   fun k hk => (hb.cell (p := ⟨R, off + k * 3 + 1, none⟩) (Nat.lt_of_lt_of_le h.low hn)).trans (h.b k hk),
   fun k hk => (hb.cell (p := ⟨R, off + k * 3 + 2, none⟩) (Nat.lt_of_lt_of_le h.low hn)).trans (h.c k hk)⟩

def At (r : Int) (k : Nat) : Prop := spanF r spans = spanF r (spans.drop k)

theorem spans_len : spans.length = 38 := by decide +kernel
theorem span_drop {k : Nat} (h : k < 38) : spans.drop k = (sA k, sB k, sK k) :: spans.drop (k + 1) := by
  have hl : k < spans.length := by rw [spans_len]; exact h
  rw [List.drop_eq_getElem_cons hl]
  congr 1
  simp [sA, sB, sK, List.getD, List.getElem?_eq_getElem hl]
theorem At.stop {r : Int} {k : Nat} (h : At r k) (hk : k < 38) (h1 : r < sA k) : spanF r spans = 0 := by
  rw [h, span_drop hk, spanF, if_pos h1]
theorem At.hit {r : Int} {k : Nat} (h : At r k) (hk : k < 38) (h1 : sA k ≤ r) (h2 : r ≤ sB k) : spanF r spans = sK k := by
  rw [h, span_drop hk, spanF, if_neg (by omega), if_pos h2]
theorem At.next {r : Int} {k : Nat} (h : At r k) (hk : k < 38) (h1 : sA k ≤ r) (h2 : sB k < r) : At r (k + 1) := by
  unfold At; rw [h, span_drop hk, spanF, if_neg (by omega), if_neg (by omega)]
theorem At.done {r : Int} {k : Nat} (h : At r k) (hk : ¬ k < 38) : spanF r spans = 0 := by
  rw [h, List.drop_of_length_le (by rw [spans_len]; omega), spanF]

set_option maxHeartbeats 400000 in
theorem kindOf_span (r : Int) (w : World) (R off cap : Nat) (hS : Spans w R off cap) (_h0 : 0 ≤ r) (_h1 : r ≤ 1114111) (_h2 : (bits .and .i32 r 65534 == 65534) = false) :
    Calls Tryd.prog 49 #[.int .i32 r] w fun e w' => e = .returned (.int .u8 (spanF r spans)) ∧ Below w.heap.size w w' := by
  have hv := hS.var
  go_enter Tryd.func49, Tryd.ntmps49
  go_wp2
  go_loopw [18] (fun i wr => ∃ k : Nat, k ≤ 38 ∧ i = .int .i64 k ∧ At r k ∧ Below w.heap.size w wr) (fun i _ => 38 - (intOf i).toNat)
  case atStart => exact ⟨0, by omega, rfl, rfl, Below.refl _ _⟩
  case round =>
    obtain ⟨k, hk, rfl, hA, hB⟩ := hrel
    by_cases hlt : k < 38
    · have hS' := hS.below hB (Nat.le_refl _)
      have ca := hS'.a k hlt
      have cb := hS'.b k hlt
      have cc := hS'.c k hlt
      go_wp2
      · go_ret
        rw [hA.stop hlt ‹_›]
        exact ⟨rfl, hB.alloc hB.size _⟩
      · go_ret
        rw [hA.hit hlt ‹_› ‹_›]
        exact ⟨rfl, hB.alloc hB.size _⟩
      · exact ⟨⟨k + 1, by omega, by go_num, hA.next hlt ‹_› ‹_›, hB.alloc hB.size _⟩, by simp [intOf]; omega⟩
    · go_wp2
      go_ret
      rw [hA.done hlt]
      exact ⟨rfl, hB⟩

theorem wrap_small32 (n : Int) (h0 : 0 ≤ n) (h1 : n < 2147483648) : IntKind.i32.wrap n = n := by
  simp [IntKind.wrap, IntKind.bits, IntKind.signed]
  split <;> omega
theorem i32_and_nat (a b : Nat) (ha : a < 2147483648) (hb : b < 2147483648) : bits .and .i32 (a : Int) (b : Int) = ((a &&& b : Nat) : Int) := by
  have hx : a &&& b < 2 ^ 31 := Nat.and_lt_two_pow _ (by omega)
  show IntKind.i32.wrap ((BitVec.ofInt 32 (a : Int) &&& BitVec.ofInt 32 (b : Int)).toNat : Int) = _
  rw [BitVec.toNat_and, ofInt_u32 a (by omega), ofInt_u32 b (by omega)]
  exact wrap_small32 _ (by omega) (by omega)

theorem and_iff (r : Int) (h0 : 0 ≤ r) (h1 : r ≤ 1114111) : bits .and .i32 r 65534 = r % 65536 / 2 * 2 := by
  obtain ⟨n, rfl⟩ := Int.eq_ofNat_of_zero_le h0
  have hn : n < 2147483648 := by omega
  have : bits .and .i32 (n : Int) (65534 : Int) = ((n &&& 65534 : Nat) : Int) := by
    have := i32_and_nat n 65534 hn (by decide)
    exact this
  rw [this, and_even]
  omega

set_option maxHeartbeats 400000 in
theorem kindOf_any (r : Int) (w : World) (R off cap : Nat) (hS : Spans w R off cap) (hr : -2147483648 ≤ r) (hr' : r ≤ 2147483647) :
    Calls Tryd.prog 49 #[.int .i32 r] w fun e w' => e = .returned (.int .u8 (kindF r)) ∧ Below w.heap.size w w' := by
  by_cases h0 : r < 0
  · have e : kindF r = 1 := by unfold kindF; rw [if_pos (.inl h0)]
    have E := hide e
    clear e
    go_enter Tryd.func49, Tryd.ntmps49
    go_wp2
    go_ret
    rw [E.out]; exact ⟨rfl, Below.refl _ _⟩
  · by_cases h1 : 1114111 < r
    · have e : kindF r = 1 := by unfold kindF; rw [if_pos (.inr (.inl h1))]
      have E := hide e
      clear e
      go_enter Tryd.func49, Tryd.ntmps49
      go_wp2
      go_ret
      rw [E.out]; exact ⟨rfl, Below.refl _ _⟩
    · have e := and_iff r (by omega) (by omega)
      by_cases h2 : 65534 ≤ r % 65536
      · have e : kindF r = 1 := by unfold kindF; rw [if_pos (.inr (.inr h2))]
        have E := hide e
        have h2' : (bits .and .i32 r 65534 == 65534) = true := by rw [and_iff r (by omega) (by omega)]; exact beq_iff_eq.2 (by omega)
        clear e
        go_enter Tryd.func49, Tryd.ntmps49
        go_wp2
        go_ret
        rw [E.out]; exact ⟨rfl, Below.refl _ _⟩
      · have h2' : (bits .and .i32 r 65534 == 65534) = false := by rw [e]; exact beq_eq_false_iff_ne.2 (by omega)
        have := kindOf_span r w R off cap hS (by omega) (by omega) h2'
        unfold kindF
        rw [if_neg (by omega)]
        exact this

/-- is it plain? -/
def plainF (r : Int) : Bool := !(kindF r == 1)

set_option maxHeartbeats 400000 in
theorem plain_any (r : Int) (w : World) (R off cap : Nat) (hS : Spans w R off cap) (hr : -2147483648 ≤ r) (hr' : r ≤ 2147483647) :
    Calls Tryd.prog 21 #[.int .i32 r] w fun e w' => e = .returned (.bool (plainF r)) ∧ Below w.heap.size w w' := by
  go_enter Tryd.func21, Tryd.ntmps21
  go_wp2_with (go_at_call 49; refine (kindOf_any r _ R off cap hS hr hr').mono ?_; rintro e w' ⟨rfl, hb⟩)
  go_ret
  exact ⟨rfl, hb⟩

theorem ret_bool {a b : Bool} (h : a = b) : Ending.returned (.bool a) = .returned (.bool b) := by rw [h]
theorem valid_yes (r : Int) (h : (0 ≤ r ∧ r < 55296) ∨ (57343 < r ∧ r ≤ 1114111)) : true = Utf8.valid r := by
  unfold Utf8.valid; symm; simp; omega
theorem valid_no (r : Int) (h : r < 0 ∨ (55296 ≤ r ∧ r ≤ 57343) ∨ 1114111 < r) : false = Utf8.valid r := by
  unfold Utf8.valid; symm; simp; omega

set_option maxHeartbeats 400000 in
theorem validRune_any (r : Int) (w : World) :
    Calls Tryd.prog 48 #[.int .i32 r] w fun e w' => e = .returned (.bool (Utf8.valid r)) ∧ w' = w := by
  go_enter Tryd.func48, Tryd.ntmps48
  go_wp2
  all_goals go_ret
  · exact ⟨ret_bool (valid_yes r (.inl ⟨‹_›, ‹_›⟩)), rfl⟩
  · exact ⟨ret_bool (valid_yes r (.inr ⟨‹_›, ‹_›⟩)), rfl⟩
  · exact ⟨ret_bool (valid_no r (.inr (.inr ‹_›))), rfl⟩
  · exact ⟨ret_bool (valid_no r (.inr (.inl ⟨‹_›, ‹_›⟩))), rfl⟩
  · exact ⟨ret_bool (valid_no r (.inl ‹_›)), rfl⟩
end Go.Proofs.YtckjededijgjgaaDoor.Enc
