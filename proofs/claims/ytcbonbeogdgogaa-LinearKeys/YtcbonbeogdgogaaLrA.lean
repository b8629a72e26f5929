import Derived.Test.YtcbonbeogdgogaaLoC
import Derived.Laws.BitsAllLaws
import Derived.Laws.Shifts
import Derived.Deep.AppendLies
namespace Go.Proofs.Ytcbonbeogdgogaa.Li
open Go.RowKit
set_option linter.unusedVariables false
/-- all of one set are in the other -/
def subs (a b : Nat) : Prop := ∀ k, a.testBit k = true → b.testBit k = true
/-- a search: how many calls and cells there are, where a call leads from a cell, who is before whom, who must stand -/
structure Sch where
  n : Nat
  m : Nat
  T : Nat → Nat → Option Nat
  B : Nat → Nat
  must : Nat
/-- a call may come next -/
def Sch.may (D : Sch) (st k : Nat) : Prop := k < D.n ∧ st.testBit k = false ∧ subs (D.B k) st
/-- an order comes of it -/
inductive Can (D : Sch) : Nat → Nat → Prop
  | done {st at_ : Nat} : subs D.must st → Can D st at_
  | step {st at_ : Nat} (k a : Nat) : D.may st k → D.T k at_ = some a → Can D (st ||| 2 ^ k) a → Can D st at_
/-- the first order that comes of it -/
inductive Fir (D : Sch) : Nat → Nat → List Nat → Prop
  | done {st at_ : Nat} : subs D.must st → Fir D st at_ []
  | step {st at_ : Nat} (k a : Nat) (e : List Nat) : ¬ subs D.must st → D.may st k → D.T k at_ = some a → (∀ j, j < k → D.may st j → ∀ b, D.T j at_ = some b → ¬ Can D (st ||| 2 ^ j) b) → Fir D (st ||| 2 ^ k) a e → Fir D st at_ (k :: e)
theorem Fir.can {D : Sch} {st at_ : Nat} {e : List Nat} (h : Fir D st at_ e) : Can D st at_ := by
  induction h with
  | done h => exact .done h
  | step k a e h1 h2 h3 h4 h5 ih => exact .step k a h2 h3 ih
/-- a search whose numbers are in bounds -/
structure Sch.Ok (D : Sch) : Prop where
  n16 : D.n ≤ 16
  m17 : D.m ≤ 17
  must : D.must < 2 ^ D.n
  b : ∀ k, k < D.n → D.B k < 2 ^ D.n
  t : ∀ k i a, k < D.n → i < D.m → D.T k i = some a → a < D.m
theorem two16 {n : Nat} (h : n ≤ 16) : 2 ^ n ≤ 65536 := Nat.le_trans (Nat.pow_le_pow_right (by decide) h) (by decide)
theorem two17 {n : Nat} (h : n < 17) : 2 ^ n ≤ 65536 := two16 (by omega)
theorem sub_iff {a b : Nat} (ha : a < 4294967296) (hb : b < 4294967296) : a &&& (4294967295 - b) = 0 ↔ subs a b := by
  have e : 4294967295 - b = 2 ^ 32 - (b + 1) := by omega
  rw [e]
  constructor
  · intro h k hk
    have h2 : (a &&& (2 ^ 32 - (b + 1))).testBit k = false := by rw [h]; simp
    rw [Nat.testBit_and, hk, Nat.testBit_two_pow_sub_succ (by omega)] at h2
    have hk32 : k < 32 := by
      rcases Nat.lt_or_ge k 32 with hl | hl
      · exact hl
      · have : a.testBit k = false := Nat.testBit_lt_two_pow (Nat.lt_of_lt_of_le (by omega : a < 2 ^ 32) (Nat.pow_le_pow_right (by decide) hl))
        rw [this] at hk
        cases hk
    simpa [hk32] using h2
  · intro h
    refine Nat.eq_of_testBit_eq (fun k => ?_)
    rw [Nat.testBit_and, Nat.testBit_two_pow_sub_succ (by omega)]
    cases hk : a.testBit k
    · simp
    · simp [h k hk]
theorem put_bit (st k j : Nat) : (st ||| 2 ^ k).testBit j = (st.testBit j || decide (k = j)) := by rw [Nat.testBit_or, Nat.testBit_two_pow]
theorem put_lt {st k n : Nat} (h : st < 2 ^ n) (hk : k < n) : st ||| 2 ^ k < 2 ^ n := Nat.or_lt_two_pow h (Nat.pow_lt_pow_right (by decide) hk)
theorem put_gt {st k : Nat} (h : st.testBit k = false) : st < st ||| 2 ^ k := by
  refine Nat.lt_of_le_of_ne Nat.left_le_or (fun e => ?_)
  have : (st ||| 2 ^ k).testBit k = false := by rw [← e]; exact h
  rw [put_bit] at this
  simp at this
/-- the walk's words for a set -/
theorem bit_and {st k : Nat} (hs : st < 4294967296) (hk : k < 32) : bits .and .u32 ((st : Int) / 2 ^ k) 1 = (if st.testBit k = true then 1 else 0) := by
  have e : ((st : Int) / 2 ^ k) = ((st / 2 ^ k : Nat) : Int) := by simp
  have hd : st / 2 ^ k ≤ st := Nat.div_le_self _ _
  rw [e]
  have h1 := u32_and_nat (st / 2 ^ k) 1 (by omega) (by decide)
  have e1 : ((1 : Nat) : Int) = 1 := rfl
  rw [e1] at h1
  rw [h1, Nat.and_one_is_mod, Nat.testBit_eq_decide_div_mod_eq]
  rcases Nat.mod_two_eq_zero_or_one (st / 2 ^ k) with h | h <;> simp [h]
theorem bit_or {st k : Nat} (hs : st < 4294967296) (hk : k < 32) : bits .or .u32 (st : Int) (2 ^ k) = ((st ||| 2 ^ k : Nat) : Int) := by
  have e : ((2 : Int) ^ k) = ((2 ^ k : Nat) : Int) := by simp
  rw [e]
  exact u32_or_nat st (2 ^ k) hs (Nat.lt_of_lt_of_le (Nat.pow_lt_pow_right (by decide) hk) (by decide))
theorem shl_one {k : Nat} (hk : k < 32) : IntKind.u32.wrap (1 * 2 ^ k) = 2 ^ k := by
  have h : (2 : Nat) ^ k < 4294967296 := Nat.lt_of_lt_of_le (Nat.pow_lt_pow_right (by decide) hk) (by decide)
  have e : ((2 : Int) ^ k) = ((2 ^ k : Nat) : Int) := by simp
  rw [Int.one_mul, e, IntKind.wrap_u32']
  generalize (2 : Nat) ^ k = x at h
  omega
end Go.Proofs.Ytcbonbeogdgogaa.Li
