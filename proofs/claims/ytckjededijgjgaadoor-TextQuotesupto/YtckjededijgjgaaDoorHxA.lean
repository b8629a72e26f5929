import Derived.Lib.Strings
namespace Go.Proofs.YtckjededijgjgaaDoor.Hx
set_option linter.unusedVariables false

/-- a digit's letter -/
def hexD (d : Nat) : Nat := if d < 10 then 48 + d else 87 + d
theorem hexD_lt (d : Nat) (h : d < 16) : hexD d < 256 := by unfold hexD; split <;> omega
/-- the hexadecimal numeral, as numbers: the fuel is the number of digits -/
def hexF : Nat → Nat → List UInt8
  | 0, _ => []
  | f + 1, n => if n < 16 then [UInt8.ofNat (hexD n)] else hexF f (n / 16) ++ [UInt8.ofNat (hexD (n % 16))]
def hexL (n : Nat) : List UInt8 := hexF (n + 1) n

theorem hexF_more (f : Nat) : ∀ n, n < f → hexF f n = hexF (f + 1) n := by
  induction f with
  | zero => intro n h; omega
  | succ f ih =>
    intro n h
    rw [hexF, hexF]
    split
    · rfl
    · rw [ih (n / 16) (by omega)]
theorem hexF_eq (n : Nat) : ∀ f, n < f → hexF f n = hexL n := by
  intro f h
  obtain ⟨d, rfl⟩ : ∃ d, f = n + 1 + d := ⟨f - (n + 1), by omega⟩
  clear h
  induction d with
  | zero => rfl
  | succ d ih => rw [← ih, ← Nat.add_assoc, ← hexF_more (n + 1 + d) n (by omega)]
theorem hexL_small {n : Nat} (h : n < 16) : hexL n = [UInt8.ofNat (hexD n)] := by
  unfold hexL
  rw [hexF, if_pos h]
theorem hexL_big {n : Nat} (h : ¬ n < 16) : hexL n = hexL (n / 16) ++ [UInt8.ofNat (hexD (n % 16))] := by
  have e : hexL n = hexF n (n / 16) ++ [UInt8.ofNat (hexD (n % 16))] := by
    unfold hexL
    rw [hexF, if_neg h]
  rw [e, hexF_eq (n / 16) n (by omega)]
theorem hexL_len (k : Nat) : ∀ n, n < 16 ^ (k + 1) → 1 ≤ (hexL n).length ∧ (hexL n).length ≤ k + 1 := by
  induction k with
  | zero =>
    intro n h
    rw [hexL_small (by simpa using h)]
    simp
  | succ k ih =>
    intro n h
    by_cases h1 : n < 16
    · rw [hexL_small h1]; simp
    · rw [hexL_big h1, List.length_append]
      have := ih (n / 16) (by rw [Nat.pow_succ] at h; exact Nat.div_lt_of_lt_mul (by rw [Nat.mul_comm]; exact h))
      simp
      omega
theorem hexL_len16 {n : Nat} (h : n < 18446744073709551616) : 1 ≤ (hexL n).length ∧ (hexL n).length ≤ 16 := hexL_len 15 n (by simpa using h)
/-- a number below 16 and its letter -/
theorem hexD_u8 (d : Nat) (h : d < 16) : ((UInt8.ofNat (hexD d)).toNat : Int) = (hexD d : Int) := by
  have := hexD_lt d h
  simp
  omega
end Go.Proofs.YtckjededijgjgaaDoor.Hx
