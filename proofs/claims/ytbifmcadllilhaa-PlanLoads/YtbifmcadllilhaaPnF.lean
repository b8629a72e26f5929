import Derived.Test.YtbifmcadllilhaaPnA
namespace Go.Proofs.Ytbifmcadllilhaa.Pn
open Go.RowKit Ieee
set_option linter.unusedVariables false
theorem cut0 (n : Nat) : Toward.even.cut false n 0 = n := by
  unfold Toward.cut
  simp [Nat.mod_one]
theorem rung_of (m : Nat) (h0 : 0 < m) (h1 : m < 2 ^ 41) : ∃ r, double.nearest false m 0 = double.word false r ∧ 2 ^ 52 ≤ r ∧ r < 2047 * 2 ^ 52 := by
  have hl : m.log2 < 41 := (Nat.log2_lt (by omega)).2 h1
  have hm := Nat.lt_log2_self (n := m)
  have e1 : max ((0 : Int) + (m.log2 : Int) - (double.fractionBits : Int)) double.leastPlace = (m.log2 : Int) - 52 := by
    have : double.leastPlace = -1074 := rfl
    have h2 : double.fractionBits = 52 := rfl
    rw [this, h2]
    omega
  have e2 : ((m.log2 : Int) - 52 - 0).toNat = 0 := by omega
  have e3 : ((0 : Int) - ((m.log2 : Int) - 52)).toNat = 52 - m.log2 := by omega
  have e4 : ((m.log2 : Int) - 52 - double.leastPlace).toNat = 1022 + m.log2 := by
    have : double.leastPlace = -1074 := rfl
    rw [this]
    omega
  have hb : double.binade = 2 ^ 52 := rfl
  have hi : double.infRung = 2047 * 2 ^ 52 := rfl
  have hk : m <<< (52 - m.log2) < 2 ^ 53 := by
    rw [Nat.shiftLeft_eq]
    have : m * 2 ^ (52 - m.log2) < 2 ^ (m.log2 + 1) * 2 ^ (52 - m.log2) := Nat.mul_lt_mul_of_pos_right hm (Nat.pow_pos (by decide))
    rw [← Nat.pow_add] at this
    have e : m.log2 + 1 + (52 - m.log2) = 53 := by omega
    rw [e] at this
    exact this
  generalize hK : m <<< (52 - m.log2) = K at hk
  refine ⟨(1022 + m.log2) * 2 ^ 52 + K, ?_, ?_, ?_⟩
  · unfold Format.nearest
    rw [if_neg (by omega)]
    simp only [e1, e2, e3, e4, hb, hi, cut0, hK]
    congr 1
    rw [Nat.min_eq_left]
    omega
  · omega
  · omega
theorem read_word (neg : Bool) (r : Nat) (h : r ≤ 2047 * 2 ^ 52) : (double.read (double.word neg r)).isNaN = false := by
  have hs : double.signWeight = 2 ^ 63 := rfl
  have hb : double.binade = 2 ^ 52 := rfl
  have hi : double.infRung = 2047 * 2 ^ 52 := rfl
  have hr : double.word neg r % double.signWeight = r := by
    unfold Format.word
    rw [hs]
    cases neg <;> simp <;> omega
  unfold Format.read
  simp only [hr, hb, hi]
  split
  · rfl
  · split
    · rfl
    · split
      · rfl
      · omega
theorem read_num (r : Nat) (h : r < 2047 * 2 ^ 52) : ∃ s m p, double.read (double.word false r) = .number s m p ∧ (2 ^ 52 ≤ r → 0 < m) := by
  have hs : double.signWeight = 2 ^ 63 := rfl
  have hb : double.binade = 2 ^ 52 := rfl
  have hi : double.infRung = 2047 * 2 ^ 52 := rfl
  have hr : double.word false r % double.signWeight = r := by
    unfold Format.word
    rw [hs]
    simp
    omega
  unfold Format.read
  simp only [hr, hb, hi]
  split
  · exact ⟨_, _, _, rfl, fun h => by omega⟩
  · exact ⟨_, _, _, rfl, fun _ => by omega⟩
theorem order_self {d : Datum} (h : d.isNaN = false) : d.order d = some .eq := by
  cases d with
  | number s m p => simp [Datum.order, compare, compareOfLessAndEq]
  | infinity s => simp [Datum.order, compare, compareOfLessAndEq]
  | nan s t => cases h
theorem write_ok (s : Bool) (m : Nat) (p : Int) : (double.read (double.write (.number s m p))).isNaN = false := by
  show (double.read (double.nearest s m p)).isNaN = false
  unfold Format.nearest
  split
  · exact read_word _ 0 (by omega)
  · exact read_word _ _ (Nat.min_le_right _ double.infRung)
theorem of_int (a : Int) (h : 0 ≤ a) (h1 : a < 2 ^ 41) : ∃ r, floatOfInt .f64 a = double.word false r ∧ r < 2047 * 2 ^ 52 ∧ (0 < a → 2 ^ 52 ≤ r) := by
  have e : floatOfInt .f64 a = double.nearest false a.natAbs 0 := by
    show double.write (.number (decide (a < 0)) a.natAbs 0) = _
    have : decide (a < 0) = false := by simpa using h
    rw [this]
    rfl
  rw [e]
  by_cases h0 : a = 0
  · subst h0
    exact ⟨0, rfl, by omega, fun h => by omega⟩
  · obtain ⟨r, h2, h3, h4⟩ := rung_of a.natAbs (by omega) (by omega)
    exact ⟨r, h2, h4, fun _ => h3⟩
/-- a quotient of whole numbers is a number -/
theorem quo_ok (a b : Int) (ha : 0 ≤ a) (ha1 : a < 2 ^ 41) (hb : 0 < b) (hb1 : b < 2 ^ 41) : ∃ r, floatBits .quo .f64 (floatOfInt .f64 a) (floatOfInt .f64 b) = some r ∧ FloatKind.f64.format.order r r = some .eq := by
  obtain ⟨ra, ea, la, _⟩ := of_int a ha ha1
  obtain ⟨rb, eb, lb, gb⟩ := of_int b (by omega) hb1
  obtain ⟨s, m, p, e1, _⟩ := read_num ra la
  obtain ⟨t, n, q, e2, hn⟩ := read_num rb lb
  have hn0 : n ≠ 0 := by have := hn (gb hb); omega
  obtain ⟨s', m', p', e3⟩ : ∃ s' m' p', (Datum.number s m p).quotient 54 (.number t n q) = some (.number s' m' p') := by
    simp only [Datum.quotient, if_neg hn0]
    exact ⟨_, _, _, rfl⟩
  refine ⟨double.write (.number s' m' p'), ?_, order_self (write_ok _ _ _)⟩
  show double.div _ _ = some _
  unfold Format.div
  rw [ea, eb, e1, e2]
  show Option.map double.write ((Datum.number s m p).quotient 54 (.number t n q)) = _
  rw [e3]
  rfl
end Go.Proofs.Ytbifmcadllilhaa.Pn
