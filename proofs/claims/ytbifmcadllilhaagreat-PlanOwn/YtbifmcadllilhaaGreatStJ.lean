import Derived.Test.YtbifmcadllilhaaGreatStF
import Derived.Test.YtbifmcadllilhaaGreatPnC
import Derived.Test.YtbifmcadllilhaaGreatPwB
namespace Go.Proofs.YtbifmcadllilhaaGreat.Pn
open Go.RowKit Ieee
set_option linter.unusedVariables false
set_option linter.unusedSimpArgs false
/-- how the quotient of two whole numbers is rounded -/
structure Qn (a b L K : Nat) : Prop where
  l : L ≤ 41
  lo : b * 2 ^ L ≤ a
  hi : a < b * 2 ^ (L + 1)
  k1 : 2 * (K * b) ≤ 2 * (a * 2 ^ (52 - L)) + b
  k2 : 2 * (a * 2 ^ (52 - L)) ≤ 2 * (K * b) + b
  t1 : 2 * (K * b) = 2 * (a * 2 ^ (52 - L)) + b → K % 2 = 0
  t2 : 2 * (a * 2 ^ (52 - L)) = 2 * (K * b) + b → K % 2 = 0
theorem pow_lt_pow_iff' {i j : Nat} (h : 2 ^ i < 2 ^ j) : i < j := (Nat.pow_lt_pow_iff_right (by decide)).1 h
/-- out of the scaled form -/
theorem unscale {a b X n d D K P : Nat} (hP : 0 < P) (hb : 0 < b) (e : X * P = 2 * D * b) (h1 : 2 * K * P ≤ 4 * D + P) (h2 : 4 * D ≤ 2 * K * P + P) (h3 : 2 * K * P = 4 * D + P → K % 2 = 0) (h4 : 4 * D = 2 * K * P + P → K % 2 = 0) :
    2 * (K * b) ≤ 2 * X + b ∧ 2 * X ≤ 2 * (K * b) + b ∧ (2 * (K * b) = 2 * X + b → K % 2 = 0) ∧ (2 * X = 2 * (K * b) + b → K % 2 = 0) := by
  have e1 : (2 * (K * b)) * P = (2 * K * P) * b := by rw [← Nat.mul_assoc, Nat.mul_right_comm]
  have e2 : (2 * X + b) * P = (4 * D + P) * b := by
    rw [Nat.add_mul, Nat.mul_assoc 2 X P, e, Nat.add_mul]
    congr 1
    · rw [← Nat.mul_assoc, ← Nat.mul_assoc]
    · exact Nat.mul_comm _ _
  have e3 : (2 * X) * P = (4 * D) * b := by rw [Nat.mul_assoc 2 X P, e, ← Nat.mul_assoc, ← Nat.mul_assoc]
  have e4 : (2 * (K * b) + b) * P = (2 * K * P + P) * b := by rw [Nat.add_mul, e1, Nat.add_mul, Nat.mul_comm b P]
  refine ⟨?_, ?_, fun h => h3 ?_, fun h => h4 ?_⟩
  · exact Nat.le_of_mul_le_mul_right (by rw [e1, e2]; exact Nat.mul_le_mul_right b h1) hP
  · exact Nat.le_of_mul_le_mul_right (by rw [e3, e4]; exact Nat.mul_le_mul_right b h2) hP
  · exact Nat.eq_of_mul_eq_mul_right hb (by rw [← e1, ← e2, h])
  · exact Nat.eq_of_mul_eq_mul_right hb (by rw [← e3, ← e4, h])
theorem quo_near (a b : Nat) (hb : 0 < b) (hab : b ≤ a) (ha : a < 2 ^ 41) : ∃ L K, Qn a b L K ∧ double.div (double.nearest false a 0) (double.nearest false b 0) = some ((L + 1022) * 2 ^ 52 + K) := by
  have ra := read_int a (by omega) ha
  have rb := read_int b hb (by omega)
  have la41 : a.log2 < 41 := (Nat.log2_lt (by omega)).2 ha
  have lb41 : b.log2 < 41 := (Nat.log2_lt (by omega)).2 (by omega)
  have a1 := Nat.log2_self_le (n := a) (by omega)
  have a2 := Nat.lt_log2_self (n := a)
  have b1 := Nat.log2_self_le (n := b) (by omega)
  have b2 := Nat.lt_log2_self (n := b)
  have lba : b.log2 ≤ a.log2 := by
    have : 2 ^ b.log2 < 2 ^ (a.log2 + 1) := by omega
    have := pow_lt_pow_iff' this
    omega
  generalize hla : a.log2 = la at *
  generalize hlb : b.log2 = lb at *
  have two : ∀ x lx : Nat, lx < 41 → 2 ^ lx ≤ x → x < 2 ^ (lx + 1) → 2 ^ 52 ≤ x * 2 ^ (52 - lx) ∧ x * 2 ^ (52 - lx) < 2 ^ 53 := fun x lx h h1 h2 => by
    constructor
    · have : 2 ^ lx * 2 ^ (52 - lx) ≤ x * 2 ^ (52 - lx) := Nat.mul_le_mul_right _ h1
      rw [← Nat.pow_add, show lx + (52 - lx) = 52 by omega] at this
      exact this
    · have : x * 2 ^ (52 - lx) < 2 ^ (lx + 1) * 2 ^ (52 - lx) := Nat.mul_lt_mul_of_pos_right h2 (Nat.pow_pos (by decide))
      rw [← Nat.pow_add, show lx + 1 + (52 - lx) = 53 by omega] at this
      exact this
  obtain ⟨m1, m2⟩ := two a la la41 a1 a2
  obtain ⟨n1, n2⟩ := two b lb lb41 b1 b2
  obtain ⟨m, hm⟩ : ∃ m, a * 2 ^ (52 - la) = m := ⟨_, rfl⟩
  obtain ⟨n, hn⟩ : ∃ n, b * 2 ^ (52 - lb) = n := ⟨_, rfl⟩
  rw [hm] at ra m1 m2
  rw [hn] at rb n1 n2
  have lm : m.log2 = 52 := log_of m1 m2
  have ln : n.log2 = 52 := log_of n1 n2
  obtain ⟨q, hq⟩ : ∃ q, m * 2 ^ 54 / n = q := ⟨_, rfl⟩
  obtain ⟨r, hr⟩ : ∃ r, m * 2 ^ 54 % n = r := ⟨_, rfl⟩
  have hD : m * 2 ^ 54 = n * q + r := by rw [← hq, ← hr]; exact (Nat.div_add_mod _ _).symm
  have hrn : r < n := by rw [← hr]; exact Nat.mod_lt _ (by omega)
  obtain ⟨s, hs⟩ : ∃ s, (r != 0).toNat = s := ⟨_, rfl⟩
  have s1 : s ≤ 1 := by rw [← hs]; cases (r != 0) <;> simp
  have ediv : double.div (double.nearest false a 0) (double.nearest false b 0) = some (double.nearest false (2 * q + s) ((la : Int) - (lb : Int) - 55)) := by
    show Option.map double.write ((double.read (double.nearest false a 0)).quotient 54 (double.read (double.nearest false b 0))) = _
    rw [ra, rb]
    simp only [Datum.quotient]
    rw [if_neg (by omega), lm, ln]
    show some (double.nearest _ _ _) = _
    rw [Nat.shiftLeft_eq, show 54 + 52 - 52 = 54 from rfl, hq, hr, hs]
    have e5 : (la : Int) - 52 - ((lb : Int) - 52) - ((54 : Nat) : Int) - 1 = (la : Int) - (lb : Int) - 55 := by omega
    rw [e5, Bool.xor_self]
  have q1 : 2 ^ 53 ≤ q := by
    rw [← hq, Nat.le_div_iff_mul_le (by omega)]
    have : 2 ^ 53 * n ≤ 2 ^ 53 * 2 ^ 53 := Nat.mul_le_mul_left _ (by omega)
    have h2 : 2 ^ 52 * 2 ^ 54 ≤ m * 2 ^ 54 := Nat.mul_le_mul_right _ m1
    exact Nat.le_trans this (Nat.le_trans (Nat.le_of_eq ((Nat.pow_add 2 53 53).symm.trans (Nat.pow_add 2 52 54))) h2)
  have q2 : q < 2 ^ 55 := by
    rw [← hq, Nat.div_lt_iff_lt_mul (by omega)]
    have : m * 2 ^ 54 < 2 ^ 53 * 2 ^ 54 := Nat.mul_lt_mul_of_pos_right m2 (by decide)
    have h2 : 2 ^ 55 * 2 ^ 52 ≤ 2 ^ 55 * n := Nat.mul_le_mul_left _ n1
    exact Nat.lt_of_lt_of_le this (Nat.le_trans (Nat.le_of_eq ((Nat.pow_add 2 53 54).symm.trans (Nat.pow_add 2 55 52))) h2)
  -- of both ways
  have both : ∀ d L : Nat, 2 ≤ d → d ≤ 3 → la + d = L + lb + 3 → (2 * q + s).log2 = d + 52 → b * 2 ^ L ≤ a → a < b * 2 ^ (L + 1) → L ≤ 41 → ∃ L K, Qn a b L K ∧ double.div (double.nearest false a 0) (double.nearest false b 0) = some ((L + 1022) * 2 ^ 52 + K) := fun d L d2 d3 hL hlog hlo hhi hL41 => by
    obtain ⟨K, hK⟩ : ∃ K, Toward.even.cut false (2 * q + s) d = K := ⟨_, rfl⟩
    have cn := cut_near (2 * q + s) d (by omega)
    rw [hK] at cn
    obtain ⟨c1, c2, c3, c4⟩ := cn
    obtain ⟨g1, g2, g3, g4⟩ := sticky (D := m * 2 ^ 54) (n := n) (d := d) (K := K) (by omega) d2 hD hrn hs.symm c1 c2 c3 c4
    have ePX : (a * 2 ^ (52 - L)) * (n * 2 ^ d) = 2 * (m * 2 ^ 54) * b := by
      rw [← hm, ← hn]
      have e1 : (a * 2 ^ (52 - L)) * (b * 2 ^ (52 - lb) * 2 ^ d) = a * b * (2 ^ (52 - L) * 2 ^ (52 - lb) * 2 ^ d) := by
        simp only [Nat.mul_assoc, Nat.mul_left_comm, Nat.mul_comm]
      have e2 : 2 * (a * 2 ^ (52 - la) * 2 ^ 54) * b = a * b * (2 ^ 1 * 2 ^ (52 - la) * 2 ^ 54) := by
        generalize 2 ^ 54 = t
        simp only [Nat.pow_one, Nat.mul_assoc, Nat.mul_left_comm, Nat.mul_comm]
      rw [e1, e2, ← Nat.pow_add, ← Nat.pow_add, ← Nat.pow_add, ← Nat.pow_add]
      congr 2
      omega
    obtain ⟨u1, u2, u3, u4⟩ := unscale (a := a) (n := n) (d := d) (P := n * 2 ^ d) (Nat.mul_pos (by omega) (Nat.pow_pos (by decide))) hb ePX g1 g2 g3 g4
    refine ⟨L, K, ⟨hL41, hlo, hhi, u1, u2, u3, u4⟩, ?_⟩
    rw [ediv]
    have hlp : double.leastPlace = -1074 := rfl
    have hfb : double.fractionBits = 52 := rfl
    have hbi : double.binade = 2 ^ 52 := rfl
    have hi : double.infRung = 2047 * 2 ^ 52 := rfl
    have e1 : max ((la : Int) - (lb : Int) - 55 + ((2 * q + s).log2 : Int) - (double.fractionBits : Int)) double.leastPlace = (L : Int) - 52 := by
      rw [hlp, hfb, hlog]; omega
    have e2 : ((la : Int) - (lb : Int) - 55 - ((L : Int) - 52)).toNat = 0 := by omega
    have e3 : ((L : Int) - 52 - ((la : Int) - (lb : Int) - 55)).toNat = d := by omega
    have e4 : ((L : Int) - 52 - double.leastPlace).toNat = L + 1022 := by rw [hlp]; omega
    have kb : K ≤ 2 ^ 53 := by
      have hx : a * 2 ^ (52 - L) < b * 2 ^ 53 := by
        have : a * 2 ^ (52 - L) < b * 2 ^ (L + 1) * 2 ^ (52 - L) := Nat.mul_lt_mul_of_pos_right hhi (Nat.pow_pos (by decide))
        rw [Nat.mul_assoc, ← Nat.pow_add, show L + 1 + (52 - L) = 53 by omega] at this
        exact this
      rcases Nat.lt_or_ge (2 ^ 53) K with c | c
      · have : (2 ^ 53 + 1) * b ≤ K * b := Nat.mul_le_mul_right _ c
        rw [Nat.add_mul] at this
        omega
      · exact c
    congr 1
    unfold Format.nearest
    rw [if_neg (by omega)]
    simp only [e1, e2, e3, e4, hbi, hi, Nat.shiftLeft_zero, hK]
    rw [Nat.min_eq_left (by omega)]
    simp [Format.word]
  rcases Nat.lt_or_ge m n with c | c
  · -- the next lower power
    have hlt : lb < la := by
      rcases Nat.lt_or_ge lb la with h | h
      · exact h
      · have e : la = lb := by omega
        subst e
        have := Nat.mul_le_mul_right (2 ^ (52 - la)) hab
        omega
    have q3 : q < 2 ^ 54 := by
      rw [← hq, Nat.div_lt_iff_lt_mul (by omega)]
      rw [Nat.mul_comm (2 ^ 54) n]
      exact Nat.mul_lt_mul_of_pos_right c (by decide)
    refine both 2 (la - lb - 1) (by omega) (by omega) (by omega) (log_of (by omega) (by omega)) ?_ ?_ (by omega)
    · have : b * 2 ^ (la - lb - 1) < 2 ^ (lb + 1) * 2 ^ (la - lb - 1) := Nat.mul_lt_mul_of_pos_right b2 (Nat.pow_pos (by decide))
      rw [← Nat.pow_add, show lb + 1 + (la - lb - 1) = la by omega] at this
      omega
    · have h1 : a * 2 ^ (52 - la) < b * 2 ^ (la - lb) * 2 ^ (52 - la) := by
        rw [Nat.mul_assoc, ← Nat.pow_add, show la - lb + (52 - la) = 52 - lb by omega, hm, hn]
        exact c
      have := Nat.lt_of_mul_lt_mul_right h1
      rw [show la - lb - 1 + 1 = la - lb by omega]
      exact this
  · have q3 : 2 ^ 54 ≤ q := by
      rw [← hq, Nat.le_div_iff_mul_le (by omega)]
      rw [Nat.mul_comm m (2 ^ 54)]
      exact Nat.mul_le_mul_left _ c
    refine both 3 (la - lb) (by omega) (by omega) (by omega) (log_of (by omega) (by omega)) ?_ ?_ (by omega)
    · have h1 : b * 2 ^ (la - lb) * 2 ^ (52 - la) ≤ a * 2 ^ (52 - la) := by
        rw [Nat.mul_assoc, ← Nat.pow_add, show la - lb + (52 - la) = 52 - lb by omega, hm, hn]
        exact c
      exact Nat.le_of_mul_le_mul_right h1 (Nat.pow_pos (by decide))
    · have : 2 ^ lb * 2 ^ (la - lb + 1) ≤ b * 2 ^ (la - lb + 1) := Nat.mul_le_mul_right _ b1
      rw [← Nat.pow_add, show lb + (la - lb + 1) = la + 1 by omega] at this
      omega
theorem Qn.kb {a b L K : Nat} (h : Qn a b L K) (hb : 0 < b) : 2 ^ 52 ≤ K ∧ K ≤ 2 ^ 53 := by
  have hl := h.l
  have h1 := h.k1
  have h2 := h.k2
  have hx : a * 2 ^ (52 - L) < b * 2 ^ 53 := by
    have : a * 2 ^ (52 - L) < b * 2 ^ (L + 1) * 2 ^ (52 - L) := Nat.mul_lt_mul_of_pos_right h.hi (Nat.pow_pos (by decide))
    rw [Nat.mul_assoc, ← Nat.pow_add, show L + 1 + (52 - L) = 53 by omega] at this
    exact this
  have hy : b * 2 ^ 52 ≤ a * 2 ^ (52 - L) := by
    have : b * 2 ^ L * 2 ^ (52 - L) ≤ a * 2 ^ (52 - L) := Nat.mul_le_mul_right _ h.lo
    rw [Nat.mul_assoc, ← Nat.pow_add, show L + (52 - L) = 52 by omega] at this
    exact this
  constructor
  · rcases Nat.lt_or_ge K (2 ^ 52) with c | c
    · have : (K + 1) * b ≤ 2 ^ 52 * b := Nat.mul_le_mul_right _ c
      rw [Nat.add_mul] at this
      omega
    · exact c
  · rcases Nat.lt_or_ge (2 ^ 53) K with c | c
    · have : (2 ^ 53 + 1) * b ≤ K * b := Nat.mul_le_mul_right _ c
      rw [Nat.add_mul] at this
      omega
    · exact c
theorem Qn.mono {a a' b L L' K K' : Nat} (h : Qn a b L K) (h' : Qn a' b L' K') (hb : 0 < b) (ha : a' ≤ a) : (L' + 1022) * 2 ^ 52 + K' ≤ (L + 1022) * 2 ^ 52 + K := by
  have k := h.kb hb
  have k' := h'.kb hb
  have hL : L' ≤ L := by
    have h1 : b * 2 ^ L' < b * 2 ^ (L + 1) := Nat.lt_of_le_of_lt (Nat.le_trans h'.lo ha) h.hi
    have := pow_lt_pow_iff' (Nat.lt_of_mul_lt_mul_left h1)
    omega
  rcases Nat.lt_or_ge L' L with c | c
  · omega
  · obtain rfl : L' = L := by omega
    have hX : a' * 2 ^ (52 - L') ≤ a * 2 ^ (52 - L') := Nat.mul_le_mul_right _ ha
    rcases Nat.lt_or_ge K K' with d | d
    · have h1 := h'.k1
      have h2 := h.k2
      have h3 : (K + 1) * b ≤ K' * b := Nat.mul_le_mul_right _ d
      have h4 : (K + 1) * b = K * b + b := by rw [Nat.add_mul, Nat.one_mul]
      rw [h4] at h3
      have t1 := h'.t1 (by omega)
      have t2 := h.t2 (by omega)
      have e : K' * b = (K + 1) * b := by omega
      have := Nat.eq_of_mul_eq_mul_right hb e
      omega
    · omega
/-- words of numbers stand as their rungs do -/
theorem order_word {x y : Nat} (h : x ≤ y) (hx : 2 ^ 52 ≤ x) (hy : y < 2047 * 2 ^ 52) : double.order x y = some .lt ∨ double.order x y = some .eq := by
  have hb : double.binade = 2 ^ 52 := rfl
  have hi : double.infRung = 2047 * 2 ^ 52 := rfl
  have hs : double.signWeight = 2 ^ 63 := rfl
  have rd : ∀ z, 2 ^ 52 ≤ z → z < 2047 * 2 ^ 52 → double.read z = .number false (2 ^ 52 + z % 2 ^ 52) (double.leastPlace + (z / 2 ^ 52 - 1 : Nat)) := fun z h1 h2 => by
    unfold Format.read
    simp only [hb, hi, hs]
    rw [Nat.mod_eq_of_lt (show z < 2 ^ 63 by omega), if_neg (by omega), if_pos h2, Nat.div_eq_of_lt (show z < 2 ^ 63 by omega)]
    rfl
  unfold Format.order
  rw [rd x hx (by omega), rd y (by omega) hy]
  simp only [Datum.order]
  obtain ⟨p, hp⟩ : ∃ p, x / 2 ^ 52 - 1 = p := ⟨_, rfl⟩
  obtain ⟨q, hq⟩ : ∃ q, y / 2 ^ 52 - 1 = q := ⟨_, rfl⟩
  have hpq : p ≤ q := by omega
  rw [hp, hq]
  have e1 : (double.leastPlace + (p : Int) - min (double.leastPlace + (p : Int)) (double.leastPlace + (q : Int))).toNat = 0 := by omega
  have e2 : (double.leastPlace + (q : Int) - min (double.leastPlace + (p : Int)) (double.leastPlace + (q : Int))).toNat = q - p := by omega
  rw [e1, e2]
  have hle : (2 ^ 52 + x % 2 ^ 52) ≤ (2 ^ 52 + y % 2 ^ 52) * 2 ^ (q - p) := by
    rcases Nat.lt_or_ge p q with c | c
    · have h1 : 2 ^ 1 ≤ 2 ^ (q - p) := Nat.pow_le_pow_right (by decide) (by omega)
      have h2 : (2 ^ 52 + y % 2 ^ 52) * 2 ^ 1 ≤ (2 ^ 52 + y % 2 ^ 52) * 2 ^ (q - p) := Nat.mul_le_mul_left _ h1
      omega
    · rw [show q - p = 0 by omega, Nat.pow_zero, Nat.mul_one]
      omega
  show some (compare (signed false _ _) (signed false _ _)) = _ ∨ _
  simp only [signed, Nat.shiftLeft_eq, Nat.pow_zero, Nat.mul_one]
  have hle' : ((2 ^ 52 + x % 2 ^ 52 : Nat) : Int) ≤ (((2 ^ 52 + y % 2 ^ 52) * 2 ^ (q - p) : Nat) : Int) := by exact_mod_cast hle
  generalize ((2 ^ 52 + x % 2 ^ 52 : Nat) : Int) = A at hle' ⊢
  generalize (((2 ^ 52 + y % 2 ^ 52) * 2 ^ (q - p) : Nat) : Int) = B at hle' ⊢
  rcases Int.lt_or_eq_of_le hle' with c | c
  · exact .inl (by simp [compare, compareOfLessAndEq, c])
  · exact .inr (by simp [compare, compareOfLessAndEq, c])
end Go.Proofs.YtbifmcadllilhaaGreat.Pn
namespace Go.Proofs.YtbifmcadllilhaaGreat.Pn
open Go.RowKit Ieee
set_option linter.unusedVariables false
set_option linter.unusedSimpArgs false
theorem order_two {x y : Nat} (hx : 2 ^ 52 ≤ x) (hx1 : x < 2047 * 2 ^ 52) (hy : 2 ^ 52 ≤ y) (hy1 : y < 2047 * 2 ^ 52) (h : y ≤ x) : double.order x y = some .gt ∨ double.order x y = some .eq := by
  have hb : double.binade = 2 ^ 52 := rfl
  have hi : double.infRung = 2047 * 2 ^ 52 := rfl
  have hs : double.signWeight = 2 ^ 63 := rfl
  have rd : ∀ z, 2 ^ 52 ≤ z → z < 2047 * 2 ^ 52 → double.read z = .number false (2 ^ 52 + z % 2 ^ 52) (double.leastPlace + (z / 2 ^ 52 - 1 : Nat)) := fun z h1 h2 => by
    unfold Format.read
    simp only [hb, hi, hs]
    rw [Nat.mod_eq_of_lt (show z < 2 ^ 63 by omega), if_neg (by omega), if_pos h2, Nat.div_eq_of_lt (show z < 2 ^ 63 by omega)]
    rfl
  unfold Format.order
  rw [rd x hx hx1, rd y hy hy1]
  simp only [Datum.order]
  obtain ⟨p, hp⟩ : ∃ p, y / 2 ^ 52 - 1 = p := ⟨_, rfl⟩
  obtain ⟨q, hq⟩ : ∃ q, x / 2 ^ 52 - 1 = q := ⟨_, rfl⟩
  have hpq : p ≤ q := by omega
  rw [hp, hq]
  have e1 : (double.leastPlace + (p : Int) - min (double.leastPlace + (q : Int)) (double.leastPlace + (p : Int))).toNat = 0 := by omega
  have e2 : (double.leastPlace + (q : Int) - min (double.leastPlace + (q : Int)) (double.leastPlace + (p : Int))).toNat = q - p := by omega
  rw [e1, e2]
  have hle : (2 ^ 52 + y % 2 ^ 52) ≤ (2 ^ 52 + x % 2 ^ 52) * 2 ^ (q - p) := by
    rcases Nat.lt_or_ge p q with c | c
    · have h1 : 2 ^ 1 ≤ 2 ^ (q - p) := Nat.pow_le_pow_right (by decide) (by omega)
      have h2 : (2 ^ 52 + x % 2 ^ 52) * 2 ^ 1 ≤ (2 ^ 52 + x % 2 ^ 52) * 2 ^ (q - p) := Nat.mul_le_mul_left _ h1
      omega
    · rw [show q - p = 0 by omega, Nat.pow_zero, Nat.mul_one]
      omega
  show some (compare (signed false _ _) (signed false _ _)) = _ ∨ _
  simp only [signed, Nat.shiftLeft_eq, Nat.pow_zero, Nat.mul_one]
  have hle' : ((2 ^ 52 + y % 2 ^ 52 : Nat) : Int) ≤ (((2 ^ 52 + x % 2 ^ 52) * 2 ^ (q - p) : Nat) : Int) := by exact_mod_cast hle
  generalize ((2 ^ 52 + y % 2 ^ 52 : Nat) : Int) = A at hle' ⊢
  generalize (((2 ^ 52 + x % 2 ^ 52) * 2 ^ (q - p) : Nat) : Int) = B at hle' ⊢
  rcases Int.lt_or_eq_of_le hle' with c | c
  · refine .inl ?_
    simp only [compare, compareOfLessAndEq, Bool.false_eq_true, if_false]
    rw [if_neg (by omega), if_neg (by omega)]
  · exact .inr (by simp [compare, compareOfLessAndEq, c])
/-- the word that Skew answers -/
def SkV (o : List Int) (r : Nat) : Prop := (o.sum = 0 ∧ r = 4607182418800017408) ∨ (0 < o.sum ∧ ∃ m L K, isMx o m ∧ Qn (m * (o.length : Int)).toNat o.sum.toNat L K ∧ r = (L + 1022) * 2 ^ 52 + K)
theorem sum_le_mx {m : Int} : ∀ {o : List Int}, (∀ x ∈ o, x ≤ m) → o.sum ≤ m * (o.length : Int)
  | [], _ => by simp
  | x :: o, h => by
    have ih := sum_le_mx (o := o) (fun y hy => h y (by simp [hy]))
    have := h x (by simp)
    rw [List.sum_cons, List.length_cons]
    have e : m * ((o.length + 1 : Nat) : Int) = m * (o.length : Int) + m := by rw [Int.natCast_add, Int.mul_add]; simp
    rw [e]
    omega
theorem skv_of {o : List Int} {m : Int} {r : Nat} (hm : MBL o) (hs : 0 < o.sum) (hx : isMx o m) (h : floatBits .quo .f64 (floatOfInt .f64 (m * (o.length : Int))) (floatOfInt .f64 o.sum) = some r) : SkV o r := by
  have hle := sum_le_mx hx.2
  have hb := hm.2.2 m hx.1
  have hl := hm.2.1
  have h1 := hm.1
  have hmn : 0 ≤ m * (o.length : Int) ∧ m * (o.length : Int) ≤ 17179869184 := by
    refine ⟨Int.mul_nonneg hb.1 (by omega), ?_⟩
    have h1 : m * (o.length : Int) ≤ 1073741824 * (o.length : Int) := Int.mul_le_mul_of_nonneg_right hb.2 (by omega)
    omega
  have fo : ∀ a : Int, 0 ≤ a → floatOfInt .f64 a = double.nearest false a.toNat 0 := fun a h => by
    show double.write (.number (decide (a < 0)) a.natAbs 0) = _
    have e1 : decide (a < 0) = false := by simpa using h
    have e2 : a.natAbs = a.toNat := by omega
    rw [e1, e2]
    rfl
  obtain ⟨A, hA⟩ : ∃ A, (m * (o.length : Int)).toNat = A := ⟨_, rfl⟩
  obtain ⟨B, hB⟩ : ∃ B, o.sum.toNat = B := ⟨_, rfl⟩
  obtain ⟨L, K, q, e⟩ := quo_near A B (by omega) (by omega) (by omega)
  rw [fo _ hmn.1, fo _ (by omega), hA, hB] at h
  have h2 : double.div (double.nearest false A 0) (double.nearest false B 0) = some r := h
  rw [e] at h2
  exact .inr ⟨hs, m, L, K, hx, by rw [hA, hB]; exact q, (Option.some.inj h2).symm⟩
theorem SkV.bd {o : List Int} {r : Nat} (h : SkV o r) : 4607182418800017408 ≤ r ∧ r < 2047 * 2 ^ 52 := by
  rcases h with ⟨_, rfl⟩ | ⟨hs, m, L, K, _, q, rfl⟩
  · omega
  · have k := q.kb (by omega)
    have := q.l
    omega
theorem SkV.mono {o o' : List Int} {r r' m m' : _} (h : SkV o r) (h' : SkV o' r') (hs : o'.sum = o.sum) (hl : o'.length = o.length) (hm : isMx o m) (hm' : isMx o' m') (hle : m' ≤ m) : r' ≤ r := by
  rcases h with ⟨a, rfl⟩ | ⟨a, x, L, K, hx, q, rfl⟩
  · rcases h' with ⟨_, rfl⟩ | ⟨b, _⟩
    · exact Nat.le_refl _
    · omega
  · rcases h' with ⟨b, rfl⟩ | ⟨b, x', L', K', hx', q', rfl⟩
    · omega
    · have e1 := hm.2 x hx.1
      have e2 := hx.2 m hm.1
      have e3 := hm'.2 x' hx'.1
      rw [hl, hs] at q'
      refine q.mono q' (by omega) ?_
      have : x' * (o.length : Int) ≤ x * (o.length : Int) := Int.mul_le_mul_of_nonneg_right (by omega) (by omega)
      omega
end Go.Proofs.YtbifmcadllilhaaGreat.Pn
namespace Go.Proofs.YtbifmcadllilhaaGreat.Pn
open Go.RowKit Ieee
set_option linter.unusedVariables false
set_option linter.unusedSimpArgs false
theorem isMx.unique {o : List Int} {a b : Int} (h : isMx o a) (k : isMx o b) : a = b := by
  have h1 := h.2 b k.1
  have h2 := k.2 a h.1
  omega
/-- what Skew answers -/
def SkR (o : List Int) (e : Ending) : Prop :=
  (¬ MBL o ∧ e = .returned (.tuple #[.float .f64 0, .int .i64 150])) ∨ (MBL o ∧ o.sum = 0 ∧ e = .returned (.tuple #[.float .f64 4607182418800017408, .int .i64 0])) ∨
  (MBL o ∧ 0 < o.sum ∧ ∃ m r, isMx o m ∧ floatBits .quo .f64 (floatOfInt .f64 (m * (o.length : Int))) (floatOfInt .f64 o.sum) = some r ∧ FloatKind.f64.format.order r r = some .eq ∧ e = .returned (.tuple #[.float .f64 r, .int .i64 0]))
set_option maxRecDepth 100000 in
set_option maxHeartbeats 1000000 in
theorem skew15 (w : World) (u : Value) (o : List Int) (h : Ns w u o) (hN : o.length ≤ 140737488351232) : Calls Tryz.prog 15 #[u] w fun e w' => SkR o e ∧ w' = w := by
  have MB := mayBe27 w u o h hN
  have TO := total28 w u o h
  have MX := max29 w u o h
  obtain ⟨a, cap, rfl, _, _⟩ := id h
  obtain ⟨N, eN⟩ : ∃ N, o.length = N := ⟨_, rfl⟩
  have HN := hide (And.intro h (And.intro eN (And.intro TO MX)))
  rw [eN] at MB ⊢
  clear h hN eN TO MX
  go_enter Tryz.func15, Tryz.ntmps15
  go_wp2_with fail
  refine MB.mono ?_; rintro e w1 ⟨⟨b1, rfl, hb1⟩, hw⟩
  obtain rfl := hw
  have HB := hide hb1
  clear MB hb1
  cases b1 with
  | false =>
    go_wp2
    go_ret2
    exact ⟨.inl ⟨fun q => by have := HB.out.2 q; simp at this, rfl⟩, rfl⟩
  | true =>
  have hm : MBL o := HB.out.1 (by simp)
  have T := HN.out.2.2.1 hm
  have M := HN.out.2.2.2 hm.1 hm.2.1
  rw [HN.out.2.1] at T M
  have HM := hide hm
  obtain ⟨S, eS⟩ : ∃ S, o.sum = S := ⟨_, rfl⟩
  have HS := hide eS
  rw [eS] at T
  clear hm eS
  go_wp2_with fail
  refine T.mono ?_; rintro e w2 ⟨rfl, hw⟩
  obtain rfl := hw
  clear T
  by_cases h0 : S = 0
  · have e0 : (S == 0) = true := by simpa using h0
    have H0 := hide h0
    clear h0 M
    go_wp2
    go_ret2
    exact ⟨.inr (.inl ⟨HM.out, by rw [HS.out]; exact H0.out, rfl⟩), rfl⟩
  have e0 : (S == 0) = false := by simpa using h0
  have H0 := hide h0
  clear h0
  go_wp2_with fail
  refine M.mono ?_; rintro e w3 ⟨⟨m, rfl, hm⟩, hw⟩
  obtain rfl := hw
  have hb := sum_bound HM.out.2.2
  rw [HS.out] at hb
  have hl := HM.out.2.1
  have hl1 := HM.out.1
  have hmb := HM.out.2.2 m hm.1
  have hn0 := H0.out
  rw [HN.out.2.1] at hl hl1 hb
  have hmn : 0 ≤ m * (N : Int) ∧ m * (N : Int) ≤ 17179869184 := by
    refine ⟨Int.mul_nonneg hmb.1 (by omega), ?_⟩
    have h1 : m * (N : Int) ≤ 1073741824 * (N : Int) := Int.mul_le_mul_of_nonneg_right hmb.2 (by omega)
    omega
  obtain ⟨r, hr, hrr⟩ := quo_ok (m * (N : Int)) S hmn.1 (by omega) (by omega) (by omega)
  have hq : ∀ W, (binOp .quo 47 (.float .f64 (floatOfInt .f64 (m * (N : Int)))) (.float .f64 (floatOfInt .f64 S))).run Tryz.prog W = .ok (.float .f64 r) W := fun W => run_float_arith W _ _ _ _ _ _ hr
  have ew : IntKind.i64.wrap (m * (N : Int)) = m * (N : Int) := by rw [IntKind.wrap_i64]; omega
  have ew2 : wrap64 (m * (N : Int)) = m * (N : Int) := by unfold wrap64; omega
  have HR := hide (And.intro hm (And.intro hr (And.intro hrr (by omega : 0 < S))))
  clear M hm hb hl hl1 hmb hn0 hmn hr hrr
  go_wp2
  go_ret2
  refine ⟨.inr (.inr ⟨HM.out, by rw [HS.out]; exact HR.out.2.2.2, m, r, HR.out.1, ?_, HR.out.2.2.1, rfl⟩), rfl⟩
  rw [HN.out.2.1, HS.out]
  exact HR.out.2.1
/-- what Skew answers of loads that may be -/
theorem SkR.val {o : List Int} {e : Ending} (h : SkR o e) (hm : MBL o) : ∃ r, e = .returned (.tuple #[.float .f64 r, .int .i64 0]) ∧ SkV o r := by
  rcases h with ⟨h, _⟩ | ⟨_, h0, e⟩ | ⟨_, hs, m, r, hx, hf, _, e⟩
  · exact absurd hm h
  · exact ⟨_, e, .inl ⟨h0, rfl⟩⟩
  · exact ⟨_, e, skv_of hm hs hx hf⟩
theorem run_lss_one {r : Nat} (h : 4607182418800017408 ≤ r ∧ r < 2047 * 2 ^ 52) (W : World) : (binOp .lss 47 (.float .f64 r) (.float .f64 4607182418800017408)).run Tryz.prog W = .ok (.bool false) W := by
  have ho := order_two (x := r) (y := 4607182418800017408) (by omega) h.2 (by omega) (by omega) h.1
  show (Op.floatCmp .lss .f64 r 4607182418800017408).run Tryz.prog W = _
  unfold Op.floatCmp
  have hf : FloatKind.f64.format = double := rfl
  rw [hf]
  rcases ho with ho | ho <;> rw [ho] <;> rfl
theorem run_geq_one {r : Nat} (h : 4607182418800017408 ≤ r ∧ r < 2047 * 2 ^ 52) (W : World) : (binOp .geq 47 (.float .f64 r) (.float .f64 4607182418800017408)).run Tryz.prog W = .ok (.bool true) W := by
  have ho := order_two (x := r) (y := 4607182418800017408) (by omega) h.2 (by omega) (by omega) h.1
  show (Op.floatCmp .geq .f64 r 4607182418800017408).run Tryz.prog W = _
  unfold Op.floatCmp
  have hf : FloatKind.f64.format = double := rfl
  rw [hf]
  rcases ho with ho | ho <;> rw [ho] <;> rfl
theorem run_leq_two {x y : Nat} (hx : 4607182418800017408 ≤ x) (hy : y < 2047 * 2 ^ 52) (h : x ≤ y) (W : World) : (binOp .leq 47 (.float .f64 x) (.float .f64 y)).run Tryz.prog W = .ok (.bool true) W := by
  have ho := order_word (x := x) (y := y) h (by omega) hy
  show (Op.floatCmp .leq .f64 x y).run Tryz.prog W = _
  unfold Op.floatCmp
  have hf : FloatKind.f64.format = double := rfl
  rw [hf]
  rcases ho with ho | ho <;> rw [ho] <;> rfl
end Go.Proofs.YtbifmcadllilhaaGreat.Pn
namespace Go.Proofs.YtbifmcadllilhaaGreat.Pn
open Go.RowKit
set_option linter.unusedVariables false
theorem sum_two {q : Int} : ∀ {o : List Int}, (∀ x ∈ o, x = q ∨ x = q + 1) → o.sum = q * (o.length : Int) + (o.countP (fun x => decide (x = q + 1)) : Int)
  | [], _ => by simp
  | x :: o, h => by
    have ih := sum_two (o := o) (fun y hy => h y (by simp [hy]))
    have e : q * ((o.length + 1 : Nat) : Int) = q * (o.length : Int) + q := by rw [Int.natCast_add, Int.mul_add]; simp
    rw [List.sum_cons, List.length_cons, List.countP_cons, e, ih]
    rcases h x (by simp) with c | c
    · rw [if_neg (by simp; omega)]; omega
    · rw [if_pos (by simp; omega)]; omega
theorem least_mem : ∀ {o : List Int}, 0 < o.length → ∃ q ∈ o, ∀ x ∈ o, q ≤ x
  | [x], _ => ⟨x, by simp, fun y hy => by simp at hy; omega⟩
  | x :: y :: o, _ => by
    obtain ⟨q, h1, h2⟩ := least_mem (o := y :: o) (by simp)
    by_cases c : x ≤ q
    · exact ⟨x, by simp, fun z hz => by
        rcases List.mem_cons.1 hz with e | e
        · omega
        · have := h2 z e; omega⟩
    · exact ⟨q, List.mem_cons_of_mem _ h1, fun z hz => by
        rcases List.mem_cons.1 hz with e | e
        · omega
        · exact h2 z e⟩
theorem countP_getD (o : List Int) (p : Int → Bool) : o.countP p = (List.range o.length).countP (fun a => p (o.getD a 0)) := by
  have e : o = (List.range o.length).map (fun a => o.getD a 0) := by
    apply List.ext_getElem?
    intro j
    rw [List.getElem?_map]
    by_cases h : j < o.length
    · rw [List.getElem?_range h, List.getElem?_eq_getElem h]
      simp [h]
    · rw [List.getElem?_eq_none (by omega), List.getElem?_eq_none (by simpa using h)]
      rfl
  conv => lhs; rw [e]
  rw [List.countP_map]
  rfl
/-- loads that are even are their own targets -/
theorem near_tgt {o : List Int} (h0 : 0 < o.length) (hn : ∀ x ∈ o, ∀ y ∈ o, x - y ≤ 1) {b : Nat} (hb : b < o.length) : tgt o b = o.getD b 0 := by
  obtain ⟨q, hq, hl⟩ := least_mem h0
  have two : ∀ x ∈ o, x = q ∨ x = q + 1 := fun x hx => by have := hn x hx q hq; have := hl x hx; omega
  have hs := sum_two two
  obtain ⟨c, hc⟩ : ∃ c, o.countP (fun x => decide (x = q + 1)) = c := ⟨_, rfl⟩
  have hcl : c < o.length := by
    rw [← hc]
    rcases Nat.lt_or_ge (o.countP (fun x => decide (x = q + 1))) o.length with h | h
    · exact h
    · have e := List.countP_eq_length.1 (Nat.le_antisymm List.countP_le_length h) q hq
      simp at e
      omega
  rw [hc] at hs
  have hdiv : o.sum / (o.length : Int) = q := by
    rw [hs, Int.mul_comm, Int.add_comm, Int.add_mul_ediv_left _ _ (by omega : (o.length : Int) ≠ 0), Int.ediv_eq_zero_of_lt (by omega) (by omega)]
    omega
  have hmod : o.sum % (o.length : Int) = (c : Int) := by
    rw [hs, Int.mul_comm, Int.add_comm, Int.add_mul_emod_self_left, Int.emod_eq_of_lt (by omega) (by omega)]
  unfold tgt
  rw [hdiv, hmod]
  rw [countP_getD] at hc
  have hmem : ∀ a, a < o.length → o.getD a 0 ∈ o := fun a ha => by
    rw [List.getD_eq_getElem?_getD, List.getElem?_eq_getElem ha]
    simp
  rcases two _ (hmem b hb) with e | e
  · rw [if_neg, e]
    · omega
    · have : c ≤ nAhd o b o.length := by
        rw [← hc]
        unfold nAhd
        refine List.countP_mono_left (fun a ha h => ?_)
        simp only [decide_eq_true_eq] at h
        simp only [ahd, decide_eq_true_eq]
        omega
      omega
  · rw [if_pos, e]
    have ind : ∀ m, m ≤ o.length → (List.range m).countP (fun a => ahd o a b) + (if b < m then 1 else 0) ≤ (List.range m).countP (fun a => decide (o.getD a 0 = q + 1)) := fun m hm => by
      induction m with
      | zero => simp
      | succ m ih =>
        have ih := ih (by omega)
        rw [List.range_succ, List.countP_append, List.countP_append, List.countP_singleton, List.countP_singleton]
        have hm2 := two _ (hmem m (by omega))
        simp only [decide_eq_true_eq]
        by_cases c1 : ahd o m b = true
        · have c2 := c1
          simp only [ahd, decide_eq_true_eq] at c2
          rw [if_pos c1]
          split at ih <;> split <;> split <;> omega
        · rw [if_neg c1]
          by_cases c4 : m = b
          · subst c4
            split at ih <;> split <;> (first | omega | (split <;> omega))
          · split at ih <;> split <;> split <;> omega
    have := ind o.length (Nat.le_refl _)
    rw [if_pos hb, hc] at this
    unfold nAhd
    omega
theorem lds_at {N : Nat} {os : List Int} {h : Nat} (hN : h < N) : (lds N os).getD h 0 = cnt os h := by
  unfold lds
  rw [List.getD_eq_getElem?_getD, List.getElem?_map, List.getElem?_range hN]
  rfl
/-- the greatest target is not above the greatest load -/
theorem tgt_le_mx {o : List Int} {m : Int} (h0 : 0 < o.length) (hm : ∀ x ∈ o, x ≤ m) (hs : o.sum ≤ m * (o.length : Int)) (b : Nat) : tgt o b ≤ m := by
  have e := Int.mul_ediv_add_emod o.sum (o.length : Int)
  have r0 := Int.emod_nonneg o.sum (b := (o.length : Int)) (by omega)
  unfold tgt
  generalize hq : o.sum / (o.length : Int) = q at e ⊢
  generalize hr : o.sum % (o.length : Int) = r at e r0 ⊢
  have hle : (o.length : Int) * q ≤ (o.length : Int) * m := by rw [Int.mul_comm _ m]; omega
  have hqm : q ≤ m := Int.le_of_mul_le_mul_left hle (by omega)
  split
  · rename_i c
    rcases Int.lt_or_eq_of_le hqm with d | d
    · omega
    · subst d
      rw [Int.mul_comm] at hs
      omega
  · omega
end Go.Proofs.YtbifmcadllilhaaGreat.Pn
namespace Go.Proofs.YtbifmcadllilhaaGreat.Rg
open Go.RowKit
set_option linter.unusedVariables false
/-- no load differs by more than one: nothing is to move -/
theorem still_nil {S : List Sg} {k : List Int} {most : Int} {N : Nat} {ms : List Mv} {σ : Sig} (n1 : 1 ≤ N) (hst : Stps k most (sg0 N (lays [] S) k) ms σ) (hf : Fin σ) (hn : ∀ x ∈ Pn.lds N (k.map (ow (lays [] S))), ∀ y ∈ Pn.lds N (k.map (ow (lays [] S))), x - y ≤ 1) : ms = [] := by
  refine hst.same (.nil _) hf ?_
  refine .inl ⟨rfl, fun j y hy => ?_⟩
  have hj : j < N := by
    have := (List.getElem?_eq_some_iff.1 hy).1
    simpa [sg0] using this
  have e : y = Pn.cnt (k.map (ow (lays [] S))) j - Pn.tgt (Pn.lds N (k.map (ow (lays [] S)))) j := by
    simp [sg0, hj] at hy; exact hy.symm
  rw [e, Pn.near_tgt (by rw [Pn.lds_len]; omega) hn (by rw [Pn.lds_len]; exact hj), Pn.lds_at hj]
  omega
end Go.Proofs.YtbifmcadllilhaaGreat.Rg
