import Derived.Test.YtgaehpdlljlliaaRows
import Derived.WalkKit
import Derived.ProofKit
import Derived.Laws.BitsAllLaws
namespace Go.Proofs.Ytgaehpdlljlliaa.Zr
set_option linter.unusedVariables false

abbrev V := BitVec 32
def T : V := 0x82F63B78#32
def step (b : V) : V := if b.getLsbD 0 then (b >>> 1) ^^^ T else b >>> 1
def mulL : Nat → V → V → V
  | 0, _, _ => 0#32
  | n + 1, a, b => (if a.getLsbD 31 then b else 0#32) ^^^ mulL n (a <<< 1) (step b)
def mul (a b : V) : V := mulL 32 a b
def one : V := 0x80000000#32

theorem xor4 (a b c d : V) : (a ^^^ b) ^^^ (c ^^^ d) = (a ^^^ c) ^^^ (b ^^^ d) := by
  rw [BitVec.xor_assoc, BitVec.xor_assoc, ← BitVec.xor_assoc b c d, BitVec.xor_comm b c, BitVec.xor_assoc]

theorem step_xor (x y : V) : step (x ^^^ y) = step x ^^^ step y := by
  unfold step
  rw [BitVec.getLsbD_xor, BitVec.ushiftRight_xor_distrib]
  cases hx : x.getLsbD 0 <;> cases hy : y.getLsbD 0 <;> simp
  · rw [BitVec.xor_assoc]
  · rw [BitVec.xor_assoc, BitVec.xor_assoc, BitVec.xor_comm T]
  · rw [xor4, BitVec.xor_self, BitVec.xor_zero]

theorem step_zero : step 0#32 = 0#32 := by decide

theorem mulL_xor (n : Nat) : ∀ (a x y : V), mulL n a (x ^^^ y) = mulL n a x ^^^ mulL n a y := by
  induction n with
  | zero => intro a x y; simp [mulL]
  | succ n ih =>
    intro a x y
    simp only [mulL]
    rw [step_xor, ih, xor4 _ (mulL n (a <<< 1) (step x))]
    split
    · rfl
    · simp

theorem mulL_zero (n : Nat) : ∀ (a : V), mulL n a 0#32 = 0#32 := by
  induction n with
  | zero => intro a; rfl
  | succ n ih => intro a; simp only [mulL]; rw [step_zero, ih]; split <;> rfl

theorem mulL_step (n : Nat) : ∀ (a b : V), mulL n a (step b) = step (mulL n a b) := by
  induction n with
  | zero => intro a b; exact step_zero.symm
  | succ n ih =>
    intro a b
    simp only [mulL]
    rw [step_xor, ih]
    split
    · rfl
    · rw [step_zero]

theorem mulL_comm2 (m : Nat) (c : V) (n : Nat) : ∀ (a b : V), mulL n a (mulL m c b) = mulL m c (mulL n a b) := by
  induction n with
  | zero => intro a b; exact (mulL_zero m c).symm
  | succ n ih =>
    intro a b
    simp only [mulL]
    rw [mulL_xor, ← mulL_step, ih]
    split
    · rfl
    · rw [mulL_zero]

theorem step_twoPow : ∀ k : Fin 31, step (1#32 <<< (k.val + 1)) = 1#32 <<< k.val := by decide +kernel

theorem mulL_unit (n : Nat) : ∀ (a : V), n < 32 → mulL (n + 1) a (1#32 <<< n) = a >>> (31 - n) := by
  induction n with
  | zero =>
    intro a _
    simp only [mulL]
    apply BitVec.eq_of_getLsbD_eq
    intro i hi
    by_cases h0 : i = 0
    · subst h0
      have e : (a >>> (31 - 0)).getLsbD 0 = a.getLsbD 31 := by rw [BitVec.getLsbD_ushiftRight]
      rw [e]
      cases h : a.getLsbD 31 <;> simp
    · have : 31 + i ≥ 32 := by omega
      cases h : a.getLsbD 31 <;> simp [BitVec.getLsbD_of_ge _ _ this]
      omega
  | succ n ih =>
    intro a hn
    rw [mulL, step_twoPow ⟨n, by omega⟩, ih _ (by omega)]
    apply BitVec.eq_of_getLsbD_eq
    intro i hi
    rw [BitVec.getLsbD_xor, BitVec.getLsbD_ushiftRight, BitVec.getLsbD_shiftLeft, BitVec.getLsbD_ushiftRight]
    by_cases h1 : i = n + 1
    · subst h1
      have e1 : 31 - (n + 1) + (n + 1) = 31 := by omega
      have e2 : ¬ (31 - n + (n + 1) < 32) := by omega
      rw [e1]
      simp only [e2, decide_false, Bool.false_and, Bool.xor_false]
      cases h : a.getLsbD 31 <;> simp [hn]
    · have e0 : (if a.getLsbD 31 = true then 1#32 <<< (n + 1) else 0#32).getLsbD i = false := by
        split
        · simp
          intro _ h2
          omega
        · simp
      rw [e0]
      by_cases h2 : i < n + 1
      · have e1 : 31 - n + i < 32 := by omega
        have e2 : ¬ (31 - n + i < 1) := by omega
        have e3 : 31 - n + i - 1 = 31 - (n + 1) + i := by omega
        simp [e1, e2, e3]
      · have e1 : ¬ (31 - n + i < 32) := by omega
        have e2 : 32 ≤ 31 - (n + 1) + i := by omega
        rw [BitVec.getLsbD_of_ge _ _ e2]
        simp [e1]

theorem mul_one (a : V) : mul a one = a := by
  have := mulL_unit 31 a (by omega)
  simpa [mul, one] using this

theorem mul_comm (a b : V) : mul a b = mul b a := by
  have h := mulL_comm2 32 b 32 a one
  have hb : mulL 32 b one = b := mul_one b
  have ha : mulL 32 a one = a := mul_one a
  rw [hb, ha] at h
  exact h

theorem mul_assoc (a b c : V) : mul (mul a b) c = mul a (mul b c) := by
  rw [mul_comm (mul a b) c]
  have := mulL_comm2 32 a 32 c b
  show mulL 32 c (mulL 32 a b) = _
  rw [this]
  show mul a (mul c b) = _
  rw [mul_comm c b]

def pw (p : V) : Nat → V
  | 0 => one
  | n + 1 => mul (pw p n) p

theorem one_mul (a : V) : mul one a = a := by rw [mul_comm, mul_one]

theorem pw_add (p : V) (m n : Nat) : pw p (m + n) = mul (pw p m) (pw p n) := by
  induction n with
  | zero => exact (mul_one _).symm
  | succ n ih => rw [← Nat.add_assoc, pw, ih, pw, mul_assoc]

theorem pw_sq (p : V) (n : Nat) : pw (mul p p) n = pw p (n + n) := by
  induction n with
  | zero => rfl
  | succ n ih =>
    rw [pw, ih, show n + 1 + (n + 1) = (n + n) + 1 + 1 by omega, pw, pw, mul_assoc]

/-- what the loop of CrcJoin comes to. -/
def join (a : V) (p : V) (n : Nat) : V := mul a (pw p n)

theorem join_zero (a p : V) : join a p 0 = a := mul_one a
theorem join_even (a p : V) (n : Nat) (h : n % 2 = 0) : join a (mul p p) (n / 2) = join a p n := by
  unfold join
  rw [pw_sq]
  congr 2
  omega
theorem join_odd (a p : V) (n : Nat) (h : n % 2 = 1) : join (mul a p) (mul p p) (n / 2) = join a p n := by
  unfold join
  rw [pw_sq, mul_assoc]
  congr 1
  have : n = (n / 2 + n / 2) + 1 := by omega
  conv => rhs; rw [this]
  rw [pw, mul_comm]
theorem join_join (a p : V) (m n : Nat) : join (join a p m) p n = join a p (m + n) := by
  unfold join
  rw [mul_assoc, pw_add]

theorem mulL_aZero (n : Nat) : ∀ b : V, mulL n 0#32 b = 0#32 := by
  induction n with
  | zero => intro b; rfl
  | succ n ih =>
    intro b
    simp only [mulL]
    have : (0#32 <<< 1 : V) = 0#32 := by decide
    rw [this, ih]
    simp
end Go.Proofs.Ytgaehpdlljlliaa.Zr
