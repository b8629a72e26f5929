import Derived.Test.YtgaehpdlljlliaaZrA
namespace Go.Proofs.Ytgaehpdlljlliaa.Zr
open Go.ChangeShapes Go.WideShapes Go.ChangeAt Go.RowKit
set_option linter.unusedVariables false

theorem and1 (b : V) : bits .and .u32 (b.toNat : Int) 1 = ((b.toNat % 2 : Nat) : Int) := by
  have := u32_and_nat b.toNat 1 b.isLt (by omega)
  rw [Nat.and_one_is_mod] at this
  exact this

theorem lsb_test (b : V) : (bits .and .u32 (b.toNat : Int) 1 == 1) = b.getLsbD 0 := by
  rw [and1, BitVec.getLsbD, Nat.testBit_zero]
  by_cases h : b.toNat % 2 = 1
  · simp [h]
  · have : b.toNat % 2 = 0 := by omega
    simp [this]

theorem shr1 (b : V) : ((b.toNat : Int) / (2 : Int)) = ((b >>> 1).toNat : Int) := by
  rw [BitVec.toNat_ushiftRight, Nat.shiftRight_eq_div_pow]; omega

theorem xorT (b c : V) : bits .xor .u32 (b.toNat : Int) (c.toNat : Int) = ((b ^^^ c).toNat : Int) := by
  rw [u32_xor_nat _ _ b.isLt c.isLt, BitVec.toNat_xor]

theorem crcStep_any (b : V) (w : World) : Calls Try.prog 65 #[.int .u32 (b.toNat : Int)] w fun e w' => e = .returned (.int .u32 ((step b).toNat : Int)) ∧ w' = w := by
  have ht := lsb_test b
  cases hb : b.getLsbD 0
  · rw [hb] at ht
    go_enter Try.func65, Try.ntmps65
    go_wp2
    go_ret
    refine ⟨?_, rfl⟩
    rw [shr1]
    simp only [step, hb]
    rfl
  · rw [hb] at ht
    go_enter Try.func65, Try.ntmps65
    go_wp2
    go_ret
    refine ⟨?_, rfl⟩
    have e : (2197175160 : Int) = (T.toNat : Int) := by decide
    rw [shr1, e, xorT]
    simp only [step, hb]
    rfl

theorem and_bit (x k : Nat) : x &&& 2 ^ k = if x.testBit k then 2 ^ k else 0 := by
  apply Nat.eq_of_testBit_eq
  intro i
  rw [Nat.testBit_and, Nat.testBit_two_pow]
  by_cases h : k = i
  · subst h
    cases hx : x.testBit k <;> simp
  · simp only [h, decide_false, Bool.and_false]
    split
    · simp [h]
    · simp
theorem msb_test (a : V) : (bits .and .u32 (a.toNat : Int) 2147483648 != 0) = a.getLsbD 31 := by
  have h := u32_and_nat a.toNat 2147483648 a.isLt (by omega)
  have e : bits .and .u32 (a.toNat : Int) 2147483648 = ((a.toNat &&& 2147483648 : Nat) : Int) := h
  rw [e, BitVec.getLsbD]
  have := and_bit a.toNat 31
  rw [show (2147483648 : Nat) = 2 ^ 31 by decide, this]
  cases h : a.toNat.testBit 31 <;> simp

def R : Nat → V → Nat
  | 0, _ => 0
  | f + 1, a => if a = 0#32 then 0 else 1 + R f (a <<< 1)

theorem R_stable (f : Nat) : ∀ a : V, a <<< f = 0#32 → R (f + 1) a = R f a := by
  induction f with
  | zero =>
    intro a h
    have : a = 0#32 := by simpa using h
    simp [R, this]
  | succ f ih =>
    intro a h
    have e1 : R (f + 1 + 1) a = if a = 0#32 then 0 else 1 + R (f + 1) (a <<< 1) := rfl
    have e2 : R (f + 1) a = if a = 0#32 then 0 else 1 + R f (a <<< 1) := rfl
    rw [e1, e2, ih (a <<< 1) (by rw [← BitVec.shiftLeft_add, Nat.add_comm]; exact h)]

theorem R_less (a : V) (h : a ≠ 0#32) : R 32 (a <<< 1) < R 32 a := by
  have e : R 32 a = 1 + R 31 (a <<< 1) := by rw [R, if_neg h]
  have h0 : (a <<< 1) <<< 31 = 0#32 := by
    rw [← BitVec.shiftLeft_add]
    exact BitVec.shiftLeft_eq_zero (by omega)
  rw [e, R_stable 31 _ h0]
  omega

theorem mulL_stable (n : Nat) : ∀ (c x : V), c <<< n = 0#32 → mulL (n + 1) c x = mulL n c x := by
  induction n with
  | zero =>
    intro c x h
    have : c = 0#32 := by simpa using h
    subst this
    exact mulL_aZero 1 x
  | succ n ih =>
    intro c x h
    rw [mulL, ih (c <<< 1) (step x) (by rw [← BitVec.shiftLeft_add, Nat.add_comm]; exact h)]
    rfl

theorem mul_round (p a b : V) : (p ^^^ (if a.getLsbD 31 then b else 0#32)) ^^^ mul (a <<< 1) (step b) = p ^^^ mul a b := by
  have h0 : (a <<< 1) <<< 31 = 0#32 := by
    rw [← BitVec.shiftLeft_add]
    exact BitVec.shiftLeft_eq_zero (by omega)
  have e : mul a b = (if a.getLsbD 31 then b else 0#32) ^^^ mulL 31 (a <<< 1) (step b) := rfl
  rw [e, mul, mulL_stable 31 _ _ h0, BitVec.xor_assoc]

theorem shl1 (a : V) : ((a.toNat : Int) * (2 : Int)) % (4294967296 : Int) = ((a <<< 1).toNat : Int) := by
  rw [BitVec.toNat_shiftLeft, Nat.shiftLeft_eq]; omega

set_option maxHeartbeats 800000 in
theorem crcProduct_any (a0 b0 : V) (w : World) : Calls Try.prog 32 #[.int .u32 (a0.toNat : Int), .int .u32 (b0.toNat : Int)] w fun e w' => e = .returned (.int .u32 ((mul a0 b0).toNat : Int)) ∧ w' = w := by
  go_enter Try.func32, Try.ntmps32
  go_wp2
  go_loop [0, 1, 5] (fun x y z => ∃ a b p : V, x = .int .u32 (a.toNat : Int) ∧ y = .int .u32 (b.toNat : Int) ∧ z = .int .u32 (p.toNat : Int) ∧ p ^^^ mul a b = mul a0 b0) (fun x _ _ => R 32 (BitVec.ofNat 32 (intOf x).toNat))
  case atStart => exact ⟨a0, b0, 0#32, rfl, rfl, rfl, by simp⟩
  case round =>
    obtain ⟨a, b, p, rfl, rfl, rfl, hinv⟩ := hrel
    by_cases ha : a = 0#32
    · subst ha
      go_wp2
      go_ret
      refine ⟨?_, rfl⟩
      rw [mul, mulL_aZero, BitVec.xor_zero] at hinv
      rw [hinv]
      rfl
    · have hne : ((a.toNat : Int) != 0) = true := by
        simp only [bne_iff_ne, ne_eq]
        intro h
        exact ha (BitVec.eq_of_toNat_eq (by simpa using h))
      have hm := msb_test a
      have hr := mul_round p a b
      rw [hinv] at hr
      cases hmb : a.getLsbD 31
      · rw [hmb] at hm hr
        go_wp2_with (go_at_call 65; refine (crcStep_any b _).mono ?_; rintro e w' ⟨rfl, rfl⟩)
        refine ⟨⟨a <<< 1, step b, p, ?_, rfl, rfl, by simpa using hr⟩, ?_⟩
        · first | rw [shl1] | (rw [IntKind.wrap_u32', shl1])
        · simp only [intOf]
          rw [shl1, Int.toNat_natCast, Int.toNat_natCast, BitVec.ofNat_toNat, BitVec.ofNat_toNat, BitVec.setWidth_eq, BitVec.setWidth_eq]
          exact R_less a ha
      · rw [hmb] at hm hr
        go_wp2_with (go_at_call 65; refine (crcStep_any b _).mono ?_; rintro e w' ⟨rfl, rfl⟩)
        refine ⟨⟨a <<< 1, step b, p ^^^ b, ?_, rfl, ?_, by simpa using hr⟩, ?_⟩
        · first | rw [shl1] | (rw [IntKind.wrap_u32', shl1])
        · rw [xorT]
        · simp only [intOf]
          rw [shl1, Int.toNat_natCast, Int.toNat_natCast, BitVec.ofNat_toNat, BitVec.ofNat_toNat, BitVec.setWidth_eq, BitVec.setWidth_eq]
          exact R_less a ha
end Go.Proofs.Ytgaehpdlljlliaa.Zr
