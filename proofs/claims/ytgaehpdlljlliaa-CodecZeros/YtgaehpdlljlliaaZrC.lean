import Derived.Test.YtgaehpdlljlliaaZrB
import Derived.OpenShut
namespace Go.Proofs.Ytgaehpdlljlliaa.Zr
open Go.ChangeShapes Go.WideShapes Go.ChangeAt Go.RowKit
set_option linter.unusedVariables false

def x8 : V := 0x00800000#32

theorem and1i (k : Nat) (h : k < 9223372036854775808) : bits .and .i64 (k : Int) 1 = ((k % 2 : Nat) : Int) := by
  show IntKind.i64.wrap ((BitVec.ofInt 64 (k : Int) &&& BitVec.ofInt 64 1).toNat : Int) = _
  have h1 : (BitVec.ofInt 64 1).toNat = 1 := by decide
  have h2 : (BitVec.ofInt 64 (k : Int)).toNat = k := by
    rw [BitVec.ofInt_natCast, BitVec.toNat_ofNat]; exact Nat.mod_eq_of_lt (by omega)
  rw [BitVec.toNat_and, h1, h2, Nat.and_one_is_mod, IntKind.wrap_i64]
  omega

set_option maxHeartbeats 800000 in
theorem crcJoin_pos (a0 b : V) (n0 : Nat) (hn : n0 < 9223372036854775808) (w : World) : Calls Try.prog 8 #[.int .u32 (a0.toNat : Int), .int .u32 (b.toNat : Int), .int .i64 (n0 : Int)] w fun e w' => e = .returned (.int .u32 ((join a0 x8 n0 ^^^ b).toNat : Int)) ∧ w' = w := by
  go_enter Try.func8, Try.ntmps8
  go_wp2
  go_loop [0, 2, 7] (fun x y z => ∃ (a p : V) (n : Nat), x = .int .u32 (a.toNat : Int) ∧ y = .int .i64 (n : Int) ∧ z = .int .u32 (p.toNat : Int) ∧ n ≤ n0 ∧ join a p n = join a0 x8 n0) (fun _ y _ => (intOf y).toNat)
  case atStart => exact ⟨a0, x8, n0, rfl, rfl, rfl, Nat.le_refl _, rfl⟩
  case round =>
    obtain ⟨a, p, n, rfl, rfl, rfl, hle, hinv⟩ := hrel
    by_cases h0 : n = 0
    · subst h0
      go_wp2
      go_ret
      refine ⟨?_, rfl⟩
      rw [join_zero] at hinv
      subst hinv
      rw [xorT, BitVec.toNat_xor]
      rfl
    · have hb := and1i n (by omega)
      by_cases h1 : n % 2 = 1
      · have ht : (bits .and .i64 (n : Int) 1 == 1) = true := by rw [hb, h1]; rfl
        have hr := join_odd a p n h1
        clear hb
        go_wp2_with (go_at_call 32; refine (crcProduct_any _ _ _).mono ?_; rintro e w' ⟨rfl, rfl⟩)
        refine ⟨⟨mul a p, mul p p, n / 2, rfl, ?_, rfl, by omega, hr.trans hinv⟩, ?_⟩
        · congr 1
        · simp only [intOf]
          omega
      · have h2 : n % 2 = 0 := by omega
        have ht : (bits .and .i64 (n : Int) 1 == 1) = false := by rw [hb, h2]; rfl
        have hr := join_even a p n h2
        clear hb
        go_wp2_with (go_at_call 32; refine (crcProduct_any _ _ _).mono ?_; rintro e w' ⟨rfl, rfl⟩)
        refine ⟨⟨a, mul p p, n / 2, rfl, ?_, rfl, by omega, hr.trans hinv⟩, ?_⟩
        · congr 1
        · simp only [intOf]
          omega

theorem crcJoin_neg (a0 b : V) (w : World) : Calls Try.prog 8 #[.int .u32 (a0.toNat : Int), .int .u32 (b.toNat : Int), .int .i64 (-1)] w fun e w' => e = .returned (.int .u32 ((a0 ^^^ b).toNat : Int)) ∧ w' = w := by
  go_enter Try.func8, Try.ntmps8
  go_wp2
  go_loop [0, 2, 7] (fun x y z => x = .int .u32 (a0.toNat : Int) ∧ y = .int .i64 (-1) ∧ z = .int .u32 8388608) (fun _ y _ => 0)
  case atStart => exact ⟨rfl, rfl, rfl⟩
  case round =>
    obtain ⟨rfl, rfl, rfl⟩ := hrel
    go_wp2
    go_ret
    refine ⟨?_, rfl⟩
    rw [xorT, BitVec.toNat_xor]
    rfl

theorem one_case : (join 1#32 x8 1 ^^^ 0#32) ≠ 1#32 := by decide +kernel
end Go.Proofs.Ytgaehpdlljlliaa.Zr
