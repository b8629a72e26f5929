import Derived.Test.YtgaehpdlljlliaaCwD
import Derived.BigQuiet
import Derived.Deep.QuietTactic
namespace Go.Proofs.Ytgaehpdlljlliaa.Cd
open Go.RowKit
set_option linter.unusedVariables false

/-- a writing call at no writer -/
def NilW (f : Nat) (arg : Value) (w : World) : Prop := Calls Try.prog f #[.pointer none, arg] w fun e w' => e = .returned (.tuple #[]) ∧ w' = w
theorem u8_nil (X : Int) (h0 : 0 ≤ X) (hx : X < 256) (w : World) : NilW 34 (.int .u8 X) w := by
  show Calls _ _ _ _ _
  go_enter Try.func34, Try.ntmps34
  go_wp2_with fail
  refine (number_nil _ _ _).mono ?_; rintro e w' ⟨rfl, rfl⟩
  go_wp2
  go_end0
  exact ⟨rfl, rfl⟩
theorem u16_nil (X : Int) (h0 : 0 ≤ X) (hx : X < 65536) (w : World) : NilW 35 (.int .u16 X) w := by
  show Calls _ _ _ _ _
  go_enter Try.func35, Try.ntmps35
  go_wp2_with fail
  refine (number_nil _ _ _).mono ?_; rintro e w' ⟨rfl, rfl⟩
  go_wp2
  go_end0
  exact ⟨rfl, rfl⟩
theorem u32_nil (X : Int) (h0 : 0 ≤ X) (hx : X < 4294967296) (w : World) : NilW 36 (.int .u32 X) w := by
  show Calls _ _ _ _ _
  go_enter Try.func36, Try.ntmps36
  go_wp2_with fail
  refine (number_nil _ _ _).mono ?_; rintro e w' ⟨rfl, rfl⟩
  go_wp2
  go_end0
  exact ⟨rfl, rfl⟩
theorem u64_nil (X : Int) (h0 : 0 ≤ X) (hx : X < 18446744073709551616) (w : World) : NilW 37 (.int .u64 X) w := by
  show Calls _ _ _ _ _
  go_enter Try.func37, Try.ntmps37
  go_wp2_with fail
  refine (number_nil _ _ _).mono ?_; rintro e w' ⟨rfl, rfl⟩
  go_wp2
  go_end0
  exact ⟨rfl, rfl⟩
theorem varint_nil (X : Int) (h0 : 0 ≤ X) (hx : X < 18446744073709551616) (w : World) : NilW 38 (.int .u64 X) w := by
  have S := fun w => varintSize_any X.toNat (by omega) w
  rw [show ((X.toNat : Nat) : Int) = X by omega] at S
  show Calls _ _ _ _ _
  generalize va X.toNat = ys at *
  go_enter Try.func38, Try.ntmps38
  go_wp2_with fail
  refine (S _).mono ?_; rintro e w' ⟨rfl, rfl⟩
  go_wp2_with fail
  refine (fits_nil _ _).mono ?_; rintro e w' ⟨rfl, rfl⟩
  go_wp2
  go_end0
  exact ⟨rfl, rfl⟩
theorem signed_nil (x : Int) (h0 : -9223372036854775808 ≤ x) (h1 : x ≤ 9223372036854775807) (w : World) : NilW 39 (.int .i64 x) w := by
  obtain ⟨z0, z1⟩ := zz_range h0 h1
  have V := fun w => varint_nil (zz x) z0 z1 w
  show Calls _ _ _ _ _
  by_cases hn : 0 ≤ x
  · have hz : bits .xor .u64 (x * 2) (x / 9223372036854775808) = zz x := by
      rw [show x / 9223372036854775808 = 0 by omega]
      exact zz_pos hn h1
    generalize zz x = z at *
    go_enter Try.func39, Try.ntmps39
    go_wp2_with fail
    refine Calls.mono (V _) ?_; rintro e w' ⟨rfl, rfl⟩
    go_wp2
    go_end0
    exact ⟨rfl, rfl⟩
  · have hz : bits .xor .u64 (IntKind.u64.wrap (IntKind.u64.wrap x * 2)) (IntKind.u64.wrap (x / 9223372036854775808)) = zz x := by
      rw [show x / 9223372036854775808 = -1 by omega, IntKind.wrap_u64, IntKind.wrap_u64, IntKind.wrap_u64]
      rw [show x % 18446744073709551616 * 2 % 18446744073709551616 = 2 * x + 18446744073709551616 by omega, show (-1 : Int) % 18446744073709551616 = 18446744073709551615 by decide]
      exact zz_neg h0 (by omega)
    generalize zz x = z at *
    go_enter Try.func39, Try.ntmps39
    go_wp2_with fail
    refine Calls.mono (V _) ?_; rintro e w' ⟨rfl, rfl⟩
    go_wp2
    go_end0
    exact ⟨rfl, rfl⟩
theorem flag_nil (x : Bool) (w : World) : NilW 40 (.bool x) w := by
  show Calls _ _ _ _ _
  cases x
  · go_enter Try.func40, Try.ntmps40
    go_wp2_with fail
    refine Calls.mono (u8_nil 0 (by omega) (by omega) _) ?_; rintro e w' ⟨rfl, rfl⟩
    go_wp2
    go_end0
    exact ⟨rfl, rfl⟩
  · go_enter Try.func40, Try.ntmps40
    go_wp2_with fail
    refine Calls.mono (u8_nil 1 (by omega) (by omega) _) ?_; rintro e w' ⟨rfl, rfl⟩
    go_wp2
    first | go_end0 | refine bodyPost_ret (results_none rfl _ _ _) rfl ?_
    exact ⟨rfl, rfl⟩
theorem raw_nil {u : Value} {ad : Option Addr} {n cap : Nat} (hu : u = .slice ad n cap) (w : World) : NilW 41 u w := by
  subst hu
  show Calls _ _ _ _ _
  go_enter Try.func41, Try.ntmps41
  go_wp2_with fail
  refine (fits_nil _ _).mono ?_; rintro e w' ⟨rfl, rfl⟩
  go_wp2
  go_end0
  exact ⟨rfl, rfl⟩
theorem block_nil {u : Value} {ad : Option Addr} {n cap : Nat} (hu : u = .slice ad n cap) (hn : n ≤ 140737488351232) (w : World) : NilW 42 u w := by
  subst hu
  have hv := va_le n
  have S := fun w => varintSize_any n (by omega) w
  have hnI : (n : Int) ≤ 140737488351232 := by omega
  have hvI : ((va n).length : Int) ≤ 10 := by omega
  show Calls _ _ _ _ _
  generalize va n = ys at *
  clear hn hv
  go_enter Try.func42, Try.ntmps42
  go_wp2_with fail
  refine (S _).mono ?_; rintro e w' ⟨rfl, rfl⟩
  go_wp2_with fail
  refine (fits_nil _ _).mono ?_; rintro e w' ⟨rfl, rfl⟩
  go_wp2
  go_end0
  exact ⟨rfl, rfl⟩

end Go.Proofs.Ytgaehpdlljlliaa.Cd
