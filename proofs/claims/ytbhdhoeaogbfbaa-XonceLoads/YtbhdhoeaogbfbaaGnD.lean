import Derived.Test.YtbhdhoeaogbfbaaEnB
import Derived.Test.YtbhdhoeaogbfbaaLn
namespace Go.Proofs.Ytbhdhoeaogbfbaa.Xo
open Go.RowKit
set_option linter.unusedVariables false
/-- a mask names none but the first s numbers -/
def inM (mask s : Int) : Bool := decide (mask = 0) || decide ((Lib.bitLen mask.toNat : Int) + 1 ≤ s)
set_option maxHeartbeats 1000000 in
theorem within_any (mask s : Int) (h0 : 0 ≤ mask) (h1 : mask ≤ 18446744073709551615) (w : World) : Calls Try.prog 86 #[.int .u64 mask, .int .u64 s] w fun e w' => e = .returned (.bool (inM mask s)) ∧ w' = w := by
  by_cases hz : mask = 0
  · subst hz
    exact (within_zero s w).mono (by rintro e w' ⟨rfl, rfl⟩; exact ⟨by simp [inM], rfl⟩)
  · have C := fun W => Try.bits_Len64 mask W h0 h1
    have hl : Lib.bitLen mask.toNat ≤ 64 := Lib.bitLen_le _ 64 (by omega) (by omega)
    have hb : (mask == 0) = false := by simp [hz]
    have hr : inM mask s = decide ((Lib.bitLen mask.toNat : Int) + 1 ≤ s) := by simp [inM, hz]
    rw [hr]
    have e1 : IntKind.u64.wrap (Lib.bitLen mask.toNat : Int) = (Lib.bitLen mask.toNat : Int) := by rw [IntKind.wrap_u64]; omega
    have e2 : IntKind.u64.wrap ((Lib.bitLen mask.toNat : Int) + 1) = (Lib.bitLen mask.toNat : Int) + 1 := by rw [IntKind.wrap_u64]; omega
    clear h0 h1 hz hl hr
    generalize Lib.bitLen mask.toNat = b at *
    go_enter Try.func86, Try.ntmps86
    go_wp2_with (go_at_call 104; refine (C _).mono ?_; rintro e w1 ⟨rfl, hw1⟩; obtain rfl := hw1.symm)
    go_ret
    exact ⟨rfl, rfl⟩
end Go.Proofs.Ytbhdhoeaogbfbaa.Xo
