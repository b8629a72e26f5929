import Derived.Test.YthajboipnjjgfaaBaC
import Derived.Test.YthajboipnjjgfaaBaD
import Derived.Test.YthajboipnjjgfaaBaE
import Derived.Test.YthajboipnjjgfaaBaF
namespace Go.Proofs.Ythajboipnjjgfaa.Ly
open Go.RowKit
theorem barred_walk (w : World) (a' b' : Int) (u : Value) (S : List Sp) (hS : Scr w u S) (hlS : (S.length : Int) ≤ 1599289640354) :
    Calls Try.prog 7 #[u, .int .i64 a', .int .i64 b'] w fun e w' => e = .returned (.bool true) ∧ Kp Nu w w' := by
  by_cases hb : (2048 : Int) < S.length
  · by_cases hl : a' % 256 < 33
    · exact barred_bl w a' b' u S hS hlS hb hl
    · exact barred_bh w a' b' u S hS hlS hb hl
  · by_cases hl : a' % 256 < 33
    · exact barred_sl w a' b' u S hS hlS (by omega) hl
    · exact barred_sh w a' b' u S hS hlS (by omega) hl
end Go.Proofs.Ythajboipnjjgfaa.Ly
