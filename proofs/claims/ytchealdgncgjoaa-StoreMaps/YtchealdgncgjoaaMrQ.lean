import Derived.Test.YtchealdgncgjoaaMrN
import Derived.Test.YtchealdgncgjoaaMrO
import Derived.Test.YtchealdgncgjoaaMrP
namespace Go.Proofs.Ytchealdgncgjoaa.StM
open Go.RowKit Go.Proofs.Ytchealdgncgjoaa.St
theorem storeMaps_walk (w : World) (v1 : Value) (n0 : Int) (S : List Op4) (hS : Wo w v1 S) (hl : S.length ≤ 4398046510976) : Calls Try.prog 14 #[.int .i64 n0, v1] w fun e w' => e = .returned (.bool true) ∧ Kp Nu w w' := by
  by_cases h0 : n0 < 0
  · exact storeMaps_neg w v1 n0 S hS hl h0
  · by_cases h3 : 3 < n0
    · exact storeMaps_big w v1 n0 S hS hl h3
    · exact storeMaps_in w v1 n0 S hS hl (by omega) (by omega)
end Go.Proofs.Ytchealdgncgjoaa.StM
