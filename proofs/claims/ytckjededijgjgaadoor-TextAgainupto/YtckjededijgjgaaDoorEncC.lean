import Derived.Test.YtckjededijgjgaaDoorEncB
import Derived.Deep.Light
namespace Go.Proofs.YtckjededijgjgaaDoor.Enc
open Go.RowKit

theorem hid_last (r : Int) (h1 : ¬ (r < 0 ∨ 1114111 < r ∨ r ≤ 31 ∨ (127 ≤ r ∧ r ≤ 160) ∨ r = 173 ∨ r = 1564)) (h2 : ¬ (r = 5760 ∨ r = 6158 ∨ (8192 ≤ r ∧ r ≤ 8207) ∨ (8232 ≤ r ∧ r ≤ 8239)))
    (h3 : ¬ ((8287 ≤ r ∧ r ≤ 8303) ∨ r = 12288 ∨ (55296 ≤ r ∧ r ≤ 63743) ∨ (64976 ≤ r ∧ r ≤ 65007))) (h4 : ¬ (r = 65279 ∨ (65529 ≤ r ∧ r ≤ 65531) ∨ r = 65534 ∨ r = 65535 ∨ 917504 ≤ r)) :
    decide (65534 ≤ r % 65536) = hidB r := by
  by_cases h : 65534 ≤ r % 65536
  · rw [decide_eq_true h]; exact hid_b r (.inr (.inr (.inr (.inr h))))
  · rw [decide_eq_false h]
    refine not_hid_b r ?_
    rintro (h' | h' | h' | h' | h')
    · exact h1 h'
    · exact h2 h'
    · exact h3 h'
    · exact h4 h'
    · exact h h'

set_option maxHeartbeats 8000000 in
theorem hidden_any (r : Int) (w : World) :
    Calls Tryd.prog 22 #[.int .i64 r] w fun e w' => e = .returned (.bool (hidB r)) ∧ w' = w := by
  go_enter Tryd.func22, Tryd.ntmps22
  go_wp2
  all_goals go_ret
  all_goals refine ⟨ret_bool ?_, rfl⟩
  all_goals go_light
  all_goals try simp only [beq_eq_false_iff_ne, beq_iff_eq, ne_eq] at *
  all_goals first | exact hid_b _ (.inl (by omega)) | exact hid_b _ (.inr (.inl (by omega))) | exact hid_b _ (.inr (.inr (.inl (by omega)))) | exact hid_b _ (.inr (.inr (.inr (.inl (by omega))))) | exact hid_last _ (by omega) (by omega) (by omega) (by omega)
end Go.Proofs.YtckjededijgjgaaDoor.Enc
