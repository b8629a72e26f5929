import Derived.Test.YtckjededijgjgaaDoorEncC
import Derived.Test.YtckjededijgjgaaDoorEncD
namespace Go.Proofs.YtckjededijgjgaaDoor.Enc
open Go.RowKit

theorem num_any (n : Int) (w : World) : Calls Tryd.prog 23 #[.int .i64 n] w fun e w' => e = .returned (.int .i64 n) ∧ w' = w := by
  go_enter Tryd.func23, Tryd.ntmps23
  go_wp2
  go_ret
  exact ⟨rfl, rfl⟩
theorem plain_is (r : Int) (w : World) (R off cap : Nat) (hS : Spans w R off cap) (hr : -2147483648 ≤ r) (hr' : r ≤ 2147483647) :
    Calls Tryd.prog 21 #[.int .i32 r] w fun e w' => e = .returned (.bool (!hidB r)) ∧ Below w.heap.size w w' := plain_any r w R off cap hS hr hr'

set_option maxHeartbeats 800000 in
theorem walk_yes (r : Int) (w : World) (R off cap : Nat) (hS : Spans w R off cap) (hr : -2147483648 ≤ r) (hr' : r ≤ 2147483647) (hv : Hid (Utf8.valid r = true)) :
    Calls Tryd.prog 3 #[.int .i32 r] w fun e w' => e = .returned (.bool true) ∧ Below w.heap.size w w' := by
  go_enter Tryd.func3, Tryd.ntmps3
  go_wp2_with fail
  refine (encode_yes r _ hv).mono ?_
  rintro e w' ⟨rfl, rfl⟩
  go_wp2_with fail
  refine (refEncode_yes r _ hv).mono ?_
  rintro e w1 ⟨rfl, hb1⟩
  go_wp2_with fail
  refine (plain_is r _ R off cap (hS.below hb1 (Nat.le_refl _)) hr hr').mono ?_
  rintro e w2 ⟨rfl, hb2⟩
  go_wp2_with fail
  refine (hidden_any r _).mono ?_
  rintro e w3 ⟨rfl, rfl⟩
  go_wp2_with (go_at_call 23; refine (num_any _ _).mono ?_; rintro e w' ⟨rfl, rfl⟩)
  go_ret
  exact ⟨rfl, hb1.trans (hb2.mono hb1.size)⟩
set_option maxHeartbeats 800000 in
theorem walk_no (r : Int) (w : World) (R off cap : Nat) (hS : Spans w R off cap) (hr : -2147483648 ≤ r) (hr' : r ≤ 2147483647) (hv : Hid (Utf8.valid r = false)) :
    Calls Tryd.prog 3 #[.int .i32 r] w fun e w' => e = .returned (.bool true) ∧ Below w.heap.size w w' := by
  go_enter Tryd.func3, Tryd.ntmps3
  go_wp2_with fail
  refine (encode_no r _ hv).mono ?_
  rintro e w' ⟨rfl, rfl⟩
  go_wp2_with fail
  refine (refEncode_not r _ hv).mono ?_
  rintro e w1 ⟨rfl, rfl⟩
  go_wp2_with fail
  refine (plain_is r _ R off cap hS hr hr').mono ?_
  rintro e w2 ⟨rfl, hb2⟩
  go_wp2_with fail
  refine (hidden_any r _).mono ?_
  rintro e w3 ⟨rfl, rfl⟩
  go_wp2_with (go_at_call 23; refine (num_any _ _).mono ?_; rintro e w' ⟨rfl, rfl⟩)
  go_ret
  exact ⟨rfl, hb2⟩
theorem walk (r : Int) (w : World) (R off cap : Nat) (hS : Spans w R off cap) (hr : -2147483648 ≤ r) (hr' : r ≤ 2147483647) :
    Calls Tryd.prog 3 #[.int .i32 r] w fun e w' => e = .returned (.bool true) ∧ Below w.heap.size w w' := by
  cases h : Utf8.valid r with
  | true => exact walk_yes r w R off cap hS hr hr' h
  | false => exact walk_no r w R off cap hS hr hr' h
end Go.Proofs.YtckjededijgjgaaDoor.Enc
