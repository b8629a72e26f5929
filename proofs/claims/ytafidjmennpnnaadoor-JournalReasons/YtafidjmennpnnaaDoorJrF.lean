import Derived.Test.YtafidjmennpnnaaDoorJrE
import Derived.RegionTactic
import Derived.ChangeAlike
import Derived.BigQuiet
import Derived.Deep.QuietTactic
import Derived.Deep.RegionWith
namespace Go.Proofs.YtafidjmennpnnaaDoor
open Go.RowKit Go.Extern.Stop Go.Stop Go.Extern
set_option linter.unusedVariables false

theorem Bw.drN {w w' : World} (h : Bw w w') (n : Nat) : Bw w (w'.drewN n) := ⟨⟨h.b.os, h.b.tape, h.b.output, h.b.size, h.b.block⟩⟩
theorem num_any (y : Int) (w : World) : Calls Tryd.prog 7 #[.int .i64 y] w fun e w' => e = .returned (.int .i64 y) ∧ w' = w := by
  go_enter Tryd.func7, Tryd.ntmps7
  go_wp2
  go_ret
  exact ⟨rfl, rfl⟩
theorem error_none (w : World) : Calls Tryd.prog 5 #[.pointer none] w fun e w' => e = .returned (.string ⟨#[]⟩) ∧ w' = w := by
  go_enter Tryd.func5, Tryd.ntmps5
  go_wp2
  go_ret
  exact ⟨rfl, rfl⟩
theorem unwrap_ok (b : Nat) (x : Int) (z : Int) (w : World) (h : w.heap[b]? = some (.cells #[.int .i64 x, .int .i64 z, .int .i64 0] 25 (0, 0))) :
    Calls Tryd.prog 4 #[.pointer (some ⟨b, 0, none⟩)] w fun e w' => e = .returned .nilIface ∧ w' = w := by
  have c : w.cell? ⟨b, 2, none⟩ = some (.int .i64 0) := by simp [World.cell?, h]
  go_enter Tryd.func4, Tryd.ntmps4
  go_wp2
  go_ret
  exact ⟨rfl, rfl⟩
theorem unwrap_why (b : Nat) (x z y : Int) (hy : y ≠ 0) (w : World) (h : w.heap[b]? = some (.cells #[.int .i64 x, .int .i64 z, .int .i64 y] 25 (0, 0))) :
    Calls Tryd.prog 4 #[.pointer (some ⟨b, 0, none⟩)] w fun e w' => e = .returned (.iface 22 (.int .i64 y)) ∧ w' = w := by
  have c : w.cell? ⟨b, 2, none⟩ = some (.int .i64 y) := by simp [World.cell?, h]
  have hb : (y == 0) = false := by simpa using hy
  go_enter Tryd.func4, Tryd.ntmps4
  go_wp2
  go_ret
  exact ⟨rfl, rfl⟩

set_option maxHeartbeats 2000000 in
theorem law_ok (x z : Int) (w : World) (hE : Et w) : Calls Tryd.prog 3 #[.int .i64 x, .int .i64 z, .int .i64 0] w fun e w' => e = .returned (.bool true) ∧ Bw w w' := by
  have mixed : Tryd.prog.follows .mixedOrders = true := by kernel_rfl
  have B0 := (Bw.refl w).al (.cells #[.int .i64 x, .int .i64 z, .int .i64 0] 25)
  have U := unwrap_ok w.heap.size x z _ (at_new w (.cells #[.int .i64 x, .int .i64 z, .int .i64 0] 25))
  have NU := num_any
  have R0 := reason_nil
  have R1 := reason_none
  have HB : Hid _ := B0
  have HEt : Hid (Et w) := hE
  clear B0 hE
  go_enter Tryd.func3, Tryd.ntmps3
  go_wp2_with fail
  refine U.mono ?_; rintro e w2 ⟨rfl, rfl⟩
  clear U
  go_wp2_with fail
  refine (unwrap_none _).mono ?_; rintro e w2 ⟨rfl, rfl⟩
  go_wp2_with fail
  refine (error_none _).mono ?_; rintro e w2 ⟨rfl, rfl⟩
  go_wp2_with fail
  refine (R0 _).mono ?_; rintro e w2 ⟨rfl, hk2⟩
  have B2 := HB.out.trans hk2
  clear hk2 HB
  go_wp2_with fail
  refine (R1 _ (Et.below HEt.out B2)).mono ?_; rintro e w3 ⟨rfl, hk3⟩
  have HB3 : Hid _ := B2.trans hk3
  clear hk3 B2 R1
  go_wp2_with fail
  refine (NU _ _).mono ?_; rintro e w4 ⟨rfl, rfl⟩
  go_wp2_with fail
  go_quiet (first | (go_at_call 7; exact Calls.quiet_of_same (NU _ _)))
  go_wp2_with fail
  refine (R0 _).mono ?_; rintro e w6 ⟨rfl, hk6⟩
  have HB6 : Hid _ := (HB3.out.drN nq).trans hk6
  clear hk6 HB3
  go_wp2
  go_ret
  exact ⟨rfl, HB6.out⟩

set_option maxHeartbeats 2000000 in
theorem law_why (x z y : Int) (hy : y ≠ 0) (w : World) (hE : Et w) : Calls Tryd.prog 3 #[.int .i64 x, .int .i64 z, .int .i64 y] w fun e w' => e = .returned (.bool true) ∧ Bw w w' := by
  have mixed : Tryd.prog.follows .mixedOrders = true := by kernel_rfl
  have hb : (y == 0) = false := by simpa using hy
  have hb2 : (y == y) = true := by simp
  have B0 := (Bw.refl w).al (.cells #[.int .i64 x, .int .i64 z, .int .i64 y] 25)
  have U := unwrap_why w.heap.size x z y hy _ (at_new w (.cells #[.int .i64 x, .int .i64 z, .int .i64 y] 25))
  have NU := num_any
  have R0 := reason_nil
  have R1 := reason_none
  have HB : Hid _ := B0
  have HEt : Hid (Et w) := hE
  clear B0 hE
  go_enter Tryd.func3, Tryd.ntmps3
  go_wp2_with fail
  refine U.mono ?_; rintro e w2 ⟨rfl, rfl⟩
  clear U
  go_wp2_with fail
  refine (unwrap_none _).mono ?_; rintro e w2 ⟨rfl, rfl⟩
  go_wp2_with fail
  refine (error_none _).mono ?_; rintro e w2 ⟨rfl, rfl⟩
  go_wp2_with fail
  refine (R0 _).mono ?_; rintro e w2 ⟨rfl, hk2⟩
  have B2 := HB.out.trans hk2
  clear hk2 HB
  go_wp2_with fail
  refine (R1 _ (Et.below HEt.out B2)).mono ?_; rintro e w3 ⟨rfl, hk3⟩
  have HB3 : Hid _ := B2.trans hk3
  clear hk3 B2 R1
  go_wp2_with fail
  refine (NU _ _).mono ?_; rintro e w4 ⟨rfl, rfl⟩
  go_wp2_with fail
  go_quiet (first | (go_at_call 7; exact Calls.quiet_of_same (NU _ _)))
  go_wp2_with fail
  refine (reason_err y _ (Et.below HEt.out (HB3.out.drN nq))).mono ?_; rintro e w6 ⟨rfl, hk6⟩
  have HB6 : Hid _ := (HB3.out.drN nq).trans hk6
  clear hk6 HB3
  go_wp2
  go_ret
  exact ⟨rfl, HB6.out⟩
end Go.Proofs.YtafidjmennpnnaaDoor
