import Derived.Test.YtmlnglillgplfaaGreatBs
namespace Go.Proofs.YtmlnglillgplfaaGreat.Cl
open Go.RowKit
set_option linter.unusedVariables false

theorem made_nil (w : World) : Calls Tryz.prog 50 #[.pointer none] w fun e w' => e = .returned (.bool false) ∧ w' = w := by
  go_enter Tryz.func50, Tryz.ntmps50
  go_wp2
  go_ret
  exact ⟨rfl, rfl⟩
theorem waits_nil (w : World) : Calls Tryz.prog 48 #[.pointer none] w fun e w' => e = .returned (.bool false) ∧ w' = w := by
  have MA := made_nil w
  go_enter Tryz.func48, Tryz.ntmps48
  go_wp2_with fail
  refine MA.mono ?_; rintro e w' ⟨rfl, rfl⟩
  clear MA
  go_wp2
  go_ret
  exact ⟨rfl, rfl⟩
theorem tick_nil (w : World) : Calls Tryz.prog 18 #[.pointer none] w fun e w' => e = .returned (.slice none 0 0) ∧ w' = w := by
  have MA := waits_nil w
  go_enter Tryz.func18, Tryz.ntmps18
  go_wp2_with fail
  refine MA.mono ?_; rintro e w' ⟨rfl, rfl⟩
  clear MA
  go_wp2
  go_ret
  exact ⟨rfl, rfl⟩
theorem giveUp_nil (w : World) : Calls Tryz.prog 21 #[.pointer none] w fun e w' => e = .returned (.int .i64 1) ∧ w' = w := by
  have MA := made_nil w
  go_enter Tryz.func21, Tryz.ntmps21
  go_wp2_with fail
  refine MA.mono ?_; rintro e w' ⟨rfl, rfl⟩
  clear MA
  go_wp2
  go_ret
  exact ⟨rfl, rfl⟩
theorem aim_nil (w : World) (a : Int) : Calls Tryz.prog 22 #[.pointer none, .int .u8 a] w fun e w' => e = .returned (.int .i64 1) ∧ w' = w := by
  have MA := made_nil w
  go_enter Tryz.func22, Tryz.ntmps22
  go_wp2_with fail
  refine MA.mono ?_; rintro e w' ⟨rfl, rfl⟩
  clear MA
  go_wp2
  go_ret
  exact ⟨rfl, rfl⟩
theorem hints_nil (w : World) : Calls Tryz.prog 25 #[.pointer none] w fun e w' => e = .returned (.slice none 0 0) ∧ w' = w := by
  have MA := made_nil w
  go_enter Tryz.func25, Tryz.ntmps25
  go_wp2_with fail
  refine MA.mono ?_; rintro e w' ⟨rfl, rfl⟩
  clear MA
  go_wp2
  go_ret
  exact ⟨rfl, rfl⟩
theorem begin_nil (w : World) (k key hi lim : Int) (va oa : Option Addr) (vn vc on oc : Nat) (has : Bool) : Calls Tryz.prog 19 #[.pointer none, .agg #[.int .u8 k, .int .u64 key, .int .u64 hi, .slice va vn vc, .slice oa on oc, .bool has, .int .u8 lim]] w fun e w' => e = .returned (.tuple #[.slice none 0 0, .int .i64 1]) ∧ Kp Nu w w' := by
  have MA := fun w => made_nil w
  go_enter Tryz.func19, Tryz.ntmps19
  go_wp2_with fail
  refine (MA _).mono ?_; rintro e w' ⟨rfl, rfl⟩
  clear MA
  go_wp2
  go_ret2
  exact ⟨rfl, Kp.alloc _ _ _⟩
theorem take_nil (w : World) (a : Int) (k seq key hi : Int) (va oa pa sa ya : Option Addr) (vn vc on oc pn pc sn sc yn yc : Nat) (has : Bool) (of st host gr bo ma li : Int) : Calls Tryz.prog 20 #[.pointer none, .int .u8 a, .agg #[.int .u8 k, .int .u64 seq, .int .u64 key, .int .u64 hi, .slice va vn vc, .slice oa on oc, .bool has, .int .u8 of, .int .u8 st, .int .u8 host, .int .u32 gr, .int .u32 bo, .int .u64 ma, .int .u8 li, .slice pa pn pc, .slice sa sn sc, .slice ya yn yc]] w fun e w' => e = .returned (.tuple #[.slice none 0 0, .int .i64 1]) ∧ Kp Nu w w' := by
  have MA := fun w => made_nil w
  go_enter Tryz.func20, Tryz.ntmps20
  go_wp2_with fail
  refine (MA _).mono ?_; rintro e w' ⟨rfl, rfl⟩
  clear MA
  go_wp2
  go_ret2
  exact ⟨rfl, Kp.alloc _ _ _⟩
theorem outcome_nil (w : World) : Calls Tryz.prog 23 #[.pointer none] w fun e w' => e = .returned (.agg #[.int .u8 0, .int .u64 0, .int .u8 0, .slice none 0 0, .slice none 0 0, .int .u64 0, .int .u8 0, .int .i64 0, .int .i64 0]) ∧ Kp Nu w w' := by
  have MA := fun w => made_nil w
  go_enter Tryz.func23, Tryz.ntmps23
  go_wp2_with fail
  refine (MA _).mono ?_; rintro e w' ⟨rfl, rfl⟩
  clear MA
  go_wp2
  refine bodyPost_ret (results_cell_row rfl _ _ w.heap.size 55 _ _ _ rfl (heap_new w _) Tryz.underlying55 rfl info55) rfl ?_
  exact ⟨rfl, Kp.alloc _ _ _⟩
theorem request_nil (w : World) : Calls Tryz.prog 24 #[.pointer none] w fun e w' => e = .returned (.agg #[.int .u8 0, .int .u64 0, .int .u64 0, .slice none 0 0, .slice none 0 0, .bool false, .int .u8 0]) ∧ Kp Nu w w' := by
  have MA := fun w => made_nil w
  go_enter Tryz.func24, Tryz.ntmps24
  go_wp2_with fail
  refine (MA _).mono ?_; rintro e w' ⟨rfl, rfl⟩
  clear MA
  go_wp2
  refine bodyPost_ret (results_cell_row rfl _ _ w.heap.size 26 _ _ _ rfl (heap_new w _) Tryz.underlying26 rfl info26) rfl ?_
  exact ⟨rfl, Kp.alloc _ _ _⟩
end Go.Proofs.YtmlnglillgplfaaGreat.Cl
