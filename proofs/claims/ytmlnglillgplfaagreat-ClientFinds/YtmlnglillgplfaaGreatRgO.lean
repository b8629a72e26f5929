import Derived.Test.YtmlnglillgplfaaGreatRgN11
namespace Go.Proofs.YtmlnglillgplfaaGreat.Rg
open Go.RowKit Go.Shelf Go.Sort
open Go.Proofs.YtmlnglillgplfaaGreat.It
set_option linter.unusedVariables false

section
variable {B b : Nat} {w : World} {lim : Int} {v : Value} {L : List Sg}
/-- a range and a host that Assign takes, with room for it -/
theorem assign_ok (h : Tb B w b lim v L) (lo hi o : Int) (k0 : 0 ≤ lo) (hlh : lo ≤ hi) (k1 : hi < 18446744073709551616) (o0 : 0 ≤ o) (ho : o < 16) (hfit : (L.length : Int) + costB L lo hi o ≤ lim) (hBw : B ≤ w.heap.size) :
    Calls Tryz.prog 119 #[.pointer (some ⟨b, 0, none⟩), .int .u64 lo, .int .u64 hi, .int .u8 o] w fun e w' => e = .returned (.int .i64 0) ∧ ∃ v', Tb B w' b lim v' (asg L lo hi o) ∧ Kp (fun k => k = b) w w' := by
  by_cases e1 : 0 < lo <;> by_cases e2 : hi < 18446744073709551615
  · exact assign_11 h lo hi o k0 hlh k1 o0 ho e1 e2 hfit hBw
  · exact assign_10 h lo hi o k0 hlh k1 o0 ho e1 e2 hfit hBw
  · exact assign_01 h lo hi o k0 hlh k1 o0 ho e1 e2 hfit hBw
  · exact assign_00 h lo hi o k0 hlh k1 o0 ho e1 e2 hfit hBw

set_option maxRecDepth 100000 in
set_option maxHeartbeats 1000000 in
theorem assign_full (h : Tb B w b lim v L) (lo hi o : Int) (k0 : 0 ≤ lo) (hlh : lo ≤ hi) (k1 : hi < 18446744073709551616) (ho : o < 16) (hfit : lim < (L.length : Int) + costB L lo hi o) :
    Calls Tryz.prog 119 #[.pointer (some ⟨b, 0, none⟩), .int .u64 lo, .int .u64 hi, .int .u8 o] w fun e w' => e = .returned (.int .i64 61) ∧ Kp Nu w w' := by
  have mixed : Tryz.prog.follows .mixedOrders = true := by kernel_rfl
  have CO := cost_ok h lo hi o k0 hlh k1 ho
  have LE := fun W (k : Kp Nu w W) => len_any (h.nu k)
  have C0 := fun W (k : Kp Nu w W) => (h.nu k).c0
  have cr := cost_range h.tab o k0 hlh k1
  have hl : (L.length : Int) ≤ 8192 := by have := h.len; have := h.lim1; omega
  generalize costB L lo hi o = C at *
  generalize L.length = N at *
  have hw1 : IntKind.i64.wrap ((N : Int) + C) = (N : Int) + C := by rw [IntKind.wrap_i64]; omega
  obtain ⟨m, hm⟩ : ∃ m : Nat, (N : Int) + C = (m : Int) := ⟨((N : Int) + C).toNat, by omega⟩
  rw [hm] at hw1
  have hle2 : decide (lim < (m : Int)) = true := decide_eq_true (by omega)
  clear h
  go_enter Tryz.func119, Tryz.ntmps119
  go_wp2_with fail
  refine CO.mono ?_
  rintro e w1 ⟨rfl, hk1⟩
  clear CO
  go_wp2_with fail
  have LE1 := LE w1.drew hk1.drew
  have c0 := C0 w1.drew hk1.drew
  go_region_held (fun W => W.cell? ⟨b, 0, none⟩ = some (.int .i64 lim)) (first | exact c0) (first | (go_at_call 131; refine LE1.mono ?_; rintro e w' ⟨rfl, hw'⟩; obtain rfl := hw'.symm; clear hw'))
  go_wp2
  go_ret
  exact ⟨rfl, hk1.drew⟩
set_option maxRecDepth 100000 in
set_option maxHeartbeats 1000000 in
theorem assign_bad (h : Tb B w b lim v L) (lo hi o : Int) (hlh : hi < lo) :
    Calls Tryz.prog 119 #[.pointer (some ⟨b, 0, none⟩), .int .u64 lo, .int .u64 hi, .int .u8 o] w fun e w' => e = .returned (.int .i64 60) ∧ w' = w := by
  have CO := cost_bad h lo hi o hlh
  clear h
  go_enter Tryz.func119, Tryz.ntmps119
  go_wp2_with fail
  refine CO.mono ?_
  rintro e w1 ⟨rfl, hw1⟩
  obtain rfl := hw1.symm
  go_wp2
  go_ret
  exact ⟨rfl, rfl⟩
set_option maxRecDepth 100000 in
set_option maxHeartbeats 1000000 in
theorem assign_arg (h : Tb B w b lim v L) (lo hi o : Int) (hlh : lo ≤ hi) (ho : ¬ o < 16) :
    Calls Tryz.prog 119 #[.pointer (some ⟨b, 0, none⟩), .int .u64 lo, .int .u64 hi, .int .u8 o] w fun e w' => e = .returned (.int .i64 2) ∧ w' = w := by
  have CO := cost_arg h lo hi o hlh ho
  clear h
  go_enter Tryz.func119, Tryz.ntmps119
  go_wp2_with fail
  refine CO.mono ?_
  rintro e w1 ⟨rfl, hw1⟩
  obtain rfl := hw1.symm
  go_wp2
  go_ret
  exact ⟨rfl, rfl⟩
end
end Go.Proofs.YtmlnglillgplfaaGreat.Rg
