import Derived.Test.YtbhdhoeaogbfbaaEnA
import Derived.Laws.MakeOwn
namespace Go.Proofs.Ytbhdhoeaogbfbaa.Xo
open Go.RowKit
set_option linter.unusedVariables false
section
variable {B eb pb : Nat} {w w' : World} {me qn wn : Int} {ps : List Pr}

theorem info45 : (Try.prog.info? 45).map (fun i => (i.zero, i.size, i.bytes)) = some (some (.slice none 0 0), 1, 24) := by kernel_rfl
theorem info133 : (Try.prog.info? 133).map (fun i => (i.zero, i.size, i.bytes)) = some (some (.agg #[.int .u64 0, .slice none 0 0]), 2, 32) := by kernel_rfl
theorem info123 : (Try.prog.info? 123).map (fun i => (i.zero, i.size, i.bytes)) = some (some (.agg #[.int .u64 0, .int .u64 0, .slice none 0 0, .int .u64 0, .int .u64 0, .slice none 0 0]), 6, 80) := by kernel_rfl
theorem info66 : (Try.prog.info? 66).map (fun i => (i.zero, i.size, i.bytes)) = some (some (.agg #[.int .u64 0, .int .u64 0, .slice none 0 0, .int .u64 0, .int .u64 0, .slice none 0 0]), 6, 80) := by kernel_rfl
set_option maxHeartbeats 400000 in
theorem unfit_any (ad : Option Addr) (n cap : Nat) (h0 : 0 < n) (h1 : n ≤ 3072) (w : World) : Calls Try.prog 54 #[.slice ad n cap] w fun e w' => e = .returned (.bool false) ∧ w' = w := by
  have e1 : ¬ (n : Int) < 1 := by omega
  have e2 : ¬ (n : Int) > 3072 := by omega
  clear h0 h1
  go_enter Try.func54, Try.ntmps54
  go_wp2
  go_ret
  exact ⟨rfl, rfl⟩
set_option maxHeartbeats 400000 in
theorem full_any (a : Nat) (o : Nat) (qn : Int) (ad : Option Addr) (n cap : Nat) (w : World) (c2 : w.cell? ⟨a, o + 2, none⟩ = some (.slice ad n cap)) (hl : ¬ (n : Int) ≥ qn) : Calls Try.prog 55 #[.pointer (some ⟨a, o, none⟩), .int .i64 qn] w fun e w' => e = .returned (.bool false) ∧ w' = w := by
  go_enter Try.func55, Try.ntmps55
  go_wp2
  go_ret
  exact ⟨rfl, rfl⟩
set_option maxHeartbeats 400000 in
theorem spent_any (a : Nat) (o : Nat) (s : Int) (w : World) (c0 : w.cell? ⟨a, o, none⟩ = some (.int .u64 s)) (b : Bool) (hb : (s == 18446744073709551615) = b) : Calls Try.prog 56 #[.pointer (some ⟨a, o, none⟩)] w fun e w' => e = .returned (.bool b) ∧ w' = w := by
  go_enter Try.func56, Try.ntmps56
  go_wp2
  go_ret
  exact ⟨rfl, rfl⟩
set_option maxHeartbeats 400000 in
theorem open_any (a : Nat) (o : Nat) (wn : Int) (ad : Option Addr) (n cap : Nat) (w : World) (c2 : w.cell? ⟨a, o + 2, none⟩ = some (.slice ad n cap)) (m : Int) (hm : min wn (n : Int) = m) : Calls Try.prog 81 #[.pointer (some ⟨a, o, none⟩), .int .i64 wn] w fun e w' => e = .returned (.int .i64 m) ∧ Kp Nu w w' := by
  by_cases hc : wn ≤ (n : Int)
  · obtain rfl : wn = m := by omega
    clear hm
    go_enter Try.func81, Try.ntmps81
    go_wp2
    all_goals go_ret
    all_goals refine ⟨?_, Kp.refl _ _⟩
    all_goals first | rfl | (exfalso; omega) | (simp; omega)
  · obtain rfl : (n : Int) = m := by omega
    clear hm
    have hc2 : (n : Int) < wn := by omega
    clear hc
    go_enter Try.func81, Try.ntmps81
    go_wp2
    all_goals go_ret
    all_goals refine ⟨?_, Kp.refl _ _⟩
    all_goals first | rfl | (exfalso; omega) | (simp; omega)
set_option maxHeartbeats 400000 in
theorem within_zero (n : Int) (w : World) : Calls Try.prog 86 #[.int .u64 0, .int .u64 n] w fun e w' => e = .returned (.bool true) ∧ w' = w := by
  go_enter Try.func86, Try.ntmps86
  go_wp2
  go_ret
  exact ⟨rfl, rfl⟩
set_option maxHeartbeats 400000 in
theorem isZero_any (a b : Option Addr) (ca cb : Nat) (w : World) : Calls Try.prog 62 #[.agg #[.int .u64 0, .int .u64 0, .slice a 0 ca, .int .u64 0, .int .u64 0, .slice b 0 cb]] w fun e w' => e = .returned (.bool true) ∧ Kp Nu w w' := by
  go_enter Try.func62, Try.ntmps62
  go_wp2
  go_ret
  exact ⟨rfl, (Kp.refl _ _).andAlloc _⟩
set_option maxHeartbeats 400000 in
theorem index_zero (a : Option Addr) (ca : Nat) (f : Value) (w : World) : Calls Try.prog 105 #[.slice a 0 ca, f] w fun e w' => e = .returned (.int .i64 (-1)) ∧ Kp Nu w w' := by
  go_enter Try.func105, Try.ntmps105
  go_wp2
  go_loopw [8] (fun i wr => i = .int .i64 0 ∧ wr = w) (fun _ _ => 0)
  case atStart => exact ⟨rfl, rfl⟩
  case round =>
    obtain ⟨rfl, rfl⟩ := hrel
    go_wp2
    go_ret
    exact ⟨rfl, Kp.refl _ _⟩
set_option maxHeartbeats 400000 in
theorem copies_zero (a : Option Addr) (ca : Nat) (w : World) : Calls Try.prog 79 #[.slice a 0 ca] w fun e w' => e = .returned (.slice (some ⟨w.heap.size, 0, none⟩) 0 0) ∧ w' = w.alloc (.cells #[] 45) := by
  obtain ⟨i0, hi, hz0, hz1, hz2⟩ := info_parts info45
  have hmk : (Instr.makeSlice 41 (.int .i64 0) (.int .i64 0)).run Try.prog w = .ok (.slice (some ⟨w.heap.size, 0, none⟩) 0 0) (w.alloc (.cells #[] 45)) := by
    have := run_make (P := Try.prog) w 41 45 i0 _ Try.underlying41 hi hz0 .i64 .i64 0 0 (by omega) (by omega) (by omega) (by omega)
    simpa [madeCells, Array.range_zero'] using this
  clear hz0 hz1 hz2 hi
  go_enter Try.func79, Try.ntmps79
  go_wp2_with (simp only [hmk])
  go_loopw [11] (fun i wr => i = .int .i64 0 ∧ wr = w.alloc (.cells #[] 45)) (fun _ _ => 0)
  case atStart => exact ⟨rfl, rfl⟩
  case round =>
    obtain ⟨rfl, rfl⟩ := hrel
    go_wp2
    go_ret
    exact ⟨rfl, rfl⟩
set_option maxHeartbeats 400000 in
theorem frames_zero (a : Option Addr) (ca : Nat) (w : World) : Calls Try.prog 80 #[.slice a 0 ca] w fun e w' => e = .returned (.slice (some ⟨w.heap.size, 0, none⟩) 0 0) ∧ w' = w.alloc (.cells #[] 133) := by
  obtain ⟨i0, hi, hz0, hz1, hz2⟩ := info_parts info133
  have hmk : (Instr.makeSlice 64 (.int .i64 0) (.int .i64 0)).run Try.prog w = .ok (.slice (some ⟨w.heap.size, 0, none⟩) 0 0) (w.alloc (.cells #[] 133)) := by
    have := run_make (P := Try.prog) w 64 133 i0 _ Try.underlying64 hi hz0 .i64 .i64 0 0 (by omega) (by omega) (by omega) (by omega)
    simpa [madeCells, Array.range_zero'] using this
  clear hz0 hz1 hz2 hi
  go_enter Try.func80, Try.ntmps80
  go_wp2_with (simp only [hmk])
  go_loopw [11] (fun i wr => i = .int .i64 0 ∧ wr = w.alloc (.cells #[] 133)) (fun _ _ => 0)
  case atStart => exact ⟨rfl, rfl⟩
  case round =>
    obtain ⟨rfl, rfl⟩ := hrel
    go_wp2
    go_ret
    exact ⟨rfl, rfl⟩
set_option maxHeartbeats 400000 in
theorem bare_ack (s : Int) (w : World) : Calls Try.prog 89 #[.agg #[.int .u8 11, .int .u64 s, .int .u64 0, .int .u64 0, .slice none 0 0, .slice none 0 0, .bool false, .int .u8 0, .int .u8 0, .int .u8 0, .int .u32 0, .int .u32 0, .int .u64 0, .int .u8 0, .slice none 0 0, .slice none 0 0, .slice none 0 0]] w fun e w' => e = .returned (.bool true) ∧ Kp Nu w w' := by
  go_enter Try.func89, Try.ntmps89
  go_wp2
  go_ret
  exact ⟨rfl, (Kp.refl _ _).andAlloc _⟩
set_option maxHeartbeats 1000000 in
theorem room_any (a : Nat) (o : Nat) (qn : Int) (ad : Option Addr) (n cap : Nat) (s R : Int) (w : World) (c0 : w.cell? ⟨a, o, none⟩ = some (.int .u64 s)) (c2 : w.cell? ⟨a, o + 2, none⟩ = some (.slice ad n cap))
    (e1 : wrap64 (qn - n) = qn - n) (e2 : IntKind.u64.wrap (qn - n) = qn - n) (e3 : IntKind.u64.wrap (18446744073709551615 - s) = 18446744073709551615 - s) (e4 : min (qn - n) (18446744073709551615 - s) = R) (e5 : wrap64 R = R) : Calls Try.prog 65 #[.pointer (some ⟨a, o, none⟩), .int .i64 qn] w fun e w' => e = .returned (.int .i64 R) ∧ Kp Nu w w' := by
  go_enter Try.func65, Try.ntmps65
  go_wp2
  go_region
  all_goals go_wp2
  all_goals go_ret
  all_goals refine ⟨?_, (Kp.refl _ _).drew⟩
  · show Ending.returned (.int .i64 (wrap64 (18446744073709551615 - s))) = _
    rw [show (18446744073709551615 - s) = R by omega, e5]
  · show Ending.returned (.int .i64 (qn - n)) = _
    rw [show qn - n = R by omega]
end
end Go.Proofs.Ytbhdhoeaogbfbaa.Xo
