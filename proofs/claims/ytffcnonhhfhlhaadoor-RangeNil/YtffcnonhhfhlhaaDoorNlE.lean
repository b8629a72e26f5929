import Derived.Test.YtffcnonhhfhlhaaDoorNlD
import Derived.Laws.EntriesVeiled
namespace Go.Proofs.YtffcnonhhfhlhaaDoor.Rg
open Go.RowKit Go.Shelf Go.Sort Go.Maps
open Go.Proofs.YtffcnonhhfhlhaaDoor.It
set_option linter.unusedVariables false

set_option maxHeartbeats 400000 in
theorem within_nil (w : World) (lo hi : Int) : Calls Tryd.prog 14 #[.pointer none, .int .u64 lo, .int .u64 hi] w fun e w' => ∃ (Bn B1 B2 B3 : Nat), e = .returned (.func (.func 45) #[] #[.pointer (some ⟨B1, 0, none⟩), .pointer (some ⟨B2, 0, none⟩), .pointer (some ⟨B3, 0, none⟩)]) ∧ w'.heap[Bn]? = some (.cells #[.slice none 0 0] 22 (0, 0)) ∧ w'.heap[B1]? = some (.cells #[.int .u64 lo] 23 (0, 0)) ∧ w'.heap[B2]? = some (.cells #[.int .u64 hi] 23 (0, 0)) ∧ w'.heap[B3]? = some (.cells #[.func (.func 73) #[] #[.pointer (some ⟨Bn, 0, none⟩)]] 39 (0, 0)) ∧ Kp Nu w w' := by
  have FR := from_nil ((w.alloc (.cells #[.int .u64 lo] 23)).alloc (.cells #[.int .u64 hi] 23)) lo
  have K0 := (Kp.alloc w (.cells #[.int .u64 lo] 23) Nu).andAlloc (.cells #[.int .u64 hi] 23)
  have b1 : ((w.alloc (.cells #[.int .u64 lo] 23)).alloc (.cells #[.int .u64 hi] 23)).heap[w.heap.size]? = some (.cells #[.int .u64 lo] 23 (0, 0)) := (Below.heap_alloc _ _ _ (blk_lt (heap_alloc_new w _))).trans (heap_alloc_new w _)
  have b2 : ((w.alloc (.cells #[.int .u64 lo] 23)).alloc (.cells #[.int .u64 hi] 23)).heap[w.heap.size + 1]? = some (.cells #[.int .u64 hi] 23 (0, 0)) := by
    have := heap_alloc_new (w.alloc (.cells #[.int .u64 lo] 23)) (.cells #[.int .u64 hi] 23)
    rwa [World.size_alloc] at this
  have HB := hide (And.intro b1 (And.intro b2 K0))
  clear b1 b2 K0
  go_enter Tryd.func14, Tryd.ntmps14
  go_wp2_with (go_at_call 44; refine FR.mono ?_; rintro e w2 ⟨Bn, rfl, hbn, hk2⟩)
  go_ret
  obtain ⟨h1, h2, h3, h4⟩ := And.intro hbn (And.intro (hk2.block _ (blk_lt HB.out.1) (fun h => h)) (And.intro (hk2.block _ (blk_lt HB.out.2.1) (fun h => h)) (HB.out.2.2.andNu hk2)))
  obtain ⟨b1, b2, K0⟩ := HB.out
  have kA := Kp.alloc w2 (.cells #[.func (.func 73) #[] #[.pointer (some ⟨Bn, 0, none⟩)]] 39) Nu
  exact ⟨Bn, _, _, _, rfl, (kA.block _ (blk_lt h1) (fun h => h)).trans h1, (kA.block _ (blk_lt (h2.trans b1)) (fun h => h)).trans (h2.trans b1), (kA.block _ (blk_lt (h3.trans b2)) (fun h => h)).trans (h3.trans b2), heap_alloc_new w2 _, h4.andNu kA⟩
set_option maxHeartbeats 1000000 in
theorem insertion_nil (w : World) (a : Option Addr) (c : Nat) (f : Value) : Calls Tryd.prog 90 #[.slice a 0 c, .int .i64 0, .int .i64 0, f] w fun e w' => e = .returned (.tuple #[]) ∧ w' = w := by
  go_enter Tryd.func90, Tryd.ntmps90
  go_wp2_with fail
  go_loopw [8] (fun i wr => i = .int .i64 1 ∧ wr = w) (fun _ _ => 0)
  case atStart => exact ⟨rfl, rfl⟩
  case round =>
    obtain ⟨rfl, rfl⟩ := hrel
    go_wp2
    go_end0
    exact ⟨rfl, rfl⟩
set_option maxHeartbeats 1000000 in
theorem pdq_nil (w : World) (a : Option Addr) (c : Nat) (f : Value) (lim : Int) : Calls Tryd.prog 76 #[.slice a 0 c, .int .i64 0, .int .i64 0, .int .i64 lim, f] w fun e w' => e = .returned (.tuple #[]) ∧ w' = w := by
  have IN := insertion_nil w a c f
  go_enter Tryd.func76, Tryd.ntmps76
  go_wp2_with fail
  go_loopw [1, 2] (fun x y wr => x = .int .i64 0 ∧ y = .int .i64 0 ∧ wr = w) (fun _ _ _ => 0)
  case atStart => exact ⟨rfl, rfl, rfl⟩
  case round =>
    obtain ⟨rfl, rfl, rfl⟩ := hrel
    go_wp2_with fail
    refine IN.mono ?_; rintro e w' ⟨rfl, hw⟩
    obtain rfl := hw.symm
    go_wp2
    exact bodyPost_ret (v := .tuple #[]) (by simp [results, Tryd.results76, go_sem]) rfl ⟨rfl, rfl⟩
set_option maxRecDepth 100000 in
set_option maxHeartbeats 1000000 in
theorem len64_0 (w : World) : Calls Tryd.prog 99 #[.int .u64 0] w fun e w' => e = .returned (.int .i64 0) ∧ w' = w := by
  go_enter Tryd.func99, Tryd.ntmps99
  go_wp2
  go_ret
  exact ⟨by kernel_rfl, rfl⟩
set_option maxHeartbeats 1000000 in
theorem len_0 (w : World) : Calls Tryd.prog 77 #[.int .u64 0] w fun e w' => e = .returned (.int .i64 0) ∧ w' = w := by
  have L6 := len64_0 w
  go_enter Tryd.func77, Tryd.ntmps77
  go_wp2_with (go_at_call 99; refine L6.mono ?_; rintro e w' ⟨rfl, rfl⟩)
  go_ret
  exact ⟨rfl, rfl⟩
set_option maxHeartbeats 1000000 in
theorem sort_nil (w : World) (a : Option Addr) (c : Nat) (f : Value) : Calls Tryd.prog 57 #[.slice a 0 c, f] w fun e w' => e = .returned (.tuple #[]) ∧ w' = w := by
  have L6 := len_0 w
  have PD := pdq_nil w a c f 0
  go_enter Tryd.func57, Tryd.ntmps57
  go_wp2_with fail
  refine L6.mono ?_; rintro e w' ⟨rfl, hw⟩
  obtain rfl := hw.symm
  clear L6 hw
  go_wp2_with fail
  refine PD.mono ?_; rintro e w' ⟨rfl, hw⟩
  obtain rfl := hw.symm
  go_wp2
  go_end0
  exact ⟨rfl, rfl⟩
end Go.Proofs.YtffcnonhhfhlhaaDoor.Rg
