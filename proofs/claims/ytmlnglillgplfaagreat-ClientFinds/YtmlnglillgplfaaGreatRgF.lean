import Derived.Test.YtmlnglillgplfaaGreatRgE
import Derived.Laws.EntriesVeiled
namespace Go.Proofs.YtmlnglillgplfaaGreat.Rg
open Go.RowKit Go.Shelf Go.Sort
open Go.Proofs.YtmlnglillgplfaaGreat.It
attribute [local go_sem] Oper.semAt_some
set_option linter.unusedVariables false

theorem set_set3 {w : World} {b : Nat} {x y z x' y' : Value} {t : TypeId} (h : w.heap[b]? = some (.cells #[x, y, z] t (0, 0))) : ((w.setCell ⟨b, 0, none⟩ x').setCell ⟨b, 1, none⟩ y').heap[b]? = some (.cells #[x', y', z] t (0, 0)) := by
  rw [set3 (set3 h 0 x') 1 y']; rfl

set_option maxHeartbeats 1000000 in
theorem cut_any (s : Sg) (lo hi : Int) (w : World) :
    Calls Tryz.prog 144 #[enc s, .int .u64 lo, .int .u64 hi] w fun e w' => e = .returned (enc (cutS lo hi s)) ∧ Kp Nu w w' := by
  have mixed : Tryz.prog.follows .mixedOrders = true := by kernel_rfl
  unfold enc cutS
  go_enter Tryz.func144, Tryz.ntmps144
  go_wp2
  refine bodyPost_ret (v := .agg #[.int .u64 (max s.lo lo), .int .u64 (min s.hi hi), .int .u8 s.h]) (by simp [results, Tryz.results144, go_sem]) rfl ?_
  exact ⟨rfl, (Kp.alloc w _ Nu).andAlloc _⟩

set_option maxHeartbeats 1000000 in
theorem within_any {B b : Nat} {w : World} {lim : Int} {v : Value} {L : List Sg} (h : Tb B w b lim v L) (lo hi : Int) (k0 : 0 ≤ lo) (k1 : lo < 18446744073709551616) :
    Calls Tryz.prog 132 #[.pointer (some ⟨b, 0, none⟩), .int .u64 lo, .int .u64 hi] w fun e w' => ∃ Br Bn r cap, e = .returned (.func (.func 143) #[] #[.pointer (some ⟨w.heap.size, 0, none⟩), .pointer (some ⟨w.heap.size + 1, 0, none⟩), .pointer (some ⟨Br, 0, none⟩)]) ∧
      w'.heap[w.heap.size]? = some (.cells #[.int .u64 lo] 23 (0, 0)) ∧ w'.heap[w.heap.size + 1]? = some (.cells #[.int .u64 hi] 23 (0, 0)) ∧ w'.heap[Br]? = some (.cells #[.func (.func 127) #[] #[.pointer (some ⟨Bn, 0, none⟩)]] 173 (0, 0)) ∧
      w'.heap[Bn]? = some (.cells #[.slice (some ⟨r, plc L lo * 3, none⟩) (L.drop (plc L lo)).length cap] 58 (0, 0)) ∧ v.ownBlock = some r ∧ Kp Nu w w' := by
  have K2 : Kp Nu w ((w.alloc (.cells #[.int .u64 lo] 23)).alloc (.cells #[.int .u64 hi] 23)) := (Kp.alloc w _ Nu).andAlloc _
  have FR := from_any (h.nu K2) lo k0 k1
  have x0 : ((w.alloc (.cells #[.int .u64 lo] 23)).alloc (.cells #[.int .u64 hi] 23)).heap[w.heap.size]? = some (.cells #[.int .u64 lo] 23 (0, 0)) := (Below.heap_alloc _ _ _ (by simp)).trans (heap_alloc_new w _)
  have x1 : ((w.alloc (.cells #[.int .u64 lo] 23)).alloc (.cells #[.int .u64 hi] 23)).heap[w.heap.size + 1]? = some (.cells #[.int .u64 hi] 23 (0, 0)) := by
    have := heap_alloc_new (w.alloc (.cells #[.int .u64 lo] 23)) (.cells #[.int .u64 hi] 23)
    rwa [World.size_alloc] at this
  have HX := hide (And.intro x0 (And.intro x1 K2))
  clear x0 x1 K2 h
  go_enter Tryz.func132, Tryz.ntmps132
  go_wp2_with (go_at_call 117; refine FR.mono ?_; rintro e w3 ⟨Bn, r, cap, rfl, hBn, hb, hr, hk⟩)
  go_ret
  have kk := (Kp.alloc w3 (.cells #[.func (.func 127) #[] #[.pointer (some ⟨Bn, 0, none⟩)]] 173) Nu)
  refine ⟨w3.heap.size, Bn, r, cap, rfl, ?_, ?_, heap_alloc_new w3 _, ?_, hr, (HX.out.2.2.andNu hk).andNu kk⟩
  · exact ((hk.andNu kk).block _ (blk_lt HX.out.1) (fun h => h)).trans HX.out.1
  · exact ((hk.andNu kk).block _ (blk_lt HX.out.2.1) (fun h => h)).trans HX.out.2.1
  · exact (kk.block _ (blk_lt hb) (fun h => h)).trans hb
end Go.Proofs.YtmlnglillgplfaaGreat.Rg
