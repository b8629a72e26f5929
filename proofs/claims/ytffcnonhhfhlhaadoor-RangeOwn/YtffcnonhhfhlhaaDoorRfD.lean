import Derived.Test.YtffcnonhhfhlhaaDoorRfQ
namespace Go.Proofs.YtffcnonhhfhlhaaDoor.Rg
open Go.RowKit Go.Shelf Go.Sort
open Go.Proofs.YtffcnonhhfhlhaaDoor.It
set_option linter.unusedVariables false

theorem wiD_len (lo hi : Int) : ∀ L : List Sg, (wiD lo hi L).length ≤ L.length
  | [] => by simp [wiD]
  | s :: r => by
    have h := wiD_len lo hi r
    have h2 : (pcW lo hi s).length ≤ 1 := by unfold pcW; split <;> simp
    rw [wiD_cons, List.length_append, List.length_cons]; omega

set_option maxHeartbeats 1000000 in
theorem refWithin_none (w : World) (u : Value) (L : List Sg) (lim : Int) (hrs : Rs w u L) (hl : L.length ≤ 8192) (lo hi : Int) (hlh : hi < lo) :
    Calls Tryd.prog 13 #[.agg #[.int .i64 lim, u], .int .u64 lo, .int .u64 hi] w fun e w' => e = .returned (.slice none 0 0) ∧ Kp Nu w w' := by
  obtain ⟨rr, off, cap, hu, hc⟩ := hrs
  obtain ⟨N, hN⟩ : ∃ N, L.length = N := ⟨_, rfl⟩
  rw [hN] at hu hl
  obtain ⟨w1, hw1⟩ : ∃ w1, w.alloc (.cells #[.int .i64 lim, u] 29) = w1 := ⟨_, rfl⟩
  have HKA : Hid (Kp Nu w w1) := by rw [← hw1]; exact Kp.alloc w _ Nu
  have b0 : w1.heap[w.heap.size]? = some (.cells #[.int .i64 lim, u] 29 (0, 0)) := by rw [← hw1]; exact heap_alloc_new w _
  obtain ⟨_, cb⟩ := cell2' b0
  have hn : ¬ lo ≤ hi := by omega
  subst hu
  clear hc hN b0
  go_enter Tryd.func13, Tryd.ntmps13
  go_wp2_with fail
  go_loopw [7, 8] (fun l i wr => l = .slice none 0 0 ∧ i = .int .i64 0 ∧ wr = w1) (fun _ _ _ => 0)
  case atStart => exact ⟨rfl, rfl, rfl⟩
  case round =>
    obtain ⟨rfl, rfl, rfl⟩ := hrel
    by_cases h0 : (0 : Int) < (N : Int)
    · go_wp2
      go_ret
      exact ⟨rfl, HKA.out⟩
    · go_wp2
      go_ret
      exact ⟨rfl, HKA.out⟩

set_option maxRecDepth 100000 in
set_option maxHeartbeats 8000000 in
theorem refWithin_any (w : World) (u : Value) (L : List Sg) (lim : Int) (hrs : Rs w u L) (hl : L.length ≤ 8192) (lo hi : Int) (hlh : lo ≤ hi) :
    Calls Tryd.prog 13 #[.agg #[.int .i64 lim, u], .int .u64 lo, .int .u64 hi] w fun e w' => ∃ u', e = .returned u' ∧ w'.ownsRow w.heap.size 26 3 u' (wiD lo hi L).length (cells (wiD lo hi L)) ∧ Kp Nu w w' := by
  have mixed : Tryd.prog.follows .mixedOrders = true := by kernel_rfl
  obtain ⟨rr, off, cap, hu, hc⟩ := hrs
  have HC := hide hc
  obtain ⟨N, hN⟩ : ∃ N, L.length = N := ⟨_, rfl⟩
  rw [hN] at hu hl
  have HN := hide hN
  obtain ⟨w1, hw1⟩ : ∃ w1, w.alloc (.cells #[.int .i64 lim, u] 29) = w1 := ⟨_, rfl⟩
  have HKA : Hid (Kp Nu w w1) := by rw [← hw1]; exact Kp.alloc w _ Nu
  have HB0 : Hid (w1.heap[w.heap.size]? = some (.cells #[.int .i64 lim, u] 29 (0, 0))) := by rw [← hw1]; exact heap_alloc_new w _
  subst hu
  clear hc hN
  go_enter Tryd.func13, Tryd.ntmps13
  go_wp2_with fail
  go_loopw [7, 8] (fun l i wr => ∃ (k n : Nat) (adl : Option Addr) (cpl : Nat), k ≤ N ∧ i = .int .i64 (k : Int) ∧ l = .slice adl n cpl ∧ n ≤ 8192 ∧ Hid ((wiD lo hi (L.take k)).length = n ∧ wr.ownsRow w1.heap.size 26 3 (.slice adl n cpl) n (cells (wiD lo hi (L.take k))) ∧ Kp Nu w1 wr)) (fun _ i _ => N - (intOf i).toNat)
  case atStart => exact ⟨0, 0, none, 0, by omega, rfl, rfl, by omega, ⟨rfl, ⟨rfl, .inl ⟨rfl, rfl⟩⟩, Kp.refl _ _⟩⟩
  case round =>
    obtain ⟨k, n, adl, cpl, hk, rfl, rfl, hn, hI⟩ := hrel
    have cb : wr.cell? ⟨w.heap.size, 1, none⟩ = some (.slice (some ⟨rr, off, none⟩) N cap) := (cell2' ((hI.out.2.2.block _ (blk_lt HB0.out) (fun h => h)).trans HB0.out)).2
    by_cases hlt : k < N
    · have hkL : k < L.length := by rw [HN.out]; exact hlt
      obtain ⟨s, hs⟩ : ∃ s, L[k]? = some s := ⟨_, List.getElem?_eq_getElem hkL⟩
      obtain ⟨hln, hown, hkp⟩ := hI.out
      obtain ⟨c0, c1, c2⟩ := HC.out k s hs
      replace c0 := cell_nu c0 (HKA.out.andNu hkp)
      replace c1 := cell_nu c1 (HKA.out.andNu hkp)
      replace c2 := cell_nu c2 (HKA.out.andNu hkp)
      have hltI : (k : Int) < (N : Int) := by omega
      have hkz : (0 : Int) ≤ (k : Int) := by omega
      have hkN : (k : Int) ≤ 8192 := by omega
      have e1 : L.take (k + 1) = L.take k ++ [s] := by rw [List.take_add_one, hs, Option.toList_some]
      have hlen2 := wiD_len lo hi (L.take (k + 1))
      have hn2 : (wiD lo hi (L.take (k + 1))).length ≤ 8192 := by simp at hlen2; omega
      have HE : Hid (wiD lo hi (L.take (k + 1)) = wiD lo hi (L.take k) ++ pcW lo hi s) := by
        show wiD lo hi (L.take (k + 1)) = _
        rw [e1, wiD_snoc]
      obtain ⟨V0, hV0⟩ : ∃ V0, wr.alloc (.cells #[.int .u64 s.lo, .int .u64 s.hi, .int .u8 s.h] 26) = V0 := ⟨_, rfl⟩
      have HK0 : Hid (Kp Nu w1 V0) := by rw [← hV0]; exact hkp.andAlloc _
      have HO0 : Hid (V0.ownsRow w1.heap.size 26 3 (.slice adl n cpl) n (cells (wiD lo hi (L.take k)))) := by rw [← hV0]; exact hown.alloc _
      have HX0 : Hid (V0.heap[wr.heap.size]? = some (.cells #[.int .u64 s.lo, .int .u64 s.hi, .int .u8 s.h] 26 (0, 0))) := by rw [← hV0]; exact heap_alloc_new wr _
      have HY0 : Hid ((Value.slice adl n cpl).ownBlock ≠ some wr.heap.size) := fun e => by have := own_lt hown e; omega
      have HLn := hide hln
      have hsz0 := hkp.size
      clear hI hown hkp hs hkL hln
      by_cases b1 : lo ≤ s.hi
      · by_cases b2 : s.lo ≤ hi
        · have hP : wiD lo hi (L.take (k + 1)) = wiD lo hi (L.take k) ++ [⟨max s.lo lo, min s.hi hi, s.h⟩] := by
            rw [HE.out]; unfold pcW; rw [if_pos ⟨b1, b2⟩]; rfl
          have hPl : (wiD lo hi (L.take (k + 1))).length = n + 1 := by rw [hP, ← HLn.out]; simp
          obtain ⟨a1, ca1, V1, hrun, owx, kpx, bxx, nex⟩ := app_run (max s.lo lo) (min s.hi hi) s.h HK0.out HO0.out (by omega) HX0.out HY0.out
          have HR := hide hrun
          have HO1 := hide owx
          have HK1 := hide kpx
          obtain ⟨z0, z1, z2⟩ := segC_of HX0.out
          have kkx := segC_of bxx
          unfold SegC at kkx
          clear hrun owx kpx bxx nex
          go_wp2_with fail
          go_region_held_law (fun W => W.cell? ⟨wr.heap.size, 0, none⟩ = some (.int .u64 s.lo) ∧ W.cell? ⟨wr.heap.size, 1, none⟩ = some (.int .u64 s.hi) ∧ W.cell? ⟨wr.heap.size, 2, none⟩ = some (.int .u8 s.h)) (first | exact kkx | go_keep) (first
            | (refine step_append_run rfl (.tmp 37) (.tmp 49) 22 22 rfl _ _ rfl rfl _ _ HR.out ?_)
            | (go_at_call 42; refine (more_any _ _ _).mono ?_; rintro e w' ⟨rfl, hw'⟩; obtain rfl := hw'.symm)
            | (go_at_call 43; refine (less_any _ _ _).mono ?_; rintro e w' ⟨rfl, hw'⟩; obtain rfl := hw'.symm))
          clear z0 z1 z2 kkx
          go_wp2
          refine ⟨⟨k + 1, n + 1, _, _, by omega, by go_num, rfl, by omega, ⟨hPl, ?_, HK1.out⟩⟩, by simp [intOf]; omega⟩
          have h := HO1.out
          rw [hP, cells_append]
          exact h
        · have hP : wiD lo hi (L.take (k + 1)) = wiD lo hi (L.take k) := by
            rw [HE.out]; unfold pcW; rw [if_neg (fun h => b2 h.2)]; simp
          obtain ⟨z0, z1, z2⟩ := segC_of HX0.out
          go_wp2
          refine ⟨⟨k + 1, n, _, _, by omega, by go_num, rfl, by omega, ⟨by rw [hP]; exact HLn.out, ?_, HK0.out⟩⟩, by simp [intOf]; omega⟩
          rw [hP]
          exact HO0.out
      · have hP : wiD lo hi (L.take (k + 1)) = wiD lo hi (L.take k) := by
          rw [HE.out]; unfold pcW; rw [if_neg (fun h => b1 h.1)]; simp
        obtain ⟨z0, z1, z2⟩ := segC_of HX0.out
        go_wp2
        refine ⟨⟨k + 1, n, _, _, by omega, by go_num, rfl, by omega, ⟨by rw [hP]; exact HLn.out, ?_, HK0.out⟩⟩, by simp [intOf]; omega⟩
        rw [hP]
        exact HO0.out
    · obtain ⟨hln, hown, hkp⟩ := hI.out
      have hge : ¬ (k : Int) < (N : Int) := by omega
      rw [List.take_of_length_le (by rw [HN.out]; omega)] at hown hln
      have HF : Hid (wr.ownsRow w.heap.size 26 3 (.slice adl n cpl) (wiD lo hi L).length (cells (wiD lo hi L)) ∧ Kp Nu w wr) := ⟨own_base (by rw [hln]; exact hown) HKA.out.size, HKA.out.andNu hkp⟩
      clear hI hown hkp hln
      go_wp2
      go_ret
      exact ⟨_, rfl, HF.out⟩
end Go.Proofs.YtffcnonhhfhlhaaDoor.Rg
