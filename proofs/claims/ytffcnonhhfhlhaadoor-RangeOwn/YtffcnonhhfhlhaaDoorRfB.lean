import Derived.Test.YtffcnonhhfhlhaaDoorRfQ
namespace Go.Proofs.YtffcnonhhfhlhaaDoor.Rg
open Go.RowKit Go.Shelf Go.Sort
open Go.Proofs.YtffcnonhhfhlhaaDoor.It
set_option linter.unusedVariables false

set_option maxRecDepth 100000 in
set_option maxHeartbeats 60000000 in
theorem refCut_any (w : World) (u : Value) (L : List Sg) (hrs : Rs w u L) (hl : L.length ≤ 8192) (hb : ∀ s ∈ L, SgB s) (hor : ∀ s ∈ L, s.lo ≤ s.hi) (lo hi o : Int) (k0 : 0 ≤ lo) (hlh : lo ≤ hi) (k1 : hi < 18446744073709551616) (o0 : 0 ≤ o) (o1 : o < 256) :
    Calls Tryd.prog 49 #[u, .int .u64 lo, .int .u64 hi, .int .u8 o] w fun e w' => ∃ u', e = .returned u' ∧ w'.ownsRow w.heap.size 26 3 u' (lays [] (cutD lo hi o L)).length (cells (lays [] (cutD lo hi o L))) ∧ Kp Nu w w' := by
  have mixed : Tryd.prog.follows .mixedOrders = true := by kernel_rfl
  obtain ⟨rr, off, cap, hu, hc⟩ := hrs
  have HC := hide hc
  have HB := hide hb
  have HOR := hide hor
  obtain ⟨N, hN⟩ : ∃ N, L.length = N := ⟨_, rfl⟩
  rw [hN] at hu hl
  have HN := hide hN
  subst hu
  clear hc hb hN hor
  go_enter Tryd.func49, Tryd.ntmps49
  go_wp2_with fail
  go_loopw [9, 10] (fun l i wr => ∃ (k n : Nat) (adl : Option Addr) (cpl : Nat), k ≤ N ∧ i = .int .i64 (k : Int) ∧ l = .slice adl n cpl ∧ n ≤ 24576 ∧ Hid ((cutD lo hi o (L.take k)).length = n ∧ wr.ownsRow w.heap.size 26 3 (.slice adl n cpl) n (cells (cutD lo hi o (L.take k))) ∧ Kp Nu w wr)) (fun _ i _ => N - (intOf i).toNat)
  case atStart => exact ⟨0, 0, none, 0, by omega, rfl, rfl, by omega, ⟨rfl, ⟨rfl, .inl ⟨rfl, rfl⟩⟩, Kp.refl _ _⟩⟩
  case round =>
    obtain ⟨k, n, adl, cpl, hk, rfl, rfl, hn, hI⟩ := hrel
    by_cases hlt : k < N
    · have hkL : k < L.length := by rw [HN.out]; exact hlt
      obtain ⟨s, hs⟩ : ∃ s, L[k]? = some s := ⟨_, List.getElem?_eq_getElem hkL⟩
      have hsb := HB.out s (List.mem_of_getElem? hs)
      have hso := HOR.out s (List.mem_of_getElem? hs)
      obtain ⟨hln, hown, hkp⟩ := hI.out
      obtain ⟨c0, c1, c2⟩ := HC.out k s hs
      replace c0 := cell_nu c0 hkp
      replace c1 := cell_nu c1 hkp
      replace c2 := cell_nu c2 hkp
      have hltI : (k : Int) < (N : Int) := by omega
      have hkz : (0 : Int) ≤ (k : Int) := by omega
      have hkN : (k : Int) ≤ 8192 := by omega
      obtain ⟨l0, l1, x0, x1, q0, q1⟩ := hsb
      have e1 : L.take (k + 1) = L.take k ++ [s] := by rw [List.take_add_one, hs, Option.toList_some]
      have hlen2 := cutD_len lo hi o (L.take (k + 1))
      have hn2 : (cutD lo hi o (L.take (k + 1))).length ≤ 24576 := by simp at hlen2; omega
      have HE : Hid (cutD lo hi o (L.take (k + 1)) = cutD lo hi o (L.take k) ++ pcA lo s ++ pcB lo hi o s ++ pcC hi s) := by
        show cutD lo hi o (L.take (k + 1)) = _
        rw [e1, cutD_snoc]
      obtain ⟨V0, hV0⟩ : ∃ V0, wr.alloc (.cells #[.int .u64 s.lo, .int .u64 s.hi, .int .u8 s.h] 26) = V0 := ⟨_, rfl⟩
      have HK0 : Hid (Kp Nu w V0) := by rw [← hV0]; exact hkp.andAlloc _
      have HO0 : Hid (V0.ownsRow w.heap.size 26 3 (.slice adl n cpl) n (cells (cutD lo hi o (L.take k)))) := by rw [← hV0]; exact hown.alloc _
      have HX0 : Hid (V0.heap[wr.heap.size]? = some (.cells #[.int .u64 s.lo, .int .u64 s.hi, .int .u8 s.h] 26 (0, 0))) := by rw [← hV0]; exact heap_alloc_new wr _
      have HY0 : Hid ((Value.slice adl n cpl).ownBlock ≠ some wr.heap.size) := fun e => by have := own_lt hown e; omega
      have HLn := hide hln
      have hsz0 := hkp.size
      clear hI hown hkp hs hkL hln
      by_cases hA : s.lo < lo
      · have hwA : IntKind.u64.wrap (lo - 1) = lo - 1 := by rw [IntKind.wrap_u64]; omega
        obtain ⟨a1, ca1, V1, hrunV1, owV1, kpV1, bxV1, neV1⟩ := app_run s.lo (min s.hi (lo - 1)) s.h HK0.out HO0.out (by omega) HX0.out HY0.out
        have HRV1 := hide hrunV1
        have HO1 := hide owV1
        have HK1 := hide kpV1
        have HX1 := hide bxV1
        have HY1 := hide neV1
        obtain ⟨z0, z1, z2⟩ := segC_of HX0.out
        have kkV1 := segC_of bxV1
        unfold SegC at kkV1
        clear hrunV1 owV1 kpV1 bxV1 neV1
        go_wp2_with fail
        go_region_held_law (fun W => W.cell? ⟨wr.heap.size, 0, none⟩ = some (.int .u64 s.lo) ∧ W.cell? ⟨wr.heap.size, 1, none⟩ = some (.int .u64 s.hi) ∧ W.cell? ⟨wr.heap.size, 2, none⟩ = some (.int .u8 s.h)) (first | exact kkV1 | go_keep) (first
          | (refine step_append_run rfl (.tmp 26) (.tmp 37) 22 22 rfl _ _ rfl rfl _ _ HRV1.out ?_)
          | (go_at_call 42; refine (more_any _ _ _).mono ?_; rintro e w' ⟨rfl, hw'⟩; obtain rfl := hw'.symm)
          | (go_at_call 43; refine (less_any _ _ _).mono ?_; rintro e w' ⟨rfl, hw'⟩; obtain rfl := hw'.symm))
        clear z0 z1 z2 kkV1
        by_cases b1 : lo ≤ s.hi
        · have b2 : s.lo ≤ hi := by omega
          have hB : lo ≤ s.hi ∧ s.lo ≤ hi := ⟨b1, b2⟩
          obtain ⟨a2, ca2, V2, hrunV2, owV2, kpV2, bxV2, neV2⟩ := app_run (max s.lo lo) (min s.hi hi) o HK1.out HO1.out (by omega) HX1.out HY1.out
          have HRV2 := hide hrunV2
          have HO2 := hide owV2
          have HK2 := hide kpV2
          have HX2 := hide bxV2
          have HY2 := hide neV2
          obtain ⟨z0, z1, z2⟩ := segC_of HX1.out
          have kkV2 := segC_of bxV2
          unfold SegC at kkV2
          clear hrunV2 owV2 kpV2 bxV2 neV2
          go_wp2_with fail
          go_region_held_law (fun W => W.cell? ⟨wr.heap.size, 0, none⟩ = some (.int .u64 s.lo) ∧ W.cell? ⟨wr.heap.size, 1, none⟩ = some (.int .u64 s.hi) ∧ W.cell? ⟨wr.heap.size, 2, none⟩ = some (.int .u8 s.h)) (first | exact kkV2 | go_keep) (first
            | (refine step_append_run rfl (.tmp 49) (.tmp 60) 22 22 rfl _ _ rfl rfl _ _ HRV2.out ?_)
            | (go_at_call 42; refine (more_any _ _ _).mono ?_; rintro e w' ⟨rfl, hw'⟩; obtain rfl := hw'.symm)
            | (go_at_call 43; refine (less_any _ _ _).mono ?_; rintro e w' ⟨rfl, hw'⟩; obtain rfl := hw'.symm))
          clear z0 z1 z2 kkV2
          by_cases hC : hi < s.hi
          · have hwC : IntKind.u64.wrap (hi + 1) = hi + 1 := by rw [IntKind.wrap_u64]; omega
            obtain ⟨a3, ca3, V3, hrunV3, owV3, kpV3, bxV3, neV3⟩ := app_run (max s.lo (hi + 1)) s.hi s.h HK2.out HO2.out (by omega) HX2.out HY2.out
            have HRV3 := hide hrunV3
            have HO3 := hide owV3
            have HK3 := hide kpV3
            have HX3 := hide bxV3
            have HY3 := hide neV3
            obtain ⟨z0, z1, z2⟩ := segC_of HX2.out
            have kkV3 := segC_of bxV3
            unfold SegC at kkV3
            clear hrunV3 owV3 kpV3 bxV3 neV3
            go_wp2_with fail
            go_region_held_law (fun W => W.cell? ⟨wr.heap.size, 0, none⟩ = some (.int .u64 s.lo) ∧ W.cell? ⟨wr.heap.size, 1, none⟩ = some (.int .u64 s.hi) ∧ W.cell? ⟨wr.heap.size, 2, none⟩ = some (.int .u8 s.h)) (first | exact kkV3 | go_keep) (first
              | (refine step_append_run rfl (.tmp 66) (.tmp 77) 22 22 rfl _ _ rfl rfl _ _ HRV3.out ?_)
              | (go_at_call 42; refine (more_any _ _ _).mono ?_; rintro e w' ⟨rfl, hw'⟩; obtain rfl := hw'.symm)
              | (go_at_call 43; refine (less_any _ _ _).mono ?_; rintro e w' ⟨rfl, hw'⟩; obtain rfl := hw'.symm))
            clear z0 z1 z2 kkV3
            have hP : cutD lo hi o (L.take (k + 1)) = cutD lo hi o (L.take k) ++ [⟨s.lo, (min s.hi (lo - 1)), s.h⟩] ++ [⟨(max s.lo lo), (min s.hi hi), o⟩] ++ [⟨(max s.lo (hi + 1)), s.hi, s.h⟩] := by
              rw [HE.out]
              unfold pcA pcB pcC
              rw [if_pos (by omega), if_pos (by omega), if_pos (by omega)]
              (try simp)
            have hPl : (cutD lo hi o (L.take (k + 1))).length = n + 1 + 1 + 1 := by rw [hP, ← HLn.out]; simp
            go_wp2
            refine ⟨⟨k + 1, n + 1 + 1 + 1, _, _, by omega, by go_num, rfl, by omega, ⟨hPl, ?_, HK3.out⟩⟩, by simp [intOf]; omega⟩
            have h := HO3.out
            rw [hP]
            simp only [cells_append]
            exact h
          · have hP : cutD lo hi o (L.take (k + 1)) = cutD lo hi o (L.take k) ++ [⟨s.lo, (min s.hi (lo - 1)), s.h⟩] ++ [⟨(max s.lo lo), (min s.hi hi), o⟩] := by
              rw [HE.out]
              unfold pcA pcB pcC
              rw [if_pos (by omega), if_pos (by omega), if_neg (by omega)]
              (try simp)
            have hPl : (cutD lo hi o (L.take (k + 1))).length = n + 1 + 1 := by rw [hP, ← HLn.out]; simp
            go_wp2
            refine ⟨⟨k + 1, n + 1 + 1, _, _, by omega, by go_num, rfl, by omega, ⟨hPl, ?_, HK2.out⟩⟩, by simp [intOf]; omega⟩
            have h := HO2.out
            rw [hP]
            simp only [cells_append]
            exact h
        · have hB : ¬ (lo ≤ s.hi ∧ s.lo ≤ hi) := fun h => b1 h.1
          have hC : ¬ hi < s.hi := by omega
          have hP : cutD lo hi o (L.take (k + 1)) = cutD lo hi o (L.take k) ++ [⟨s.lo, (min s.hi (lo - 1)), s.h⟩] := by
            rw [HE.out]
            unfold pcA pcB pcC
            rw [if_pos (by omega), if_neg (by omega), if_neg (by omega)]
            (try simp)
          have hPl : (cutD lo hi o (L.take (k + 1))).length = n + 1 := by rw [hP, ← HLn.out]; simp
          go_wp2
          refine ⟨⟨k + 1, n + 1, _, _, by omega, by go_num, rfl, by omega, ⟨hPl, ?_, HK1.out⟩⟩, by simp [intOf]; omega⟩
          have h := HO1.out
          rw [hP]
          simp only [cells_append]
          exact h
      · have b1 : lo ≤ s.hi := by omega
        by_cases b2 : s.lo ≤ hi
        · have hB : lo ≤ s.hi ∧ s.lo ≤ hi := ⟨b1, b2⟩
          obtain ⟨a4, ca4, V4, hrunV4, owV4, kpV4, bxV4, neV4⟩ := app_run (max s.lo lo) (min s.hi hi) o HK0.out HO0.out (by omega) HX0.out HY0.out
          have HRV4 := hide hrunV4
          have HO4 := hide owV4
          have HK4 := hide kpV4
          have HX4 := hide bxV4
          have HY4 := hide neV4
          obtain ⟨z0, z1, z2⟩ := segC_of HX0.out
          have kkV4 := segC_of bxV4
          unfold SegC at kkV4
          clear hrunV4 owV4 kpV4 bxV4 neV4
          go_wp2_with fail
          go_region_held_law (fun W => W.cell? ⟨wr.heap.size, 0, none⟩ = some (.int .u64 s.lo) ∧ W.cell? ⟨wr.heap.size, 1, none⟩ = some (.int .u64 s.hi) ∧ W.cell? ⟨wr.heap.size, 2, none⟩ = some (.int .u8 s.h)) (first | exact kkV4 | go_keep) (first
            | (refine step_append_run rfl (.tmp 49) (.tmp 60) 22 22 rfl _ _ rfl rfl _ _ HRV4.out ?_)
            | (go_at_call 42; refine (more_any _ _ _).mono ?_; rintro e w' ⟨rfl, hw'⟩; obtain rfl := hw'.symm)
            | (go_at_call 43; refine (less_any _ _ _).mono ?_; rintro e w' ⟨rfl, hw'⟩; obtain rfl := hw'.symm))
          clear z0 z1 z2 kkV4
          by_cases hC : hi < s.hi
          · have hwC : IntKind.u64.wrap (hi + 1) = hi + 1 := by rw [IntKind.wrap_u64]; omega
            obtain ⟨a5, ca5, V5, hrunV5, owV5, kpV5, bxV5, neV5⟩ := app_run (max s.lo (hi + 1)) s.hi s.h HK4.out HO4.out (by omega) HX4.out HY4.out
            have HRV5 := hide hrunV5
            have HO5 := hide owV5
            have HK5 := hide kpV5
            have HX5 := hide bxV5
            have HY5 := hide neV5
            obtain ⟨z0, z1, z2⟩ := segC_of HX4.out
            have kkV5 := segC_of bxV5
            unfold SegC at kkV5
            clear hrunV5 owV5 kpV5 bxV5 neV5
            go_wp2_with fail
            go_region_held_law (fun W => W.cell? ⟨wr.heap.size, 0, none⟩ = some (.int .u64 s.lo) ∧ W.cell? ⟨wr.heap.size, 1, none⟩ = some (.int .u64 s.hi) ∧ W.cell? ⟨wr.heap.size, 2, none⟩ = some (.int .u8 s.h)) (first | exact kkV5 | go_keep) (first
              | (refine step_append_run rfl (.tmp 66) (.tmp 77) 22 22 rfl _ _ rfl rfl _ _ HRV5.out ?_)
              | (go_at_call 42; refine (more_any _ _ _).mono ?_; rintro e w' ⟨rfl, hw'⟩; obtain rfl := hw'.symm)
              | (go_at_call 43; refine (less_any _ _ _).mono ?_; rintro e w' ⟨rfl, hw'⟩; obtain rfl := hw'.symm))
            clear z0 z1 z2 kkV5
            have hP : cutD lo hi o (L.take (k + 1)) = cutD lo hi o (L.take k) ++ [⟨(max s.lo lo), (min s.hi hi), o⟩] ++ [⟨(max s.lo (hi + 1)), s.hi, s.h⟩] := by
              rw [HE.out]
              unfold pcA pcB pcC
              rw [if_neg (by omega), if_pos (by omega), if_pos (by omega)]
              (try simp)
            have hPl : (cutD lo hi o (L.take (k + 1))).length = n + 1 + 1 := by rw [hP, ← HLn.out]; simp
            go_wp2
            refine ⟨⟨k + 1, n + 1 + 1, _, _, by omega, by go_num, rfl, by omega, ⟨hPl, ?_, HK5.out⟩⟩, by simp [intOf]; omega⟩
            have h := HO5.out
            rw [hP]
            simp only [cells_append]
            exact h
          · have hP : cutD lo hi o (L.take (k + 1)) = cutD lo hi o (L.take k) ++ [⟨(max s.lo lo), (min s.hi hi), o⟩] := by
              rw [HE.out]
              unfold pcA pcB pcC
              rw [if_neg (by omega), if_pos (by omega), if_neg (by omega)]
              (try simp)
            have hPl : (cutD lo hi o (L.take (k + 1))).length = n + 1 := by rw [hP, ← HLn.out]; simp
            go_wp2
            refine ⟨⟨k + 1, n + 1, _, _, by omega, by go_num, rfl, by omega, ⟨hPl, ?_, HK4.out⟩⟩, by simp [intOf]; omega⟩
            have h := HO4.out
            rw [hP]
            simp only [cells_append]
            exact h
        · have hB : ¬ (lo ≤ s.hi ∧ s.lo ≤ hi) := fun h => b2 h.2
          have hC : hi < s.hi := by omega
          have hwC : IntKind.u64.wrap (hi + 1) = hi + 1 := by rw [IntKind.wrap_u64]; omega
          obtain ⟨a6, ca6, V6, hrunV6, owV6, kpV6, bxV6, neV6⟩ := app_run (max s.lo (hi + 1)) s.hi s.h HK0.out HO0.out (by omega) HX0.out HY0.out
          have HRV6 := hide hrunV6
          have HO6 := hide owV6
          have HK6 := hide kpV6
          have HX6 := hide bxV6
          have HY6 := hide neV6
          obtain ⟨z0, z1, z2⟩ := segC_of HX0.out
          have kkV6 := segC_of bxV6
          unfold SegC at kkV6
          clear hrunV6 owV6 kpV6 bxV6 neV6
          go_wp2_with fail
          go_region_held_law (fun W => W.cell? ⟨wr.heap.size, 0, none⟩ = some (.int .u64 s.lo) ∧ W.cell? ⟨wr.heap.size, 1, none⟩ = some (.int .u64 s.hi) ∧ W.cell? ⟨wr.heap.size, 2, none⟩ = some (.int .u8 s.h)) (first | exact kkV6 | go_keep) (first
            | (refine step_append_run rfl (.tmp 66) (.tmp 77) 22 22 rfl _ _ rfl rfl _ _ HRV6.out ?_)
            | (go_at_call 42; refine (more_any _ _ _).mono ?_; rintro e w' ⟨rfl, hw'⟩; obtain rfl := hw'.symm)
            | (go_at_call 43; refine (less_any _ _ _).mono ?_; rintro e w' ⟨rfl, hw'⟩; obtain rfl := hw'.symm))
          clear z0 z1 z2 kkV6
          have hP : cutD lo hi o (L.take (k + 1)) = cutD lo hi o (L.take k) ++ [⟨(max s.lo (hi + 1)), s.hi, s.h⟩] := by
            rw [HE.out]
            unfold pcA pcB pcC
            rw [if_neg (by omega), if_neg (by omega), if_pos (by omega)]
            (try simp)
          have hPl : (cutD lo hi o (L.take (k + 1))).length = n + 1 := by rw [hP, ← HLn.out]; simp
          go_wp2
          refine ⟨⟨k + 1, n + 1, _, _, by omega, by go_num, rfl, by omega, ⟨hPl, ?_, HK6.out⟩⟩, by simp [intOf]; omega⟩
          have h := HO6.out
          rw [hP]
          simp only [cells_append]
          exact h
    · obtain ⟨hln, hown, hkp⟩ := hI.out
      have hge : ¬ (k : Int) < (N : Int) := by omega
      rw [List.take_of_length_le (by rw [HN.out]; omega)] at hown hln
      have hl3 := cutD_len lo hi o L
      have JN := join_any wr (.slice adl n cpl) (cutD lo hi o L) (sgs_of_own (by rw [hln]; exact hown) (cutD_sgb k0 hlh k1 o0 o1 HB.out)) (by omega)
      have HKP := hide hkp
      clear hI hown hkp hln hl3
      go_wp2_with fail
      refine JN.mono ?_; rintro e w5 ⟨u', rfl, ho5, hk5⟩
      obtain ⟨ad5, cp5, hu5⟩ := own_slice ho5
      have HF := hide (And.intro (own_base ho5 HKP.out.size) (HKP.out.andNu hk5))
      generalize (lays [] (cutD lo hi o L)).length = N5 at hu5
      subst hu5
      clear JN ho5 hk5
      go_wp2
      go_ret
      exact ⟨_, rfl, HF.out⟩
end Go.Proofs.YtffcnonhhfhlhaaDoor.Rg
