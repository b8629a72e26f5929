import Derived.Test.YtcbonbeogdgogaaLrL
import Derived.Test.YtcbonbeogdgogaaLrK
import Derived.Test.YtcbonbeogdgogaaLoI
import Derived.Test.YtcbonbeogdgogaaLrN
namespace Go.Proofs.Ytcbonbeogdgogaa.Li
open Go.RowKit
set_option linter.unusedVariables false
set_option maxRecDepth 100000 in
set_option maxHeartbeats 2000000 in
theorem index86k (w : World) (u : Value) (L : List Ca) (hL : Cls w u L) (hN : L.length ≤ 16) (bx : Nat) (hb : w.cell? ⟨bx, 0, none⟩ = some u) : Calls Try.prog 86 #[u, .func (.func 60) #[] #[.pointer (some ⟨bx, 0, none⟩)]] w fun e w' => ∃ j : Int, e = .returned (.int .i64 j) ∧ Hid (0 ≤ j ↔ ¬ OneK L) ∧ Kp Nu w w' := by
  obtain ⟨ua, uc, rfl⟩ := hL.slice
  obtain ⟨N, eN⟩ : ∃ N, L.length = N := ⟨_, rfl⟩
  have HL := hide (And.intro hL (And.intro eN hb))
  rw [eN] at hN ⊢
  have hNI : (N : Int) ≤ 16 := by omega
  clear hL eN hN hb
  go_enter Try.func86, Try.ntmps86
  go_wp2
  go_loopw [8] (fun iv wr => ∃ i : Nat, iv = .int .i64 (i : Int) ∧ i ≤ N ∧ Hid (Kp Nu w wr ∧ ∀ j c, j < i → L[j]? = some c → ¬ c.k = 5 ∧ ∀ d, L[0]? = some d → c.key = d.key)) (fun iv _ => N - (intOf iv).toNat)
  case atStart => exact ⟨0, rfl, Nat.zero_le _, hide ⟨Kp.refl _ _, fun j c hj => by omega⟩⟩
  case round =>
    obtain ⟨i, rfl, hi, hI⟩ := hrel
    have hi0 : (0 : Int) ≤ (i : Int) := by omega
    by_cases hlt : i < N
    · have hltI : (i : Int) < (N : Int) := by omega
      obtain ⟨c, hc⟩ : ∃ c, L[i]? = some c := ⟨_, List.getElem?_eq_getElem (by rw [HL.out.2.1]; exact hlt)⟩
      obtain ⟨d, hd⟩ : ∃ d, L[0]? = some d := ⟨_, List.getElem?_eq_getElem (by rw [HL.out.2.1]; omega)⟩
      obtain ⟨b, off, cap, eu, hR, ok⟩ := cls_at (HL.out.1.nu hI.out.1) hc
      obtain ⟨b2, off2, cap2, eu2, hR2, ok2⟩ := cls_at (HL.out.1.nu hI.out.1) hd
      rw [HL.out.2.1] at eu eu2
      simp only [Value.slice.injEq, true_and] at eu
      obtain ⟨rfl, rfl⟩ := eu
      simp only [Value.slice.injEq, Option.some.injEq, Addr.mk.injEq, true_and, and_true] at eu2
      obtain ⟨⟨rfl, rfl⟩, ex2⟩ := eu2
      clear ex2
      obtain ⟨_, _, _, z3, _⟩ := range_cells hR2
      rw [Nat.zero_mul, Nat.add_zero] at z3
      obtain ⟨r0, r1, r2, r3, r4, r5, r6, r7, r8, r9, r10, r11, r12⟩ := range_cells hR
      have hbx : wr.cell? ⟨bx, 0, none⟩ = some (.slice (some ⟨b, off, none⟩) N uc) := by
        have q := HL.out.2.2
        rw [HL.out.2.1] at q
        exact (World.cell?_of_block (hI.out.1.block _ (World.block_lt_of_cell? w _ q) (fun h => h))).trans q
      have MY := one60 wr c bx b off N uc d.key (by omega) hbx z3
      have HC := hide (And.intro hc hd)
      clear hR hR2 ok ok2 hc hd z3 hbx
      go_wp2_with fail
      refine MY.mono ?_; rintro e w1 ⟨⟨bb, rfl, hb⟩, hk1⟩
      have HB := hide hb
      have HK := hide (hI.out.1.andNu hk1)
      clear MY hb hk1 r0 r1 r2 r3 r4 r5 r6 r7 r8 r9 r10 r11 r12
      cases bb with
      | true =>
        go_wp2
        go_ret
        refine ⟨_, rfl, hide ?_, HK.out⟩
        have h1 := HB.out.1 (by simp)
        refine ⟨fun _ h => ?_, fun _ => by omega⟩
        obtain ⟨q1, q2⟩ := h c (List.mem_of_getElem? HC.out.1)
        rcases h1 with h1 | h1
        · exact q1 h1
        · exact h1 (q2 d HC.out.2)
      | false =>
        go_wp2
        refine ⟨⟨i + 1, by go_num, by omega, hide ⟨HK.out, fun j c2 hj hd => ?_⟩⟩, by simp [intOf]; omega⟩
        by_cases e : j = i
        · subst e
          rw [HC.out.1] at hd
          cases hd
          have h1 : ¬ (c.k = 5 ∨ ¬ c.key = d.key) := fun h => by have := HB.out.2 h; simp at this
          refine ⟨fun h => h1 (.inl h), fun d2 hd2 => ?_⟩
          rw [HC.out.2] at hd2
          cases hd2
          exact Classical.byContradiction (fun h => h1 (.inr h))
        · exact hI.out.2 j c2 (by omega) hd
    · have hge : ¬ (i : Int) < (N : Int) := by omega
      go_wp2
      go_ret
      refine ⟨_, rfl, hide ?_, hI.out.1⟩
      have hall : OneK L := fun c hc => by
        obtain ⟨j, hj⟩ := List.getElem?_of_mem hc
        have := (List.getElem?_eq_some_iff.1 hj).1
        exact hI.out.2 j c (by have := HL.out.2.1; omega) hj
      exact ⟨fun h => by omega, fun h => absurd hall h⟩
set_option maxHeartbeats 1000000 in
theorem oneKey33 (w : World) (u : Value) (L : List Ca) (hL : Cls w u L) (hN : L.length ≤ 16) : Calls Try.prog 33 #[u] w fun e w' => Ans (OneK L) e ∧ Kp Nu w w' := by
  have kA : Kp Nu w (w.alloc (.cells #[u] 33)) := Kp.alloc _ _ _
  have IA := index86k (w.alloc (.cells #[u] 33)) u L (hL.nu kA) hN w.heap.size (cellAt (heap_new w _) 0 rfl)
  obtain ⟨ua, uc, rfl⟩ := hL.slice
  have CF : Calls Try.prog 58 #[.slice ua L.length uc, .func (.func 60) #[] #[.pointer (some ⟨w.heap.size, 0, none⟩)]] (w.alloc (.cells #[.slice ua L.length uc] 33)) fun e w' => Ans (¬ OneK L) e ∧ Kp Nu (w.alloc (.cells #[.slice ua L.length uc] 33)) w' := by
    clear hL hN kA
    generalize (w.alloc (.cells #[.slice ua L.length uc] 33)) = wB at *
    go_enter Try.func58, Try.ntmps58
    go_wp2_with fail
    refine IA.mono ?_; rintro e w1 ⟨j, rfl, hj, hk1⟩
    have HK := hide hk1
    clear IA hk1
    go_wp2
    go_ret
    exact ⟨⟨_, rfl, by rw [← hj.out]; simp⟩, HK.out⟩
  have HA := hide kA
  clear IA hL hN kA
  go_enter Try.func33, Try.ntmps33
  go_wp2_with fail
  refine CF.mono ?_; rintro e w1 ⟨⟨bb, rfl, hb⟩, hk1⟩
  have HB := hide hb
  have HK := hide (HA.out.andNu hk1)
  clear CF hb hk1
  go_wp2
  go_ret
  refine ⟨⟨_, rfl, ?_⟩, HK.out⟩
  have := HB.out
  cases bb
  · simp at this; simp [this]
  · simp at this; simp [this]
/-- what CheckKey answers -/
def CkR (w : World) (L : List Ca) (e : Ending) (w' : World) : Prop :=
  ∃ ok key ao n co er, e = .returned (.tuple #[.agg #[.bool ok, .int .u64 key, .slice ao n co], .int .i64 er]) ∧ Kp Nu w w' ∧
    ((ok = false ∧ key = 0 ∧ ao = none ∧ n = 0 ∧ co = 0 ∧ (er = 141 ∧ 16 < L.length ∨ er = 140 ∧ L.length ≤ 16 ∧ ¬ (AllMB L ∧ OneK L))) ∨
     (er = 0 ∧ L.length ≤ 16 ∧ AllMB L ∧ OneK L ∧ Vd L w.heap.size w' ok key ao n co))
theorem load41 {w : World} {b : Nat} {c : Array Value} (h : w.heap[b]? = some (.cells c 41 (0, 0))) (hc : c.size = 3) : (loadVar 41 ⟨b, 0, none⟩).run Try.prog w = .ok (.agg c) w :=
  run_loadVar_row w b 41 41 c (0, 0) _ h Try.underlying41 rfl (by rw [hc]; exact info41)
set_option maxRecDepth 100000 in
set_option maxHeartbeats 4000000 in
theorem checkKey14 (w : World) (u : Value) (L : List Ca) (hL : Cls w u L) (hN : L.length ≤ 140737488351232) : Calls Try.prog 14 #[u] w fun e w' => CkR w L e w' := by
  obtain ⟨wA, eA⟩ : ∃ wA, w.alloc (.cells #[.bool false, .int .u64 0, .slice none 0 0] 41) = wA := ⟨_, rfl⟩
  have kA : Kp Nu w wA := by rw [← eA]; exact Kp.alloc _ _ _
  have bA : wA.heap[w.heap.size]? = some (.cells #[.bool false, .int .u64 0, .slice none 0 0] 41 (0, 0)) := by rw [← eA]; exact heap_new w _
  have hsA : wA.heap.size = w.heap.size + 1 := by rw [← eA]; exact World.size_alloc _ _
  have AM := allMayBe32 wA u L (hL.nu kA) hN
  obtain ⟨ua, uc, rfl⟩ := hL.slice
  have y0 := cellAt bA 0 (v := .bool false) rfl
  have y1 := cellAt bA 1 (v := .int .u64 0) rfl
  have y2 := cellAt bA 2 (v := .slice none 0 0) rfl
  have f0 := free3 bA 0
  have f1 := free3 bA 1
  have f2 := free3 bA 2
  have HA := hide (And.intro hL (And.intro kA (And.intro bA hsA)))
  have hNI : (L.length : Int) ≤ 140737488351232 := by omega
  obtain ⟨N, eN⟩ : ∃ N, L.length = N := ⟨_, rfl⟩
  have HN := hide eN
  rw [eN] at AM hNI hN ⊢
  clear hL kA bA hsA hN eN
  by_cases hbig : (N : Int) > 16
  · have d1 : decide ((N : Int) > 16) = true := by simpa using hbig
    have HB := hide hbig
    clear AM hbig
    go_enter Try.func14, Try.ntmps14
    go_wp2
    try rw [eA]
    refine bodyPost_ret (results_two rfl _ _ ⟨w.heap.size, 0, none⟩ _ _ rfl rfl (load41 (set3 (set3 (set3 HA.out.2.2.1 0 _) 1 _) 2 _) rfl)) rfl ?_
    exact ⟨false, 0, none, 0, 0, 141, rfl, kp3 HA.out.2.1 _ _ _, .inl ⟨rfl, rfl, rfl, rfl, rfl, .inl ⟨rfl, by rw [HN.out]; have := HB.out; omega⟩⟩⟩
  have d1 : decide ((N : Int) > 16) = false := by simpa using hbig
  have HB : Hid (N ≤ 16) := hide (by omega)
  clear hbig
  go_enter Try.func14, Try.ntmps14
  go_wp2_with fail
  try rw [eA]
  refine AM.mono ?_; rintro e w1 ⟨⟨b1, rfl, hb1⟩, hk1⟩
  have HB1 := hide hb1
  have k1 := HA.out.2.1.andNu hk1
  have OK := oneKey33 w1 _ L (HA.out.1.nu k1) (by rw [HN.out]; exact HB.out)
  rw [HN.out] at OK
  have bA1 := box_k HA.out.2.2.1 hk1
  have z0 := cellAt bA1 0 (v := .bool false) rfl
  have z1 := cellAt bA1 1 (v := .int .u64 0) rfl
  have z2 := cellAt bA1 2 (v := .slice none 0 0) rfl
  have g0 := free3 bA1 0
  have g1 := free3 bA1 1
  have g2 := free3 bA1 2
  have H1 := hide (And.intro k1 (And.intro bA1 (by have := hk1.size; have := HA.out.2.2.2; omega : w.heap.size < w1.heap.size)))
  clear AM hb1 hk1 k1 bA1 y0 y1 y2 f0 f1 f2
  cases b1 with
  | false =>
    clear OK
    go_wp2
    refine bodyPost_ret (results_two rfl _ _ ⟨w.heap.size, 0, none⟩ _ _ rfl rfl (load41 (set3 (set3 (set3 H1.out.2.1 0 _) 1 _) 2 _) rfl)) rfl ?_
    exact ⟨false, 0, none, 0, 0, 140, rfl, kp3 H1.out.1 _ _ _, .inl ⟨rfl, rfl, rfl, rfl, rfl, .inr ⟨rfl, by rw [HN.out]; exact HB.out, fun h => by have := HB1.out.2 h.1; simp at this⟩⟩⟩
  | true =>
  clear z0 z1 z2 g0 g1 g2
  go_wp2_with fail
  refine OK.mono ?_; rintro e w2 ⟨⟨b2, rfl, hb2⟩, hk2⟩
  have HB2 := hide hb2
  have k2 := H1.out.1.andNu hk2
  have JU := judge34 w2 _ L (HA.out.1.nu k2) (by rw [HN.out]; exact HB.out)
  rw [HN.out] at JU
  have bA2 := box_k H1.out.2.1 hk2
  have z0 := cellAt bA2 0 (v := .bool false) rfl
  have z1 := cellAt bA2 1 (v := .int .u64 0) rfl
  have z2 := cellAt bA2 2 (v := .slice none 0 0) rfl
  have g0 := free3 bA2 0
  have g1 := free3 bA2 1
  have g2 := free3 bA2 2
  have H2 := hide (And.intro k2 (And.intro bA2 (by have := hk2.size; have := H1.out.2.2; omega : w.heap.size < w2.heap.size)))
  clear OK hb2 hk2 k2 bA2
  cases b2 with
  | false =>
    clear JU
    go_wp2
    refine bodyPost_ret (results_two rfl _ _ ⟨w.heap.size, 0, none⟩ _ _ rfl rfl (load41 (set3 (set3 (set3 H2.out.2.1 0 _) 1 _) 2 _) rfl)) rfl ?_
    exact ⟨false, 0, none, 0, 0, 140, rfl, kp3 H2.out.1 _ _ _, .inl ⟨rfl, rfl, rfl, rfl, rfl, .inr ⟨rfl, by rw [HN.out]; exact HB.out, fun h => by have := HB2.out.2 h.2; simp at this⟩⟩⟩
  | true =>
  clear z0 z1 z2 g0 g1 g2
  go_wp2_with fail
  refine JU.mono ?_; rintro e w3 ⟨ok, key, ao, n, co, rfl, hk3, hV⟩
  have bA3 := box_k H2.out.2.1 hk3
  have z0 := cellAt bA3 0 (v := .bool false) rfl
  have z1 := cellAt bA3 1 (v := .int .u64 0) rfl
  have z2 := cellAt bA3 2 (v := .slice none 0 0) rfl
  have g0 := free3 bA3 0
  have g1 := free3 bA3 1
  have g2 := free3 bA3 2
  have H3 := hide (And.intro (H2.out.1.andNu hk3) (And.intro bA3 hV))
  clear JU hk3 bA3 hV
  go_wp2
  refine bodyPost_ret (results_two rfl _ _ ⟨w.heap.size, 0, none⟩ _ _ rfl rfl (load41 (set3 (set3 (set3 H3.out.2.1 0 _) 1 _) 2 _) rfl)) rfl ?_
  refine ⟨ok, key, ao, n, co, 0, rfl, kp3 H3.out.1 _ _ _, .inr ⟨rfl, by rw [HN.out]; exact HB.out, HB1.out.1 (by simp), HB2.out.1 (by simp), fun h => ?_, H3.out.2.2.2⟩⟩
  obtain ⟨q1, o, q2, q3, q4⟩ := H3.out.2.2.1 h
  exact ⟨q1, o, q2, q3, cut3 q4 H2.out.2.2 _ _ _⟩
end Go.Proofs.Ytcbonbeogdgogaa.Li
