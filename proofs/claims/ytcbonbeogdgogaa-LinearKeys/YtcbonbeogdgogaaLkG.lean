import Derived.Test.YtcbonbeogdgogaaLkF
import Derived.Test.YtcbonbeogdgogaaLrM
namespace Go.Proofs.Ytcbonbeogdgogaa.Li
open Go.RowKit
set_option linter.unusedVariables false
set_option maxRecDepth 100000 in
set_option maxHeartbeats 3000000 in
theorem checkKey23 (w : World) (u : Value) (L : List Ca) (hL : Cls w u L) (hN : L.length ≤ 140737488351232) : Calls Try.prog 23 #[u] w fun e w' => CkR w L e w' := by
  obtain ⟨wA, eA⟩ : ∃ wA, w.alloc (.cells #[.bool false, .int .u64 0, .slice none 0 0] 41) = wA := ⟨_, rfl⟩
  have kA : Kp Nu w wA := by rw [← eA]; exact Kp.alloc _ _ _
  have bA : wA.heap[w.heap.size]? = some (.cells #[.bool false, .int .u64 0, .slice none 0 0] 41 (0, 0)) := by rw [← eA]; exact heap_new w _
  have hsA : wA.heap.size = w.heap.size + 1 := by rw [← eA]; exact World.size_alloc _ _
  obtain ⟨ua, uc, rfl⟩ := hL.slice
  have y0 := cellAt bA 0 (v := .bool false) rfl
  have y1 := cellAt bA 1 (v := .int .u64 0) rfl
  have y2 := cellAt bA 2 (v := .slice none 0 0) rfl
  have f0 := free3 bA 0
  have f1 := free3 bA 1
  have f2 := free3 bA 2
  have HA := hide (And.intro hL (And.intro kA (And.intro bA hsA)))
  have hNI : (L.length : Int) ≤ 140737488351232 := by omega
  obtain ⟨N, eN⟩ : ∃ N, L.length = N := ⟨_, rfl⟩
  have HN := hide eN
  rw [eN] at hNI hN ⊢
  clear hL kA bA hsA hN eN
  by_cases hbig : (N : Int) > 16
  · have d1 : decide ((N : Int) > 16) = true := by simpa using hbig
    have HB := hide hbig
    clear hbig
    go_enter Try.func23, Try.ntmps23
    go_wp2
    try rw [eA]
    refine bodyPost_ret (results_two rfl _ _ ⟨w.heap.size, 0, none⟩ _ _ rfl rfl (load41 (set3 (set3 (set3 HA.out.2.2.1 0 _) 1 _) 2 _) rfl)) rfl ?_
    exact ⟨false, 0, none, 0, 0, 141, rfl, kp3 HA.out.2.1 _ _ _, .inl ⟨rfl, rfl, rfl, rfl, rfl, .inl ⟨rfl, by rw [HN.out]; have := HB.out; omega⟩⟩⟩
  have d1 : decide ((N : Int) > 16) = false := by simpa using hbig
  have HB : Hid (N ≤ 16) := hide (by omega)
  have hN16 : (N : Int) ≤ 16 := by omega
  clear hbig
  go_enter Try.func23, Try.ntmps23
  go_wp2
  try rw [eA]
  clear y0 y1 y2 f0 f1 f2
  go_loopw [4] (fun iv wr => ∃ i : Nat, iv = .int .i64 (i : Int) ∧ i ≤ N ∧ Hid (Kp Nu wA wr ∧ ∀ j c, j < i → L[j]? = some c → Cl1 L c)) (fun iv _ => N - (intOf iv).toNat)
  case atStart => exact ⟨0, rfl, Nat.zero_le _, hide ⟨Kp.refl _ _, fun j c hj => by omega⟩⟩
  case round =>
    obtain ⟨i, rfl, hi, hI⟩ := hrel
    have hi0 : (0 : Int) ≤ (i : Int) := by omega
    have bR := box_k HA.out.2.2.1 hI.out.1
    by_cases hlt : i < N
    · have hltI : (i : Int) < (N : Int) := by omega
      have hN0 : (0 : Int) < (N : Int) := by omega
      have hNn : ¬ N = 0 := by omega
      have eti : (i : Int).toNat = i := by omega
      have hcl := HA.out.1.nu (HA.out.2.1.andNu hI.out.1)
      rw [HN.out] at hcl
      obtain ⟨c, hc⟩ : ∃ c, L[i]? = some c := ⟨_, List.getElem?_eq_getElem (by rw [HN.out]; exact hlt)⟩
      obtain ⟨d, hd⟩ : ∃ d, L[0]? = some d := ⟨_, List.getElem?_eq_getElem (by rw [HN.out]; omega)⟩
      obtain ⟨bL, off, rfl, hR, ok⟩ := call_at hcl HN.out hc
      obtain ⟨bL', off', e', hR', ok'⟩ := call_at hcl HN.out hd
      simp only [Option.some.injEq, Addr.mk.injEq, and_true] at e'
      obtain ⟨rfl, rfl⟩ := e'
      obtain ⟨_, _, _, z3, _⟩ := range_cells hR'
      rw [Nat.zero_mul, Nat.add_zero] at z3
      obtain ⟨r0, r1, r2, r3, r4, r5, r6, r7, r8, r9, r10, r11, r12⟩ := range_cells hR
      have HRR : ∀ Z, Kp Nu wr Z → Z.cell? ⟨bL, off + i * 13 + 2, none⟩ = some (.int .u8 c.k) ∧ Z.cell? ⟨bL, off + i * 13 + 3, none⟩ = some (.int .u64 c.key) ∧ Z.cell? ⟨bL, off + 3, none⟩ = some (.int .u64 d.key) := fun Z q =>
        ⟨(range_cells (rangeAt_nu hR q)).2.2.1, (range_cells (rangeAt_nu hR q)).2.2.2.1, (World.cell?_of_block (q.block _ (World.block_lt_of_cell? wr _ z3) (fun h => h))).trans z3⟩
      have M0 := fun Z => mayBe25 Z c.who c.seq c.k c.key c.hi c.lim c.st c.beg c.en c.has c.va c.oa c.ya c.V.length c.vc c.O.length c.oc c.Y.length c.yc
      have HC := hide (And.intro hc (And.intro hd bR))
      have bad : ¬ Cl1 L c → ¬ (AllMB L ∧ OneK L) := fun q r => q ⟨r.1 c (List.mem_of_getElem? hc), (r.2 c (List.mem_of_getElem? hc)).1, (r.2 c (List.mem_of_getElem? hc)).2⟩
      have HBad : Hid (¬ Cl1 L c → ∀ (e : Ending) (W W' : World), e = .returned (.tuple #[.agg #[.bool false, .int .u64 0, .slice none 0 0], .int .i64 140]) → Kp Nu wr W → W' = ((W.setCell ⟨w.heap.size, 0, none⟩ (.bool false)).setCell ⟨w.heap.size, 1, none⟩ (.int .u64 0)).setCell ⟨w.heap.size, 2, none⟩ (.slice none 0 0) → CkR w L e W') := hide (fun q e W W' he hk hW => by
        rw [hW]
        exact ⟨false, 0, none, 0, 0, 140, he, kp3 ((HA.out.2.1.andNu hI.out.1).andNu hk) _ _ _, .inl ⟨rfl, rfl, rfl, rfl, rfl, .inr ⟨rfl, by rw [HN.out]; exact HB.out, bad q⟩⟩⟩)
      clear hR hR' ok ok' hc hd hcl z3 bad bR
      by_cases hmb : MBc c
      · have MY := fun Z (q : Kp Nu wr Z) => (M0 Z).mono (fun e w' r => (by
          obtain ⟨⟨bb, e1, e2⟩, e3⟩ := r
          exact ⟨_, e1, by rw [e2.2 hmb], q.andNu e3⟩ : ∃ v, e = .returned v ∧ v = .bool true ∧ Kp Nu wr w'))
        have HMB := hide hmb
        clear hmb M0
        by_cases h5 : c.k = 5
        · have e5 : (c.k == 5) = true := by simpa using h5
          have H5 := hide h5
          clear h5
          go_wp2_with fail
          go_region_law (first | (refine step_callL (by rfl) 25 #[.agg #[.int .u8 c.who, .int .u64 c.seq, .int .u8 c.k, .int .u64 c.key, .int .u64 c.hi, .slice c.va c.V.length c.vc, .slice c.oa c.O.length c.oc, .bool c.has, .int .u8 c.lim, .int .u8 c.st, .slice c.ya c.Y.length c.yc, .int .i64 c.beg, .int .i64 c.en]] (by go_simp; first | done | (with_reducible rfl)) _ (MY _ (Kp.refl _ _).drew) ?_; rintro v6 w6 ⟨rfl, hk6⟩; obtain ⟨s2, s3, s03⟩ := HRR _ hk6; rename_i K hK; refine hK _ _ ?_; clear hK K; (try go_simp); refine wpAny_take (i := 5) (v := .bool false) rfl (by kernel_rfl) (by kernel_rfl) (by kernel_rfl) (fun _ _ _ h => h) (Or.inl ⟨by rfl, fun w => by go_simp; first | done | (with_reducible rfl)⟩) ?_; (try go_simp); refine wpAny_take (i := 6) (v := .bool false) rfl (by kernel_rfl) (by kernel_rfl) (by kernel_rfl) (fun _ _ _ h => h) (Or.inl ⟨by rfl, fun w => by go_simp; first | done | (with_reducible rfl)⟩) ?_; (try go_simp); refine wpAny_take (i := 7) (v := .slice (some ⟨bL, off, none⟩) N uc) rfl (by kernel_rfl) (by kernel_rfl) (by kernel_rfl) (fun _ _ _ h => h) (Or.inl ⟨by rfl, fun w => by go_simp; first | done | (with_reducible rfl)⟩) ?_; (try go_simp); refine wpAny_take (i := 8) (v := .int .i64 (i : Int)) rfl (by kernel_rfl) (by kernel_rfl) (by kernel_rfl) (fun _ _ _ h => h) (Or.inl ⟨by rfl, fun w => by go_simp; first | done | (with_reducible rfl)⟩) ?_; (try go_simp); refine wpAny_take (i := 9) (v := .pointer (some ⟨bL, off + i * 13, none⟩)) rfl (by kernel_rfl) (by kernel_rfl) (by kernel_rfl) (fun _ _ _ h => h) (Or.inl ⟨by rfl, fun w => by go_simp; first | done | (with_reducible rfl)⟩) ?_; (try go_simp); refine wpAny_take (i := 10) (v := .pointer (some ⟨bL, off + i * 13 + 2, none⟩)) rfl (by kernel_rfl) (by kernel_rfl) (by kernel_rfl) (fun _ _ _ h => h) (Or.inl ⟨by rfl, fun w => by go_simp; first | done | (with_reducible rfl)⟩) ?_; (try go_simp); refine wpAny_take (i := 11) (v := .pointer (some ⟨bL, off + i * 13 + 2, none⟩)) rfl (by kernel_rfl) (by kernel_rfl) (by kernel_rfl) (fun _ _ _ h => h) (Or.inl ⟨by rfl, fun w => by go_simp; first | done | (with_reducible rfl)⟩) ?_; (try go_simp); refine wpAny_ready (rs := [12]) (by kernel_rfl) (by simp) ?_; refine AllReady.cons rfl (fun K2 hK2 => ?_) AllReady.nil; go_simp; refine hK2 _ _ ?_; clear hK2 K2; (try go_simp); refine wpAny_take (i := 13) (v := .bool true) rfl (by kernel_rfl) (by kernel_rfl) (by kernel_rfl) (fun _ _ _ h => h) (Or.inl ⟨by rfl, fun w => by go_simp; first | done | (with_reducible rfl)⟩) ?_; (try go_simp); refine wpAny_take (i := 14) (v := .bool true) rfl (by kernel_rfl) (by kernel_rfl) (by kernel_rfl) (fun _ _ _ h => h) (Or.inl ⟨by rfl, fun w => by go_simp; first | done | (with_reducible rfl)⟩) ?_; (try go_simp); refine wpAny_take (i := 15) (v := .bool true) rfl (by kernel_rfl) (by kernel_rfl) (by kernel_rfl) (fun _ _ _ h => h) (Or.inl ⟨by rfl, fun w => by go_simp; first | done | (with_reducible rfl)⟩) ?_; (try go_simp); refine wpAny_take (i := 16) (v := undef) rfl (by kernel_rfl) (by kernel_rfl) (by kernel_rfl) (fun _ _ _ h => h) (Or.inr ⟨by rfl, rfl⟩) ?_; (try go_simp); refine wpAny_take (i := 17) (v := undef) rfl (by kernel_rfl) (by kernel_rfl) (by kernel_rfl) (fun _ _ _ h => h) (Or.inr ⟨by rfl, rfl⟩) ?_; (try go_simp); refine wpAny_take (i := 18) (v := undef) rfl (by kernel_rfl) (by kernel_rfl) (by kernel_rfl) (fun _ _ _ h => h) (Or.inr ⟨by rfl, rfl⟩) ?_; (try go_simp); refine wpAny_take (i := 19) (v := undef) rfl (by kernel_rfl) (by kernel_rfl) (by kernel_rfl) (fun _ _ _ h => h) (Or.inr ⟨by rfl, rfl⟩) ?_; (try go_simp); refine wpAny_take (i := 20) (v := undef) rfl (by kernel_rfl) (by kernel_rfl) (by kernel_rfl) (fun _ _ _ h => h) (Or.inr ⟨by rfl, rfl⟩) ?_; (try go_simp); refine wpAny_take (i := 21) (v := undef) rfl (by kernel_rfl) (by kernel_rfl) (by kernel_rfl) (fun _ _ _ h => h) (Or.inr ⟨by rfl, rfl⟩) ?_; (try go_simp); refine wpAny_take (i := 22) (v := undef) rfl (by kernel_rfl) (by kernel_rfl) (by kernel_rfl) (fun _ _ _ h => h) (Or.inr ⟨by rfl, rfl⟩) ?_; (try go_simp); refine wpAny_take (i := 23) (v := undef) rfl (by kernel_rfl) (by kernel_rfl) (by kernel_rfl) (fun _ _ _ h => h) (Or.inr ⟨by rfl, rfl⟩) ?_; (try go_simp); refine wpAny_take (i := 24) (v := undef) rfl (by kernel_rfl) (by kernel_rfl) (by kernel_rfl) (fun _ _ _ h => h) (Or.inr ⟨by rfl, rfl⟩) ?_; (try go_simp); refine wpAny_take (i := 25) (v := undef) rfl (by kernel_rfl) (by kernel_rfl) (by kernel_rfl) (fun _ _ _ h => h) (Or.inr ⟨by rfl, rfl⟩) ?_; (try go_simp); refine wpAny_take (i := 26) (v := undef) rfl (by kernel_rfl) (by kernel_rfl) (by kernel_rfl) (fun _ _ _ h => h) (Or.inr ⟨by rfl, rfl⟩) ?_; (try go_simp); refine wpAny_take (i := 27) (v := undef) rfl (by kernel_rfl) (by kernel_rfl) (by kernel_rfl) (fun _ _ _ h => h) (Or.inr ⟨by rfl, rfl⟩) ?_))
          all_goals
            have HK := hide hk6
            have b6 := box_k HC.out.2.2 hk6
            have y0 := cellAt b6 0 (v := .bool false) rfl
            have y1 := cellAt b6 1 (v := .int .u64 0) rfl
            have y2 := cellAt b6 2 (v := .slice none 0 0) rfl
            have f0 := free3 b6 0
            have f1 := free3 b6 1
            have f2 := free3 b6 2
            have H6 := hide b6
            clear r0 r1 r2 r3 r4 r5 r6 r7 r8 r9 r10 r11 r12 MY HRR hk6 s2 s3 s03 b6
            go_wp2
            refine bodyPost_ret (results_two rfl _ _ ⟨w.heap.size, 0, none⟩ _ _ rfl rfl (load41 (set3 (set3 (set3 H6.out 0 _) 1 _) 2 _) rfl)) rfl ?_
            exact HBad.out (fun q => q.2.1 H5.out) _ _ _ rfl HK.out rfl
        · have e5 : (c.k == 5) = false := by simpa using h5
          have H5 := hide h5
          clear h5
          by_cases hkk : c.key = d.key
          · have e6 : (c.key != d.key) = false := by simpa using hkk
            have H6' := hide hkk
            clear hkk
            go_wp2_with fail
            go_region_law (first | (refine step_callL (by rfl) 25 #[.agg #[.int .u8 c.who, .int .u64 c.seq, .int .u8 c.k, .int .u64 c.key, .int .u64 c.hi, .slice c.va c.V.length c.vc, .slice c.oa c.O.length c.oc, .bool c.has, .int .u8 c.lim, .int .u8 c.st, .slice c.ya c.Y.length c.yc, .int .i64 c.beg, .int .i64 c.en]] (by go_simp; first | done | (with_reducible rfl)) _ (MY _ (Kp.refl _ _).drew) ?_; rintro v6 w6 ⟨rfl, hk6⟩; obtain ⟨s2, s3, s03⟩ := HRR _ hk6; rename_i K hK; refine hK _ _ ?_; clear hK K; (try go_simp); refine wpAny_take (i := 5) (v := .bool false) rfl (by kernel_rfl) (by kernel_rfl) (by kernel_rfl) (fun _ _ _ h => h) (Or.inl ⟨by rfl, fun w => by go_simp; first | done | (with_reducible rfl)⟩) ?_; (try go_simp); refine wpAny_take (i := 6) (v := .bool false) rfl (by kernel_rfl) (by kernel_rfl) (by kernel_rfl) (fun _ _ _ h => h) (Or.inl ⟨by rfl, fun w => by go_simp; first | done | (with_reducible rfl)⟩) ?_; (try go_simp); refine wpAny_take (i := 7) (v := .slice (some ⟨bL, off, none⟩) N uc) rfl (by kernel_rfl) (by kernel_rfl) (by kernel_rfl) (fun _ _ _ h => h) (Or.inl ⟨by rfl, fun w => by go_simp; first | done | (with_reducible rfl)⟩) ?_; (try go_simp); refine wpAny_take (i := 8) (v := .int .i64 (i : Int)) rfl (by kernel_rfl) (by kernel_rfl) (by kernel_rfl) (fun _ _ _ h => h) (Or.inl ⟨by rfl, fun w => by go_simp; first | done | (with_reducible rfl)⟩) ?_; (try go_simp); refine wpAny_take (i := 9) (v := .pointer (some ⟨bL, off + i * 13, none⟩)) rfl (by kernel_rfl) (by kernel_rfl) (by kernel_rfl) (fun _ _ _ h => h) (Or.inl ⟨by rfl, fun w => by go_simp; first | done | (with_reducible rfl)⟩) ?_; (try go_simp); refine wpAny_take (i := 10) (v := .pointer (some ⟨bL, off + i * 13 + 2, none⟩)) rfl (by kernel_rfl) (by kernel_rfl) (by kernel_rfl) (fun _ _ _ h => h) (Or.inl ⟨by rfl, fun w => by go_simp; first | done | (with_reducible rfl)⟩) ?_; (try go_simp); refine wpAny_take (i := 11) (v := .pointer (some ⟨bL, off + i * 13 + 2, none⟩)) rfl (by kernel_rfl) (by kernel_rfl) (by kernel_rfl) (fun _ _ _ h => h) (Or.inl ⟨by rfl, fun w => by go_simp; first | done | (with_reducible rfl)⟩) ?_; (try go_simp); refine wpAny_ready (rs := [12]) (by kernel_rfl) (by simp) ?_; refine AllReady.cons rfl (fun K2 hK2 => ?_) AllReady.nil; go_simp; refine hK2 _ _ ?_; clear hK2 K2; (try go_simp); refine wpAny_take (i := 13) (v := .bool false) rfl (by kernel_rfl) (by kernel_rfl) (by kernel_rfl) (fun _ _ _ h => h) (Or.inl ⟨by rfl, fun w => by go_simp; first | done | (with_reducible rfl)⟩) ?_; (try go_simp); refine wpAny_take (i := 14) (v := .bool false) rfl (by kernel_rfl) (by kernel_rfl) (by kernel_rfl) (fun _ _ _ h => h) (Or.inl ⟨by rfl, fun w => by go_simp; first | done | (with_reducible rfl)⟩) ?_; (try go_simp); refine wpAny_take (i := 15) (v := .bool false) rfl (by kernel_rfl) (by kernel_rfl) (by kernel_rfl) (fun _ _ _ h => h) (Or.inl ⟨by rfl, fun w => by go_simp; first | done | (with_reducible rfl)⟩) ?_; (try go_simp); refine wpAny_take (i := 16) (v := .slice (some ⟨bL, off, none⟩) N uc) rfl (by kernel_rfl) (by kernel_rfl) (by kernel_rfl) (fun _ _ _ h => h) (Or.inl ⟨by rfl, fun w => by go_simp; first | done | (with_reducible rfl)⟩) ?_; (try go_simp); refine wpAny_take (i := 17) (v := .int .i64 (i : Int)) rfl (by kernel_rfl) (by kernel_rfl) (by kernel_rfl) (fun _ _ _ h => h) (Or.inl ⟨by rfl, fun w => by go_simp; first | done | (with_reducible rfl)⟩) ?_; (try go_simp); refine wpAny_take (i := 18) (v := .pointer (some ⟨bL, off + i * 13, none⟩)) rfl (by kernel_rfl) (by kernel_rfl) (by kernel_rfl) (fun _ _ _ h => h) (Or.inl ⟨by rfl, fun w => by go_simp; first | done | (with_reducible rfl)⟩) ?_; (try go_simp); refine wpAny_take (i := 19) (v := .pointer (some ⟨bL, off + i * 13 + 2, none⟩)) rfl (by kernel_rfl) (by kernel_rfl) (by kernel_rfl) (fun _ _ _ h => h) (Or.inl ⟨by rfl, fun w => by go_simp; first | done | (with_reducible rfl)⟩) ?_; (try go_simp); refine wpAny_take (i := 20) (v := .pointer (some ⟨bL, off + i * 13 + 3, none⟩)) rfl (by kernel_rfl) (by kernel_rfl) (by kernel_rfl) (fun _ _ _ h => h) (Or.inl ⟨by rfl, fun w => by go_simp; first | done | (with_reducible rfl)⟩) ?_; (try go_simp); refine wpAny_take (i := 22) (v := .slice (some ⟨bL, off, none⟩) N uc) rfl (by kernel_rfl) (by kernel_rfl) (by kernel_rfl) (fun _ _ _ h => h) (Or.inl ⟨by rfl, fun w => by go_simp; first | done | (with_reducible rfl)⟩) ?_; (try go_simp); refine wpAny_take (i := 23) (v := .pointer (some ⟨bL, off, none⟩)) rfl (by kernel_rfl) (by kernel_rfl) (by kernel_rfl) (fun _ _ _ h => h) (Or.inl ⟨by rfl, fun w => by go_simp; first | done | (with_reducible rfl)⟩) ?_; (try go_simp); refine wpAny_take (i := 24) (v := .pointer (some ⟨bL, off + 2, none⟩)) rfl (by kernel_rfl) (by kernel_rfl) (by kernel_rfl) (fun _ _ _ h => h) (Or.inl ⟨by rfl, fun w => by go_simp; first | done | (with_reducible rfl)⟩) ?_; (try go_simp); refine wpAny_take (i := 25) (v := .pointer (some ⟨bL, off + 3, none⟩)) rfl (by kernel_rfl) (by kernel_rfl) (by kernel_rfl) (fun _ _ _ h => h) (Or.inl ⟨by rfl, fun w => by go_simp; first | done | (with_reducible rfl)⟩) ?_; (try go_simp)))
            all_goals
              have HF : Hid (Kp Nu wA w6 ∧ ∀ j c2, j < i + 1 → L[j]? = some c2 → Cl1 L c2) := hide ⟨hI.out.1.andNu hk6, fun j c2 hj hc2 => by
                by_cases e : j = i
                · subst e
                  rw [HC.out.1] at hc2
                  cases hc2
                  exact ⟨HMB.out, H5.out, fun d2 hd2 => by rw [HC.out.2.1] at hd2; cases hd2; exact H6'.out⟩
                · exact hI.out.2 j c2 (by omega) hc2⟩
              clear r0 r1 r2 r3 r4 r5 r6 r7 r8 r9 r10 r11 r12 MY HRR hk6 s2 s3 s03
              go_wp2
              exact ⟨⟨i + 1, by go_num, by omega, HF⟩, by simp [intOf]; omega⟩
          · have e6 : (c.key != d.key) = true := by simpa using hkk
            have H6' := hide hkk
            clear hkk
            go_wp2_with fail
            go_region_law (first | (refine step_callL (by rfl) 25 #[.agg #[.int .u8 c.who, .int .u64 c.seq, .int .u8 c.k, .int .u64 c.key, .int .u64 c.hi, .slice c.va c.V.length c.vc, .slice c.oa c.O.length c.oc, .bool c.has, .int .u8 c.lim, .int .u8 c.st, .slice c.ya c.Y.length c.yc, .int .i64 c.beg, .int .i64 c.en]] (by go_simp; first | done | (with_reducible rfl)) _ (MY _ (Kp.refl _ _).drew) ?_; rintro v6 w6 ⟨rfl, hk6⟩; obtain ⟨s2, s3, s03⟩ := HRR _ hk6; rename_i K hK; refine hK _ _ ?_; clear hK K; (try go_simp); refine wpAny_take (i := 5) (v := .bool false) rfl (by kernel_rfl) (by kernel_rfl) (by kernel_rfl) (fun _ _ _ h => h) (Or.inl ⟨by rfl, fun w => by go_simp; first | done | (with_reducible rfl)⟩) ?_; (try go_simp); refine wpAny_take (i := 6) (v := .bool false) rfl (by kernel_rfl) (by kernel_rfl) (by kernel_rfl) (fun _ _ _ h => h) (Or.inl ⟨by rfl, fun w => by go_simp; first | done | (with_reducible rfl)⟩) ?_; (try go_simp); refine wpAny_take (i := 7) (v := .slice (some ⟨bL, off, none⟩) N uc) rfl (by kernel_rfl) (by kernel_rfl) (by kernel_rfl) (fun _ _ _ h => h) (Or.inl ⟨by rfl, fun w => by go_simp; first | done | (with_reducible rfl)⟩) ?_; (try go_simp); refine wpAny_take (i := 8) (v := .int .i64 (i : Int)) rfl (by kernel_rfl) (by kernel_rfl) (by kernel_rfl) (fun _ _ _ h => h) (Or.inl ⟨by rfl, fun w => by go_simp; first | done | (with_reducible rfl)⟩) ?_; (try go_simp); refine wpAny_take (i := 9) (v := .pointer (some ⟨bL, off + i * 13, none⟩)) rfl (by kernel_rfl) (by kernel_rfl) (by kernel_rfl) (fun _ _ _ h => h) (Or.inl ⟨by rfl, fun w => by go_simp; first | done | (with_reducible rfl)⟩) ?_; (try go_simp); refine wpAny_take (i := 10) (v := .pointer (some ⟨bL, off + i * 13 + 2, none⟩)) rfl (by kernel_rfl) (by kernel_rfl) (by kernel_rfl) (fun _ _ _ h => h) (Or.inl ⟨by rfl, fun w => by go_simp; first | done | (with_reducible rfl)⟩) ?_; (try go_simp); refine wpAny_take (i := 11) (v := .pointer (some ⟨bL, off + i * 13 + 2, none⟩)) rfl (by kernel_rfl) (by kernel_rfl) (by kernel_rfl) (fun _ _ _ h => h) (Or.inl ⟨by rfl, fun w => by go_simp; first | done | (with_reducible rfl)⟩) ?_; (try go_simp); refine wpAny_ready (rs := [12]) (by kernel_rfl) (by simp) ?_; refine AllReady.cons rfl (fun K2 hK2 => ?_) AllReady.nil; go_simp; refine hK2 _ _ ?_; clear hK2 K2; (try go_simp); refine wpAny_take (i := 13) (v := .bool false) rfl (by kernel_rfl) (by kernel_rfl) (by kernel_rfl) (fun _ _ _ h => h) (Or.inl ⟨by rfl, fun w => by go_simp; first | done | (with_reducible rfl)⟩) ?_; (try go_simp); refine wpAny_take (i := 14) (v := .bool false) rfl (by kernel_rfl) (by kernel_rfl) (by kernel_rfl) (fun _ _ _ h => h) (Or.inl ⟨by rfl, fun w => by go_simp; first | done | (with_reducible rfl)⟩) ?_; (try go_simp); refine wpAny_take (i := 15) (v := .bool false) rfl (by kernel_rfl) (by kernel_rfl) (by kernel_rfl) (fun _ _ _ h => h) (Or.inl ⟨by rfl, fun w => by go_simp; first | done | (with_reducible rfl)⟩) ?_; (try go_simp); refine wpAny_take (i := 16) (v := .slice (some ⟨bL, off, none⟩) N uc) rfl (by kernel_rfl) (by kernel_rfl) (by kernel_rfl) (fun _ _ _ h => h) (Or.inl ⟨by rfl, fun w => by go_simp; first | done | (with_reducible rfl)⟩) ?_; (try go_simp); refine wpAny_take (i := 17) (v := .int .i64 (i : Int)) rfl (by kernel_rfl) (by kernel_rfl) (by kernel_rfl) (fun _ _ _ h => h) (Or.inl ⟨by rfl, fun w => by go_simp; first | done | (with_reducible rfl)⟩) ?_; (try go_simp); refine wpAny_take (i := 18) (v := .pointer (some ⟨bL, off + i * 13, none⟩)) rfl (by kernel_rfl) (by kernel_rfl) (by kernel_rfl) (fun _ _ _ h => h) (Or.inl ⟨by rfl, fun w => by go_simp; first | done | (with_reducible rfl)⟩) ?_; (try go_simp); refine wpAny_take (i := 19) (v := .pointer (some ⟨bL, off + i * 13 + 2, none⟩)) rfl (by kernel_rfl) (by kernel_rfl) (by kernel_rfl) (fun _ _ _ h => h) (Or.inl ⟨by rfl, fun w => by go_simp; first | done | (with_reducible rfl)⟩) ?_; (try go_simp); refine wpAny_take (i := 20) (v := .pointer (some ⟨bL, off + i * 13 + 3, none⟩)) rfl (by kernel_rfl) (by kernel_rfl) (by kernel_rfl) (fun _ _ _ h => h) (Or.inl ⟨by rfl, fun w => by go_simp; first | done | (with_reducible rfl)⟩) ?_; (try go_simp); refine wpAny_take (i := 22) (v := .slice (some ⟨bL, off, none⟩) N uc) rfl (by kernel_rfl) (by kernel_rfl) (by kernel_rfl) (fun _ _ _ h => h) (Or.inl ⟨by rfl, fun w => by go_simp; first | done | (with_reducible rfl)⟩) ?_; (try go_simp); refine wpAny_take (i := 23) (v := .pointer (some ⟨bL, off, none⟩)) rfl (by kernel_rfl) (by kernel_rfl) (by kernel_rfl) (fun _ _ _ h => h) (Or.inl ⟨by rfl, fun w => by go_simp; first | done | (with_reducible rfl)⟩) ?_; (try go_simp); refine wpAny_take (i := 24) (v := .pointer (some ⟨bL, off + 2, none⟩)) rfl (by kernel_rfl) (by kernel_rfl) (by kernel_rfl) (fun _ _ _ h => h) (Or.inl ⟨by rfl, fun w => by go_simp; first | done | (with_reducible rfl)⟩) ?_; (try go_simp); refine wpAny_take (i := 25) (v := .pointer (some ⟨bL, off + 3, none⟩)) rfl (by kernel_rfl) (by kernel_rfl) (by kernel_rfl) (fun _ _ _ h => h) (Or.inl ⟨by rfl, fun w => by go_simp; first | done | (with_reducible rfl)⟩) ?_; (try go_simp)))
            all_goals
              have HK := hide hk6
              have b6 := box_k HC.out.2.2 hk6
              have y0 := cellAt b6 0 (v := .bool false) rfl
              have y1 := cellAt b6 1 (v := .int .u64 0) rfl
              have y2 := cellAt b6 2 (v := .slice none 0 0) rfl
              have f0 := free3 b6 0
              have f1 := free3 b6 1
              have f2 := free3 b6 2
              have H6 := hide b6
              clear r0 r1 r2 r3 r4 r5 r6 r7 r8 r9 r10 r11 r12 MY HRR hk6 s2 s3 s03 b6
              go_wp2
              refine bodyPost_ret (results_two rfl _ _ ⟨w.heap.size, 0, none⟩ _ _ rfl rfl (load41 (set3 (set3 (set3 H6.out 0 _) 1 _) 2 _) rfl)) rfl ?_
              exact HBad.out (fun q => H6'.out (q.2.2 d HC.out.2.1)) _ _ _ rfl HK.out rfl
      · have MY := fun Z (q : Kp Nu wr Z) => (M0 Z).mono (fun e w' r => (by
          obtain ⟨⟨bb, e1, e2⟩, e3⟩ := r
          have hb : bb = false := by
            cases bb with
            | false => rfl
            | true => exact absurd (e2.1 rfl) hmb
          exact ⟨_, e1, by rw [hb], q.andNu e3⟩ : ∃ v, e = .returned v ∧ v = .bool false ∧ Kp Nu wr w'))
        have HMB := hide hmb
        clear hmb M0
        go_wp2_with fail
        go_region_law (first | (refine step_callL (by rfl) 25 #[.agg #[.int .u8 c.who, .int .u64 c.seq, .int .u8 c.k, .int .u64 c.key, .int .u64 c.hi, .slice c.va c.V.length c.vc, .slice c.oa c.O.length c.oc, .bool c.has, .int .u8 c.lim, .int .u8 c.st, .slice c.ya c.Y.length c.yc, .int .i64 c.beg, .int .i64 c.en]] (by go_simp; first | done | (with_reducible rfl)) _ (MY _ (Kp.refl _ _).drew) ?_; rintro v6 w6 ⟨rfl, hk6⟩; obtain ⟨s2, s3, s03⟩ := HRR _ hk6; rename_i K hK; refine hK _ _ ?_; clear hK K; (try go_simp); refine wpAny_take (i := 5) (v := .bool true) rfl (by kernel_rfl) (by kernel_rfl) (by kernel_rfl) (fun _ _ _ h => h) (Or.inl ⟨by rfl, fun w => by go_simp; first | done | (with_reducible rfl)⟩) ?_; (try go_simp); refine wpAny_take (i := 6) (v := .bool true) rfl (by kernel_rfl) (by kernel_rfl) (by kernel_rfl) (fun _ _ _ h => h) (Or.inl ⟨by rfl, fun w => by go_simp; first | done | (with_reducible rfl)⟩) ?_; (try go_simp); refine wpAny_take (i := 7) (v := undef) rfl (by kernel_rfl) (by kernel_rfl) (by kernel_rfl) (fun _ _ _ h => h) (Or.inr ⟨by rfl, rfl⟩) ?_; (try go_simp); refine wpAny_take (i := 8) (v := undef) rfl (by kernel_rfl) (by kernel_rfl) (by kernel_rfl) (fun _ _ _ h => h) (Or.inr ⟨by rfl, rfl⟩) ?_; (try go_simp); refine wpAny_take (i := 9) (v := undef) rfl (by kernel_rfl) (by kernel_rfl) (by kernel_rfl) (fun _ _ _ h => h) (Or.inr ⟨by rfl, rfl⟩) ?_; (try go_simp); refine wpAny_take (i := 10) (v := undef) rfl (by kernel_rfl) (by kernel_rfl) (by kernel_rfl) (fun _ _ _ h => h) (Or.inr ⟨by rfl, rfl⟩) ?_; (try go_simp); refine wpAny_take (i := 11) (v := undef) rfl (by kernel_rfl) (by kernel_rfl) (by kernel_rfl) (fun _ _ _ h => h) (Or.inr ⟨by rfl, rfl⟩) ?_; (try go_simp); refine wpAny_take (i := 12) (v := undef) rfl (by kernel_rfl) (by kernel_rfl) (by kernel_rfl) (fun _ _ _ h => h) (Or.inr ⟨by rfl, rfl⟩) ?_; (try go_simp); refine wpAny_take (i := 13) (v := undef) rfl (by kernel_rfl) (by kernel_rfl) (by kernel_rfl) (fun _ _ _ h => h) (Or.inr ⟨by rfl, rfl⟩) ?_; (try go_simp); refine wpAny_take (i := 14) (v := .bool true) rfl (by kernel_rfl) (by kernel_rfl) (by kernel_rfl) (fun _ _ _ h => h) (Or.inl ⟨by rfl, fun w => by go_simp; first | done | (with_reducible rfl)⟩) ?_; (try go_simp); refine wpAny_take (i := 15) (v := .bool true) rfl (by kernel_rfl) (by kernel_rfl) (by kernel_rfl) (fun _ _ _ h => h) (Or.inl ⟨by rfl, fun w => by go_simp; first | done | (with_reducible rfl)⟩) ?_; (try go_simp); refine wpAny_take (i := 16) (v := undef) rfl (by kernel_rfl) (by kernel_rfl) (by kernel_rfl) (fun _ _ _ h => h) (Or.inr ⟨by rfl, rfl⟩) ?_; (try go_simp); refine wpAny_take (i := 17) (v := undef) rfl (by kernel_rfl) (by kernel_rfl) (by kernel_rfl) (fun _ _ _ h => h) (Or.inr ⟨by rfl, rfl⟩) ?_; (try go_simp); refine wpAny_take (i := 18) (v := undef) rfl (by kernel_rfl) (by kernel_rfl) (by kernel_rfl) (fun _ _ _ h => h) (Or.inr ⟨by rfl, rfl⟩) ?_; (try go_simp); refine wpAny_take (i := 19) (v := undef) rfl (by kernel_rfl) (by kernel_rfl) (by kernel_rfl) (fun _ _ _ h => h) (Or.inr ⟨by rfl, rfl⟩) ?_; (try go_simp); refine wpAny_take (i := 20) (v := undef) rfl (by kernel_rfl) (by kernel_rfl) (by kernel_rfl) (fun _ _ _ h => h) (Or.inr ⟨by rfl, rfl⟩) ?_; (try go_simp); refine wpAny_take (i := 21) (v := undef) rfl (by kernel_rfl) (by kernel_rfl) (by kernel_rfl) (fun _ _ _ h => h) (Or.inr ⟨by rfl, rfl⟩) ?_; (try go_simp); refine wpAny_take (i := 22) (v := undef) rfl (by kernel_rfl) (by kernel_rfl) (by kernel_rfl) (fun _ _ _ h => h) (Or.inr ⟨by rfl, rfl⟩) ?_; (try go_simp); refine wpAny_take (i := 23) (v := undef) rfl (by kernel_rfl) (by kernel_rfl) (by kernel_rfl) (fun _ _ _ h => h) (Or.inr ⟨by rfl, rfl⟩) ?_; (try go_simp); refine wpAny_take (i := 24) (v := undef) rfl (by kernel_rfl) (by kernel_rfl) (by kernel_rfl) (fun _ _ _ h => h) (Or.inr ⟨by rfl, rfl⟩) ?_; (try go_simp); refine wpAny_take (i := 25) (v := undef) rfl (by kernel_rfl) (by kernel_rfl) (by kernel_rfl) (fun _ _ _ h => h) (Or.inr ⟨by rfl, rfl⟩) ?_; (try go_simp); refine wpAny_take (i := 26) (v := undef) rfl (by kernel_rfl) (by kernel_rfl) (by kernel_rfl) (fun _ _ _ h => h) (Or.inr ⟨by rfl, rfl⟩) ?_; (try go_simp); refine wpAny_take (i := 27) (v := undef) rfl (by kernel_rfl) (by kernel_rfl) (by kernel_rfl) (fun _ _ _ h => h) (Or.inr ⟨by rfl, rfl⟩) ?_))
        all_goals
          have HK := hide hk6
          have b6 := box_k HC.out.2.2 hk6
          have y0 := cellAt b6 0 (v := .bool false) rfl
          have y1 := cellAt b6 1 (v := .int .u64 0) rfl
          have y2 := cellAt b6 2 (v := .slice none 0 0) rfl
          have f0 := free3 b6 0
          have f1 := free3 b6 1
          have f2 := free3 b6 2
          have H6 := hide b6
          clear r0 r1 r2 r3 r4 r5 r6 r7 r8 r9 r10 r11 r12 MY HRR hk6 s2 s3 s03 b6
          go_wp2
          refine bodyPost_ret (results_two rfl _ _ ⟨w.heap.size, 0, none⟩ _ _ rfl rfl (load41 (set3 (set3 (set3 H6.out 0 _) 1 _) 2 _) rfl)) rfl ?_
          exact HBad.out (fun q => HMB.out q.1) _ _ _ rfl HK.out rfl
    · have hge : ¬ (i : Int) < (N : Int) := by omega
      have hall : ∀ c ∈ L, Cl1 L c := fun c hc => by
        obtain ⟨j, hj⟩ := List.getElem?_of_mem hc
        have := (List.getElem?_eq_some_iff.1 hj).1
        exact hI.out.2 j c (by have := HN.out; omega) hj
      have hMB : AllMB L := fun c hc => (hall c hc).1
      have hOK : OneK L := fun c hc => (hall c hc).2
      have kk := HA.out.2.1.andNu hI.out.1
      have OR := order49 wr _ L (HA.out.1.nu kk) hMB (by rw [HN.out]; exact HB.out)
      rw [HN.out] at OR
      have hlo : w.heap.size < wr.heap.size := blk_lt bR
      have HG := hide (And.intro hMB (And.intro hOK (And.intro kk (And.intro bR hlo))))
      clear hall hMB hOK kk hlo bR
      go_wp2_with fail
      refine OR.mono ?_; rintro e w2 hor
      rcases hor with ⟨hno, rfl, hk2⟩ | ⟨o, oa, oc, hfir, rfl, hrow, hk2⟩
      · obtain ⟨c, hc⟩ := first_of hno
        have hcl := HA.out.1.nu (HG.out.2.2.1.andNu hk2)
        rw [HN.out] at hcl
        obtain ⟨bL, off, rfl, hR, ok⟩ := call_at hcl HN.out hc
        obtain ⟨_, _, _, r3, _⟩ := range_cells hR
        rw [Nat.zero_mul, Nat.add_zero] at r3
        have hl := (List.getElem?_eq_some_iff.1 hc).1
        rw [HN.out] at hl
        have hlI : (0 : Int) < (N : Int) := by omega
        have b2 := box_k HG.out.2.2.2.1 hk2
        have y0 := cellAt b2 0 (v := .bool false) rfl
        have y1 := cellAt b2 1 (v := .int .u64 0) rfl
        have y2 := cellAt b2 2 (v := .slice none 0 0) rfl
        have f0 := free3 b2 0
        have f1 := free3 b2 1
        have f2 := free3 b2 2
        have HC := hide (And.intro hc (And.intro hno (And.intro hk2 b2)))
        clear OR hno hk2 hc hcl hR ok b2
        go_wp2
        refine bodyPost_ret (results_two rfl _ _ ⟨w.heap.size, 0, none⟩ _ _ rfl rfl (load41 (set3 (set3 (set3 HC.out.2.2.2 0 _) 1 _) 2 _) rfl)) rfl ?_
        exact ⟨false, c.key, none, 0, 0, 0, rfl, kp3 (HG.out.2.2.1.andNu HC.out.2.2.1) _ _ _, .inr ⟨rfl, by rw [HN.out]; exact HB.out, HG.out.1, HG.out.2.1, (fun h => by cases h), fun _ => ⟨rfl, rfl, rfl, HC.out.2.1, c, HC.out.1, rfl⟩⟩⟩
      · have b2 := box_k HG.out.2.2.2.1 hk2
        have y0 := cellAt b2 0 (v := .bool false) rfl
        have y1 := cellAt b2 1 (v := .int .u64 0) rfl
        have y2 := cellAt b2 2 (v := .slice none 0 0) rfl
        have f0 := free3 b2 0
        have f1 := free3 b2 1
        have f2 := free3 b2 2
        have HC := hide (And.intro hfir (And.intro hrow (And.intro hk2 b2)))
        clear OR hfir hk2 hrow b2
        go_wp2
        refine bodyPost_ret (results_two rfl _ _ ⟨w.heap.size, 0, none⟩ _ _ rfl rfl (load41 (set3 (set3 (set3 HC.out.2.2.2 0 _) 1 _) 2 _) rfl)) rfl ?_
        exact ⟨true, 0, oa, o.length, oc, 0, rfl, kp3 (HG.out.2.2.1.andNu HC.out.2.2.1) _ _ _, .inr ⟨rfl, by rw [HN.out]; exact HB.out, HG.out.1, HG.out.2.1, fun _ => ⟨rfl, o, rfl, HC.out.1, cut3 HC.out.2.1 HG.out.2.2.2.2 _ _ _⟩, (fun h => by cases h)⟩⟩
end Go.Proofs.Ytcbonbeogdgogaa.Li
