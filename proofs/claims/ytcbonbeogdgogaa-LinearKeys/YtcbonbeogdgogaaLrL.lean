import Derived.Test.YtcbonbeogdgogaaLrI
namespace Go.Proofs.Ytcbonbeogdgogaa.Li
open Go.RowKit
set_option linter.unusedVariables false
set_option maxRecDepth 100000 in
set_option maxHeartbeats 2000000 in
theorem one60 (w : World) (c : Ca) (bx bL off N uc : Nat) (k0 : Int) (hN : 0 < N) (hb : w.cell? ⟨bx, 0, none⟩ = some (.slice (some ⟨bL, off, none⟩) N uc)) (h3 : w.cell? ⟨bL, off + 3, none⟩ = some (.int .u64 k0)) :
    Calls Try.prog 60 #[.agg #[.int .u8 c.who, .int .u64 c.seq, .int .u8 c.k, .int .u64 c.key, .int .u64 c.hi, .slice c.va c.V.length c.vc, .slice c.oa c.O.length c.oc, .bool c.has, .int .u8 c.lim, .int .u8 c.st, .slice c.ya c.Y.length c.yc, .int .i64 c.beg, .int .i64 c.en], .pointer (some ⟨bx, 0, none⟩)] w fun e w' => Ans (c.k = 5 ∨ ¬ c.key = k0) e ∧ Kp Nu w w' := by
  obtain ⟨wA, eA⟩ : ∃ wA, w.alloc (.cells #[.int .u8 c.who, .int .u64 c.seq, .int .u8 c.k, .int .u64 c.key, .int .u64 c.hi, .slice c.va c.V.length c.vc, .slice c.oa c.O.length c.oc, .bool c.has, .int .u8 c.lim, .int .u8 c.st, .slice c.ya c.Y.length c.yc, .int .i64 c.beg, .int .i64 c.en] 30) = wA := ⟨_, rfl⟩
  have kA : Kp Nu w wA := by rw [← eA]; exact Kp.alloc _ _ _
  have bA : wA.heap[w.heap.size]? = some (.cells c.cells.toArray 30 (0, 0)) := by rw [← eA]; exact heap_new w _
  have keep : ∀ Z, Kp Nu wA Z → ∀ a v, w.cell? a = some v → Z.cell? a = some v := fun Z q a v h => (World.cell?_of_block ((kA.andNu q).block _ (World.block_lt_of_cell? w _ h) (fun h => h))).trans h
  have HS : ∀ Z, Kp Nu wA Z → (Z.cell? ⟨w.heap.size, 3, none⟩ = some (.int .u64 c.key) ∧ Z.cell? ⟨bx, 0, none⟩ = some (.slice (some ⟨bL, off, none⟩) N uc) ∧ Z.cell? ⟨bL, off + 3, none⟩ = some (.int .u64 k0)) := fun Z q => by
    have q2 := box_k bA q
    exact ⟨cellAt q2 3 rfl, keep Z q _ _ hb, keep Z q _ _ h3⟩
  have x0 := cellAt bA 0 (v := .int .u8 c.who) rfl
  have x1 := cellAt bA 1 (v := .int .u64 c.seq) rfl
  have x2 := cellAt bA 2 (v := .int .u8 c.k) rfl
  have x3 := cellAt bA 3 (v := .int .u64 c.key) rfl
  have x4 := cellAt bA 4 (v := .int .u64 c.hi) rfl
  have x5 := cellAt bA 5 (v := .slice c.va c.V.length c.vc) rfl
  have x6 := cellAt bA 6 (v := .slice c.oa c.O.length c.oc) rfl
  have x7 := cellAt bA 7 (v := .bool c.has) rfl
  have x8 := cellAt bA 8 (v := .int .u8 c.lim) rfl
  have x9 := cellAt bA 9 (v := .int .u8 c.st) rfl
  have x10 := cellAt bA 10 (v := .slice c.ya c.Y.length c.yc) rfl
  have x11 := cellAt bA 11 (v := .int .i64 c.beg) rfl
  have x12 := cellAt bA 12 (v := .int .i64 c.en) rfl
  have hNI : (0 : Int) < (N : Int) := by omega
  have HK := hide kA
  clear kA bA keep hb h3
  by_cases h5 : c.k = 5
  · have SC := fun Z (q : Kp Nu wA Z) => (scan28 Z c.who c.seq c.k c.key c.hi c.lim c.st c.beg c.en c.has c.va c.oa c.ya c.V.length c.vc c.O.length c.oc c.Y.length c.yc).mono (fun e w' r => (⟨_, r.1, by rw [h5]; rfl, q.andNu r.2⟩ : ∃ v, e = .returned v ∧ v = .bool true ∧ Kp Nu wA w'))
    have HE := hide h5
    clear h5
    go_enter Try.func60, Try.ntmps60
    go_wp2_with fail
    try rw [eA]
    go_region_law (first | (refine step_callL (by rfl) 28 #[.agg #[.int .u8 c.who, .int .u64 c.seq, .int .u8 c.k, .int .u64 c.key, .int .u64 c.hi, .slice c.va c.V.length c.vc, .slice c.oa c.O.length c.oc, .bool c.has, .int .u8 c.lim, .int .u8 c.st, .slice c.ya c.Y.length c.yc, .int .i64 c.beg, .int .i64 c.en]] (by go_simp; first | done | (with_reducible rfl)) _ (SC _ (Kp.refl _ _).drew) ?_; rintro v6 w6 ⟨rfl, hk6⟩; obtain ⟨s3, sb, sk⟩ := HS _ hk6; rename_i K hK; refine hK _ _ ?_; clear hK K; (try go_simp); refine wpAny_take (i := 2) (v := .bool true) rfl (by kernel_rfl) (by kernel_rfl) (by kernel_rfl) (fun _ _ _ h => h) (Or.inl ⟨by rfl, fun w => by go_simp; first | done | (with_reducible rfl)⟩) ?_; (try go_simp); refine wpAny_take (i := 3) (v := undef) rfl (by kernel_rfl) (by kernel_rfl) (by kernel_rfl) (fun _ _ _ h => h) (Or.inr ⟨by rfl, rfl⟩) ?_; (try go_simp); refine wpAny_take (i := 4) (v := undef) rfl (by kernel_rfl) (by kernel_rfl) (by kernel_rfl) (fun _ _ _ h => h) (Or.inr ⟨by rfl, rfl⟩) ?_; (try go_simp); refine wpAny_take (i := 5) (v := undef) rfl (by kernel_rfl) (by kernel_rfl) (by kernel_rfl) (fun _ _ _ h => h) (Or.inr ⟨by rfl, rfl⟩) ?_; (try go_simp); refine wpAny_take (i := 6) (v := undef) rfl (by kernel_rfl) (by kernel_rfl) (by kernel_rfl) (fun _ _ _ h => h) (Or.inr ⟨by rfl, rfl⟩) ?_; (try go_simp); refine wpAny_take (i := 7) (v := undef) rfl (by kernel_rfl) (by kernel_rfl) (by kernel_rfl) (fun _ _ _ h => h) (Or.inr ⟨by rfl, rfl⟩) ?_; (try go_simp); refine wpAny_take (i := 8) (v := undef) rfl (by kernel_rfl) (by kernel_rfl) (by kernel_rfl) (fun _ _ _ h => h) (Or.inr ⟨by rfl, rfl⟩) ?_; (try go_simp); refine wpAny_take (i := 9) (v := undef) rfl (by kernel_rfl) (by kernel_rfl) (by kernel_rfl) (fun _ _ _ h => h) (Or.inr ⟨by rfl, rfl⟩) ?_; (try go_simp); refine wpAny_take (i := 10) (v := undef) rfl (by kernel_rfl) (by kernel_rfl) (by kernel_rfl) (fun _ _ _ h => h) (Or.inr ⟨by rfl, rfl⟩) ?_; (try go_simp); refine wpAny_take (i := 11) (v := undef) rfl (by kernel_rfl) (by kernel_rfl) (by kernel_rfl) (fun _ _ _ h => h) (Or.inr ⟨by rfl, rfl⟩) ?_))
    all_goals
      go_wp2
      go_ret
      exact ⟨⟨_, rfl, by simp [HE.out]⟩, HK.out.andNu hk6⟩
  · have SC := fun Z (q : Kp Nu wA Z) => (scan28 Z c.who c.seq c.k c.key c.hi c.lim c.st c.beg c.en c.has c.va c.oa c.ya c.V.length c.vc c.O.length c.oc c.Y.length c.yc).mono (fun e w' r => (⟨_, r.1, by simp [h5], q.andNu r.2⟩ : ∃ v, e = .returned v ∧ v = .bool false ∧ Kp Nu wA w'))
    have HE := hide h5
    clear h5
    go_enter Try.func60, Try.ntmps60
    go_wp2_with fail
    try rw [eA]
    go_region_law (first | (refine step_callL (by rfl) 28 #[.agg #[.int .u8 c.who, .int .u64 c.seq, .int .u8 c.k, .int .u64 c.key, .int .u64 c.hi, .slice c.va c.V.length c.vc, .slice c.oa c.O.length c.oc, .bool c.has, .int .u8 c.lim, .int .u8 c.st, .slice c.ya c.Y.length c.yc, .int .i64 c.beg, .int .i64 c.en]] (by go_simp; first | done | (with_reducible rfl)) _ (SC _ (Kp.refl _ _).drew) ?_; rintro v6 w6 ⟨rfl, hk6⟩; obtain ⟨s3, sb, sk⟩ := HS _ hk6))
    all_goals
      go_wp2
      go_ret
      exact ⟨⟨_, rfl, by simp [HE.out]⟩, HK.out.andNu hk6⟩
end Go.Proofs.Ytcbonbeogdgogaa.Li
