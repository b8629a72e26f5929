import Derived.Test.YtchealdgncgjoaaRtN
namespace Go.Proofs.Ytchealdgncgjoaa.StU
open Go.RowKit Go.Proofs.Ytchealdgncgjoaa.St Go.Shelf Go.Sort Go.Proofs.Ytchealdgncgjoaa.It
attribute [local go_sem] Oper.semAt_some
set_option linter.unusedVariables false
set_option linter.unusedSimpArgs false
/-- nothing was told -/
def NC (w : World) (N b7 b9 gk : Nat) (pre : List (Int × Sv)) (V : World) : Prop := Cp V w.heap.size N b7 b9 gk [] [] ∧ Below w.heap.size w V
theorem no_pre {α : Type} {pre : List α} {x : α} : ¬ pre ++ [x] <+: [] := fun h => by
  have := h.length_le
  simp at this
set_option maxRecDepth 100000 in
set_option maxHeartbeats 4000000 in
theorem ncopies121 (w : World) (lo hi : Int) (N : Nat) (hN : N = 0) : Calls Try.prog 121 #[.pointer none, .int .u64 lo, .int .u64 hi, .int .i64 (N : Int)] w fun e w' => ∃ gk, e = .returned (.slice (some ⟨gk, 0, none⟩) 0 N) ∧ Cd w' w.heap.size gk 0 [] [] ∧ Kp Nu w w' := by
  have mixed : Try.prog.follows .mixedOrders = true := by kernel_rfl
  obtain ⟨i78, hi78, hy0, hy1, hy2⟩ := info_parts info78
  have k0 := Kp.alloc w (.cells #[.int .i64 (N : Int)] 3) Nu
  have x0 := heap_alloc_new w (.cells #[.int .i64 (N : Int)] 3)
  obtain ⟨b7, e7⟩ : ∃ b, w.heap.size = b := ⟨_, rfl⟩
  obtain ⟨W0, eW0⟩ : ∃ W0, w.alloc (.cells #[.int .i64 (N : Int)] 3) = W0 := ⟨_, rfl⟩
  rw [eW0] at k0 x0
  obtain ⟨Wa, mka, moa, mga⟩ := run_make_own (P := Try.prog) W0 w.heap.size 68 78 i78 (.agg #[.int .u64 0, .slice none 0 0]) 2 Try.underlying68 hi78 hy0 hy1 .i64 .i64 N (by rw [hy2]; omega) (by unfold maxLen; omega) k0.size
  have ka : Kp Nu W0 Wa := (Kp.of_grown mga).mono (fun i _ e => by cases e)
  obtain ⟨gk, egk⟩ : ∃ g, W0.heap.size = g := ⟨_, rfl⟩
  rw [egk] at mka moa
  have kb := Kp.alloc Wa (.cells #[.slice (some ⟨gk, 0, none⟩) 0 N] 68) Nu
  have xb := heap_alloc_new Wa (.cells #[.slice (some ⟨gk, 0, none⟩) 0 N] 68)
  obtain ⟨Wb, eWb⟩ : ∃ Wb, Wa.alloc (.cells #[.slice (some ⟨gk, 0, none⟩) 0 N] 68) = Wb := ⟨_, rfl⟩
  rw [eWb] at kb xb
  have kw : Kp Nu w Wb := (k0.andNu ka).andNu kb
  have HA := nheld114 Wb
  have AA := between_any Wb none lo hi
  have HC0 : Hid (Cp Wb w.heap.size N b7 Wa.heap.size gk [] [] ∧ Kp Nu w Wb) := by
    refine ⟨⟨?_, xb, own_keep moa (fun g e => kb.block g (own_lt moa e) (fun h => h)), trivial, (fun _ h => by cases h), List.Pairwise.nil, (k0.andNu ka).size⟩, kw⟩
    rw [← e7]
    exact ((ka.andNu kb).block _ (blk_lt x0) (fun h => h)).trans x0
  have c7 : W0.cell? ⟨b7, 0, none⟩ = some (.int .i64 (N : Int)) := by rw [← e7]; exact cell1 x0
  have HN := hide hN
  clear k0 x0 ka kb xb kw moa mga hN
  refine (callsIn_wide (n := 4)).1 ?_
  refine callsIn_of_wp_marks Try.func121 rfl trivial ?_ rfl
  simp only [Try.ntmps121, List.size_toArray, List.length_cons, List.length_nil, Nat.reduceAdd, Nat.reduceSub, Array.replicate_succ, Array.replicate_zero, List.push_toArray, List.append_toArray, List.nil_append, List.cons_append]
  gi_wp2_with fail
  refine ⟨trivial, (callsIn_wide.2 HA).mono ?_⟩; rintro e w' ⟨rfl, hw⟩; obtain rfl := hw.symm
  gi_wp2_with fail
  refine ⟨trivial, (callsIn_wide.2 AA).mono ?_⟩
  rintro e w5 ⟨B1, B2, rfl, hb5, hb51, hb52, hB1, hB2, k5⟩
  have SQ := nbetween_q w5 0 _ B1 B2 lo hi hb5 hb51 hb52
  have K5 : Kp Nu w w5 := HC0.out.2.andNu k5
  have HJ0 : Hid (NC w N b7 Wa.heap.size gk [] w5) := hide ⟨HC0.out.1.nu k5, K5.toBelow⟩
  have HS5 : Hid (w.heap.size ≤ w5.heap.size) := hide K5.size
  obtain ⟨bW, ebW⟩ : ∃ b, Wb.heap.size = b := ⟨_, rfl⟩
  rw [ebW] at SQ ⊢
  generalize Wa.heap.size = b9 at *
  clear HC0 HA AA mka eWb eW0 hb5 hb51 hb52 hB1 hB2 k5 K5 ebW c7 egk e7
  gi_wp2_with fail
  refine range_q (gf := 170) rfl (enters_of Try.func170 (by kernel_rfl) rfl) SQ (Below.refl _ _) (fun _ => rfl)
    (NC w N b7 b9 gk) (fun _ _ _ => False)
    (fun pre X Z row hs hg hr => ?ow1) (fun _ _ _ _ _ hs _ _ => hs) HJ0.out
    (fun x a' V' => a' = { tmps := #[.pointer none, .int .u64 lo, .int .u64 hi, .int .i64 (N : Int), undef, undef, undef, .pointer (some ⟨b7, 0, none⟩), .slice none 0 0, .pointer (some ⟨b9, 0, none⟩), .int .u64 x.1, .slice x.2.a x.2.n x.2.c, .int .i64 (N : Int), .slice (some ⟨gk, 0, none⟩) 0 N, .pointer none, .pointer none, .int .u64 lo, .int .u64 hi, .func (.func 170) #[] #[.pointer (some ⟨bW, 0, none⟩), .pointer (some ⟨B1, 0, none⟩), .pointer (some ⟨B2, 0, none⟩)], .int .u64 x.1, .slice x.2.a x.2.n x.2.c, undef, undef, undef, undef, undef, undef, undef, undef, undef, undef, undef, undef], defers := [] }) (fun _ _ _ _ _ _ hs _ _ => hs)
    ?as0 ?bo ?dn (fun _ _ _ _ _ _ h _ => h.elim)
  case ow1 => exact ⟨hs.1.cc (Cc.grown hg hr), ownFrom_below (β := Unit) (Nat.le_refl _) HS5.out () X Z row hs.2 hg hr⟩
  case as0 =>
    rintro l' pre x V' R hI hR
    have HI := hide hI
    clear hI SQ
    gi_wp2
    exact hR _ _ (kf_nu _ (Kp.refl _ _)) (kc_nu (Kp.refl _ _)) HI.out rfl
  case bo =>
    rintro l' pre x a' V' hl' hq hN he hp
    exact (no_pre hp).elim
  case dn =>
    rintro D ys V' hD hys ⟨hC, hB⟩ hK'
    have c9 : V'.cell? ⟨b9, 0, none⟩ = some (.slice (some ⟨gk, 0, none⟩) 0 N) := cell1 hC.bx
    have HL6 : Hid (∀ D' ∈ [D], w.heap.size ≤ D' ∧ V'.heap[D']? = some (.deferred (some []))) := hide (fun D' hD' => by
      obtain rfl : D' = D := by simpa using hD'
      exact ⟨Nat.le_trans HS5.out hD, hK'⟩)
    have HR : Hid (∀ Z, Cc V' Z → Kp (fun k => w.heap.size ≤ k) V' Z → Cd Z w.heap.size gk 0 [] [] ∧ Kp Nu w Z) := hide (fun Z hc hk => by
      have hz := hC.cc hc
      have ho := hz.own
      rw [HN.out] at ho
      exact ⟨⟨ho, trivial, hz.lo, hz.ap⟩, (Kp.of_below hB).trans hk (fun i hi e => by have e : w.heap.size ≤ i := e; omega)⟩)
    clear hC hB hK' SQ HJ0
    gi_wp2_with fail
    refine leaves_all [D] _ (by simp) HL6.out (fun Z hc hk => ?_)
    obtain ⟨z1, z2⟩ := HR.out Z hc ⟨hk.os, hk.tape, hk.output, hk.size, hk.block⟩
    refine ⟨.slice (some ⟨gk, 0, none⟩) 0 N, ?_, gk, rfl, z1, z2⟩
    simp [results, Try.results121, go_sem]
set_option maxHeartbeats 1000000 in
theorem nscan49 (w : World) (lo hi lim : Int) : Calls Try.prog 49 #[.pointer none, .int .u64 lo, .int .u64 hi, .int .i64 lim] w fun e w' => ∃ gk, e = .returned (.tuple #[.slice (some ⟨gk, 0, none⟩) 0 0, .bool false]) ∧ Cd w' w.heap.size gk 0 [] [] ∧ Kp Nu w w' := by
  have CA := ncount54 w lo hi
  have CP : Calls Try.prog 121 #[.pointer none, .int .u64 lo, .int .u64 hi, .int .i64 0] w fun e w' => ∃ gk, e = .returned (.slice (some ⟨gk, 0, none⟩) 0 0) ∧ Cd w' w.heap.size gk 0 [] [] ∧ Kp Nu w w' := ncopies121 w lo hi 0 rfl
  by_cases h1 : lim < 0
  · go_enter Try.func49, Try.ntmps49
    go_wp2_with (first
      | (go_at_call 54; refine CA.mono ?_; rintro e w1 ⟨rfl, hw⟩; obtain rfl := hw.symm)
      | (go_at_call 121; refine CP.mono ?_; rintro e w2 ⟨gk, rfl, z2, k2⟩))
    go_ret2
    exact ⟨gk, rfl, z2, k2⟩
  · have h2 : (0 : Int) ≤ lim := by omega
    go_enter Try.func49, Try.ntmps49
    go_wp2_with (first
      | (go_at_call 54; refine CA.mono ?_; rintro e w1 ⟨rfl, hw⟩; obtain rfl := hw.symm)
      | (go_at_call 121; refine CP.mono ?_; rintro e w2 ⟨gk, rfl, z2, k2⟩))
    go_ret2
    exact ⟨gk, rfl, z2, k2⟩
end Go.Proofs.Ytchealdgncgjoaa.StU
