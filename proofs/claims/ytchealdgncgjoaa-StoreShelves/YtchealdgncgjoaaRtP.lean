import Derived.Test.YtchealdgncgjoaaRtO
namespace Go.Proofs.Ytchealdgncgjoaa.StU
open Go.RowKit Go.Proofs.Ytchealdgncgjoaa.St Go.Shelf Go.Sort Go.Proofs.Ytchealdgncgjoaa.It
attribute [local go_sem] Oper.semAt_some
set_option linter.unusedVariables false
set_option linter.unusedSimpArgs false
def ND (w : World) (b7 : Nat) (h0 : Int) (pre : List (Int × Sv)) (V : World) : Prop := V.heap[b7]? = some (.cells #[.int .u64 h0] 69 (0, 0)) ∧ Below w.heap.size w V
set_option maxRecDepth 100000 in
set_option maxHeartbeats 4000000 in
theorem ndigest51 (w : World) (lo hi : Int) : Calls Try.prog 51 #[.pointer none, .int .u64 lo, .int .u64 hi] w fun e w' => e = .returned (.int .u64 14695981039346656037) ∧ Kp Nu w w' := by
  have mixed : Try.prog.follows .mixedOrders = true := by kernel_rfl
  obtain ⟨h0, eh0⟩ : ∃ h0 : Int, 14695981039346656037 = h0 := ⟨_, rfl⟩
  have FN : Calls Try.prog 50 #[.slice none 0 0] w fun e w' => e = .returned (.int .u64 14695981039346656037) ∧ w' = w := Cd.fnv50 w (.slice none 0 0) [] (.inl ⟨rfl, rfl⟩) (by simp)
  rw [eh0] at FN ⊢
  have k0 := Kp.alloc w (.cells #[.int .u64 h0] 69) Nu
  have x0 := heap_alloc_new w (.cells #[.int .u64 h0] 69)
  obtain ⟨W0, eW0⟩ : ∃ W0, w.alloc (.cells #[.int .u64 h0] 69) = W0 := ⟨_, rfl⟩
  rw [eW0] at k0 x0
  have HA := nheld114 W0
  have AA := between_any W0 none lo hi
  have HC0 : Hid (W0.heap[w.heap.size]? = some (.cells #[.int .u64 h0] 69 (0, 0)) ∧ Kp Nu w W0) := ⟨x0, k0⟩
  obtain ⟨b7, e7⟩ : ∃ b, w.heap.size = b := ⟨_, rfl⟩
  have e7' : Hid (w.heap.size = b7) := e7
  clear k0 x0 eh0
  refine (callsIn_wide (n := 4)).1 ?_
  refine callsIn_of_wp_marks Try.func51 rfl trivial ?_ rfl
  simp only [Try.ntmps51, List.size_toArray, List.length_cons, List.length_nil, Nat.reduceAdd, Nat.reduceSub, Array.replicate_succ, Array.replicate_zero, List.push_toArray, List.append_toArray, List.nil_append, List.cons_append]
  gi_wp2_with fail
  refine ⟨trivial, (callsIn_wide.2 FN).mono ?_⟩; rintro e w' ⟨rfl, hw⟩; obtain rfl := hw.symm
  gi_wp2_with fail
  refine ⟨trivial, (callsIn_wide.2 HA).mono ?_⟩; rintro e w' ⟨rfl, hw⟩; obtain rfl := hw.symm
  gi_wp2_with fail
  refine ⟨trivial, (callsIn_wide.2 AA).mono ?_⟩
  rintro e w5 ⟨B1, B2, rfl, hb5, hb51, hb52, hB1, hB2, k5⟩
  have SQ := nbetween_q w5 0 _ B1 B2 lo hi hb5 hb51 hb52
  have K5 : Kp Nu w w5 := HC0.out.2.andNu k5
  have HJ0 : Hid (ND w b7 h0 [] w5) := hide ⟨by rw [← e7'.out]; exact (k5.block _ (blk_lt HC0.out.1) (fun h => h)).trans HC0.out.1, K5.toBelow⟩
  have HS5 : Hid (w.heap.size ≤ w5.heap.size) := hide K5.size
  obtain ⟨bW, ebW⟩ : ∃ b, W0.heap.size = b := ⟨_, rfl⟩
  rw [ebW] at SQ ⊢
  clear HC0 HA AA eW0 hb5 hb51 hb52 hB1 hB2 k5 K5 ebW e7 FN
  gi_wp2_with fail
  refine range_q (gf := 170) rfl (enters_of Try.func170 (by kernel_rfl) rfl) SQ (Below.refl _ _) (fun _ => rfl)
    (ND w b7 h0) (fun _ _ _ => False)
    (fun pre X Z row hs hg hr => ?ow1) (fun _ _ _ _ _ hs _ _ => hs) HJ0.out
    (fun x a' V' => a' = { tmps := #[.pointer none, .int .u64 lo, .int .u64 hi, undef, undef, undef, .int .u64 0, .pointer (some ⟨b7, 0, none⟩), .int .u64 x.1, .slice x.2.a x.2.n x.2.c, .int .u64 h0, .pointer none, .pointer none, .int .u64 lo, .int .u64 hi, .func (.func 170) #[] #[.pointer (some ⟨bW, 0, none⟩), .pointer (some ⟨B1, 0, none⟩), .pointer (some ⟨B2, 0, none⟩)], .int .u64 x.1, .slice x.2.a x.2.n x.2.c, undef, undef, undef, undef, undef, undef], defers := [] }) (fun _ _ _ _ _ _ hs _ _ => hs)
    ?as0 ?bo ?dn (fun _ _ _ _ _ _ h _ => h.elim)
  case ow1 => exact ⟨(Cc.grown hg hr) _ _ _ _ hs.1, ownFrom_below (β := Unit) (Nat.le_refl _) HS5.out () X Z row hs.2 hg hr⟩
  case as0 =>
    rintro l' pre x V' R hI hR
    have HI := hide hI
    clear hI SQ
    gi_wp2
    exact hR _ _ (kf_nu _ (Kp.refl _ _)) (kc_nu (Kp.refl _ _)) HI.out rfl
  case bo =>
    rintro l' pre x a' V' hl' hq hN he hp
    exact (no_pre hp).elim
  case dn =>
    rintro D ys V' hD hys ⟨hb, hB⟩ hK'
    have c7 := cell1 hb
    have HL6 : Hid (∀ D' ∈ [D], w.heap.size ≤ D' ∧ V'.heap[D']? = some (.deferred (some []))) := hide (fun D' hD' => by
      obtain rfl : D' = D := by simpa using hD'
      exact ⟨Nat.le_trans HS5.out hD, hK'⟩)
    have HR : Hid (∀ Z, Kp (fun k => w.heap.size ≤ k) V' Z → Kp Nu w Z) := hide (fun Z hk => (Kp.of_below hB).trans hk (fun i hi e => by have e : w.heap.size ≤ i := e; omega))
    clear hb hB hK' SQ HJ0
    gi_wp2_with fail
    refine leaves_all [D] _ (by simp) HL6.out (fun Z hc hk => ?_)
    have z2 := HR.out Z ⟨hk.os, hk.tape, hk.output, hk.size, hk.block⟩
    refine ⟨.int .u64 h0, ?_, rfl, z2⟩
    simp [results, Try.results51, go_sem]
/-- nth at a negative place -/
theorem nth_neg {w : World} {sb : Nat} (lo hi i : Int) (h0 : i < 0) : Calls Try.prog 53 #[.pointer (some ⟨sb, 0, none⟩), .int .u64 lo, .int .u64 hi, .int .i64 i] w fun e w' => e = .returned (.tuple #[.int .u64 0, .bool false]) ∧ w' = w := by
  go_enter Try.func53, Try.ntmps53
  go_wp2
  go_ret2
  exact ⟨rfl, rfl⟩
theorem num72 (w : World) (n : Int) : Calls Try.prog 72 #[.int .i64 n] w fun e w' => e = .returned (.int .i64 n) ∧ w' = w := by
  go_enter Try.func72, Try.ntmps72
  go_wp2
  go_ret
  exact ⟨rfl, rfl⟩
end Go.Proofs.Ytchealdgncgjoaa.StU
