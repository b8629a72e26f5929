import Derived.Test.YtffcnonhhfhlhaaDoorRgM
namespace Go.Proofs.YtffcnonhhfhlhaaDoor.Rg
open Go.RowKit Go.Shelf Go.Sort
open Go.Proofs.YtffcnonhhfhlhaaDoor.It
attribute [local go_sem] Oper.semAt_some
set_option linter.unusedVariables false

set_option maxRecDepth 100000 in
set_option maxHeartbeats 2000000 in
theorem assign_10 {B b : Nat} {w : World} {lim : Int} {v : Value} {L : List Sg} (h : Tb B w b lim v L) (lo hi o : Int) (k0 : 0 ≤ lo) (hlh : lo ≤ hi) (k1 : hi < 18446744073709551616) (o0 : 0 ≤ o) (ho : o < 16) (e1 : 0 < lo) (e2 : ¬ hi < 18446744073709551615) (hfit : (L.length : Int) + costB L lo hi o ≤ lim) (hBw : B ≤ w.heap.size) :
    Calls Tryd.prog 16 #[.pointer (some ⟨b, 0, none⟩), .int .u64 lo, .int .u64 hi, .int .u8 o] w fun e w' => e = .returned (.int .i64 0) ∧ ∃ v', Tb B w' b lim v' (asg L lo hi o) ∧ Kp (fun k => k = b) w w' := by
  have mixed : Tryd.prog.follows .mixedOrders = true := by kernel_rfl
  obtain ⟨i0, hi0, hz0, hz1, hz2⟩ := info_parts info40
  have CO := cost_ok h lo hi o k0 hlh k1 ho
  have LE := fun W (k : Kp Nu w W) => len_any (h.nu k)
  have C0 := fun W (k : Kp Nu w W) => (h.nu k).c0
  obtain ⟨F1, F2, F3⟩ := asg_facts h.tab k0 hlh k1 o0 ho
  have cr := cost_range h.tab o k0 hlh k1
  have hl : (L.length : Int) ≤ 8192 := by have := h.len; have := h.lim1; omega
  have hl1 := h.lim1
  have hne := h.tab.ne
  obtain ⟨N, hN⟩ : ∃ N, L.length = N := ⟨_, rfl⟩
  obtain ⟨C, hC⟩ : ∃ C, costB L lo hi o = C := ⟨_, rfl⟩
  rw [hN] at LE cr hl hfit F3 hne
  rw [hC] at CO cr hfit F3
  have HT := hide h
  have HF := hide (And.intro F1 F3)
  have HN := hide hN
  have hw1 : IntKind.i64.wrap ((N : Int) + C) = (N : Int) + C := by rw [IntKind.wrap_i64]; omega
  have hle : ¬ (N : Int) + C > lim := by omega
  obtain ⟨m, hm⟩ : ∃ m : Nat, (N : Int) + C = (m : Int) := ⟨((N : Int) + C).toNat, by omega⟩
  have hm2 : m ≤ 8192 := by omega
  clear F1 F2 F3 h hN hC
  refine (callsIn_wide (n := 4)).1 ?_
  refine callsIn_of_wp_marks Tryd.func16 rfl trivial ?_ rfl
  simp only [Tryd.ntmps16, List.size_toArray, List.length_cons, List.length_nil, Nat.reduceAdd, Nat.reduceSub, Array.replicate_succ, Array.replicate_zero, List.push_toArray, List.append_toArray, List.nil_append, List.cons_append]
  gi_wp2_with fail
  refine ⟨trivial, (callsIn_wide.2 CO).mono ?_⟩
  rintro e w1 ⟨rfl, hk1⟩
  clear CO
  gi_wp2_with fail
  refine wp_calm (wpIn_wide.2 ?_)
  have LE1 := LE w1.drew hk1.drew
  have c0 := C0 w1.drew hk1.drew
  rw [hm] at hw1 hle
  have hle2 : decide (lim < (m : Int)) = false := decide_eq_false (by omega)
  go_region_held (fun W => W.cell? ⟨b, 0, none⟩ = some (.int .i64 lim)) (first | exact c0) (first | (go_at_call 22; refine LE1.mono ?_; rintro e w' ⟨rfl, hw'⟩; obtain rfl := hw'.symm; clear hw'))
  simp only [Calm]
  gi_wp2_with fail
  refine ⟨trivial, (callsIn_wide.2 LE1).mono ?_⟩
  rintro e w' ⟨rfl, hw'⟩
  obtain rfl := hw'.symm
  clear hw' LE1 LE C0 c0
  have hk2 := hk1.drew
  generalize w1.drew = w2 at hk2 ⊢
  have e1' : lo > 0 := e1
  gi_wp2_with (first
    | (gi_at_make; refine wpListIn_make_own _ rfl _ _ 22 rfl w.heap.size 26 i0 (.agg #[.int .u64 0, .int .u64 0, .int .u8 0]) 3 Tryd.underlying22 hi0 hz0 hz1 .i64 .i64 _ m rfl rfl (by rfl) (by rw [hz2]; omega) (by unfold maxLen; omega) hk2.size ?_; intro w3 hrow3 hg3)
    | fail)

  have k4 : Kp Nu w (w3.alloc (.cells #[.slice (some ⟨w2.heap.size, 0, none⟩) 0 m] 22)) := (hk2.andNu ((Kp.of_grown hg3).mono (fun i _ h => by cases h))).andAlloc _
  have b4 : (w3.alloc (.cells #[.slice (some ⟨w2.heap.size, 0, none⟩) 0 m] 22)).heap[w3.heap.size]? = some (.cells #[.slice (some ⟨w2.heap.size, 0, none⟩) 0 m] 22 (0, 0)) := heap_alloc_new w3 _
  have o4 := hrow3.alloc (.cells #[.slice (some ⟨w2.heap.size, 0, none⟩) 0 m] 22)
  have hBX : w.heap.size ≤ w3.heap.size := Nat.le_trans hk2.size hg3.size
  generalize w3.alloc (.cells #[.slice (some ⟨w2.heap.size, 0, none⟩) 0 m] 22) = w4 at k4 b4 o4 ⊢
  generalize w2.heap.size = R0 at b4 o4 ⊢
  generalize w3.heap.size = BX at b4 hBX ⊢
  clear hrow3 hg3 hk2
  have WI := within_any (HT.out.nu k4) 0 (lo - 1) (by omega) (by omega)
  refine ⟨trivial, (callsIn_wide.2 WI).mono ?_⟩
  rintro e w5 ⟨Br, Bn, r, cap, rfl, x0, x1, x2, x3, hr, hk5⟩
  obtain ⟨cur, hcur, hrow⟩ := ((HT.out.nu k4).nu hk5).cur hr
  have hrw : r < w.heap.size := own_lt HT.out.own hr
  rw [plc_first HT.out.tab.cov] at x3
  simp only [List.drop_zero, Nat.zero_mul] at x3
  have hM : L.length ≤ 8192 := by have := HN.out; omega
  have SQ := within1_o w5 _ _ Br Bn r 0 cap 0 (lo - 1) (by omega) L cur hM hrow x0 x1 x2 x3 hcur
  have L0 : Lp w w5 BX w4.heap.size (w4.heap.size + 1) 0 (lo - 1) (lays [] []) := ⟨⟨_, (hk5.block _ (blk_lt b4) (fun h => h)).trans b4, own_keep o4 (fun g e => hk5.block g (own_lt o4 e) (fun h => h))⟩, x0, x1⟩
  have hb5 : Below w.heap.size w w5 := (k4.andNu hk5).toBelow
  have hs5 : w.heap.size ≤ w5.heap.size := hb5.size
  generalize w4.heap.size = Bl at SQ L0 ⊢
  clear WI x0 x1 x2 x3 hcur hrow b4 o4 k4 hk5 hr
  gi_wp2_with fail
  refine range_o (gf := 45) rfl (enters_of Tryd.func45 (by kernel_rfl) rfl) SQ (Below.refl _ _) (fun _ => rfl)
    (fun pre V => Lp w V BX Bl (Bl + 1) 0 (lo - 1) (lays [] pre) ∧ Below w.heap.size w V) (fun _ _ _ => False)
    (OwnFrom.and (Lp.own _ _) (ownFrom_below (Nat.le_refl _) hs5)) (fun _ _ _ _ _ hs _ _ => hs) ⟨L0, hb5⟩
    (fun x a' V => ∃ Bx, V.heap[Bx]? = some (.cells #[.int .u64 x.lo, .int .u64 x.hi, .int .u8 x.h] 26 (0, 0)) ∧ a' = { tmps := #[.pointer (some ⟨b, 0, none⟩), .int .u64 lo, .int .u64 hi, .int .u8 o, undef, undef, undef, undef, .int .i64 0, .int .i64 C, .int .i64 0, .pointer (some ⟨BX, 0, none⟩), .pointer (some ⟨Bx, 0, none⟩), undef, .tuple #[.int .i64 C, .int .i64 0], .pointer (some ⟨b, 0, none⟩), .int .u64 lo, .int .u64 hi, .int .u8 o, .tuple #[.int .i64 C, .int .i64 0], .int .i64 C, .int .i64 0, .int .i64 0, .bool false, undef, .pointer (some ⟨b, 0, none⟩), .int .i64 (N : Int), .int .i64 C, .int .i64 (m : Int), .pointer (some ⟨b, 0, none⟩), .pointer (some ⟨b, 0, none⟩), .pointer (some ⟨b, 0, none⟩), .int .i64 lim, .bool false, .pointer (some ⟨b, 0, none⟩), .int .i64 (N : Int), .int .i64 C, .int .i64 (m : Int), .slice (some ⟨R0, 0, none⟩) 0 m, .int .u64 lo, .bool true, .pointer (some ⟨b, 0, none⟩), .int .u64 lo, .int .u64 (lo - 1), .func (.func 45) #[] #[.pointer (some ⟨Bl, 0, none⟩), .pointer (some ⟨Bl + 1, 0, none⟩), .pointer (some ⟨Br, 0, none⟩)], enc x, undef, undef, undef, undef, undef, undef, undef, undef, undef, undef, undef, undef, undef, undef, undef, undef, undef, undef, undef, undef, undef, undef, undef], defers := [] })
    (fun x a' _ X Z row hs hg hr => by
      obtain ⟨Bx, h1, h2⟩ := hs
      exact ⟨Bx, own_cells (β := Unit) w5.heap.size Bx _ _ _ () X Z row h1 hg hr, h2⟩)
    ?assign1 ?body1 ?done1 (fun _ _ _ _ _ _ h _ => h.elim)
  case assign1 =>
    rintro l' pre x V K ⟨hLp, hB1⟩ hK
    simp only [enc]
    have kV := Kp.alloc V (.cells #[.int .u64 x.lo, .int .u64 x.hi, .int .u8 x.h] 26) Nu
    have HZ := hide (And.intro (hLp.nu kV) kV)
    clear hLp kV
    gi_wp2
    obtain ⟨f1, kV⟩ := HZ.out
    exact hK _ _ (kf_nu _ kV) (kc_nu kV) ⟨f1, hB1.alloc hB1.size _⟩ ⟨V.heap.size, heap_alloc_new V _, rfl⟩
  case body1 =>
    rintro l' pre x a' V hl' hq ⟨⟨⟨u, b1, b2⟩, bl, bh⟩, hB1⟩ ⟨Bx, hX, rfl⟩ hlt
    obtain ⟨a0, a1, a2⟩ := cell3 hX
    have hle3 := lays_le pre []
    have LAY := lay_any w.heap.size V u (lays [] pre) x (by simp at hle3; omega) b2 hB1.size
    obtain ⟨adu, cpu, hu⟩ := own_slice b2
    have hST : Hid (∀ V1 u', Kp (fun k => some k = u.ownBlock) V V1 → V1.ownsRow w.heap.size 26 3 u' (lay (lays [] pre) x).length (cells (lay (lays [] pre) x)) → V1.heap[BX]? = some (.cells #[u] 22 (0, 0)) ∧ Lp w (V1.setCell ⟨BX, 0, none⟩ u') BX Bl (Bl + 1) 0 (lo - 1) (lays [] (pre ++ [x])) ∧ KeepsFrom w.heap.size V (V1.setCell ⟨BX, 0, none⟩ u') ∧ Kc (KW Bl (Bl + 1) r) V (V1.setCell ⟨BX, 0, none⟩ u') ∧ Below w.heap.size w (V1.setCell ⟨BX, 0, none⟩ u')) := fun V1 u' k ho => by
      refine ⟨(k.block _ (blk_lt b1) (fun hs => ?_)).trans b1, ?_⟩
      · obtain ⟨_, c, e3⟩ := own_type b2 hs.symm
        rw [b1] at e3; cases e3
      · rw [lays_snoc]
        exact Lp.step bl bh b1 b2 hrw hBX k ho hB1
    have c1 := cell1 b1
    unfold enc at LAY
    subst hu
    clear b1 b2 bl bh hX hle3 hlt hl' hq SQ L0
    gi_wp2_with fail
    refine ⟨trivial, (CallsIn.inRound l' (callsIn_wide.2 LAY)).mono ?_⟩
    rintro e V1 ⟨u', rfl, ho', hk'⟩
    obtain ⟨q1, q2⟩ := hST.out V1 u' hk' ho'
    obtain ⟨ad', cp', hu'⟩ := own_slice ho'
    have HQ := hide q2
    have d1 := cell1 q1
    have d2 := free3 q1 0
    subst hu'
    clear q1 q2 hk' ho' LAY
    gi_wp2
    obtain ⟨q2, q3, q4, q5⟩ := HQ.out
    exact ⟨kf_mono q3 hs5, q4, q2, q5⟩
  case done1 =>
    rintro D1 ys V hD1 rfl ⟨⟨⟨u, b1, b2⟩, bl, bh⟩, hB1⟩ hK1
    have hw0 : w.heap.size ≤ D1 := Nat.le_trans hs5 hD1
    have hlow : tk 0 (lo - 1) L = lowP L lo := by unfold lowP; rw [if_pos e1]
    rw [hlow] at b2
    clear bl bh SQ L0 hlow
    have hlp := (low_facts HT.out.tab k0 (by omega : lo < 18446744073709551616)).2.2.1
    have hll : (lays [] (lowP L lo)).length ≤ 8192 := by
      rw [lays_nil_id hlp]
      have h1 := HN.out
      have h2 := low_len L lo
      omega
    have LAY := lay_any w.heap.size V u (lays [] (lowP L lo)) ⟨lo, hi, o⟩ (by omega) b2 hB1.size
    obtain ⟨ad1, cp1, hu⟩ := own_slice b2
    have hST : Hid (∀ V1 u', Kp (fun k => some k = u.ownBlock) V V1 → V1.ownsRow w.heap.size 26 3 u' (lay (lays [] (lowP L lo)) ⟨lo, hi, o⟩).length (cells (lay (lays [] (lowP L lo)) ⟨lo, hi, o⟩)) → V1.heap[BX]? = some (.cells #[u] 22 (0, 0)) ∧ (V1.setCell ⟨BX, 0, none⟩ u').heap[BX]? = some (.cells #[u'] 22 (0, 0)) ∧ (V1.setCell ⟨BX, 0, none⟩ u').ownsRow w.heap.size 26 3 u' (lay (lays [] (lowP L lo)) ⟨lo, hi, o⟩).length (cells (lay (lays [] (lowP L lo)) ⟨lo, hi, o⟩)) ∧ KeepsFrom w.heap.size V (V1.setCell ⟨BX, 0, none⟩ u') ∧ Below w.heap.size w (V1.setCell ⟨BX, 0, none⟩ u')) := fun V1 u' k ho => mid_step b1 b2 hBX k ho hB1
    have c1 := cell1 b1
    unfold enc at LAY
    obtain ⟨n1, hn1⟩ : ∃ n1, (lays [] (lowP L lo)).length = n1 := ⟨_, rfl⟩
    rw [hn1] at hu
    subst hu
    clear b1 b2 hlp hn1
    gi_wp2_with fail
    refine ⟨trivial, (callsIn_wide.2 LAY).mono ?_⟩
    rintro e V1 ⟨u', rfl, ho', hk'⟩
    obtain ⟨q1, q2, q3, q4, q5⟩ := hST.out V1 u' hk' ho'
    obtain ⟨ad2, cp2, hu'⟩ := own_slice ho'
    have hll2 := lay_len (lays [] (lowP L lo)) ⟨lo, hi, o⟩
    have hll3 : (lay (lays [] (lowP L lo)) ⟨lo, hi, o⟩).length ≤ 8193 := by split at hll2 <;> omega
    obtain ⟨n2, hn2⟩ : ∃ n2, (lay (lays [] (lowP L lo)) ⟨lo, hi, o⟩).length = n2 := ⟨_, rfl⟩
    rw [hn2] at hu'
    have d1 := cell1 q1
    have d2 := free3 q1 0
    have HQ := hide (And.intro q2 (And.intro q3 (And.intro q4 q5)))
    subst hu'
    clear q1 q2 q3 q4 q5 hk' ho' LAY hST hll2 hn2 c1 hll
    obtain ⟨q2, q3, q4, q5⟩ := HQ.out
    have b1 := q2
    have b2 : (V1.setCell ⟨BX, 0, none⟩ (.slice ad2 n2 cp2)).ownsRow w.heap.size 26 3 (.slice ad2 n2 cp2) (lays (lay (lays [] (lowP L lo)) ⟨lo, hi, o⟩) (highP L hi)).length (cells (lays (lay (lays [] (lowP L lo)) ⟨lo, hi, o⟩) (highP L hi))) := by
      have e : highP L hi = [] := by unfold highP; rw [if_neg (by omega)]
      rw [e, lays_nil]
      exact q3
    have hB2 := q5
    have hKD := q4.same D1 _ hw0 hK1 rfl
    clear q2 q3 q4 q5 HQ
    have hasg : asg L lo hi o = lays (lay (lays [] (lowP L lo)) ⟨lo, hi, o⟩) (highP L hi) := rfl
    rw [← hasg] at b2
    have hfit2 : ((asg L lo hi o).length : Int) ≤ lim := by have := HF.out.2; omega
    obtain ⟨FT, FK⟩ := fin_tb HT.out hB2 b2 hBw HF.out.1 hfit2
    have HFT := hide (And.intro FT FK)
    have hb3 := (hB2.block b (blk_lt HT.out.blk)).trans HT.out.blk
    have s3 := free3 hb3 1
    have s4 : (V1.setCell ⟨BX, 0, none⟩ (.slice ad2 n2 cp2)).cell? ⟨b, 1, none⟩ = some v := by simp [World.cell?, hb3]
    obtain ⟨ad3, cp3, hu3⟩ := own_slice b2
    obtain ⟨rv, capv, hv, _⟩ := HT.out.row
    rw [hv] at s4
    have c3 := cell1 b1
    clear hu3
    have HKD := hide hKD
    clear b2 FT FK hb3 hasg hKD
    gi_wp2
    obtain ⟨FT, FK⟩ := HFT.out
    have hE1 := (KeepsOthers.setCell (V1.setCell ⟨BX, 0, none⟩ (.slice ad2 n2 cp2)) ⟨b, 1, none⟩ (.slice ad2 n2 cp2)).same D1 _ HKD.out rfl
    refine ⟨by simp, .inl ⟨_, _, rfl, run_takeDeferred hE1, ?_⟩⟩
    replace FT := FT.put (.deferred none) hE1 rfl
    replace FK := FK.put (.deferred none) hw0
    exact ⟨_, results_tmp rfl _ _ _, rfl, _, FT, FK⟩
end Go.Proofs.YtffcnonhhfhlhaaDoor.Rg
