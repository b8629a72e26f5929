import Derived.Test.YtchealdgncgjoaaShE
namespace Go.Proofs.Ytchealdgncgjoaa.StU
open Go.RowKit Go.Proofs.Ytchealdgncgjoaa.St Go.Shelf Go.Sort Go.Proofs.Ytchealdgncgjoaa.It
attribute [local go_sem] Oper.semAt_some
set_option linter.unusedVariables false
/-- a row of pairs that was told -/
structure Cd (V : World) (B gk N : Nat) (L : List (Int × Sv)) (A : List KV) : Prop where
  own : V.ownsRow B 78 2 (.slice (some ⟨gk, 0, none⟩) N N) N (pc L)
  f : F2 (FV V) L A
  lo : ∀ p ∈ L, ∀ g, (sl p.2).ownBlock = some g → B ≤ g
  ap : L.Pairwise (fun p q => ∀ g, (sl p.2).ownBlock = some g → (sl q.2).ownBlock ≠ some g)
set_option maxRecDepth 100000 in
set_option maxHeartbeats 4000000 in
theorem copies_any {w : World} {sb mb : Nat} {most : Int} {t : T (Int × Sv)} {M : List KV} (h : Sh w sb mb most t M) (lo hi : Int) (N : Nat) (hN : N ≤ (rg lo hi M).length) :
    Calls Try.prog 121 #[.pointer (some ⟨sb, 0, none⟩), .int .u64 lo, .int .u64 hi, .int .i64 (N : Int)] w fun e w' => ∃ gk L, e = .returned (.slice (some ⟨gk, 0, none⟩) N N) ∧ Cd w' w.heap.size gk N L ((rg lo hi M).take N) ∧ Kp Nu w w' := by
  have mixed : Try.prog.follows .mixedOrders = true := by kernel_rfl
  obtain ⟨i78, hi78, hy0, hy1, hy2⟩ := info_parts info78
  have hNs : N ≤ 32768 := by have h1 : (rg lo hi M).length ≤ M.length := List.length_filter_le _ _; have := h.sz; have := h.small; omega
  have k0 := Kp.alloc w (.cells #[.int .i64 (N : Int)] 3) Nu
  have x0 := heap_alloc_new w (.cells #[.int .i64 (N : Int)] 3)
  obtain ⟨b7, e7⟩ : ∃ b, w.heap.size = b := ⟨_, rfl⟩
  obtain ⟨W0, eW0⟩ : ∃ W0, w.alloc (.cells #[.int .i64 (N : Int)] 3) = W0 := ⟨_, rfl⟩
  rw [eW0] at k0 x0
  obtain ⟨Wa, mka, moa, mga⟩ := run_make_own (P := Try.prog) W0 w.heap.size 68 78 i78 (.agg #[.int .u64 0, .slice none 0 0]) 2 Try.underlying68 hi78 hy0 hy1 .i64 .i64 N (by rw [hy2]; omega) (by unfold maxLen; omega) k0.size
  have ka : Kp Nu W0 Wa := (Kp.of_grown mga).mono (fun i _ e => by cases e)
  obtain ⟨gk, egk⟩ : ∃ g, W0.heap.size = g := ⟨_, rfl⟩
  rw [egk] at mka moa
  have kb := Kp.alloc Wa (.cells #[.slice (some ⟨gk, 0, none⟩) 0 N] 68) Nu
  have xb := heap_alloc_new Wa (.cells #[.slice (some ⟨gk, 0, none⟩) 0 N] 68)
  obtain ⟨Wb, eWb⟩ : ∃ Wb, Wa.alloc (.cells #[.slice (some ⟨gk, 0, none⟩) 0 N] 68) = Wb := ⟨_, rfl⟩
  rw [eWb] at kb xb
  have kw : Kp Nu w Wb := (k0.andNu ka).andNu kb
  have HA := held_any (h.nu kw)
  have AA := between_any Wb (some ⟨mb, 0, none⟩) lo hi
  have HC0 : Hid (Cp Wb w.heap.size N b7 Wa.heap.size gk [] [] ∧ Kp Nu w Wb ∧ Sh Wb sb mb most t M ∧ N ≤ 32768) := by
    refine ⟨⟨?_, xb, own_keep moa (fun g e => kb.block g (own_lt moa e) (fun h => h)), trivial, (fun _ h => by cases h), List.Pairwise.nil, (k0.andNu ka).size⟩, kw, h.nu kw, hNs⟩
    rw [← e7]
    exact ((ka.andNu kb).block _ (blk_lt x0) (fun h => h)).trans x0
  have c7 : W0.cell? ⟨b7, 0, none⟩ = some (.int .i64 (N : Int)) := by rw [← e7]; exact cell1 x0
  have hsm := h.small
  have hrl := rg_length h lo hi
  obtain ⟨FM, eFM⟩ : ∃ FM, rg lo hi M = FM := ⟨_, rfl⟩
  rw [eFM] at hN hrl ⊢
  have hsz := h.sz
  have HE := hide (And.intro hsm (And.intro hN hrl))
  clear k0 x0 ka kb xb kw moa mga h hNs hsm hrl hsz hN
  refine (callsIn_wide (n := 4)).1 ?_
  refine callsIn_of_wp_marks Try.func121 rfl trivial ?_ rfl
  simp only [Try.ntmps121, List.size_toArray, List.length_cons, List.length_nil, Nat.reduceAdd, Nat.reduceSub, Array.replicate_succ, Array.replicate_zero, List.push_toArray, List.append_toArray, List.nil_append, List.cons_append]
  gi_wp2_with fail
  refine ⟨trivial, (callsIn_wide.2 HA).mono ?_⟩; rintro e w' ⟨rfl, hw⟩; obtain rfl := hw.symm
  gi_wp2_with fail
  refine ⟨trivial, (callsIn_wide.2 AA).mono ?_⟩
  rintro e w5 ⟨B1, B2, rfl, hb5, hb51, hb52, hB1, hB2, k5⟩
  have SQ := between_q (HC0.out.2.2.1.m.nu k5) hb5 hb51 hb52 (by have := HE.out.1; omega)
  rw [seg_filter HC0.out.2.2.1.m.srt] at SQ
  have K5 : Kp Nu w w5 := HC0.out.2.1.andNu k5
  have HJ0 : Hid (CI w N b7 Wa.heap.size gk sb mb most t M (rg lo hi M) [] w5) := hide ⟨[], rfl, HC0.out.1.nu k5, HC0.out.2.2.1.nu k5, K5.toBelow⟩
  have HS5 : Hid (w.heap.size ≤ w5.heap.size ∧ F2 (FV w5) (t.xs.filter (inR lo hi)) (rg lo hi M) ∧ N ≤ 32768) := hide ⟨K5.size, (HC0.out.2.2.1.nu k5).vs.filter _ _ (fun a b hf => by unfold inR; rw [hf.1]), HC0.out.2.2.2⟩
  have HFS : Hid (Sh w5 sb mb most t M ∧ Kp Nu w w5) := hide ⟨HC0.out.2.2.1.nu k5, K5⟩
  obtain ⟨bW, ebW⟩ : ∃ b, Wb.heap.size = b := ⟨_, rfl⟩
  rw [ebW] at SQ ⊢
  generalize Wa.heap.size = b9 at *
  obtain ⟨FS, eFS⟩ : ∃ FS, t.xs.filter (inR lo hi) = FS := ⟨_, rfl⟩
  rw [eFS] at SQ HS5
  have HEQ : Hid (t.xs.filter (inR lo hi) = FS ∧ M.filter (inR lo hi) = FM) := ⟨eFS, eFM⟩
  rw [eFM] at HJ0 HS5
  clear HC0 HA AA mka eWb eW0 hb5 hb51 hb52 hB1 hB2 k5 K5 ebW eFS eFM c7 egk e7
  gi_wp2_with fail
  refine range_q (gf := 170) rfl (enters_of Try.func170 (by kernel_rfl) rfl) SQ (Below.refl _ _) (fun _ => rfl)
    (CI w N b7 b9 gk sb mb most t M FM) (CE w N b7 b9 gk sb mb most t M FM)
    (fun pre X Z row hs hg hr => ?ow1) (fun c pre X Z row hs hg hr => ?ow2) HJ0.out
    (fun x a' V' => a' = { tmps := #[.pointer (some ⟨sb, 0, none⟩), .int .u64 lo, .int .u64 hi, .int .i64 (N : Int), undef, undef, undef, .pointer (some ⟨b7, 0, none⟩), .slice none 0 0, .pointer (some ⟨b9, 0, none⟩), .int .u64 x.1, .slice x.2.a x.2.n x.2.c, .int .i64 (N : Int), .slice (some ⟨gk, 0, none⟩) 0 N, .pointer (some ⟨sb, 0, none⟩), .pointer (some ⟨mb, 0, none⟩), .int .u64 lo, .int .u64 hi, .func (.func 170) #[] #[.pointer (some ⟨bW, 0, none⟩), .pointer (some ⟨B1, 0, none⟩), .pointer (some ⟨B2, 0, none⟩)], .int .u64 x.1, .slice x.2.a x.2.n x.2.c, undef, undef, undef, undef, undef, undef, undef, undef, undef, undef, undef, undef], defers := [] }) (fun _ _ _ _ _ _ hs _ _ => hs)
    ?as0 ?bo ?dn ?st
  case ow1 =>
    obtain ⟨L, h1, h2, h3, h4⟩ := hs
    exact ⟨L, h1, h2.cc (Cc.grown hg hr), (Cc.grown hg hr).sh h3, ownFrom_below (β := Unit) (Nat.le_refl _) HS5.out.1 () X Z row h4 hg hr⟩
  case ow2 =>
    obtain ⟨hc, L, h1, h2, h3, h4⟩ := hs
    exact ⟨hc, L, h1, h2.cc (Cc.grown hg hr), (Cc.grown hg hr).sh h3, ownFrom_below (β := Unit) (Nat.le_refl _) HS5.out.1 () X Z row h4 hg hr⟩
  case as0 =>
    rintro l' pre x V' R hI hR
    have HI := hide hI
    clear hI SQ
    gi_wp2
    exact hR _ _ (kf_nu _ (Kp.refl _ _)) (kc_nu (Kp.refl _ _)) HI.out rfl
  case bo =>
    rintro l' pre x a' V' hl' hq ⟨L, hL, hC, hS, hB⟩ rfl hp
    obtain ⟨hx, hln⟩ := pre_at hp
    obtain ⟨xk, xv⟩ := x
    have hFF : F2 (FV V') FS FM := by
      have := hS.vs.filter (inR lo hi) (inR lo hi) (fun a b hf => by unfold inR; rw [hf.1])
      rw [HEQ.out.1, HEQ.out.2] at this; exact this
    obtain ⟨m, hm, hfv⟩ := hFF.at hx
    obtain ⟨mk, ys⟩ := m
    obtain rfl : xk = mk := hfv.1
    have c7 := cell1 hC.lim
    have c9 := cell1 hC.bx
    by_cases hN : L.length = N
    · have hNI : ((L.length : Int) == (N : Int)) = true := by simp [hN]
      have HJ := hide (And.intro hC (And.intro hS (And.intro hB (And.intro hL hN))))
      clear hC hS hB hL hN hp hx hln hq SQ HJ0 hfv hm hFF
      gi_wp2
      obtain ⟨hC, hS, hB, hL, hN⟩ := HJ.out
      exact ⟨kf_nu _ (Kp.refl _ _), rfl, L, hN, by rw [show N = pre.length by omega]; have := hC; rw [show N = pre.length by omega] at this; exact this, hS, hB⟩
    · have hNI : ((L.length : Int) == (N : Int)) = false := by simp; omega
      have hlN : L.length ≤ N := by
        rcases hC.own.2 with ⟨e, _⟩ | ⟨g, cap, cur, e, _, _, h1, _⟩
        · cases e
        · cases e; exact h1
      have HLE : Hid (L.length + 1 ≤ N) := by show _ ≤ _; omega
      have HCB : ∀ W, Kp Nu V' W → W.cell? ⟨b9, 0, none⟩ = some (.slice (some ⟨gk, 0, none⟩) L.length N) := fun W q => cell1 ((q.block _ (blk_lt hC.bx) (fun h => h)).trans hC.bx)
      have HOW : ∀ W, Kp Nu V' W → W.ownsRow w.heap.size 78 2 (.slice (some ⟨gk, 0, none⟩) L.length N) L.length (pc L) := fun W q => (hC.nu q).own
      have CT : Calls Try.prog 116 #[.slice xv.a xv.n xv.c] V'.drew fun e W => ∃ v : Sv, e = .returned (.slice v.a v.n v.c) ∧ Hid (CL V' ys v W) := by
        refine (clone_any V'.drew _ ys (hfv.rd.nu (Kp.refl Nu V').drew) (by have : ys.length ≤ 64 := hfv.2.2.1; omega)).mono ?_
        rintro e W ⟨v, e1, e2, e3⟩
        exact ⟨v, e1, e2, ((Kp.refl Nu V').drew).andNu e3⟩
      have HM : Hid (FM.take (pre ++ [(xk, xv)]).length = FM.take pre.length ++ [(xk, ys)]) := by
        show _ = _
        rw [List.length_append, List.length_singleton, List.take_add_one, hm]; rfl
      have HJ := hide (And.intro hC (And.intro hS (And.intro hB (And.intro hL hfv))))
      clear hC hS hB hL hN hp hx hln hq SQ HJ0 hm hFF hfv hlN
      gi_wp2_with fail
      refine wpIn_region_any (by assumption) ?_
      change wpAnyIn _ _ _ _ _ _ _ _ _ (World.drew _)
      refine Ord.wpAnyIn_inv (Inv := fun listed a w' => ∃ (l0 l1 l2 l3 l4 l5 l6 l7 : Bool) (v : Sv) (Bs : Nat), listed = #[l0, l1, l2, l3, l4, l5, l6, l7] ∧ a = { tmps := #[.pointer (some ⟨sb, 0, none⟩), .int .u64 lo, .int .u64 hi, .int .i64 (N : Int), undef, undef, undef, .pointer (some ⟨b7, 0, none⟩), .slice none 0 0, .pointer (some ⟨b9, 0, none⟩), .int .u64 xk, .slice xv.a xv.n xv.c, .int .i64 (N : Int), .slice (some ⟨gk, 0, none⟩) 0 N, .pointer (some ⟨sb, 0, none⟩), .pointer (some ⟨mb, 0, none⟩), .int .u64 lo, .int .u64 hi, .func (.func 170) #[] #[.pointer (some ⟨bW, 0, none⟩), .pointer (some ⟨B1, 0, none⟩), .pointer (some ⟨B2, 0, none⟩)], .int .u64 xk, .slice xv.a xv.n xv.c, .slice (some ⟨gk, 0, none⟩) L.length N, .int .i64 (L.length : Int), .int .i64 (N : Int), .bool false, Ord.sel l0 (.slice (some ⟨gk, 0, none⟩) L.length N), Ord.sel l1 (.int .u64 xk), Ord.sel l2 (.slice xv.a xv.n xv.c), Ord.sel l3 (.slice v.a v.n v.c), Ord.sel l4 (.agg #[.int .u64 xk, .slice v.a v.n v.c]), Ord.sel l5 (.slice (some ⟨Bs, 0, none⟩) 1 1), Ord.sel l6 (.slice (some ⟨gk, 0, none⟩) (L.length + 1) N), undef], defers := [] } ∧ (l3 = true → l2 = true) ∧ (l4 = true → l1 = true ∧ l3 = true) ∧ (l5 = true → l4 = true) ∧ (l6 = true → l0 = true ∧ l5 = true) ∧ (l7 = true → l6 = true) ∧ (l3 = false → w' = V'.drew) ∧ (l3 = true → l5 = false → Hid (CL V' ys v w')) ∧ (l5 = true → l6 = false → Hid (P2 V' ys xk v Bs w')) ∧ (l6 = true → l7 = false → Hid (P3 V' w.heap.size N gk L ys xk v w')) ∧ (l7 = true → Hid (P4 V' w.heap.size N b9 gk L ys xk v w'))) ?step ?fin _ _ _ _ ?start ?count
      case start => exact ⟨false, false, false, false, false, false, false, false, ⟨none, 0, 0⟩, 0, rfl, rfl, (fun h => by cases h), (fun h => by cases h), (fun h => by cases h), (fun h => by cases h), (fun h => by cases h), fun _ => rfl, (fun h => by cases h), (fun h => by cases h), (fun h => by cases h), (fun h => by cases h)⟩
      case count => decide
      case step =>
        rintro listed a w' i ⟨l0, l1, l2, l3, l4, l5, l6, l7, v, Bs, rfl, rfl, c3, c4, c5, c6, c7, hw0, hw1, hw2, hw3, hw4⟩ hi'
        obtain ⟨hlt', hb⟩ := Ord.mem_ready hi'
        have hk : l6 = false → Kp Nu V' w' := fun h6 => kp_of hw0 hw1 hw2 h6
        rcases lt_cases8 hlt' with rfl | rfl | rfl | rfl | rfl | rfl | rfl | rfl
        all_goals simp [Region.binds] at hb
        · have q0 : l0 = false := by clear hw0 hw1 hw2 hw3 hw4 hk; first | exact hb | exact hb.1 | (cases l0 <;> simp_all)
          have f6 : l6 = false := by clear hw0 hw1 hw2 hw3 hw4 hk; (cases l6 <;> simp_all)
          have f7 : l7 = false := by clear hw0 hw1 hw2 hw3 hw4 hk; (cases l7 <;> simp_all)
          clear hb hi' hlt'
          have cc := HCB _ (hk f6)
          have H0 := hide hw0; have H1 := hide hw1; have H2 := hide hw2; have H3 := hide hw3; have H4 := hide hw4
          clear hw0 hw1 hw2 hw3 hw4 hk
          subst q0 f6 f7
          have H3c := hide c3; clear c3
          have H4c := hide c4; clear c4
          have H5c := hide c5; clear c5
          clear c6
          clear c7
          refine wpOpIn_step rfl (fun K hK => ?_)
          simp only [Ord.sel_f]
          go_simp
          refine hK _ _ ?_
          exact ⟨true, _, _, _, _, _, false, false, v, Bs, rfl, rfl, (H3c.out), (H4c.out), (H5c.out), ((fun h => by cases h)), ((fun h => by cases h)), H0.out, H1.out, H2.out, H3.out, H4.out⟩
        · have q1 : l1 = false := by clear hw0 hw1 hw2 hw3 hw4 hk; first | exact hb | exact hb.1 | (cases l1 <;> simp_all)
          have f4 : l4 = false := by clear hw0 hw1 hw2 hw3 hw4 hk; (cases l4 <;> simp_all)
          have f5 : l5 = false := by clear hw0 hw1 hw2 hw3 hw4 hk; (cases l5 <;> simp_all)
          have f6 : l6 = false := by clear hw0 hw1 hw2 hw3 hw4 hk; (cases l6 <;> simp_all)
          have f7 : l7 = false := by clear hw0 hw1 hw2 hw3 hw4 hk; (cases l7 <;> simp_all)
          clear hb hi' hlt'
          have H0 := hide hw0; have H1 := hide hw1; have H2 := hide hw2; have H3 := hide hw3; have H4 := hide hw4
          clear hw0 hw1 hw2 hw3 hw4 hk
          subst q1 f4 f5 f6 f7
          have H3c := hide c3; clear c3
          clear c4
          clear c5
          clear c6
          clear c7
          refine wpOpIn_step rfl (fun K hK => ?_)
          simp only [Ord.sel_f]
          go_simp
          refine hK _ _ ?_
          exact ⟨_, true, _, _, false, false, false, false, v, Bs, rfl, rfl, (H3c.out), ((fun h => by cases h)), ((fun h => by cases h)), ((fun h => by cases h)), ((fun h => by cases h)), H0.out, H1.out, H2.out, H3.out, H4.out⟩
        · have q2 : l2 = false := by clear hw0 hw1 hw2 hw3 hw4 hk; first | exact hb | exact hb.1 | (cases l2 <;> simp_all)
          have f3 : l3 = false := by clear hw0 hw1 hw2 hw3 hw4 hk; (cases l3 <;> simp_all)
          have f4 : l4 = false := by clear hw0 hw1 hw2 hw3 hw4 hk; (cases l4 <;> simp_all)
          have f5 : l5 = false := by clear hw0 hw1 hw2 hw3 hw4 hk; (cases l5 <;> simp_all)
          have f6 : l6 = false := by clear hw0 hw1 hw2 hw3 hw4 hk; (cases l6 <;> simp_all)
          have f7 : l7 = false := by clear hw0 hw1 hw2 hw3 hw4 hk; (cases l7 <;> simp_all)
          clear hb hi' hlt'
          have H0 := hide hw0; have H1 := hide hw1; have H2 := hide hw2; have H3 := hide hw3; have H4 := hide hw4
          clear hw0 hw1 hw2 hw3 hw4 hk
          subst q2 f3 f4 f5 f6 f7
          clear c3
          clear c4
          clear c5
          clear c6
          clear c7
          refine wpOpIn_step rfl (fun K hK => ?_)
          simp only [Ord.sel_f]
          go_simp
          refine hK _ _ ?_
          exact ⟨_, _, true, false, false, false, false, false, v, Bs, rfl, rfl, ((fun h => by cases h)), ((fun h => by cases h)), ((fun h => by cases h)), ((fun h => by cases h)), ((fun h => by cases h)), H0.out, H1.out, H2.out, H3.out, H4.out⟩
        · have q3 : l3 = false := by clear hw0 hw1 hw2 hw3 hw4 hk; first | exact hb | exact hb.1 | (cases l3 <;> simp_all)
          have e2 : l2 = true := by clear hw0 hw1 hw2 hw3 hw4 hk; (cases l2 <;> simp_all)
          have f4 : l4 = false := by clear hw0 hw1 hw2 hw3 hw4 hk; (cases l4 <;> simp_all)
          have f5 : l5 = false := by clear hw0 hw1 hw2 hw3 hw4 hk; (cases l5 <;> simp_all)
          have f6 : l6 = false := by clear hw0 hw1 hw2 hw3 hw4 hk; (cases l6 <;> simp_all)
          have f7 : l7 = false := by clear hw0 hw1 hw2 hw3 hw4 hk; (cases l7 <;> simp_all)
          clear hb hi' hlt'
          obtain rfl := hw0 q3
          clear hw0 hw1 hw2 hw3 hw4 hk
          subst q3 e2 f4 f5 f6 f7
          clear c3
          clear c4
          clear c5
          clear c6
          clear c7
          refine wpOpIn_step rfl (fun K hK => ?_)
          simp only [Ord.sel_t, Ord.sel_f]
          go_simp
          refine ⟨trivial, (CallsIn.inRound _ (callsIn_wide.2 CT)).mono ?_⟩
          rintro e W1 ⟨v1, rfl, S2⟩
          refine hK _ _ ?_
          exact ⟨_, _, true, true, false, false, false, false, v1, Bs, rfl, rfl, (fun _ => rfl), ((fun h => by cases h)), ((fun h => by cases h)), ((fun h => by cases h)), ((fun h => by cases h)), (fun h => by cases h), (fun _ _ => S2), (fun h => by cases h), (fun h => by cases h), (fun h => by cases h)⟩
        · have q4 : l4 = false := by clear hw0 hw1 hw2 hw3 hw4 hk; first | exact hb | exact hb.1 | (cases l4 <;> simp_all)
          have e1 : l1 = true := by clear hw0 hw1 hw2 hw3 hw4 hk; (cases l1 <;> simp_all)
          have e2 : l2 = true := by clear hw0 hw1 hw2 hw3 hw4 hk; (cases l2 <;> simp_all)
          have e3 : l3 = true := by clear hw0 hw1 hw2 hw3 hw4 hk; (cases l3 <;> simp_all)
          have f5 : l5 = false := by clear hw0 hw1 hw2 hw3 hw4 hk; (cases l5 <;> simp_all)
          have f6 : l6 = false := by clear hw0 hw1 hw2 hw3 hw4 hk; (cases l6 <;> simp_all)
          have f7 : l7 = false := by clear hw0 hw1 hw2 hw3 hw4 hk; (cases l7 <;> simp_all)
          clear hb hi' hlt'
          have hC := hw1 e3 f5
          clear hw0 hw1 hw2 hw3 hw4 hk
          subst q4 e1 e2 e3 f5 f6 f7
          clear c3
          clear c4
          clear c5
          clear c6
          clear c7
          refine wpOpIn_step rfl (fun K hK => ?_)
          simp only [Ord.sel_t, Ord.sel_f]
          go_simp
          refine hK _ _ ?_
          exact ⟨_, true, true, true, true, false, false, false, v, Bs, rfl, rfl, (fun _ => rfl), (fun _ => ⟨rfl, rfl⟩), ((fun h => by cases h)), ((fun h => by cases h)), ((fun h => by cases h)), (fun h => by cases h), (fun _ _ => hC), (fun h => by cases h), (fun h => by cases h), (fun h => by cases h)⟩
        · have q5 : l5 = false := by clear hw0 hw1 hw2 hw3 hw4 hk; first | exact hb | exact hb.1 | (cases l5 <;> simp_all)
          have e1 : l1 = true := by clear hw0 hw1 hw2 hw3 hw4 hk; (cases l1 <;> simp_all)
          have e2 : l2 = true := by clear hw0 hw1 hw2 hw3 hw4 hk; (cases l2 <;> simp_all)
          have e3 : l3 = true := by clear hw0 hw1 hw2 hw3 hw4 hk; (cases l3 <;> simp_all)
          have e4 : l4 = true := by clear hw0 hw1 hw2 hw3 hw4 hk; (cases l4 <;> simp_all)
          have f6 : l6 = false := by clear hw0 hw1 hw2 hw3 hw4 hk; (cases l6 <;> simp_all)
          have f7 : l7 = false := by clear hw0 hw1 hw2 hw3 hw4 hk; (cases l7 <;> simp_all)
          clear hb hi' hlt'
          have hC := hw1 e3 q5
          clear hw0 hw1 hw2 hw3 hw4 hk
          subst q5 e1 e2 e3 e4 f6 f7
          clear c3
          clear c4
          clear c5
          clear c6
          clear c7
          refine wpOpIn_step rfl (fun K hK => ?_)
          simp only [Ord.sel_t, Ord.sel_f]
          go_simp
          refine hK _ _ ?_
          exact ⟨_, true, true, true, true, true, false, false, v, _, rfl, rfl, (fun _ => rfl), (fun _ => ⟨rfl, rfl⟩), (fun _ => rfl), ((fun h => by cases h)), ((fun h => by cases h)), (fun h => by cases h), (fun _ h => by cases h), (fun _ _ => hide ⟨_, hC.out, rfl, rfl⟩), (fun h => by cases h), (fun h => by cases h)⟩
        · have q6 : l6 = false := by clear hw0 hw1 hw2 hw3 hw4 hk; first | exact hb | exact hb.1 | (cases l6 <;> simp_all)
          have e0 : l0 = true := by clear hw0 hw1 hw2 hw3 hw4 hk; (cases l0 <;> simp_all)
          have e1 : l1 = true := by clear hw0 hw1 hw2 hw3 hw4 hk; (cases l1 <;> simp_all)
          have e2 : l2 = true := by clear hw0 hw1 hw2 hw3 hw4 hk; (cases l2 <;> simp_all)
          have e3 : l3 = true := by clear hw0 hw1 hw2 hw3 hw4 hk; (cases l3 <;> simp_all)
          have e4 : l4 = true := by clear hw0 hw1 hw2 hw3 hw4 hk; (cases l4 <;> simp_all)
          have e5 : l5 = true := by clear hw0 hw1 hw2 hw3 hw4 hk; (cases l5 <;> simp_all)
          have f7 : l7 = false := by clear hw0 hw1 hw2 hw3 hw4 hk; (cases l7 <;> simp_all)
          clear hb hi' hlt'
          have hC := hw2 e5 q6
          clear hw0 hw1 hw2 hw3 hw4 hk
          subst q6 e0 e1 e2 e3 e4 e5 f7
          clear c3
          clear c4
          clear c5
          clear c6
          clear c7
          obtain ⟨w6, hrun, hO, hG⟩ := run_append_fits (P := Try.prog) (w := w') w.heap.size 68 68 78 i78 2 Try.underlying68 hi78 hy1 gk L.length N (pc L) (HOW _ hC.out.kp) ⟨Bs, 0, none⟩ 1 1 [.int .u64 xk, sl v] rfl hC.out.cell (by simp [Value.oneCell', sl]) HLE.out
          simp only [Ord.sel_t, Ord.sel_f]
          refine wpOpIn_append rfl rfl (.tmp 25) (.tmp 30) 68 rfl _ _ _ rfl rfl hrun ?_
          exact ⟨true, true, true, true, true, true, true, false, v, Bs, rfl, rfl, (fun _ => rfl), (fun _ => ⟨rfl, rfl⟩), (fun _ => rfl), (fun _ => ⟨rfl, rfl⟩), ((fun h => by cases h)), (fun h => by cases h), (fun _ h => by cases h), (fun _ h => by cases h), (fun _ _ => hide ⟨_, _, hC.out, hO, hG⟩), (fun h => by cases h)⟩
        · have q7 : l7 = false := by clear hw0 hw1 hw2 hw3 hw4 hk; first | exact hb | exact hb.1 | (cases l7 <;> simp_all)
          have e0 : l0 = true := by clear hw0 hw1 hw2 hw3 hw4 hk; (cases l0 <;> simp_all)
          have e1 : l1 = true := by clear hw0 hw1 hw2 hw3 hw4 hk; (cases l1 <;> simp_all)
          have e2 : l2 = true := by clear hw0 hw1 hw2 hw3 hw4 hk; (cases l2 <;> simp_all)
          have e3 : l3 = true := by clear hw0 hw1 hw2 hw3 hw4 hk; (cases l3 <;> simp_all)
          have e4 : l4 = true := by clear hw0 hw1 hw2 hw3 hw4 hk; (cases l4 <;> simp_all)
          have e5 : l5 = true := by clear hw0 hw1 hw2 hw3 hw4 hk; (cases l5 <;> simp_all)
          have e6 : l6 = true := by clear hw0 hw1 hw2 hw3 hw4 hk; (cases l6 <;> simp_all)
          clear hb hi' hlt'
          have hC := hw3 e6 q7
          clear hw0 hw1 hw2 hw3 hw4 hk
          subst q7 e0 e1 e2 e3 e4 e5 e6
          clear c3
          clear c4
          clear c5
          clear c6
          clear c7
          have cc := cell1 (hC.out.box HJ.out.1)
          have ff := free3 (hC.out.box HJ.out.1) 0
          refine wpOpIn_step rfl (fun K hK => ?_)
          simp only [Ord.sel_t]
          go_simp
          refine hK _ _ ?_
          exact ⟨true, true, true, true, true, true, true, true, v, Bs, rfl, rfl, (fun _ => rfl), (fun _ => ⟨rfl, rfl⟩), (fun _ => rfl), (fun _ => ⟨rfl, rfl⟩), (fun _ => rfl), (fun h => by cases h), (fun _ h => by cases h), (fun _ h => by cases h), (fun _ h => by cases h), (fun _ => hide ⟨_, hC.out, rfl⟩)⟩
      case fin =>
        rintro listed a w' ⟨l0, l1, l2, l3, l4, l5, l6, l7, v, Bs, rfl, rfl, c3, c4, c5, c6, c7, hw0, hw1, hw2, hw3, hw4⟩ hi'
        have hx := fun i => Ord.not_ready hi' (i := i)
        have g0 : l0 = true := by have g := hx 0 (by simp); simp [Region.binds] at g; clear hw0 hw1 hw2 hw3 hw4 hx; (cases l0 <;> simp_all)
        have g1 : l1 = true := by have g := hx 1 (by simp); simp [Region.binds] at g; clear hw0 hw1 hw2 hw3 hw4 hx; (cases l1 <;> simp_all)
        have g2 : l2 = true := by have g := hx 2 (by simp); simp [Region.binds] at g; clear hw0 hw1 hw2 hw3 hw4 hx; (cases l2 <;> simp_all)
        have g3 : l3 = true := by have g := hx 3 (by simp); simp [Region.binds] at g; clear hw0 hw1 hw2 hw3 hw4 hx; (cases l3 <;> simp_all)
        have g4 : l4 = true := by have g := hx 4 (by simp); simp [Region.binds] at g; clear hw0 hw1 hw2 hw3 hw4 hx; (cases l4 <;> simp_all)
        have g5 : l5 = true := by have g := hx 5 (by simp); simp [Region.binds] at g; clear hw0 hw1 hw2 hw3 hw4 hx; (cases l5 <;> simp_all)
        have g6 : l6 = true := by have g := hx 6 (by simp); simp [Region.binds] at g; clear hw0 hw1 hw2 hw3 hw4 hx; (cases l6 <;> simp_all)
        have g7 : l7 = true := by have g := hx 7 (by simp); simp [Region.binds] at g; clear hw0 hw1 hw2 hw3 hw4 hx; (cases l7 <;> simp_all)
        have hO := hw4 g7
        clear c3 c4 c5 c6 c7 hi' hx hw0 hw1 hw2 hw3 hw4
        subst g0 g1 g2 g3 g4 g5 g6 g7
        simp only [Ord.sel_t]
        obtain ⟨hC, hS, hB, hL, hfv⟩ := HJ.out
        obtain ⟨p1, p2, p3, p4⟩ := hC.post hO.out.kp hS hB w5.heap.size
        refine ⟨p1, p2, L ++ [(xk, v)], by simp [hL], ?_, p4, p3⟩
        rw [HM.out]
        exact hO.out.cp hC hfv hB.size
  case dn =>
    rintro D ys V' hD hys ⟨L, hL, hC, hS, hB⟩ hK'
    subst hys
    have hlN : L.length = N := by
      have h1 : L.length ≤ N := by
        rcases hC.own.2 with ⟨e, _⟩ | ⟨g, cap, cur, e, _, _, h1, _⟩
        · cases e
        · cases e; exact h1
      have h2 := HS5.out.2.1.length
      have h3 := HE.out.2.1
      omega
    have hC' : Cp V' w.heap.size N b7 b9 gk L (FM.take N) := by rw [show N = ys.length by omega]; have := hC; rw [show N = ys.length by omega] at this; exact this
    have c9 : V'.cell? ⟨b9, 0, none⟩ = some (.slice (some ⟨gk, 0, none⟩) N N) := by have := cell1 hC'.bx; rw [hlN] at this; exact this
    have HL6 : Hid (∀ D' ∈ [D], w.heap.size ≤ D' ∧ V'.heap[D']? = some (.deferred (some []))) := hide (fun D' hD' => by
      obtain rfl : D' = D := by simpa using hD'
      exact ⟨Nat.le_trans HS5.out.1 hD, hK'⟩)
    have HR : Hid (∀ Z, Cc V' Z → Kp (fun k => w.heap.size ≤ k) V' Z → Cd Z w.heap.size gk N L (FM.take N) ∧ Kp Nu w Z) := hide (fun Z hc hk => by
      have hz := hC'.cc hc
      have ho := hz.own
      rw [hlN] at ho
      exact ⟨⟨ho, hz.f, hz.lo, hz.ap⟩, (Kp.of_below hB).trans hk (fun i hi e => by have e : w.heap.size ≤ i := e; omega)⟩)
    clear hC' hS hB hK' SQ HJ0
    gi_wp2_with fail
    refine leaves_all [D] _ (by simp) HL6.out (fun Z hc hk => ?_)
    obtain ⟨z1, z2⟩ := HR.out Z hc ⟨hk.os, hk.tape, hk.output, hk.size, hk.block⟩
    refine ⟨.slice (some ⟨gk, 0, none⟩) N N, ?_, gk, L, rfl, z1, z2⟩
    simp [results, Try.results121, go_sem]
  case st =>
    rintro D c pre V' hD hpre ⟨rfl, L, hlN, hC', hS, hB⟩ hK'
    have c9 : V'.cell? ⟨b9, 0, none⟩ = some (.slice (some ⟨gk, 0, none⟩) N N) := by have := cell1 hC'.bx; rw [hlN] at this; exact this
    have HL6 : Hid (∀ D' ∈ [D], w.heap.size ≤ D' ∧ V'.heap[D']? = some (.deferred (some []))) := hide (fun D' hD' => by
      obtain rfl : D' = D := by simpa using hD'
      exact ⟨Nat.le_trans HS5.out.1 hD, hK'⟩)
    have HR : Hid (∀ Z, Cc V' Z → Kp (fun k => w.heap.size ≤ k) V' Z → Cd Z w.heap.size gk N L (FM.take N) ∧ Kp Nu w Z) := hide (fun Z hc hk => by
      have hz := hC'.cc hc
      have ho := hz.own
      rw [hlN] at ho
      exact ⟨⟨ho, hz.f, hz.lo, hz.ap⟩, (Kp.of_below hB).trans hk (fun i hi e => by have e : w.heap.size ≤ i := e; omega)⟩)
    clear hC' hS hB hK' SQ HJ0
    gi_wp2_with fail
    refine leaves_all [D] _ (by simp) HL6.out (fun Z hc hk => ?_)
    obtain ⟨z1, z2⟩ := HR.out Z hc ⟨hk.os, hk.tape, hk.output, hk.size, hk.block⟩
    refine ⟨.slice (some ⟨gk, 0, none⟩) N N, ?_, gk, L, rfl, z1, z2⟩
    simp [results, Try.results121, go_sem]
end Go.Proofs.Ytchealdgncgjoaa.StU
