import Derived.Test.YtffcnonhhfhlhaaDoorRgG0
namespace Go.Proofs.YtffcnonhhfhlhaaDoor.Rg
open Go.RowKit Go.Shelf Go.Sort
open Go.Proofs.YtffcnonhhfhlhaaDoor.It
open Go.Proofs.YtffcnonhhfhlhaaDoor.Ord (sel sel_t sel_f)
attribute [local go_sem] Oper.semAt_some
set_option linter.unusedVariables false

set_option maxRecDepth 100000 in
set_option maxHeartbeats 2000000 in
theorem within1_o (w : World) (Bl Bh Br Bn r off cap : Nat) (lo hi : Int) (hlh : lo ≤ hi) (M : List Sg) (cur : Array Value) (hM : M.length ≤ 8192) (hrow : Row cur off M)
    (hbl : w.heap[Bl]? = some (.cells #[.int .u64 lo] 23 (0, 0))) (hbh : w.heap[Bh]? = some (.cells #[.int .u64 hi] 23 (0, 0))) (hbr : w.heap[Br]? = some (.cells #[.func (.func 73) #[] #[.pointer (some ⟨Bn, 0, none⟩)]] 39 (0, 0)))
    (hbn : w.heap[Bn]? = some (.cells #[.slice (some ⟨r, off, none⟩) M.length cap] 22 (0, 0))) (hr : w.heap[r]? = some (.cells cur 26 (0, 0))) :
    SeqO Tryd.prog 45 #[.pointer (some ⟨Bl, 0, none⟩), .pointer (some ⟨Bh, 0, none⟩), .pointer (some ⟨Br, 0, none⟩)] (fun x : Sg => #[enc x]) (KW Bl Bh r) (fun xs => xs = tk lo hi M) (fun pre => pre <+: tk lo hi M) M.length w := by
  intro n l J Jx W hb hJ hJx hY h0
  have mixed : Tryd.prog.follows .mixedOrders = true := by kernel_rfl
  replace hbl := (hb.block Bl (blk_lt hbl)).trans hbl
  replace hbh := (hb.block Bh (blk_lt hbh)).trans hbh
  replace hbr := (hb.block Br (blk_lt hbr)).trans hbr
  replace hbn := (hb.block Bn (blk_lt hbn)).trans hbn
  replace hr := (hb.block r (blk_lt hr)).trans hr
  clear hb
  refine callsIn_wide.2 ((callsIn_wide (n := 4)).1 ?_)
  refine callsIn_of_wp_marks Tryd.func45 rfl trivial ?_ rfl
  simp only [Tryd.ntmps45, List.size_toArray, List.length_cons, List.length_nil, Nat.reduceAdd, Nat.reduceSub, Array.replicate_succ, Array.replicate_zero, List.push_toArray, List.append_toArray, List.nil_append, List.cons_append]
  have kW0 := Kp.alloc W (.cells #[.func (.yield l) #[] #[]] 90) Nu
  have k1 := cell1 ((kW0.block Bl (blk_lt hbl) (fun h => h)).trans hbl)
  have k2 := cell1 ((kW0.block Bh (blk_lt hbh) (fun h => h)).trans hbh)
  have k3 := cell1 ((kW0.block Br (blk_lt hbr) (fun h => h)).trans hbr)
  clear kW0
  have hgt : ¬ lo > hi := by omega
  gi_wp2_with fail
  obtain ⟨Y, hY0⟩ : ∃ Y, W.heap.size = Y := ⟨_, rfl⟩
  obtain ⟨W0, hW0⟩ : ∃ W0, W.alloc (.cells #[.func (.yield l) #[] #[]] 90) = W0 := ⟨_, rfl⟩
  have kW : Kp Nu W W0 := by rw [← hW0]; exact Kp.alloc W _ Nu
  have hby : W0.heap[Y]? = some (.cells #[.func (.yield l) #[] #[]] 90 (0, 0)) := by rw [← hW0, ← hY0]; exact heap_alloc_new W _
  have hsz : W0.heap.size = Y + 1 := by rw [← hW0, ← hY0]; simp
  replace hbl := (kW.block Bl (blk_lt hbl) (fun h => h)).trans hbl
  replace hbh := (kW.block Bh (blk_lt hbh) (fun h => h)).trans hbh
  replace hbn := (kW.block Bn (blk_lt hbn) (fun h => h)).trans hbn
  replace hr := (kW.block r (blk_lt hr) (fun h => h)).trans hr
  have h0' : J [] W0 := hJ [] W W0 none h0 (grown_nu kW) (fun r e => by cases e)
  rw [hY0] at hJ hJx hY ⊢
  rw [hW0]
  clear hW0 kW k1 k2 k3 hbr h0
  refine wpIn_rangeFunc_ownH rfl (by omega) (gf := 73) (lb := #[.pointer (some ⟨Bn, 0, none⟩)]) rfl trivial (enters_of Tryd.func73 (by kernel_rfl) rfl)
    (from_stops _ Bn r off cap M cur hM hrow W0 hbn hr) (fun h k => h.trans k) (fun W l o o' _ h hc _ => Kc.put W l o o' h hc) (Below.refl _ _) (fun _ => rfl)
    (fun pre V => (J (pre.map (cutS lo hi)) V ∧ (∀ s ∈ pre, s.lo ≤ hi)) ∧ (V.heap[Bl]? = some (.cells #[.int .u64 lo] 23 (0, 0)) ∧ V.heap[Bh]? = some (.cells #[.int .u64 hi] 23 (0, 0)) ∧ V.heap[Y]? = some (.cells #[.func (.yield l) #[] #[]] 90 (0, 0))))
    (fun c pre V => c = .ret ∧ ((J (tk lo hi pre) V ∧ ∃ a s, pre = a ++ [s] ∧ hi < s.lo ∧ ∀ t ∈ a, t.lo ≤ hi) ∨ (Jx (pre.map (cutS lo hi)) V ∧ ∀ s ∈ pre, s.lo ≤ hi)))
    ?hI ?hIx ⟨⟨h0', by simp⟩, hbl, hbh, hby⟩
    (fun x a' V => ∃ Bx, V.heap[Bx]? = some (.cells #[.int .u64 x.lo, .int .u64 x.hi, .int .u8 x.h] 26 (0, 0)) ∧ a' = { tmps := #[.func (.yield l) #[] #[], .pointer (some ⟨Bl, 0, none⟩), .pointer (some ⟨Bh, 0, none⟩), .pointer (some ⟨Br, 0, none⟩), .pointer (some ⟨Y, 0, none⟩), .pointer (some ⟨Bx, 0, none⟩), .int .u64 lo, .int .u64 hi, .bool false, .func (.func 73) #[] #[.pointer (some ⟨Bn, 0, none⟩)], enc x, undef, undef, undef, undef, undef, undef, undef, undef, undef, undef, undef, undef, undef], defers := [] })
    (fun x a' _ X Z row hs hg hr => by
      obtain ⟨Bx, h1, h2⟩ := hs
      exact ⟨Bx, own_cells (β := Unit) W0.heap.size Bx _ _ _ () X Z row h1 hg hr, h2⟩)
    ?assign ?body ?done ?stop
  case hI =>
    intro pre X Z row hs hg hr
    exact ⟨⟨own_turn hJ (by omega) _ X Z row hs.1.1 hg hr, hs.1.2⟩, own_cells (β := Unit) _ _ _ _ _ () X Z row hs.2.1 hg hr, own_cells (β := Unit) _ _ _ _ _ () X Z row hs.2.2.1 hg hr, own_cells (β := Unit) _ _ _ _ _ () X Z row hs.2.2.2 hg hr⟩
  case hIx =>
    intro c pre X Z row hs hg hr
    refine ⟨hs.1, ?_⟩
    rcases hs.2 with ⟨h1, h2⟩ | ⟨h1, h2⟩
    · exact .inl ⟨own_turn hJ (by omega) _ X Z row h1 hg hr, h2⟩
    · exact .inr ⟨own_turn hJx (by omega) _ X Z row h1 hg hr, h2⟩
  case assign =>
    rintro l' pre x V K ⟨⟨hj, hp⟩, y1, y2, y3⟩ hK
    simp only [enc]
    have kV := Kp.alloc V (.cells #[.int .u64 x.lo, .int .u64 x.hi, .int .u8 x.h] 26) Nu
    have f1 := (kV.block _ (blk_lt y1) (fun h => h)).trans y1
    have f2 := (kV.block _ (blk_lt y2) (fun h => h)).trans y2
    have f3 := (kV.block _ (blk_lt y3) (fun h => h)).trans y3
    have HF := hide (And.intro f1 (And.intro f2 (And.intro f3 (And.intro hj (And.intro hp kV)))))
    clear f1 f2 f3 hj hp y1 y2 y3 kV
    gi_wp2
    obtain ⟨f1, f2, f3, hj, hp, kV⟩ := HF.out
    exact hK _ _ (kf_nu _ kV) (kc_nu kV) ⟨⟨hJ _ V _ none hj (grown_nu kV) (fun r e => by cases e), hp⟩, f1, f2, f3⟩ ⟨V.heap.size, heap_alloc_new V _, rfl⟩
  case body =>
    rintro l' pre x a' V hl hq ⟨⟨hj, hp⟩, y1, y2, y3⟩ ⟨Bx, hX, rfl⟩ hlt
    have HS : Hid (∀ w', Kp Nu V w' → w'.cell? ⟨Bx, 0, none⟩ = some (.int .u64 x.lo) ∧ w'.cell? ⟨Bx, 1, none⟩ = some (.int .u64 x.hi) ∧ w'.cell? ⟨Bx, 2, none⟩ = some (.int .u8 x.h) ∧ w'.cell? ⟨Bl, 0, none⟩ = some (.int .u64 lo) ∧ w'.cell? ⟨Bh, 0, none⟩ = some (.int .u64 hi) ∧ w'.cell? ⟨Y, 0, none⟩ = some (.func (.yield l) #[] #[])) := fun w' k => by
      obtain ⟨a0, a1, a2⟩ := cell3 ((k.block _ (blk_lt hX) (fun h => h)).trans hX)
      exact ⟨a0, a1, a2, cell1 ((k.block _ (blk_lt y1) (fun h => h)).trans y1), cell1 ((k.block _ (blk_lt y2) (fun h => h)).trans y2), cell1 ((k.block _ (blk_lt y3) (fun h => h)).trans y3)⟩
    have CU : ∀ w', Calls Tryd.prog 46 #[.agg #[.int .u64 x.lo, .int .u64 x.hi, .int .u8 x.h], .int .u64 lo, .int .u64 hi] w' fun e w'' => e = .returned (.agg #[.int .u64 (max x.lo lo), .int .u64 (min x.hi hi), .int .u8 x.h]) ∧ Kp Nu w' w'' := fun w' => cut_any x lo hi w'
    obtain ⟨OUT, hOUT⟩ : ∃ OUT : Bool → World → Prop, OUT = fun rb w' => KeepsFrom Y V w' ∧ ((rb = true ∧ J (pre.map (cutS lo hi) ++ [cutS lo hi x]) w' ∧ Kc (KW Bl Bh r) V w') ∨ (rb = false ∧ Jx (pre.map (cutS lo hi) ++ [cutS lo hi x]) w')) := ⟨_, rfl⟩
    have YI : Hid (∀ w', Kp Nu V w' → YieldAt (Fence.wide.inRound l') (4 - 1 - 1 - 1) Tryd.prog l #[.agg #[.int .u64 (max x.lo lo), .int .u64 (min x.hi hi), .int .u8 x.h]] w' fun e W1 => ∃ rb, e = .returned (.bool rb) ∧ Hid (OUT rb W1)) := fun w' k => by
      have hj' : J (pre.map (cutS lo hi)) w' := hJ _ V w' none hj (grown_nu k) (fun r e => by cases e)
      obtain ⟨fn, tmps, assign, body, hy, hR⟩ := hY (pre.map (cutS lo hi)) (cutS lo hi x) w' hj' (by simpa using hlt) (4 - 1 - 1 - 1)
      refine ⟨fn, tmps, assign, body, hy, RoundIn.mono (F := Fence.wide) hR ?_⟩
      rintro e W1 ⟨kf, h⟩
      rw [hOUT]
      rcases h with ⟨rfl, h1, h2⟩ | ⟨rfl, h1⟩
      · exact ⟨true, rfl, (kf_nu _ k).trans kf, .inl ⟨rfl, h1, (kc_nu k).trans h2⟩⟩
      · exact ⟨false, rfl, (kf_nu _ k).trans kf, .inr ⟨rfl, h1⟩⟩
    have HOUT := hide hOUT
    have HJ := hide hJ
    have HZ := hide (And.intro hj (And.intro hp (And.intro y1 (And.intro y2 y3))))
    clear hY hJ hJx hj hp y1 y2 y3 hX hq hlt hl hbl hbh hbn hr hrow h0' hby hOUT
    simp only [enc]
    by_cases hst : hi < x.lo
    · have hgt2 : x.lo > hi := hst
      obtain ⟨z0, z1, z2, z3, z4, z5⟩ := HS.out V.drew (Kp.refl Nu V).drew
      gi_wp2_with fail
      refine wpIn_region_any (by assumption) ?_
      change wpAnyIn _ _ _ _ _ _ _ _ _ (World.drew _)
      refine Ord.wpAnyIn_inv (Inv := fun listed a w' => ∃ l0 l1 l2 l3 l4 l5 l6 l7 l8 l9 l10 l11 l12 : Bool, listed = #[l0, l1, l2, l3, l4, l5, l6, l7, l8, l9, l10, l11, l12] ∧ a = { tmps := #[.func (.yield l) #[] #[], .pointer (some ⟨Bl, 0, none⟩), .pointer (some ⟨Bh, 0, none⟩), .pointer (some ⟨Br, 0, none⟩), .pointer (some ⟨Y, 0, none⟩), .pointer (some ⟨Bx, 0, none⟩), .int .u64 lo, .int .u64 hi, .bool false, .func (.func 73) #[] #[.pointer (some ⟨Bn, 0, none⟩)], .agg #[.int .u64 x.lo, .int .u64 x.hi, .int .u8 x.h], sel l0 (.pointer (some ⟨Bx, 0, none⟩)), sel l1 (.int .u64 x.lo), sel l2 (.int .u64 hi), sel l3 (.bool true), sel l4 (.bool true), undef, undef, undef, undef, undef, undef, undef, sel l12 (.bool true)], defers := [] } ∧ (l1 = true → l0 = true) ∧ (l3 = true → l1 = true ∧ l2 = true) ∧ (l4 = true → l3 = true) ∧ (l5 = true → l4 = true) ∧ (l6 = true → l4 = true) ∧ (l7 = true → l4 = true) ∧ (l8 = true → l4 = true) ∧ (l9 = true → l6 = true ∧ l7 = true ∧ l8 = true ∧ l4 = true) ∧ (l10 = true → l5 = true ∧ l9 = true ∧ l4 = true) ∧ (l11 = true → l10 = true ∧ l4 = true) ∧ (l12 = true → l4 = true ∧ l11 = true) ∧ w' = V.drew) ?stepstop ?finstop _ _ _ _ ?startstop ?countstop
      case startstop => exact ⟨false, false, false, false, false, false, false, false, false, false, false, false, false, rfl, rfl, fun h => (by cases h), fun h => (by cases h), fun h => (by cases h), fun h => (by cases h), fun h => (by cases h), fun h => (by cases h), fun h => (by cases h), fun h => (by cases h), fun h => (by cases h), fun h => (by cases h), fun h => (by cases h), rfl⟩
      case countstop => decide
      case stepstop =>
        rintro listed a w' i ⟨l0, l1, l2, l3, l4, l5, l6, l7, l8, l9, l10, l11, l12, rfl, rfl, c1, c3, c4, c5, c6, c7, c8, c9, c10, c11, c12, rfl⟩ hi'
        obtain ⟨hlt', hb⟩ := Ord.mem_ready hi'
        rcases Ord.lt_cases13 hlt' with rfl | rfl | rfl | rfl | rfl | rfl | rfl | rfl | rfl | rfl | rfl | rfl | rfl
        all_goals simp [Region.binds] at hb
        · have q0 := hb
          have f1 : l1 = false := by cases hh : l1 with | false => rfl | true => exact absurd ((c1 hh)) (by rw [q0]; simp)
          have f3 : l3 = false := by cases hh : l3 with | false => rfl | true => exact absurd ((c3 hh).1) (by rw [f1]; simp)
          have f4 : l4 = false := by cases hh : l4 with | false => rfl | true => exact absurd ((c4 hh)) (by rw [f3]; simp)
          have f5 : l5 = false := by cases hh : l5 with | false => rfl | true => exact absurd ((c5 hh)) (by rw [f4]; simp)
          have f6 : l6 = false := by cases hh : l6 with | false => rfl | true => exact absurd ((c6 hh)) (by rw [f4]; simp)
          have f7 : l7 = false := by cases hh : l7 with | false => rfl | true => exact absurd ((c7 hh)) (by rw [f4]; simp)
          have f8 : l8 = false := by cases hh : l8 with | false => rfl | true => exact absurd ((c8 hh)) (by rw [f4]; simp)
          have f9 : l9 = false := by cases hh : l9 with | false => rfl | true => exact absurd ((c9 hh).1) (by rw [f6]; simp)
          have f10 : l10 = false := by cases hh : l10 with | false => rfl | true => exact absurd ((c10 hh).1) (by rw [f5]; simp)
          have f11 : l11 = false := by cases hh : l11 with | false => rfl | true => exact absurd ((c11 hh).1) (by rw [f10]; simp)
          have f12 : l12 = false := by cases hh : l12 with | false => rfl | true => exact absurd ((c12 hh).1) (by rw [f4]; simp)
          clear hi' hlt'
          subst q0 f1 f3 f4 f5 f6 f7 f8 f9 f10 f11 f12
          clear c1
          clear c3
          clear c4
          clear c5
          clear c6
          clear c7
          clear c8
          clear c9
          clear c10
          clear c11
          clear c12
          refine wpOpIn_step rfl (fun K hK => ?_)
          simp only [sel_f]
          go_simp
          refine hK _ _ ?_
          exact ⟨true, false, _, false, false, false, false, false, false, false, false, false, false, rfl, rfl, fun h => (by cases h), fun h => (by cases h), fun h => (by cases h), fun h => (by cases h), fun h => (by cases h), fun h => (by cases h), fun h => (by cases h), fun h => (by cases h), fun h => (by cases h), fun h => (by cases h), fun h => (by cases h), rfl⟩
        · obtain ⟨q1, e0⟩ := hb
          have f3 : l3 = false := by cases hh : l3 with | false => rfl | true => exact absurd ((c3 hh).1) (by rw [q1]; simp)
          have f4 : l4 = false := by cases hh : l4 with | false => rfl | true => exact absurd ((c4 hh)) (by rw [f3]; simp)
          have f5 : l5 = false := by cases hh : l5 with | false => rfl | true => exact absurd ((c5 hh)) (by rw [f4]; simp)
          have f6 : l6 = false := by cases hh : l6 with | false => rfl | true => exact absurd ((c6 hh)) (by rw [f4]; simp)
          have f7 : l7 = false := by cases hh : l7 with | false => rfl | true => exact absurd ((c7 hh)) (by rw [f4]; simp)
          have f8 : l8 = false := by cases hh : l8 with | false => rfl | true => exact absurd ((c8 hh)) (by rw [f4]; simp)
          have f9 : l9 = false := by cases hh : l9 with | false => rfl | true => exact absurd ((c9 hh).1) (by rw [f6]; simp)
          have f10 : l10 = false := by cases hh : l10 with | false => rfl | true => exact absurd ((c10 hh).1) (by rw [f5]; simp)
          have f11 : l11 = false := by cases hh : l11 with | false => rfl | true => exact absurd ((c11 hh).1) (by rw [f10]; simp)
          have f12 : l12 = false := by cases hh : l12 with | false => rfl | true => exact absurd ((c12 hh).1) (by rw [f4]; simp)
          clear hi' hlt'
          subst q1 e0 f3 f4 f5 f6 f7 f8 f9 f10 f11 f12
          clear c1
          clear c3
          clear c4
          clear c5
          clear c6
          clear c7
          clear c8
          clear c9
          clear c10
          clear c11
          clear c12
          refine wpOpIn_step rfl (fun K hK => ?_)
          simp only [sel_t, sel_f]
          go_simp
          refine hK _ _ ?_
          exact ⟨true, true, _, false, false, false, false, false, false, false, false, false, false, rfl, rfl, fun _ => rfl, fun h => (by cases h), fun h => (by cases h), fun h => (by cases h), fun h => (by cases h), fun h => (by cases h), fun h => (by cases h), fun h => (by cases h), fun h => (by cases h), fun h => (by cases h), fun h => (by cases h), rfl⟩
        · have q2 := hb
          have f3 : l3 = false := by cases hh : l3 with | false => rfl | true => exact absurd ((c3 hh).2) (by rw [q2]; simp)
          have f4 : l4 = false := by cases hh : l4 with | false => rfl | true => exact absurd ((c4 hh)) (by rw [f3]; simp)
          have f5 : l5 = false := by cases hh : l5 with | false => rfl | true => exact absurd ((c5 hh)) (by rw [f4]; simp)
          have f6 : l6 = false := by cases hh : l6 with | false => rfl | true => exact absurd ((c6 hh)) (by rw [f4]; simp)
          have f7 : l7 = false := by cases hh : l7 with | false => rfl | true => exact absurd ((c7 hh)) (by rw [f4]; simp)
          have f8 : l8 = false := by cases hh : l8 with | false => rfl | true => exact absurd ((c8 hh)) (by rw [f4]; simp)
          have f9 : l9 = false := by cases hh : l9 with | false => rfl | true => exact absurd ((c9 hh).1) (by rw [f6]; simp)
          have f10 : l10 = false := by cases hh : l10 with | false => rfl | true => exact absurd ((c10 hh).1) (by rw [f5]; simp)
          have f11 : l11 = false := by cases hh : l11 with | false => rfl | true => exact absurd ((c11 hh).1) (by rw [f10]; simp)
          have f12 : l12 = false := by cases hh : l12 with | false => rfl | true => exact absurd ((c12 hh).1) (by rw [f4]; simp)
          clear hi' hlt'
          subst q2 f3 f4 f5 f6 f7 f8 f9 f10 f11 f12
          have H1 := hide c1; clear c1
          clear c3
          clear c4
          clear c5
          clear c6
          clear c7
          clear c8
          clear c9
          clear c10
          clear c11
          clear c12
          refine wpOpIn_step rfl (fun K hK => ?_)
          simp only [sel_f]
          go_simp
          refine hK _ _ ?_
          exact ⟨_, _, true, false, false, false, false, false, false, false, false, false, false, rfl, rfl, H1.out, fun h => (by cases h), fun h => (by cases h), fun h => (by cases h), fun h => (by cases h), fun h => (by cases h), fun h => (by cases h), fun h => (by cases h), fun h => (by cases h), fun h => (by cases h), fun h => (by cases h), rfl⟩
        · obtain ⟨q3, e1, e2⟩ := hb
          obtain e0 := c1 e1
          have f4 : l4 = false := by cases hh : l4 with | false => rfl | true => exact absurd ((c4 hh)) (by rw [q3]; simp)
          have f5 : l5 = false := by cases hh : l5 with | false => rfl | true => exact absurd ((c5 hh)) (by rw [f4]; simp)
          have f6 : l6 = false := by cases hh : l6 with | false => rfl | true => exact absurd ((c6 hh)) (by rw [f4]; simp)
          have f7 : l7 = false := by cases hh : l7 with | false => rfl | true => exact absurd ((c7 hh)) (by rw [f4]; simp)
          have f8 : l8 = false := by cases hh : l8 with | false => rfl | true => exact absurd ((c8 hh)) (by rw [f4]; simp)
          have f9 : l9 = false := by cases hh : l9 with | false => rfl | true => exact absurd ((c9 hh).1) (by rw [f6]; simp)
          have f10 : l10 = false := by cases hh : l10 with | false => rfl | true => exact absurd ((c10 hh).1) (by rw [f5]; simp)
          have f11 : l11 = false := by cases hh : l11 with | false => rfl | true => exact absurd ((c11 hh).1) (by rw [f10]; simp)
          have f12 : l12 = false := by cases hh : l12 with | false => rfl | true => exact absurd ((c12 hh).1) (by rw [f4]; simp)
          clear hi' hlt'
          subst q3 e0 e1 e2 f4 f5 f6 f7 f8 f9 f10 f11 f12
          clear c1
          clear c3
          clear c4
          clear c5
          clear c6
          clear c7
          clear c8
          clear c9
          clear c10
          clear c11
          clear c12
          refine wpOpIn_step rfl (fun K hK => ?_)
          simp only [sel_t, sel_f]
          go_simp
          refine hK _ _ ?_
          exact ⟨true, true, true, true, false, false, false, false, false, false, false, false, false, rfl, rfl, fun _ => rfl, fun _ => ⟨rfl, rfl⟩, fun h => (by cases h), fun h => (by cases h), fun h => (by cases h), fun h => (by cases h), fun h => (by cases h), fun h => (by cases h), fun h => (by cases h), fun h => (by cases h), fun h => (by cases h), rfl⟩
        · obtain ⟨q4, e3⟩ := hb
          obtain ⟨e1, e2⟩ := c3 e3
          obtain e0 := c1 e1
          have f5 : l5 = false := by cases hh : l5 with | false => rfl | true => exact absurd ((c5 hh)) (by rw [q4]; simp)
          have f6 : l6 = false := by cases hh : l6 with | false => rfl | true => exact absurd ((c6 hh)) (by rw [q4]; simp)
          have f7 : l7 = false := by cases hh : l7 with | false => rfl | true => exact absurd ((c7 hh)) (by rw [q4]; simp)
          have f8 : l8 = false := by cases hh : l8 with | false => rfl | true => exact absurd ((c8 hh)) (by rw [q4]; simp)
          have f9 : l9 = false := by cases hh : l9 with | false => rfl | true => exact absurd ((c9 hh).1) (by rw [f6]; simp)
          have f10 : l10 = false := by cases hh : l10 with | false => rfl | true => exact absurd ((c10 hh).1) (by rw [f5]; simp)
          have f11 : l11 = false := by cases hh : l11 with | false => rfl | true => exact absurd ((c11 hh).1) (by rw [f10]; simp)
          have f12 : l12 = false := by cases hh : l12 with | false => rfl | true => exact absurd ((c12 hh).1) (by rw [q4]; simp)
          clear hi' hlt'
          subst q4 e0 e1 e2 e3 f5 f6 f7 f8 f9 f10 f11 f12
          clear c1
          clear c3
          clear c4
          clear c5
          clear c6
          clear c7
          clear c8
          clear c9
          clear c10
          clear c11
          clear c12
          refine wpOpIn_step rfl (fun K hK => ?_)
          simp only [sel_t, sel_f]
          go_simp
          refine hK _ _ ?_
          exact ⟨true, true, true, true, true, false, false, false, false, false, false, false, false, rfl, rfl, fun _ => rfl, fun _ => ⟨rfl, rfl⟩, fun _ => rfl, fun h => (by cases h), fun h => (by cases h), fun h => (by cases h), fun h => (by cases h), fun h => (by cases h), fun h => (by cases h), fun h => (by cases h), fun h => (by cases h), rfl⟩
        · obtain ⟨q5, e4⟩ := hb
          obtain e3 := c4 e4
          obtain ⟨e1, e2⟩ := c3 e3
          obtain e0 := c1 e1
          have f10 : l10 = false := by cases hh : l10 with | false => rfl | true => exact absurd ((c10 hh).1) (by rw [q5]; simp)
          have f11 : l11 = false := by cases hh : l11 with | false => rfl | true => exact absurd ((c11 hh).1) (by rw [f10]; simp)
          have f12 : l12 = false := by cases hh : l12 with | false => rfl | true => exact absurd ((c12 hh).2) (by rw [f11]; simp)
          clear hi' hlt'
          subst q5 e0 e1 e2 e3 e4 f10 f11 f12
          clear c1
          clear c3
          clear c4
          clear c5
          have H6 := hide c6; clear c6
          have H7 := hide c7; clear c7
          have H8 := hide c8; clear c8
          have H9 := hide c9; clear c9
          clear c10
          clear c11
          clear c12
          refine wpOpIn_step rfl (fun K hK => ?_)
          simp only [sel_t, sel_f]
          go_simp
          first | refine ⟨trivial, ?_⟩ | refine ⟨fun _ _ => trivial, ?_⟩ | skip
          refine hK _ _ ?_
          exact ⟨true, true, true, true, true, true, _, _, _, _, false, false, false, rfl, rfl, fun _ => rfl, fun _ => ⟨rfl, rfl⟩, fun _ => rfl, fun _ => rfl, H6.out, H7.out, H8.out, H9.out, fun h => (by cases h), fun h => (by cases h), fun h => (by cases h), rfl⟩
        · obtain ⟨q6, e4⟩ := hb
          obtain e3 := c4 e4
          obtain ⟨e1, e2⟩ := c3 e3
          obtain e0 := c1 e1
          have f9 : l9 = false := by cases hh : l9 with | false => rfl | true => exact absurd ((c9 hh).1) (by rw [q6]; simp)
          have f10 : l10 = false := by cases hh : l10 with | false => rfl | true => exact absurd ((c10 hh).2.1) (by rw [f9]; simp)
          have f11 : l11 = false := by cases hh : l11 with | false => rfl | true => exact absurd ((c11 hh).1) (by rw [f10]; simp)
          have f12 : l12 = false := by cases hh : l12 with | false => rfl | true => exact absurd ((c12 hh).2) (by rw [f11]; simp)
          clear hi' hlt'
          subst q6 e0 e1 e2 e3 e4 f9 f10 f11 f12
          clear c1
          clear c3
          clear c4
          have H5 := hide c5; clear c5
          clear c6
          have H7 := hide c7; clear c7
          have H8 := hide c8; clear c8
          clear c9
          clear c10
          clear c11
          clear c12
          refine wpOpIn_step rfl (fun K hK => ?_)
          simp only [sel_t, sel_f]
          go_simp
          first | refine ⟨trivial, ?_⟩ | refine ⟨fun _ _ => trivial, ?_⟩ | skip
          refine hK _ _ ?_
          exact ⟨true, true, true, true, true, _, true, _, _, false, false, false, false, rfl, rfl, fun _ => rfl, fun _ => ⟨rfl, rfl⟩, fun _ => rfl, H5.out, fun _ => rfl, H7.out, H8.out, fun h => (by cases h), fun h => (by cases h), fun h => (by cases h), fun h => (by cases h), rfl⟩
        · obtain ⟨q7, e4⟩ := hb
          obtain e3 := c4 e4
          obtain ⟨e1, e2⟩ := c3 e3
          obtain e0 := c1 e1
          have f9 : l9 = false := by cases hh : l9 with | false => rfl | true => exact absurd ((c9 hh).2.1) (by rw [q7]; simp)
          have f10 : l10 = false := by cases hh : l10 with | false => rfl | true => exact absurd ((c10 hh).2.1) (by rw [f9]; simp)
          have f11 : l11 = false := by cases hh : l11 with | false => rfl | true => exact absurd ((c11 hh).1) (by rw [f10]; simp)
          have f12 : l12 = false := by cases hh : l12 with | false => rfl | true => exact absurd ((c12 hh).2) (by rw [f11]; simp)
          clear hi' hlt'
          subst q7 e0 e1 e2 e3 e4 f9 f10 f11 f12
          clear c1
          clear c3
          clear c4
          have H5 := hide c5; clear c5
          have H6 := hide c6; clear c6
          clear c7
          have H8 := hide c8; clear c8
          clear c9
          clear c10
          clear c11
          clear c12
          refine wpOpIn_step rfl (fun K hK => ?_)
          simp only [sel_t, sel_f]
          go_simp
          first | refine ⟨trivial, ?_⟩ | refine ⟨fun _ _ => trivial, ?_⟩ | skip
          refine hK _ _ ?_
          exact ⟨true, true, true, true, true, _, _, true, _, false, false, false, false, rfl, rfl, fun _ => rfl, fun _ => ⟨rfl, rfl⟩, fun _ => rfl, H5.out, H6.out, fun _ => rfl, H8.out, fun h => (by cases h), fun h => (by cases h), fun h => (by cases h), fun h => (by cases h), rfl⟩
        · obtain ⟨q8, e4⟩ := hb
          obtain e3 := c4 e4
          obtain ⟨e1, e2⟩ := c3 e3
          obtain e0 := c1 e1
          have f9 : l9 = false := by cases hh : l9 with | false => rfl | true => exact absurd ((c9 hh).2.2.1) (by rw [q8]; simp)
          have f10 : l10 = false := by cases hh : l10 with | false => rfl | true => exact absurd ((c10 hh).2.1) (by rw [f9]; simp)
          have f11 : l11 = false := by cases hh : l11 with | false => rfl | true => exact absurd ((c11 hh).1) (by rw [f10]; simp)
          have f12 : l12 = false := by cases hh : l12 with | false => rfl | true => exact absurd ((c12 hh).2) (by rw [f11]; simp)
          clear hi' hlt'
          subst q8 e0 e1 e2 e3 e4 f9 f10 f11 f12
          clear c1
          clear c3
          clear c4
          have H5 := hide c5; clear c5
          have H6 := hide c6; clear c6
          have H7 := hide c7; clear c7
          clear c8
          clear c9
          clear c10
          clear c11
          clear c12
          refine wpOpIn_step rfl (fun K hK => ?_)
          simp only [sel_t, sel_f]
          go_simp
          first | refine ⟨trivial, ?_⟩ | refine ⟨fun _ _ => trivial, ?_⟩ | skip
          refine hK _ _ ?_
          exact ⟨true, true, true, true, true, _, _, _, true, false, false, false, false, rfl, rfl, fun _ => rfl, fun _ => ⟨rfl, rfl⟩, fun _ => rfl, H5.out, H6.out, H7.out, fun _ => rfl, fun h => (by cases h), fun h => (by cases h), fun h => (by cases h), fun h => (by cases h), rfl⟩
        · obtain ⟨q9, e6, e7, e8, e4⟩ := hb
          obtain e3 := c4 e4
          obtain ⟨e1, e2⟩ := c3 e3
          obtain e0 := c1 e1
          have f10 : l10 = false := by cases hh : l10 with | false => rfl | true => exact absurd ((c10 hh).2.1) (by rw [q9]; simp)
          have f11 : l11 = false := by cases hh : l11 with | false => rfl | true => exact absurd ((c11 hh).1) (by rw [f10]; simp)
          have f12 : l12 = false := by cases hh : l12 with | false => rfl | true => exact absurd ((c12 hh).2) (by rw [f11]; simp)
          clear hi' hlt'
          subst q9 e0 e1 e2 e3 e4 e6 e7 e8 f10 f11 f12
          clear c1
          clear c3
          clear c4
          have H5 := hide c5; clear c5
          clear c6
          clear c7
          clear c8
          clear c9
          clear c10
          clear c11
          clear c12
          refine wpOpIn_step rfl (fun K hK => ?_)
          simp only [sel_t, sel_f]
          go_simp
          first | refine ⟨trivial, ?_⟩ | refine ⟨fun _ _ => trivial, ?_⟩ | skip
          refine hK _ _ ?_
          exact ⟨true, true, true, true, true, _, true, true, true, true, false, false, false, rfl, rfl, fun _ => rfl, fun _ => ⟨rfl, rfl⟩, fun _ => rfl, H5.out, fun _ => rfl, fun _ => rfl, fun _ => rfl, fun _ => ⟨rfl, rfl, rfl, rfl⟩, fun h => (by cases h), fun h => (by cases h), fun h => (by cases h), rfl⟩
        · obtain ⟨q10, e5, e9, e4⟩ := hb
          obtain ⟨e6, e7, e8, _⟩ := c9 e9
          obtain e3 := c4 e4
          obtain ⟨e1, e2⟩ := c3 e3
          obtain e0 := c1 e1
          have f11 : l11 = false := by cases hh : l11 with | false => rfl | true => exact absurd ((c11 hh).1) (by rw [q10]; simp)
          have f12 : l12 = false := by cases hh : l12 with | false => rfl | true => exact absurd ((c12 hh).2) (by rw [f11]; simp)
          clear hi' hlt'
          subst q10 e0 e1 e2 e3 e4 e5 e6 e7 e8 e9 f11 f12
          clear c1
          clear c3
          clear c4
          clear c5
          clear c6
          clear c7
          clear c8
          clear c9
          clear c10
          clear c11
          clear c12
          refine wpOpIn_step rfl (fun K hK => ?_)
          simp only [sel_t, sel_f]
          go_simp
          first | refine ⟨trivial, ?_⟩ | refine ⟨fun _ _ => trivial, ?_⟩ | skip
          refine hK _ _ ?_
          exact ⟨true, true, true, true, true, true, true, true, true, true, true, false, false, rfl, rfl, fun _ => rfl, fun _ => ⟨rfl, rfl⟩, fun _ => rfl, fun _ => rfl, fun _ => rfl, fun _ => rfl, fun _ => rfl, fun _ => ⟨rfl, rfl, rfl, rfl⟩, fun _ => ⟨rfl, rfl, rfl⟩, fun h => (by cases h), fun h => (by cases h), rfl⟩
        · obtain ⟨q11, e10, e4⟩ := hb
          obtain ⟨e5, e9, _⟩ := c10 e10
          obtain ⟨e6, e7, e8, _⟩ := c9 e9
          obtain e3 := c4 e4
          obtain ⟨e1, e2⟩ := c3 e3
          obtain e0 := c1 e1
          have f12 : l12 = false := by cases hh : l12 with | false => rfl | true => exact absurd ((c12 hh).2) (by rw [q11]; simp)
          clear hi' hlt'
          subst q11 e0 e1 e2 e3 e4 e5 e6 e7 e8 e9 e10 f12
          clear c1
          clear c3
          clear c4
          clear c5
          clear c6
          clear c7
          clear c8
          clear c9
          clear c10
          clear c11
          clear c12
          refine wpOpIn_step rfl (fun K hK => ?_)
          simp only [sel_t, sel_f]
          go_simp
          first | refine ⟨trivial, ?_⟩ | refine ⟨fun _ _ => trivial, ?_⟩ | skip
          refine hK _ _ ?_
          exact ⟨true, true, true, true, true, true, true, true, true, true, true, true, false, rfl, rfl, fun _ => rfl, fun _ => ⟨rfl, rfl⟩, fun _ => rfl, fun _ => rfl, fun _ => rfl, fun _ => rfl, fun _ => rfl, fun _ => ⟨rfl, rfl, rfl, rfl⟩, fun _ => ⟨rfl, rfl, rfl⟩, fun _ => ⟨rfl, rfl⟩, fun h => (by cases h), rfl⟩
        · obtain ⟨q12, e4, e11⟩ := hb
          obtain ⟨e10, _⟩ := c11 e11
          obtain ⟨e5, e9, _⟩ := c10 e10
          obtain ⟨e6, e7, e8, _⟩ := c9 e9
          obtain e3 := c4 e4
          obtain ⟨e1, e2⟩ := c3 e3
          obtain e0 := c1 e1
          clear hi' hlt'
          subst q12 e0 e1 e2 e3 e4 e5 e6 e7 e8 e9 e10 e11
          clear c1
          clear c3
          clear c4
          clear c5
          clear c6
          clear c7
          clear c8
          clear c9
          clear c10
          clear c11
          clear c12
          refine wpOpIn_step rfl (fun K hK => ?_)
          simp only [sel_t, sel_f]
          go_simp
          refine hK _ _ ?_
          exact ⟨true, true, true, true, true, true, true, true, true, true, true, true, true, rfl, rfl, fun _ => rfl, fun _ => ⟨rfl, rfl⟩, fun _ => rfl, fun _ => rfl, fun _ => rfl, fun _ => rfl, fun _ => rfl, fun _ => ⟨rfl, rfl, rfl, rfl⟩, fun _ => ⟨rfl, rfl, rfl⟩, fun _ => ⟨rfl, rfl⟩, fun _ => ⟨rfl, rfl⟩, rfl⟩
      case finstop =>
        rintro listed a w' ⟨l0, l1, l2, l3, l4, l5, l6, l7, l8, l9, l10, l11, l12, rfl, rfl, c1, c3, c4, c5, c6, c7, c8, c9, c10, c11, c12, rfl⟩ hi'
        have hx := fun i => Ord.not_ready hi' (i := i)
        have g0 : l0 = true := by have g := hx 0 (by simp); simp [Region.binds] at g; exact g
        have g1 : l1 = true := by have g := hx 1 (by simp); simp [Region.binds] at g; cases hh : l1 with | true => rfl | false => exact absurd (g hh ) (by rw [g0]; simp)
        have g2 : l2 = true := by have g := hx 2 (by simp); simp [Region.binds] at g; exact g
        have g3 : l3 = true := by have g := hx 3 (by simp); simp [Region.binds] at g; cases hh : l3 with | true => rfl | false => exact absurd (g hh g1) (by rw [g2]; simp)
        have g4 : l4 = true := by have g := hx 4 (by simp); simp [Region.binds] at g; cases hh : l4 with | true => rfl | false => exact absurd (g hh ) (by rw [g3]; simp)
        have g5 : l5 = true := by have g := hx 5 (by simp); simp [Region.binds] at g; cases hh : l5 with | true => rfl | false => exact absurd (g hh ) (by rw [g4]; simp)
        have g6 : l6 = true := by have g := hx 6 (by simp); simp [Region.binds] at g; cases hh : l6 with | true => rfl | false => exact absurd (g hh ) (by rw [g4]; simp)
        have g7 : l7 = true := by have g := hx 7 (by simp); simp [Region.binds] at g; cases hh : l7 with | true => rfl | false => exact absurd (g hh ) (by rw [g4]; simp)
        have g8 : l8 = true := by have g := hx 8 (by simp); simp [Region.binds] at g; cases hh : l8 with | true => rfl | false => exact absurd (g hh ) (by rw [g4]; simp)
        have g9 : l9 = true := by have g := hx 9 (by simp); simp [Region.binds] at g; cases hh : l9 with | true => rfl | false => exact absurd (g hh g6 g7 g8) (by rw [g4]; simp)
        have g10 : l10 = true := by have g := hx 10 (by simp); simp [Region.binds] at g; cases hh : l10 with | true => rfl | false => exact absurd (g hh g5 g9) (by rw [g4]; simp)
        have g11 : l11 = true := by have g := hx 11 (by simp); simp [Region.binds] at g; cases hh : l11 with | true => rfl | false => exact absurd (g hh g10) (by rw [g4]; simp)
        have g12 : l12 = true := by have g := hx 12 (by simp); simp [Region.binds] at g; cases hh : l12 with | true => rfl | false => exact absurd (g hh g4) (by rw [g11]; simp)
        subst g0 g1 g2 g3 g4 g5 g6 g7 g8 g9 g10 g11 g12
        clear c1 c3 c4 c5 c6 c7 c8 c9 c10 c11 c12 hi' hx
        simp only [sel_t]
        gi_wp2
        obtain ⟨hj, hp, y1, y2, y3⟩ := HZ.out
        refine ⟨kf_nu _ (Kp.refl Nu V).drew, rfl, .inl ⟨?_, pre, x, rfl, hst, hp⟩⟩
        have e := tk_halt (lo := lo) [] hp hst
        rw [List.append_nil] at e
        rw [e]
        exact HJ.out _ V V.drew none hj (grown_nu (Kp.refl Nu V).drew) (fun r e => by cases e)
    · have hle2 : ¬ x.lo > hi := hst
      have hle3 : decide (hi < x.lo) = false := decide_eq_false hst
      gi_wp2_with fail
      refine wpIn_region_any (by assumption) ?_
      change wpAnyIn _ _ _ _ _ _ _ _ _ (World.drew _)
      refine Ord.wpAnyIn_inv (Inv := fun listed a w' => ∃ l0 l1 l2 l3 l4 l5 l6 l7 l8 l9 l10 l11 l12 : Bool, ∃ rb : Bool, listed = #[l0, l1, l2, l3, l4, l5, l6, l7, l8, l9, l10, l11, l12] ∧ a = { tmps := #[.func (.yield l) #[] #[], .pointer (some ⟨Bl, 0, none⟩), .pointer (some ⟨Bh, 0, none⟩), .pointer (some ⟨Br, 0, none⟩), .pointer (some ⟨Y, 0, none⟩), .pointer (some ⟨Bx, 0, none⟩), .int .u64 lo, .int .u64 hi, .bool false, .func (.func 73) #[] #[.pointer (some ⟨Bn, 0, none⟩)], .agg #[.int .u64 x.lo, .int .u64 x.hi, .int .u8 x.h], sel l0 (.pointer (some ⟨Bx, 0, none⟩)), sel l1 (.int .u64 x.lo), sel l2 (.int .u64 hi), sel l3 (.bool false), sel l4 (.bool false), sel l5 (.func (.yield l) #[] #[]), sel l6 (.agg #[.int .u64 x.lo, .int .u64 x.hi, .int .u8 x.h]), sel l7 (.int .u64 lo), sel l8 (.int .u64 hi), sel l9 (.agg #[.int .u64 (max x.lo lo), .int .u64 (min x.hi hi), .int .u8 x.h]), sel l10 (.bool rb), sel l11 (.bool (!rb)), sel l12 (.bool (!rb))], defers := [] } ∧ (l1 = true → l0 = true) ∧ (l3 = true → l1 = true ∧ l2 = true) ∧ (l4 = true → l3 = true) ∧ (l5 = true → l4 = true) ∧ (l6 = true → l4 = true) ∧ (l7 = true → l4 = true) ∧ (l8 = true → l4 = true) ∧ (l9 = true → l6 = true ∧ l7 = true ∧ l8 = true ∧ l4 = true) ∧ (l10 = true → l5 = true ∧ l9 = true ∧ l4 = true) ∧ (l11 = true → l10 = true ∧ l4 = true) ∧ (l12 = true → l4 = true ∧ l11 = true) ∧ (l10 = false → Kp Nu V w') ∧ (l10 = true → Hid (OUT rb w'))) ?stepgo ?fingo _ _ _ _ ?startgo ?countgo
      case startgo => exact ⟨false, false, false, false, false, false, false, false, false, false, false, false, false, false, rfl, rfl, fun h => (by cases h), fun h => (by cases h), fun h => (by cases h), fun h => (by cases h), fun h => (by cases h), fun h => (by cases h), fun h => (by cases h), fun h => (by cases h), fun h => (by cases h), fun h => (by cases h), fun h => (by cases h), fun _ => (Kp.refl Nu V).drew, fun h => (by cases h)⟩
      case countgo => decide
      case stepgo =>
        rintro listed a w' i ⟨l0, l1, l2, l3, l4, l5, l6, l7, l8, l9, l10, l11, l12, rb, rfl, rfl, c1, c3, c4, c5, c6, c7, c8, c9, c10, c11, c12, hw0, hw1⟩ hi'
        obtain ⟨hlt', hb⟩ := Ord.mem_ready hi'
        rcases Ord.lt_cases13 hlt' with rfl | rfl | rfl | rfl | rfl | rfl | rfl | rfl | rfl | rfl | rfl | rfl | rfl
        all_goals simp [Region.binds] at hb
        · have q0 := hb
          have f1 : l1 = false := by cases hh : l1 with | false => rfl | true => exact absurd ((c1 hh)) (by rw [q0]; simp)
          have f3 : l3 = false := by cases hh : l3 with | false => rfl | true => exact absurd ((c3 hh).1) (by rw [f1]; simp)
          have f4 : l4 = false := by cases hh : l4 with | false => rfl | true => exact absurd ((c4 hh)) (by rw [f3]; simp)
          have f5 : l5 = false := by cases hh : l5 with | false => rfl | true => exact absurd ((c5 hh)) (by rw [f4]; simp)
          have f6 : l6 = false := by cases hh : l6 with | false => rfl | true => exact absurd ((c6 hh)) (by rw [f4]; simp)
          have f7 : l7 = false := by cases hh : l7 with | false => rfl | true => exact absurd ((c7 hh)) (by rw [f4]; simp)
          have f8 : l8 = false := by cases hh : l8 with | false => rfl | true => exact absurd ((c8 hh)) (by rw [f4]; simp)
          have f9 : l9 = false := by cases hh : l9 with | false => rfl | true => exact absurd ((c9 hh).1) (by rw [f6]; simp)
          have f10 : l10 = false := by cases hh : l10 with | false => rfl | true => exact absurd ((c10 hh).1) (by rw [f5]; simp)
          have f11 : l11 = false := by cases hh : l11 with | false => rfl | true => exact absurd ((c11 hh).1) (by rw [f10]; simp)
          have f12 : l12 = false := by cases hh : l12 with | false => rfl | true => exact absurd ((c12 hh).1) (by rw [f4]; simp)
          have hk := hw0 f10
          clear hw0 hw1
          obtain ⟨z0, z1, z2, z3, z4, z5⟩ := HS.out _ hk
          clear hi' hlt'
          subst q0 f1 f3 f4 f5 f6 f7 f8 f9 f10 f11 f12
          clear c1
          clear c3
          clear c4
          clear c5
          clear c6
          clear c7
          clear c8
          clear c9
          clear c10
          clear c11
          clear c12
          refine wpOpIn_step rfl (fun K hK => ?_)
          simp only [sel_f]
          go_simp
          refine hK _ _ ?_
          exact ⟨true, false, _, false, false, false, false, false, false, false, false, false, false, rb, rfl, rfl, fun h => (by cases h), fun h => (by cases h), fun h => (by cases h), fun h => (by cases h), fun h => (by cases h), fun h => (by cases h), fun h => (by cases h), fun h => (by cases h), fun h => (by cases h), fun h => (by cases h), fun h => (by cases h), fun _ => hk, fun h => (by cases h)⟩
        · obtain ⟨q1, e0⟩ := hb
          have f3 : l3 = false := by cases hh : l3 with | false => rfl | true => exact absurd ((c3 hh).1) (by rw [q1]; simp)
          have f4 : l4 = false := by cases hh : l4 with | false => rfl | true => exact absurd ((c4 hh)) (by rw [f3]; simp)
          have f5 : l5 = false := by cases hh : l5 with | false => rfl | true => exact absurd ((c5 hh)) (by rw [f4]; simp)
          have f6 : l6 = false := by cases hh : l6 with | false => rfl | true => exact absurd ((c6 hh)) (by rw [f4]; simp)
          have f7 : l7 = false := by cases hh : l7 with | false => rfl | true => exact absurd ((c7 hh)) (by rw [f4]; simp)
          have f8 : l8 = false := by cases hh : l8 with | false => rfl | true => exact absurd ((c8 hh)) (by rw [f4]; simp)
          have f9 : l9 = false := by cases hh : l9 with | false => rfl | true => exact absurd ((c9 hh).1) (by rw [f6]; simp)
          have f10 : l10 = false := by cases hh : l10 with | false => rfl | true => exact absurd ((c10 hh).1) (by rw [f5]; simp)
          have f11 : l11 = false := by cases hh : l11 with | false => rfl | true => exact absurd ((c11 hh).1) (by rw [f10]; simp)
          have f12 : l12 = false := by cases hh : l12 with | false => rfl | true => exact absurd ((c12 hh).1) (by rw [f4]; simp)
          have hk := hw0 f10
          clear hw0 hw1
          obtain ⟨z0, z1, z2, z3, z4, z5⟩ := HS.out _ hk
          clear hi' hlt'
          subst q1 e0 f3 f4 f5 f6 f7 f8 f9 f10 f11 f12
          clear c1
          clear c3
          clear c4
          clear c5
          clear c6
          clear c7
          clear c8
          clear c9
          clear c10
          clear c11
          clear c12
          refine wpOpIn_step rfl (fun K hK => ?_)
          simp only [sel_t, sel_f]
          go_simp
          refine hK _ _ ?_
          exact ⟨true, true, _, false, false, false, false, false, false, false, false, false, false, rb, rfl, rfl, fun _ => rfl, fun h => (by cases h), fun h => (by cases h), fun h => (by cases h), fun h => (by cases h), fun h => (by cases h), fun h => (by cases h), fun h => (by cases h), fun h => (by cases h), fun h => (by cases h), fun h => (by cases h), fun _ => hk, fun h => (by cases h)⟩
        · have q2 := hb
          have f3 : l3 = false := by cases hh : l3 with | false => rfl | true => exact absurd ((c3 hh).2) (by rw [q2]; simp)
          have f4 : l4 = false := by cases hh : l4 with | false => rfl | true => exact absurd ((c4 hh)) (by rw [f3]; simp)
          have f5 : l5 = false := by cases hh : l5 with | false => rfl | true => exact absurd ((c5 hh)) (by rw [f4]; simp)
          have f6 : l6 = false := by cases hh : l6 with | false => rfl | true => exact absurd ((c6 hh)) (by rw [f4]; simp)
          have f7 : l7 = false := by cases hh : l7 with | false => rfl | true => exact absurd ((c7 hh)) (by rw [f4]; simp)
          have f8 : l8 = false := by cases hh : l8 with | false => rfl | true => exact absurd ((c8 hh)) (by rw [f4]; simp)
          have f9 : l9 = false := by cases hh : l9 with | false => rfl | true => exact absurd ((c9 hh).1) (by rw [f6]; simp)
          have f10 : l10 = false := by cases hh : l10 with | false => rfl | true => exact absurd ((c10 hh).1) (by rw [f5]; simp)
          have f11 : l11 = false := by cases hh : l11 with | false => rfl | true => exact absurd ((c11 hh).1) (by rw [f10]; simp)
          have f12 : l12 = false := by cases hh : l12 with | false => rfl | true => exact absurd ((c12 hh).1) (by rw [f4]; simp)
          have hk := hw0 f10
          clear hw0 hw1
          obtain ⟨z0, z1, z2, z3, z4, z5⟩ := HS.out _ hk
          clear hi' hlt'
          subst q2 f3 f4 f5 f6 f7 f8 f9 f10 f11 f12
          have H1 := hide c1; clear c1
          clear c3
          clear c4
          clear c5
          clear c6
          clear c7
          clear c8
          clear c9
          clear c10
          clear c11
          clear c12
          refine wpOpIn_step rfl (fun K hK => ?_)
          simp only [sel_f]
          go_simp
          refine hK _ _ ?_
          exact ⟨_, _, true, false, false, false, false, false, false, false, false, false, false, rb, rfl, rfl, H1.out, fun h => (by cases h), fun h => (by cases h), fun h => (by cases h), fun h => (by cases h), fun h => (by cases h), fun h => (by cases h), fun h => (by cases h), fun h => (by cases h), fun h => (by cases h), fun h => (by cases h), fun _ => hk, fun h => (by cases h)⟩
        · obtain ⟨q3, e1, e2⟩ := hb
          obtain e0 := c1 e1
          have f4 : l4 = false := by cases hh : l4 with | false => rfl | true => exact absurd ((c4 hh)) (by rw [q3]; simp)
          have f5 : l5 = false := by cases hh : l5 with | false => rfl | true => exact absurd ((c5 hh)) (by rw [f4]; simp)
          have f6 : l6 = false := by cases hh : l6 with | false => rfl | true => exact absurd ((c6 hh)) (by rw [f4]; simp)
          have f7 : l7 = false := by cases hh : l7 with | false => rfl | true => exact absurd ((c7 hh)) (by rw [f4]; simp)
          have f8 : l8 = false := by cases hh : l8 with | false => rfl | true => exact absurd ((c8 hh)) (by rw [f4]; simp)
          have f9 : l9 = false := by cases hh : l9 with | false => rfl | true => exact absurd ((c9 hh).1) (by rw [f6]; simp)
          have f10 : l10 = false := by cases hh : l10 with | false => rfl | true => exact absurd ((c10 hh).1) (by rw [f5]; simp)
          have f11 : l11 = false := by cases hh : l11 with | false => rfl | true => exact absurd ((c11 hh).1) (by rw [f10]; simp)
          have f12 : l12 = false := by cases hh : l12 with | false => rfl | true => exact absurd ((c12 hh).1) (by rw [f4]; simp)
          have hk := hw0 f10
          clear hw0 hw1
          obtain ⟨z0, z1, z2, z3, z4, z5⟩ := HS.out _ hk
          clear hi' hlt'
          subst q3 e0 e1 e2 f4 f5 f6 f7 f8 f9 f10 f11 f12
          clear c1
          clear c3
          clear c4
          clear c5
          clear c6
          clear c7
          clear c8
          clear c9
          clear c10
          clear c11
          clear c12
          refine wpOpIn_step rfl (fun K hK => ?_)
          simp only [sel_t, sel_f]
          go_simp
          refine hK _ _ ?_
          exact ⟨true, true, true, true, false, false, false, false, false, false, false, false, false, rb, rfl, rfl, fun _ => rfl, fun _ => ⟨rfl, rfl⟩, fun h => (by cases h), fun h => (by cases h), fun h => (by cases h), fun h => (by cases h), fun h => (by cases h), fun h => (by cases h), fun h => (by cases h), fun h => (by cases h), fun h => (by cases h), fun _ => hk, fun h => (by cases h)⟩
        · obtain ⟨q4, e3⟩ := hb
          obtain ⟨e1, e2⟩ := c3 e3
          obtain e0 := c1 e1
          have f5 : l5 = false := by cases hh : l5 with | false => rfl | true => exact absurd ((c5 hh)) (by rw [q4]; simp)
          have f6 : l6 = false := by cases hh : l6 with | false => rfl | true => exact absurd ((c6 hh)) (by rw [q4]; simp)
          have f7 : l7 = false := by cases hh : l7 with | false => rfl | true => exact absurd ((c7 hh)) (by rw [q4]; simp)
          have f8 : l8 = false := by cases hh : l8 with | false => rfl | true => exact absurd ((c8 hh)) (by rw [q4]; simp)
          have f9 : l9 = false := by cases hh : l9 with | false => rfl | true => exact absurd ((c9 hh).1) (by rw [f6]; simp)
          have f10 : l10 = false := by cases hh : l10 with | false => rfl | true => exact absurd ((c10 hh).1) (by rw [f5]; simp)
          have f11 : l11 = false := by cases hh : l11 with | false => rfl | true => exact absurd ((c11 hh).1) (by rw [f10]; simp)
          have f12 : l12 = false := by cases hh : l12 with | false => rfl | true => exact absurd ((c12 hh).1) (by rw [q4]; simp)
          have hk := hw0 f10
          clear hw0 hw1
          obtain ⟨z0, z1, z2, z3, z4, z5⟩ := HS.out _ hk
          clear hi' hlt'
          subst q4 e0 e1 e2 e3 f5 f6 f7 f8 f9 f10 f11 f12
          clear c1
          clear c3
          clear c4
          clear c5
          clear c6
          clear c7
          clear c8
          clear c9
          clear c10
          clear c11
          clear c12
          refine wpOpIn_step rfl (fun K hK => ?_)
          simp only [sel_t, sel_f]
          go_simp
          refine hK _ _ ?_
          exact ⟨true, true, true, true, true, false, false, false, false, false, false, false, false, rb, rfl, rfl, fun _ => rfl, fun _ => ⟨rfl, rfl⟩, fun _ => rfl, fun h => (by cases h), fun h => (by cases h), fun h => (by cases h), fun h => (by cases h), fun h => (by cases h), fun h => (by cases h), fun h => (by cases h), fun h => (by cases h), fun _ => hk, fun h => (by cases h)⟩
        · obtain ⟨q5, e4⟩ := hb
          obtain e3 := c4 e4
          obtain ⟨e1, e2⟩ := c3 e3
          obtain e0 := c1 e1
          have f10 : l10 = false := by cases hh : l10 with | false => rfl | true => exact absurd ((c10 hh).1) (by rw [q5]; simp)
          have f11 : l11 = false := by cases hh : l11 with | false => rfl | true => exact absurd ((c11 hh).1) (by rw [f10]; simp)
          have f12 : l12 = false := by cases hh : l12 with | false => rfl | true => exact absurd ((c12 hh).2) (by rw [f11]; simp)
          have hk := hw0 f10
          clear hw0 hw1
          obtain ⟨z0, z1, z2, z3, z4, z5⟩ := HS.out _ hk
          clear hi' hlt'
          subst q5 e0 e1 e2 e3 e4 f10 f11 f12
          clear c1
          clear c3
          clear c4
          clear c5
          have H6 := hide c6; clear c6
          have H7 := hide c7; clear c7
          have H8 := hide c8; clear c8
          have H9 := hide c9; clear c9
          clear c10
          clear c11
          clear c12
          refine wpOpIn_step rfl (fun K hK => ?_)
          simp only [sel_t, sel_f]
          go_simp
          refine hK _ _ ?_
          exact ⟨true, true, true, true, true, true, _, _, _, _, false, false, false, rb, rfl, rfl, fun _ => rfl, fun _ => ⟨rfl, rfl⟩, fun _ => rfl, fun _ => rfl, H6.out, H7.out, H8.out, H9.out, fun h => (by cases h), fun h => (by cases h), fun h => (by cases h), fun _ => hk, fun h => (by cases h)⟩
        · obtain ⟨q6, e4⟩ := hb
          obtain e3 := c4 e4
          obtain ⟨e1, e2⟩ := c3 e3
          obtain e0 := c1 e1
          have f9 : l9 = false := by cases hh : l9 with | false => rfl | true => exact absurd ((c9 hh).1) (by rw [q6]; simp)
          have f10 : l10 = false := by cases hh : l10 with | false => rfl | true => exact absurd ((c10 hh).2.1) (by rw [f9]; simp)
          have f11 : l11 = false := by cases hh : l11 with | false => rfl | true => exact absurd ((c11 hh).1) (by rw [f10]; simp)
          have f12 : l12 = false := by cases hh : l12 with | false => rfl | true => exact absurd ((c12 hh).2) (by rw [f11]; simp)
          have hk := hw0 f10
          clear hw0 hw1
          obtain ⟨z0, z1, z2, z3, z4, z5⟩ := HS.out _ hk
          clear hi' hlt'
          subst q6 e0 e1 e2 e3 e4 f9 f10 f11 f12
          clear c1
          clear c3
          clear c4
          have H5 := hide c5; clear c5
          clear c6
          have H7 := hide c7; clear c7
          have H8 := hide c8; clear c8
          clear c9
          clear c10
          clear c11
          clear c12
          refine wpOpIn_step rfl (fun K hK => ?_)
          simp only [sel_t, sel_f]
          go_simp
          refine hK _ _ ?_
          exact ⟨true, true, true, true, true, _, true, _, _, false, false, false, false, rb, rfl, rfl, fun _ => rfl, fun _ => ⟨rfl, rfl⟩, fun _ => rfl, H5.out, fun _ => rfl, H7.out, H8.out, fun h => (by cases h), fun h => (by cases h), fun h => (by cases h), fun h => (by cases h), fun _ => hk, fun h => (by cases h)⟩
        · obtain ⟨q7, e4⟩ := hb
          obtain e3 := c4 e4
          obtain ⟨e1, e2⟩ := c3 e3
          obtain e0 := c1 e1
          have f9 : l9 = false := by cases hh : l9 with | false => rfl | true => exact absurd ((c9 hh).2.1) (by rw [q7]; simp)
          have f10 : l10 = false := by cases hh : l10 with | false => rfl | true => exact absurd ((c10 hh).2.1) (by rw [f9]; simp)
          have f11 : l11 = false := by cases hh : l11 with | false => rfl | true => exact absurd ((c11 hh).1) (by rw [f10]; simp)
          have f12 : l12 = false := by cases hh : l12 with | false => rfl | true => exact absurd ((c12 hh).2) (by rw [f11]; simp)
          have hk := hw0 f10
          clear hw0 hw1
          obtain ⟨z0, z1, z2, z3, z4, z5⟩ := HS.out _ hk
          clear hi' hlt'
          subst q7 e0 e1 e2 e3 e4 f9 f10 f11 f12
          clear c1
          clear c3
          clear c4
          have H5 := hide c5; clear c5
          have H6 := hide c6; clear c6
          clear c7
          have H8 := hide c8; clear c8
          clear c9
          clear c10
          clear c11
          clear c12
          refine wpOpIn_step rfl (fun K hK => ?_)
          simp only [sel_t, sel_f]
          go_simp
          refine hK _ _ ?_
          exact ⟨true, true, true, true, true, _, _, true, _, false, false, false, false, rb, rfl, rfl, fun _ => rfl, fun _ => ⟨rfl, rfl⟩, fun _ => rfl, H5.out, H6.out, fun _ => rfl, H8.out, fun h => (by cases h), fun h => (by cases h), fun h => (by cases h), fun h => (by cases h), fun _ => hk, fun h => (by cases h)⟩
        · obtain ⟨q8, e4⟩ := hb
          obtain e3 := c4 e4
          obtain ⟨e1, e2⟩ := c3 e3
          obtain e0 := c1 e1
          have f9 : l9 = false := by cases hh : l9 with | false => rfl | true => exact absurd ((c9 hh).2.2.1) (by rw [q8]; simp)
          have f10 : l10 = false := by cases hh : l10 with | false => rfl | true => exact absurd ((c10 hh).2.1) (by rw [f9]; simp)
          have f11 : l11 = false := by cases hh : l11 with | false => rfl | true => exact absurd ((c11 hh).1) (by rw [f10]; simp)
          have f12 : l12 = false := by cases hh : l12 with | false => rfl | true => exact absurd ((c12 hh).2) (by rw [f11]; simp)
          have hk := hw0 f10
          clear hw0 hw1
          obtain ⟨z0, z1, z2, z3, z4, z5⟩ := HS.out _ hk
          clear hi' hlt'
          subst q8 e0 e1 e2 e3 e4 f9 f10 f11 f12
          clear c1
          clear c3
          clear c4
          have H5 := hide c5; clear c5
          have H6 := hide c6; clear c6
          have H7 := hide c7; clear c7
          clear c8
          clear c9
          clear c10
          clear c11
          clear c12
          refine wpOpIn_step rfl (fun K hK => ?_)
          simp only [sel_t, sel_f]
          go_simp
          refine hK _ _ ?_
          exact ⟨true, true, true, true, true, _, _, _, true, false, false, false, false, rb, rfl, rfl, fun _ => rfl, fun _ => ⟨rfl, rfl⟩, fun _ => rfl, H5.out, H6.out, H7.out, fun _ => rfl, fun h => (by cases h), fun h => (by cases h), fun h => (by cases h), fun h => (by cases h), fun _ => hk, fun h => (by cases h)⟩
        · obtain ⟨q9, e6, e7, e8, e4⟩ := hb
          obtain e3 := c4 e4
          obtain ⟨e1, e2⟩ := c3 e3
          obtain e0 := c1 e1
          have f10 : l10 = false := by cases hh : l10 with | false => rfl | true => exact absurd ((c10 hh).2.1) (by rw [q9]; simp)
          have f11 : l11 = false := by cases hh : l11 with | false => rfl | true => exact absurd ((c11 hh).1) (by rw [f10]; simp)
          have f12 : l12 = false := by cases hh : l12 with | false => rfl | true => exact absurd ((c12 hh).2) (by rw [f11]; simp)
          have hk := hw0 f10
          clear hw0 hw1
          obtain ⟨z0, z1, z2, z3, z4, z5⟩ := HS.out _ hk
          clear hi' hlt'
          subst q9 e0 e1 e2 e3 e4 e6 e7 e8 f10 f11 f12
          clear c1
          clear c3
          clear c4
          have H5 := hide c5; clear c5
          clear c6
          clear c7
          clear c8
          clear c9
          clear c10
          clear c11
          clear c12
          refine wpOpIn_step rfl (fun K hK => ?_)
          simp only [sel_t, sel_f]
          go_simp
          refine ⟨trivial, (CallsIn.inRound l' (callsIn_wide.2 (CU _))).mono ?_⟩
          rintro e W1 ⟨rfl, hk1⟩
          refine hK _ _ ?_
          exact ⟨true, true, true, true, true, _, true, true, true, true, false, false, false, rb, rfl, rfl, fun _ => rfl, fun _ => ⟨rfl, rfl⟩, fun _ => rfl, H5.out, fun _ => rfl, fun _ => rfl, fun _ => rfl, fun _ => ⟨rfl, rfl, rfl, rfl⟩, fun h => (by cases h), fun h => (by cases h), fun h => (by cases h), fun _ => hk.andNu hk1, fun h => (by cases h)⟩
        · obtain ⟨q10, e5, e9, e4⟩ := hb
          obtain ⟨e6, e7, e8, _⟩ := c9 e9
          obtain e3 := c4 e4
          obtain ⟨e1, e2⟩ := c3 e3
          obtain e0 := c1 e1
          have f11 : l11 = false := by cases hh : l11 with | false => rfl | true => exact absurd ((c11 hh).1) (by rw [q10]; simp)
          have f12 : l12 = false := by cases hh : l12 with | false => rfl | true => exact absurd ((c12 hh).2) (by rw [f11]; simp)
          have hk := hw0 q10
          clear hw0 hw1
          clear hi' hlt'
          subst q10 e0 e1 e2 e3 e4 e5 e6 e7 e8 e9 f11 f12
          clear c1
          clear c3
          clear c4
          clear c5
          clear c6
          clear c7
          clear c8
          clear c9
          clear c10
          clear c11
          clear c12
          refine wpOpIn_step rfl (fun K hK => ?_)
          simp only [sel_t, sel_f]
          obtain ⟨fn, tmps, assign, body, hy, hR⟩ := YI.out _ hk
          go_simp
          refine hR.mono ?_
          rintro e W1 ⟨rb', rfl, hO⟩
          refine hK _ _ ?_
          exact ⟨true, true, true, true, true, true, true, true, true, true, true, false, false, rb', rfl, rfl, fun _ => rfl, fun _ => ⟨rfl, rfl⟩, fun _ => rfl, fun _ => rfl, fun _ => rfl, fun _ => rfl, fun _ => rfl, fun _ => ⟨rfl, rfl, rfl, rfl⟩, fun _ => ⟨rfl, rfl, rfl⟩, fun h => (by cases h), fun h => (by cases h), fun h => (by cases h), fun _ => hO⟩
        · obtain ⟨q11, e10, e4⟩ := hb
          obtain ⟨e5, e9, _⟩ := c10 e10
          obtain ⟨e6, e7, e8, _⟩ := c9 e9
          obtain e3 := c4 e4
          obtain ⟨e1, e2⟩ := c3 e3
          obtain e0 := c1 e1
          have f12 : l12 = false := by cases hh : l12 with | false => rfl | true => exact absurd ((c12 hh).2) (by rw [q11]; simp)
          have hO := hw1 e10
          clear hw0 hw1
          clear hi' hlt'
          subst q11 e0 e1 e2 e3 e4 e5 e6 e7 e8 e9 e10 f12
          clear c1
          clear c3
          clear c4
          clear c5
          clear c6
          clear c7
          clear c8
          clear c9
          clear c10
          clear c11
          clear c12
          refine wpOpIn_step rfl (fun K hK => ?_)
          simp only [sel_t, sel_f]
          go_simp
          refine hK _ _ ?_
          exact ⟨true, true, true, true, true, true, true, true, true, true, true, true, false, rb, rfl, rfl, fun _ => rfl, fun _ => ⟨rfl, rfl⟩, fun _ => rfl, fun _ => rfl, fun _ => rfl, fun _ => rfl, fun _ => rfl, fun _ => ⟨rfl, rfl, rfl, rfl⟩, fun _ => ⟨rfl, rfl, rfl⟩, fun _ => ⟨rfl, rfl⟩, fun h => (by cases h), fun h => (by cases h), fun _ => hO⟩
        · obtain ⟨q12, e4, e11⟩ := hb
          obtain ⟨e10, _⟩ := c11 e11
          obtain ⟨e5, e9, _⟩ := c10 e10
          obtain ⟨e6, e7, e8, _⟩ := c9 e9
          obtain e3 := c4 e4
          obtain ⟨e1, e2⟩ := c3 e3
          obtain e0 := c1 e1
          have hO := hw1 e10
          clear hw0 hw1
          clear hi' hlt'
          subst q12 e0 e1 e2 e3 e4 e5 e6 e7 e8 e9 e10 e11
          clear c1
          clear c3
          clear c4
          clear c5
          clear c6
          clear c7
          clear c8
          clear c9
          clear c10
          clear c11
          clear c12
          refine wpOpIn_step rfl (fun K hK => ?_)
          simp only [sel_t, sel_f]
          go_simp
          refine hK _ _ ?_
          exact ⟨true, true, true, true, true, true, true, true, true, true, true, true, true, rb, rfl, rfl, fun _ => rfl, fun _ => ⟨rfl, rfl⟩, fun _ => rfl, fun _ => rfl, fun _ => rfl, fun _ => rfl, fun _ => rfl, fun _ => ⟨rfl, rfl, rfl, rfl⟩, fun _ => ⟨rfl, rfl, rfl⟩, fun _ => ⟨rfl, rfl⟩, fun _ => ⟨rfl, rfl⟩, fun h => (by cases h), fun _ => hO⟩
      case fingo =>
        rintro listed a w' ⟨l0, l1, l2, l3, l4, l5, l6, l7, l8, l9, l10, l11, l12, rb, rfl, rfl, c1, c3, c4, c5, c6, c7, c8, c9, c10, c11, c12, hw0, hw1⟩ hi'
        have hx := fun i => Ord.not_ready hi' (i := i)
        have g0 : l0 = true := by have g := hx 0 (by simp); simp [Region.binds] at g; exact g
        have g1 : l1 = true := by have g := hx 1 (by simp); simp [Region.binds] at g; cases hh : l1 with | true => rfl | false => exact absurd (g hh ) (by rw [g0]; simp)
        have g2 : l2 = true := by have g := hx 2 (by simp); simp [Region.binds] at g; exact g
        have g3 : l3 = true := by have g := hx 3 (by simp); simp [Region.binds] at g; cases hh : l3 with | true => rfl | false => exact absurd (g hh g1) (by rw [g2]; simp)
        have g4 : l4 = true := by have g := hx 4 (by simp); simp [Region.binds] at g; cases hh : l4 with | true => rfl | false => exact absurd (g hh ) (by rw [g3]; simp)
        have g5 : l5 = true := by have g := hx 5 (by simp); simp [Region.binds] at g; cases hh : l5 with | true => rfl | false => exact absurd (g hh ) (by rw [g4]; simp)
        have g6 : l6 = true := by have g := hx 6 (by simp); simp [Region.binds] at g; cases hh : l6 with | true => rfl | false => exact absurd (g hh ) (by rw [g4]; simp)
        have g7 : l7 = true := by have g := hx 7 (by simp); simp [Region.binds] at g; cases hh : l7 with | true => rfl | false => exact absurd (g hh ) (by rw [g4]; simp)
        have g8 : l8 = true := by have g := hx 8 (by simp); simp [Region.binds] at g; cases hh : l8 with | true => rfl | false => exact absurd (g hh ) (by rw [g4]; simp)
        have g9 : l9 = true := by have g := hx 9 (by simp); simp [Region.binds] at g; cases hh : l9 with | true => rfl | false => exact absurd (g hh g6 g7 g8) (by rw [g4]; simp)
        have g10 : l10 = true := by have g := hx 10 (by simp); simp [Region.binds] at g; cases hh : l10 with | true => rfl | false => exact absurd (g hh g5 g9) (by rw [g4]; simp)
        have g11 : l11 = true := by have g := hx 11 (by simp); simp [Region.binds] at g; cases hh : l11 with | true => rfl | false => exact absurd (g hh g10) (by rw [g4]; simp)
        have g12 : l12 = true := by have g := hx 12 (by simp); simp [Region.binds] at g; cases hh : l12 with | true => rfl | false => exact absurd (g hh g4) (by rw [g11]; simp)
        subst g0 g1 g2 g3 g4 g5 g6 g7 g8 g9 g10 g11 g12
        have hO := hw1 rfl
        clear c1 c3 c4 c5 c6 c7 c8 c9 c10 c11 c12 hi' hx hw0 hw1
        simp only [sel_t]
        obtain ⟨hj, hp, y1, y2, y3⟩ := HZ.out
        have hO2 : OUT rb w' := hO.out
        rw [HOUT.out] at hO2
        obtain ⟨kf, hO3⟩ := hO2
        have hp2 : ∀ s ∈ pre ++ [x], s.lo ≤ hi := fun s hs => by
          rcases List.mem_append.1 hs with h | h
          · exact hp s h
          · simp at h; subst h; omega
        have hmp : (pre ++ [x]).map (cutS lo hi) = pre.map (cutS lo hi) ++ [cutS lo hi x] := by simp
        have HE := hide (And.intro kf (And.intro hO3 (And.intro hp2 (And.intro hmp (And.intro y1 (And.intro y2 y3))))))
        clear kf hO3 hp2 hmp y1 y2 y3 hj hp hO
        cases rb with
        | true =>
          gi_wp2
          obtain ⟨kf, hO3, hp2, hmp, y1, y2, y3⟩ := HE.out
          rcases hO3 with ⟨_, hj2, kc⟩ | ⟨h, _⟩
          · refine ⟨kf_mono kf (by omega), kc.mono (fun k t h => .inr (.inr (.inl h))), ⟨by rw [hmp]; exact hj2, hp2⟩, kc Bl _ _ _ (.inl rfl) y1, kc Bh _ _ _ (.inr (.inl rfl)) y2, kc Y _ _ _ (.inr (.inr (.inr rfl))) y3⟩
          · cases h
        | false =>
          gi_wp2
          obtain ⟨kf, hO3, hp2, hmp, y1, y2, y3⟩ := HE.out
          rcases hO3 with ⟨h, _⟩ | ⟨_, hjx⟩
          · cases h
          · exact ⟨kf_mono kf (by omega), rfl, .inr ⟨by rw [hmp]; exact hjx, hp2⟩⟩
  case done =>
    rintro D ys V hD rfl ⟨⟨hj, hp⟩, _⟩ hK
    have hj2 : J (ys.map (cutS lo hi)) (V.putObj D (.deferred none)) := hJ.putObj _ hj (by omega) hK rfl
    rw [← tk_map hp] at hj2
    have HF := hide hj2
    clear hj hp hj2
    gi_wp2
    refine ⟨by simp, .inl ⟨_, _, rfl, run_takeDeferred hK, ?_⟩⟩
    refine ⟨.tuple #[], ?_, ⟨_, rfl⟩, .inl ⟨_, rfl, HF.out⟩⟩
    simp [results, Tryd.results45, go_sem]
  case stop =>
    rintro D c pre V hD hpre ⟨rfl, hx⟩ hK
    have HF : Hid ((∃ xs, xs = tk lo hi M ∧ J xs (V.putObj D (.deferred none))) ∨ (∃ p, p <+: tk lo hi M ∧ Jx p (V.putObj D (.deferred none)))) := by
      rcases hx with ⟨hj, a, s, rfl, hs, ha⟩ | ⟨hjx, hp⟩
      · left
        obtain ⟨rest, rfl⟩ := hpre
        refine ⟨_, rfl, ?_⟩
        have e1 := tk_halt (lo := lo) [] ha hs
        have e2 := tk_halt (lo := lo) rest ha hs
        rw [List.append_nil] at e1
        rw [e2, ← e1]
        exact hJ.putObj _ hj (by omega) hK rfl
      · right
        exact ⟨_, tk_pre hp hpre, hJx.putObj _ hjx (by omega) hK rfl⟩
    clear hx
    gi_wp2
    refine ⟨by simp, .inl ⟨_, _, rfl, run_takeDeferred hK, ?_⟩⟩
    refine ⟨.tuple #[], ?_, ⟨_, rfl⟩, HF.out⟩
    simp [results, Tryd.results45, go_sem]
end Go.Proofs.YtffcnonhhfhlhaaDoor.Rg
