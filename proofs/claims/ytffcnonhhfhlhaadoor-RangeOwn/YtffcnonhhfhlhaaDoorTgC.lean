import Derived.Test.YtffcnonhhfhlhaaDoorTgD
import Derived.Test.YtffcnonhhfhlhaaDoorItB
import Derived.Sort.MapsRangeIn
namespace Go.Proofs.YtffcnonhhfhlhaaDoor.Rg
open Go.RowKit Go.Shelf Go.Sort Go.Maps
open Go.Proofs.YtffcnonhhfhlhaaDoor.It
attribute [local go_sem] Oper.semAt_some
set_option linter.unusedVariables false

theorem lt_cases10 {i : Nat} (h : i < 10) : i = 0 ∨ i = 1 ∨ i = 2 ∨ i = 3 ∨ i = 4 ∨ i = 5 ∨ i = 6 ∨ i = 7 ∨ i = 8 ∨ i = 9 := by omega
/-- the map and its box -/
structure Mp (w V : World) (bm B3 : Nat) (L : List Sg) : Prop where
  map : ∃ D, V.ownsMap Tryd.prog 24 shElem bm L.length D ∧ Rm D L
  box : V.heap[B3]? = some (.cells #[.map (some bm)] 103 (0, 0))
  be : Below w.heap.size w V
theorem map_nu {w w' : World} {bm nb : Nat} {D : DataW Unit} (h : w.ownsMap Tryd.prog 24 shElem bm nb D) (k : Kp Nu w w') : w'.ownsMap Tryd.prog 24 shElem bm nb D := by
  obtain ⟨es, clock, hb, r⟩ := h
  exact ⟨es, clock, (k.block bm (blk_lt hb) (fun h => h)).trans hb, r⟩
theorem Mp.own {w : World} {bm B3 B : Nat} (hb : bm < B) (hw : w.heap.size ≤ B) : OwnFrom B (fun L V => Mp w V bm B3 L) := fun s X Z row hs hg hr => by
  obtain ⟨⟨D, h1, h2⟩, h3, h4⟩ := hs
  refine ⟨⟨D, h1.kept hg (fun e => ?_), h2⟩, own_cells (β := Unit) B _ _ _ _ () X Z row h3 hg hr, ownFrom_below (Nat.le_refl _) hw () X Z row h4 hg hr⟩
  have := (hr bm e.symm).1
  omega
theorem Mp.nu {w V V' : World} {bm B3 : Nat} {L : List Sg} (h : Mp w V bm B3 L) (k : Kp Nu V V') (hV : w.heap.size ≤ V.heap.size) : Mp w V' bm B3 L := by
  obtain ⟨⟨D, h1, h2⟩, h3, h4⟩ := h
  exact ⟨⟨D, map_nu h1 k, h2⟩, (k.block _ (blk_lt h3) (fun h => h)).trans h3, h4.trans (k.below _ hV (fun _ h => h.elim))⟩

theorem info80 : (Tryd.prog.info? 105).map (fun i => (i.zero, i.size, i.bytes)) = some (some (.agg #[.int .u8 0, .int .i64 0, .int .u64 0]), 3, 24) := by kernel_rfl
/-- the hosts that have been gone through -/
def Kh (A : List Sg) (left : Lit → Bool) (hs : List Int) : Prop := hs.Nodup ∧ ∀ p, p ∈ hs ↔ (0 ≤ p ∧ p < 256 ∧ 0 < cntL A p ∧ left (hk p) = false)
def Khd (A : List Sg) (hs : List Int) : Prop := hs.Nodup ∧ ∀ p, p ∈ hs ↔ (0 ≤ p ∧ p < 256 ∧ 0 < cntL A p)
theorem Kh.start {D : DataW Unit} {A : List Sg} (hR : Rm D A) : Kh A (has D) [] := ⟨List.nodup_nil, fun p => by
  constructor
  · intro h; cases h
  · rintro ⟨h0, h1, h2, h3⟩
    rw [((hR p h0 h1).1 h2).1] at h3
    cases h3⟩
theorem Kh.step {D : DataW Unit} {A : List Sg} {left : Lit → Bool} {hs : List Int} {p : Int} (h : Kh A left hs) (h0 : 0 ≤ p) (h1 : p < 256) (h2 : 0 < cntL A p) (hl : left (hk p) = true) : Kh A (fun z => left z && !z.sameKey (hk p)) (hs ++ [p]) := by
  refine ⟨List.nodup_append.2 ⟨h.1, by simp, fun a ha b hb e => ?_⟩, fun q => ?_⟩
  · simp at hb
    subst hb e
    have := ((h.2 a).1 ha).2.2.2
    rw [hl] at this; cases this
  · by_cases e : q = p
    · subst e
      simp [h0, h1, h2, hk, Lit.sameKey]
    · have : (hk q).sameKey (hk p) = false := by simp [hk, Lit.sameKey, e]
      simp [h.2 q, e, this]
theorem Kh.done {A : List Sg} {left : Lit → Bool} {hs : List Int} (h : Kh A left hs) (hl : ∀ k, left k = false) : Khd A hs := ⟨h.1, fun p => by rw [h.2 p, hl]; simp⟩
theorem cell_three_new' (w : World) (o : Obj) (x y z : Value) (t : TypeId) : ∀ j u, [x, y, z][j]? = some u → ((w.alloc o).alloc (.cells #[x, y, z] t)).cell? ((⟨w.heap.size + 1, 0, none⟩ : Addr).add j) = some u := by
  have := cell_three_new (w.alloc o) x y z t
  rwa [World.size_alloc] at this
theorem cntL_pos : ∀ {L : List Sg} {s : Sg}, s ∈ L → 0 < cntL L s.h
  | t :: r, s, h => by
    have h0 := (cntL_range s.h r).1
    simp only [cntL]
    rcases List.mem_cons.1 h with rfl | h
    · rw [if_pos rfl]; omega
    · have := cntL_pos h
      split <;> omega
theorem own_type80 {w : World} {B n g : Nat} {u : Value} {xs : List Value} (h : w.ownsRow B 105 3 u n xs) (hg : u.ownBlock = some g) : B ≤ g ∧ ∃ c, w.heap[g]? = some (.cells c 105 (0, 0)) := by
  rcases h.2 with ⟨rfl, h0⟩ | ⟨g', cap, cur, rfl, hb', hg', _⟩
  · cases hg
  · simp [Value.ownBlock] at hg; subst hg; exact ⟨hb', cur, hg'⟩

set_option maxRecDepth 100000 in
set_option maxHeartbeats 4000000 in
theorem shares_any {B b : Nat} {w : World} {lim : Int} {v : Value} {A : List Sg} (h : Tb B w b lim v A) :
    Calls Tryd.prog 26 #[.pointer (some ⟨b, 0, none⟩)] w fun e w' => ∃ u ss, e = .returned u ∧ w'.ownsRow w.heap.size 105 3 u ss.length (cellsH A (srt ss)) ∧ Khd A ss ∧ Kp Nu w w' := by
  have mixed : Tryd.prog.follows .mixedOrders = true := by kernel_rfl
  have hmm := @run_makeMap Tryd.prog
  have K2 := (Kp.alloc w (.map #[] 0) Nu).andAlloc (.cells #[.map (some w.heap.size)] 103)
  have AL := all_any (h.nu K2)
  refine (callsIn_wide (n := 4)).1 ?_
  refine callsIn_of_wp_marks Tryd.func26 rfl trivial ?_ rfl
  simp only [Tryd.ntmps26, List.size_toArray, List.length_cons, List.length_nil, Nat.reduceAdd, Nat.reduceSub, Array.replicate_succ, Array.replicate_zero, List.push_toArray, List.append_toArray, List.nil_append, List.cons_append]
  gi_wp2_with fail
  refine ⟨trivial, (callsIn_wide.2 AL).mono ?_⟩
  rintro e w4 ⟨Bn, r, cap, rfl, hbn, hr, hk4⟩
  have D0 : Mp w ((w.alloc (.map #[] 0)).alloc (.cells #[.map (some w.heap.size)] 103)) w.heap.size (w.heap.size + 1) [] := by
    refine ⟨⟨_, (World.ownsMap_made w Tryd.prog 24 shElem).alloc _, Rm.start⟩, ?_, K2.toBelow⟩
    have := heap_alloc_new (w.alloc (.map #[] 0)) (.cells #[.map (some w.heap.size)] 103)
    rwa [World.size_alloc] at this
  have D4 := D0.nu hk4 K2.size
  have kw4 : Kp Nu w w4 := K2.andNu hk4
  have T1 := h.nu kw4
  obtain ⟨cur, hcur, hrow⟩ := T1.cur hr
  have hrw : r < w.heap.size := own_lt h.own hr
  have hlA : A.length ≤ 8192 := by have := h.len; have := h.lim1; omega
  have SQ := from_q Bn r 0 cap A cur hlA hrow w4 hbn hcur
  have hs4 : w.heap.size ≤ w4.heap.size := kw4.size
  have hsm : w.heap.size < w4.heap.size := by have := hk4.size; simp at this; omega
  have HT := hide h
  have HTab := hide h.tab
  generalize hbm : w.heap.size = bm at D4 ⊢
  generalize hB3 : bm + 1 = B3 at D4 ⊢
  clear AL D0 hk4 K2 T1 hcur hrow hbn h hr hmm
  gi_wp2_with fail
  refine range_q (gf := 73) rfl (enters_of Tryd.func73 (by kernel_rfl) rfl) SQ (Below.refl _ _) (fun _ => rfl)
    (fun pre V => Mp w V bm B3 pre) (fun _ _ _ => False)
    (Mp.own (by omega) hs4) (fun _ _ _ _ _ hs _ _ => hs) D4
    (fun x a' V => ∃ Bx, V.heap[Bx]? = some (.cells #[.int .u64 x.lo, .int .u64 x.hi, .int .u8 x.h] 26 (0, 0)) ∧ a' = { tmps := #[.pointer (some ⟨b, 0, none⟩), undef, .slice none 0 0, .pointer (some ⟨B3, 0, none⟩), .pointer (some ⟨Bx, 0, none⟩), undef, undef, undef, .map (some bm), .pointer (some ⟨b, 0, none⟩), .func (.func 73) #[] #[.pointer (some ⟨Bn, 0, none⟩)], enc x, undef, undef, undef, undef, undef, undef, undef, undef, undef, undef, undef, undef, undef, undef, undef, undef, undef, undef, undef, undef, undef, undef, undef, undef, undef], defers := [] })
    (fun x a' _ X Z row hs hg hr => by
      obtain ⟨Bx, h1, h2⟩ := hs
      exact ⟨Bx, own_cells (β := Unit) w4.heap.size Bx _ _ _ () X Z row h1 hg hr, h2⟩)
    ?assign1 ?body1 ?done1 (fun _ _ _ _ _ _ h _ => h.elim)
  case assign1 =>
    rintro l' pre x V K hLp hK
    simp only [enc]
    have kV := Kp.alloc V (.cells #[.int .u64 x.lo, .int .u64 x.hi, .int .u8 x.h] 26) Nu
    have HZ := hide (And.intro (hLp.nu kV hLp.be.size) kV)
    clear hLp kV
    gi_wp2
    obtain ⟨f1, kV⟩ := HZ.out
    exact hK _ _ (kf_nu _ kV) (kc_nu kV) f1 ⟨V.heap.size, heap_alloc_new V _, rfl⟩
  case body1 =>
    rintro l' pre x a' V hl' hq ⟨⟨D, hM, hR⟩, hBo, hBe⟩ ⟨Bx, hX, rfl⟩ hlt
    have hxA : pre ++ [x] <+: A := hlt
    have hplen : pre.length < A.length := by have := hxA.length_le; simp at this; omega
    obtain ⟨t, ht⟩ := hxA
    have hax : A[pre.length]? = some x := by rw [← ht]; simp
    obtain ⟨t1, t2, t3⟩ := cov_take HTab.out.cov hax
    have hpre : A.take pre.length = pre := by rw [← ht]; simp
    rw [hpre] at t1
    have hh := HTab.out.hs x (List.mem_of_getElem? hax)
    obtain ⟨cu, hcu⟩ : ∃ cu, curS pre x.h = cu := ⟨_, rfl⟩
    obtain ⟨mo, hmo⟩ : ∃ mo, moreS cu x = mo := ⟨_, rfl⟩
    have hcn : 0 ≤ cu.n ∧ cu.n < 100000 := by
      have := cntL_range x.h pre
      rw [← hcu]; unfold curS
      split <;> simp only <;> omega
    have CU : ∀ w', Calls Tryd.prog 56 #[encS cu, .agg #[.int .u64 x.lo, .int .u64 x.hi, .int .u8 x.h]] w' fun e w'' => e = .returned (encS mo) ∧ Kp Nu w' w'' := fun w' => by
      rw [← hmo]; exact moreSh_any w' cu x hcn
    have HS : Hid (∀ w', Kp Nu V w' → w'.cell? ⟨Bx, 0, none⟩ = some (.int .u64 x.lo) ∧ w'.cell? ⟨Bx, 1, none⟩ = some (.int .u64 x.hi) ∧ w'.cell? ⟨Bx, 2, none⟩ = some (.int .u8 x.h) ∧ w'.cell? ⟨B3, 0, none⟩ = some (.map (some bm)) ∧ (Instr.lookup 103 (.map (some bm)) (.int .u8 x.h) false).run Tryd.prog w' = .ok (encS cu) w') := fun w' k => by
      obtain ⟨a0, a1, a2⟩ := cell3 ((k.block _ (blk_lt hX) (fun h => h)).trans hX)
      refine ⟨a0, a1, a2, cell1 ((k.block _ (blk_lt hBo) (fun h => h)).trans hBo), ?_⟩
      rw [← hcu]
      exact look_share (map_nu hM k) hR hh.1 (by omega)
    obtain ⟨OUT, hOUT⟩ : ∃ OUT : World → Prop, OUT = fun w' => Mp w w' bm B3 (pre ++ [x]) ∧ KeepsFrom w4.heap.size V w' ∧ Kc (fun k _ => k = r) V w' := ⟨_, rfl⟩
    have HU : Hid (∀ w', Kp Nu V w' → ∃ W2, (Instr.mapUpdate 103 (.map (some bm)) (.int .u8 x.h) (encS mo)).run Tryd.prog w' = .ok () W2 ∧ Hid (OUT W2)) := fun w' k => by
      have hmo2 : mo = ⟨x.h, cntL (pre ++ [x]) x.h, keyL (pre ++ [x]) x.h - 1⟩ := by
        rw [← hmo, ← hcu]; exact more_cur t1 rfl t2 t3
      obtain ⟨W2, hrun, ho, hg⟩ := (map_nu hM k).update hostKeyed u87 (by unfold maxLen; omega) (key_hk hh.1 (by omega)) (shElem_mk mo)
      have kk : Kp (fun k => k = bm) V W2 := (k.mono (fun _ _ h => h.elim)).trans (Kp.of_grown hg) (fun i _ e => by cases e; rfl)
      refine ⟨W2, hrun, ?_⟩
      show OUT W2
      rw [hOUT]
      refine ⟨⟨⟨_, by rw [List.length_append]; exact ho, ?_⟩, (kk.block _ (blk_lt hBo) (by omega)).trans hBo, hBe.trans (kk.below _ hBe.size (fun j e => by have e2 : j = bm := e; omega))⟩, ⟨kk.size, fun j o hj h1 h2 => (kk.block j (blk_lt h1) (fun e => by have e2 : j = bm := e; omega)).trans h1⟩, fun j c t m hj e => (kk.block j (blk_lt e) (fun e2 => by have e3 : j = bm := e2; have e4 : j = r := hj; omega)).trans e⟩
      rw [hmo2]
      exact hR.step hM.isMap hh.1 (by omega)
    have HOUT := hide hOUT
    clear hM hR hBo hBe hX hOUT hq hl' hlt SQ D4 hcn hmo hcu t1 t2 t3 hh hax hpre ht
    simp only [enc]
    gi_wp2_with fail
    refine wpIn_region_any (by assumption) ?_
    change wpAnyIn _ _ _ _ _ _ _ _ _ (World.drew _)
    refine Ord.wpAnyIn_inv (Inv := fun listed a w' => ∃ l0 l1 l2 l3 l4 l5 l6 l7 l8 l9 : Bool, listed = #[l0, l1, l2, l3, l4, l5, l6, l7, l8, l9] ∧ a = { tmps := #[.pointer (some ⟨b, 0, none⟩), undef, .slice none 0 0, .pointer (some ⟨B3, 0, none⟩), .pointer (some ⟨Bx, 0, none⟩), undef, undef, undef, .map (some bm), .pointer (some ⟨b, 0, none⟩), .func (.func 73) #[] #[.pointer (some ⟨Bn, 0, none⟩)], .agg #[.int .u64 x.lo, .int .u64 x.hi, .int .u8 x.h], Ord.sel l0 (.map (some bm)), Ord.sel l1 (.pointer (some ⟨Bx, 2, none⟩)), Ord.sel l2 (.int .u8 x.h), Ord.sel l3 (.map (some bm)), Ord.sel l4 (.pointer (some ⟨Bx, 2, none⟩)), Ord.sel l5 (.int .u8 x.h), Ord.sel l6 (encS cu), Ord.sel l7 (.agg #[.int .u64 x.lo, .int .u64 x.hi, .int .u8 x.h]), Ord.sel l8 (encS mo), undef, undef, undef, undef, undef, undef, undef, undef, undef, undef, undef, undef, undef, undef, undef, undef], defers := [] } ∧ (l2 = true → l1 = true) ∧ (l5 = true → l4 = true) ∧ (l6 = true → l3 = true ∧ l5 = true) ∧ (l8 = true → l6 = true ∧ l7 = true) ∧ (l9 = true → l0 = true ∧ l2 = true ∧ l8 = true ∧ l1 = true ∧ l3 = true ∧ l4 = true ∧ l5 = true ∧ l6 = true ∧ l7 = true) ∧ (l9 = false → Kp Nu V w') ∧ (l9 = true → Hid (OUT w'))) ?step ?fin _ _ _ _ ?start ?count
    case start => exact ⟨false, false, false, false, false, false, false, false, false, false, rfl, rfl, fun h => (by cases h), fun h => (by cases h), fun h => (by cases h), fun h => (by cases h), fun h => (by cases h), fun _ => (Kp.refl Nu V).drew, fun h => (by cases h)⟩
    case count => decide
    case step =>
      rintro listed a w' i ⟨l0, l1, l2, l3, l4, l5, l6, l7, l8, l9, rfl, rfl, c2, c5, c6, c8, c9, hw0, hw1⟩ hi'
      obtain ⟨hlt', hb⟩ := Ord.mem_ready hi'
      rcases lt_cases10 hlt' with rfl | rfl | rfl | rfl | rfl | rfl | rfl | rfl | rfl | rfl
      all_goals simp [Region.binds] at hb
      · have q0 := hb
        have f9 : l9 = false := by cases hh : l9 with | false => rfl | true => exact absurd ((c9 hh).1) (by rw [q0]; simp)
        have hk := hw0 f9
        clear hw0 hw1
        obtain ⟨z0, z1, z2, z3, z4⟩ := HS.out _ hk
        clear hi' hlt'
        subst q0 f9
        have H2 := hide c2; clear c2
        have H5 := hide c5; clear c5
        have H6 := hide c6; clear c6
        have H8 := hide c8; clear c8
        clear c9
        refine wpOpIn_step rfl (fun K hK => ?_)
        simp only [Ord.sel_f]
        go_simp
        refine hK _ _ ?_
        exact ⟨true, _, _, _, _, _, _, _, _, false, rfl, rfl, H2.out, H5.out, H6.out, H8.out, fun h => (by cases h), fun _ => hk, fun h => (by cases h)⟩
      · have q1 := hb
        have f2 : l2 = false := by cases hh : l2 with | false => rfl | true => exact absurd ((c2 hh)) (by rw [q1]; simp)
        have f9 : l9 = false := by cases hh : l9 with | false => rfl | true => exact absurd ((c9 hh).2.1) (by rw [f2]; simp)
        have hk := hw0 f9
        clear hw0 hw1
        obtain ⟨z0, z1, z2, z3, z4⟩ := HS.out _ hk
        clear hi' hlt'
        subst q1 f2 f9
        clear c2
        have H5 := hide c5; clear c5
        have H6 := hide c6; clear c6
        have H8 := hide c8; clear c8
        clear c9
        refine wpOpIn_step rfl (fun K hK => ?_)
        simp only [Ord.sel_f]
        go_simp
        refine hK _ _ ?_
        exact ⟨_, true, false, _, _, _, _, _, _, false, rfl, rfl, fun h => (by cases h), H5.out, H6.out, H8.out, fun h => (by cases h), fun _ => hk, fun h => (by cases h)⟩
      · obtain ⟨q2, e1⟩ := hb
        have f9 : l9 = false := by cases hh : l9 with | false => rfl | true => exact absurd ((c9 hh).2.1) (by rw [q2]; simp)
        have hk := hw0 f9
        clear hw0 hw1
        obtain ⟨z0, z1, z2, z3, z4⟩ := HS.out _ hk
        clear hi' hlt'
        subst q2 e1 f9
        clear c2
        have H5 := hide c5; clear c5
        have H6 := hide c6; clear c6
        have H8 := hide c8; clear c8
        clear c9
        refine wpOpIn_step rfl (fun K hK => ?_)
        simp only [Ord.sel_t, Ord.sel_f]
        go_simp
        refine hK _ _ ?_
        exact ⟨_, true, true, _, _, _, _, _, _, false, rfl, rfl, fun _ => rfl, H5.out, H6.out, H8.out, fun h => (by cases h), fun _ => hk, fun h => (by cases h)⟩
      · have q3 := hb
        have f6 : l6 = false := by cases hh : l6 with | false => rfl | true => exact absurd ((c6 hh).1) (by rw [q3]; simp)
        have f8 : l8 = false := by cases hh : l8 with | false => rfl | true => exact absurd ((c8 hh).1) (by rw [f6]; simp)
        have f9 : l9 = false := by cases hh : l9 with | false => rfl | true => exact absurd ((c9 hh).2.2.1) (by rw [f8]; simp)
        have hk := hw0 f9
        clear hw0 hw1
        obtain ⟨z0, z1, z2, z3, z4⟩ := HS.out _ hk
        clear hi' hlt'
        subst q3 f6 f8 f9
        have H2 := hide c2; clear c2
        have H5 := hide c5; clear c5
        clear c6
        clear c8
        clear c9
        refine wpOpIn_step rfl (fun K hK => ?_)
        simp only [Ord.sel_f]
        go_simp
        refine hK _ _ ?_
        exact ⟨_, _, _, true, _, _, false, _, false, false, rfl, rfl, H2.out, H5.out, fun h => (by cases h), fun h => (by cases h), fun h => (by cases h), fun _ => hk, fun h => (by cases h)⟩
      · have q4 := hb
        have f5 : l5 = false := by cases hh : l5 with | false => rfl | true => exact absurd ((c5 hh)) (by rw [q4]; simp)
        have f6 : l6 = false := by cases hh : l6 with | false => rfl | true => exact absurd ((c6 hh).2) (by rw [f5]; simp)
        have f8 : l8 = false := by cases hh : l8 with | false => rfl | true => exact absurd ((c8 hh).1) (by rw [f6]; simp)
        have f9 : l9 = false := by cases hh : l9 with | false => rfl | true => exact absurd ((c9 hh).2.2.1) (by rw [f8]; simp)
        have hk := hw0 f9
        clear hw0 hw1
        obtain ⟨z0, z1, z2, z3, z4⟩ := HS.out _ hk
        clear hi' hlt'
        subst q4 f5 f6 f8 f9
        have H2 := hide c2; clear c2
        clear c5
        clear c6
        clear c8
        clear c9
        refine wpOpIn_step rfl (fun K hK => ?_)
        simp only [Ord.sel_f]
        go_simp
        refine hK _ _ ?_
        exact ⟨_, _, _, _, true, false, false, _, false, false, rfl, rfl, H2.out, fun h => (by cases h), fun h => (by cases h), fun h => (by cases h), fun h => (by cases h), fun _ => hk, fun h => (by cases h)⟩
      · obtain ⟨q5, e4⟩ := hb
        have f6 : l6 = false := by cases hh : l6 with | false => rfl | true => exact absurd ((c6 hh).2) (by rw [q5]; simp)
        have f8 : l8 = false := by cases hh : l8 with | false => rfl | true => exact absurd ((c8 hh).1) (by rw [f6]; simp)
        have f9 : l9 = false := by cases hh : l9 with | false => rfl | true => exact absurd ((c9 hh).2.2.1) (by rw [f8]; simp)
        have hk := hw0 f9
        clear hw0 hw1
        obtain ⟨z0, z1, z2, z3, z4⟩ := HS.out _ hk
        clear hi' hlt'
        subst q5 e4 f6 f8 f9
        have H2 := hide c2; clear c2
        clear c5
        clear c6
        clear c8
        clear c9
        refine wpOpIn_step rfl (fun K hK => ?_)
        simp only [Ord.sel_t, Ord.sel_f]
        go_simp
        refine hK _ _ ?_
        exact ⟨_, _, _, _, true, true, false, _, false, false, rfl, rfl, H2.out, fun _ => rfl, fun h => (by cases h), fun h => (by cases h), fun h => (by cases h), fun _ => hk, fun h => (by cases h)⟩
      · obtain ⟨q6, e3, e5⟩ := hb
        obtain e4 := c5 e5
        have f8 : l8 = false := by cases hh : l8 with | false => rfl | true => exact absurd ((c8 hh).1) (by rw [q6]; simp)
        have f9 : l9 = false := by cases hh : l9 with | false => rfl | true => exact absurd ((c9 hh).2.2.1) (by rw [f8]; simp)
        have hk := hw0 f9
        clear hw0 hw1
        obtain ⟨z0, z1, z2, z3, z4⟩ := HS.out _ hk
        clear hi' hlt'
        subst q6 e3 e4 e5 f8 f9
        have H2 := hide c2; clear c2
        clear c5
        clear c6
        clear c8
        clear c9
        refine wpOpIn_step rfl (fun K hK => ?_)
        simp only [Ord.sel_t, Ord.sel_f]
        go_simp
        refine hK _ _ ?_
        exact ⟨_, _, _, true, true, true, true, _, false, false, rfl, rfl, H2.out, fun _ => rfl, fun _ => ⟨rfl, rfl⟩, fun h => (by cases h), fun h => (by cases h), fun _ => hk, fun h => (by cases h)⟩
      · have q7 := hb
        have f8 : l8 = false := by cases hh : l8 with | false => rfl | true => exact absurd ((c8 hh).2) (by rw [q7]; simp)
        have f9 : l9 = false := by cases hh : l9 with | false => rfl | true => exact absurd ((c9 hh).2.2.1) (by rw [f8]; simp)
        have hk := hw0 f9
        clear hw0 hw1
        obtain ⟨z0, z1, z2, z3, z4⟩ := HS.out _ hk
        clear hi' hlt'
        subst q7 f8 f9
        have H2 := hide c2; clear c2
        have H5 := hide c5; clear c5
        have H6 := hide c6; clear c6
        clear c8
        clear c9
        refine wpOpIn_step rfl (fun K hK => ?_)
        simp only [Ord.sel_f]
        go_simp
        refine hK _ _ ?_
        exact ⟨_, _, _, _, _, _, _, true, false, false, rfl, rfl, H2.out, H5.out, H6.out, fun h => (by cases h), fun h => (by cases h), fun _ => hk, fun h => (by cases h)⟩
      · obtain ⟨q8, e6, e7⟩ := hb
        obtain ⟨e3, e5⟩ := c6 e6
        obtain e4 := c5 e5
        have f9 : l9 = false := by cases hh : l9 with | false => rfl | true => exact absurd ((c9 hh).2.2.1) (by rw [q8]; simp)
        have hk := hw0 f9
        clear hw0 hw1
        obtain ⟨z0, z1, z2, z3, z4⟩ := HS.out _ hk
        clear hi' hlt'
        subst q8 e3 e4 e5 e6 e7 f9
        have H2 := hide c2; clear c2
        clear c5
        clear c6
        clear c8
        clear c9
        refine wpOpIn_step rfl (fun K hK => ?_)
        simp only [Ord.sel_t, Ord.sel_f]
        go_simp
        refine ⟨trivial, (CallsIn.inRound l' (callsIn_wide.2 (CU _))).mono ?_⟩
        rintro e W1 ⟨rfl, hk1⟩
        refine hK _ _ ?_
        exact ⟨_, _, _, true, true, true, true, true, true, false, rfl, rfl, H2.out, fun _ => rfl, fun _ => ⟨rfl, rfl⟩, fun _ => ⟨rfl, rfl⟩, fun h => (by cases h), fun _ => hk.andNu hk1, fun h => (by cases h)⟩
      · have q9 : l9 = false := by first | exact hb.1 | (cases l9 <;> simp_all)
        have e0 : l0 = true := by clear hw0 hw1; (cases l0 <;> simp_all)
        have e2 : l2 = true := by clear hw0 hw1; (cases l2 <;> simp_all)
        have e8 : l8 = true := by clear hw0 hw1; (cases l8 <;> simp_all)
        have e1 : l1 = true := by clear hw0 hw1; (cases l1 <;> simp_all)
        have e3 : l3 = true := by clear hw0 hw1; (cases l3 <;> simp_all)
        have e4 : l4 = true := by clear hw0 hw1; (cases l4 <;> simp_all)
        have e5 : l5 = true := by clear hw0 hw1; (cases l5 <;> simp_all)
        have e6 : l6 = true := by clear hw0 hw1; (cases l6 <;> simp_all)
        have e7 : l7 = true := by clear hw0 hw1; (cases l7 <;> simp_all)
        have hk := hw0 q9
        clear hw0 hw1 hb
        obtain ⟨z0, z1, z2, z3, z4⟩ := HS.out _ hk
        clear hi' hlt'
        subst q9 e0 e1 e2 e3 e4 e5 e6 e7 e8
        clear c2
        clear c5
        clear c6
        clear c8
        clear c9
        obtain ⟨W2, hrun, hO⟩ := HU.out _ hk
        refine wpOpIn_step rfl (fun K hK => ?_)
        simp only [Ord.sel_t]
        go_simp
        refine hK _ _ ?_
        exact ⟨true, true, true, true, true, true, true, true, true, true, rfl, rfl, fun _ => rfl, fun _ => rfl, fun _ => ⟨rfl, rfl⟩, fun _ => ⟨rfl, rfl⟩, fun _ => ⟨rfl, rfl, rfl, rfl, rfl, rfl, rfl, rfl, rfl⟩, fun h => (by cases h), fun _ => hO⟩
    case fin =>
      rintro listed a w' ⟨l0, l1, l2, l3, l4, l5, l6, l7, l8, l9, rfl, rfl, c2, c5, c6, c8, c9, hw0, hw1⟩ hi'
      have hx := fun i => Ord.not_ready hi' (i := i)
      have g0 : l0 = true := by have g := hx 0 (by simp); simp [Region.binds] at g; exact g
      have g1 : l1 = true := by have g := hx 1 (by simp); simp [Region.binds] at g; exact g
      have g2 : l2 = true := by have g := hx 2 (by simp); simp [Region.binds] at g; cases hh : l2 with | true => rfl | false => exact absurd (g hh ) (by rw [g1]; simp)
      have g3 : l3 = true := by have g := hx 3 (by simp); simp [Region.binds] at g; exact g
      have g4 : l4 = true := by have g := hx 4 (by simp); simp [Region.binds] at g; exact g
      have g5 : l5 = true := by have g := hx 5 (by simp); simp [Region.binds] at g; cases hh : l5 with | true => rfl | false => exact absurd (g hh ) (by rw [g4]; simp)
      have g6 : l6 = true := by have g := hx 6 (by simp); simp [Region.binds] at g; cases hh : l6 with | true => rfl | false => exact absurd (g hh g3) (by rw [g5]; simp)
      have g7 : l7 = true := by have g := hx 7 (by simp); simp [Region.binds] at g; exact g
      have g8 : l8 = true := by have g := hx 8 (by simp); simp [Region.binds] at g; cases hh : l8 with | true => rfl | false => exact absurd (g hh g6) (by rw [g7]; simp)
      have g9 : l9 = true := by have g := hx 9 (by simp); simp [Region.binds] at g; clear hw0 hw1; (cases l9 <;> simp_all)
      subst g0 g1 g2 g3 g4 g5 g6 g7 g8 g9
      have hO := hw1 rfl
      clear c2 c5 c6 c8 c9 hi' hx hw0 hw1
      simp only [Ord.sel_t]
      gi_wp2
      have hO2 : OUT w' := hO.out
      rw [HOUT.out] at hO2
      exact ⟨hO2.2.1, hO2.2.2, hO2.1⟩
  case done1 =>
    rintro D ys V hD rfl hMp hK
    obtain ⟨⟨Dm, hM, hR⟩, hBo, hBe⟩ := hMp
    have c3 := cell1 hBo
    have hsl := hM.size_le
    obtain ⟨i0, hi0, hz0, hz1, hz2⟩ := info_parts info80
    obtain ⟨Wm, hmk, hmo, hmg⟩ := run_makeSlice_owned V w.heap.size 55 105 i0 (.agg #[.int .u8 0, .int .i64 0, .int .u64 0]) 3 Tryd.underlying55 hi0 hz0 hz1 .i64 .i64 (size Dm) (by omega) (by rw [hz2]; omega) (by unfold maxLen; omega) hBe.size
    have kWm : Kp Nu V Wm := (Kp.of_grown hmg).mono (fun i _ e => by cases e)
    have hMm := map_nu hM kWm
    have c3m := cell1 ((kWm.block _ (blk_lt hBo) (fun h => h)).trans hBo)
    have hBm := hBe.trans (kWm.below _ hBe.size (fun _ h => h.elim))
    have hKm := (kWm.block _ (blk_lt hK) (fun h => h)).trans hK
    have hrg1 := fun (w0 : World) (h : w0.ranges Tryd.prog 24 shElem bm Wm.heap.size ys.length Dm (has Dm) (size Dm)) => h
    have HL := hide (And.intro hBm (And.intro hmo (And.intro hKm (And.intro hR hsl))))
    have hVm : Wm.heap.size ≥ V.heap.size := kWm.size
    have hVD : D < V.heap.size := blk_lt hK
    clear hBo hmg hBm hKm hR hBe SQ D4 hmo
    gi_wp2_with (first
      | (gi_at_len; refine wpListIn_len_own _ rfl _ 103 rfl 24 105 u87 shElem bm _ Dm rfl hM ?_)
      | (gi_at_range; refine wpListIn_range_own _ rfl _ 103 rfl 24 105 hostKeyed u87 _ bm _ _ rfl hMm ?_; intro w0 hrg0 hg0 hs0)
      | gi_in)
    go_frame
    gi_loopw [5] (fun sl wr => ∃ (left : Lit → Bool) (cnt n : Nat) (adl : Option Addr) (cpl : Nat), sl = .slice adl n cpl ∧ wr.ranges Tryd.prog 24 shElem bm Wm.heap.size ys.length Dm left cnt ∧ n + cnt ≤ size Dm ∧ Hid (∃ hs : List Int, hs.length = n ∧ Kh ys left hs ∧ wr.ownsRow w.heap.size 105 3 (.slice adl n cpl) n (cellsH ys hs) ∧ Below w.heap.size w wr ∧ wr.heap[D]? = some (.deferred (some [])))) (fun _ wr => wr.rangeLeft bm Wm.heap.size)
    case atStart =>
      obtain ⟨hBm, hmo, hKm, hR, hsl⟩ := HL.out
      have k0 : Kp Nu Wm w0 := (Kp.of_grown hg0).mono (fun i _ e => by cases e)
      exact ⟨_, _, 0, _, _, rfl, hrg0, by omega, ⟨[], rfl, Kh.start hR, own_keep hmo (fun g e => k0.block g (own_lt hmo e) (fun h => h)), hBm.trans (k0.below _ hBm.size (fun _ h => h.elim)), (k0.block _ (blk_lt hKm) (fun h => h)).trans hKm⟩⟩
    case round =>
      obtain ⟨left, cnt, n, adl, cpl, rfl, hrg, hnc, hI⟩ := hrel
      gi_wp2_with (first
        | (gi_at_next; refine wpListIn_next_ranges _ rfl _ rfl 24 hostKeyed shElem (α := Int) (β := Sh) (fun h => .int .u8 h) encS (fun key kl hk => by obtain ⟨x, e, _⟩ := keyOf_int_inv Tryd.underlying24 hk; exact ⟨x, e⟩) (fun v y hv => by obtain ⟨s, e, _⟩ := shElem_inv hv; exact ⟨s, e⟩) bm Wm.heap.size ys.length _ _ _ rfl hrg ?_ ?_)
        | gi_in)
      · intro hc0 hl0
        obtain ⟨hs, hln, hKh, hrow, hbe, hkd⟩ := hI.out
        have hdn := hKh.done hl0
        have hne : hs ≠ [] := fun e => by
          obtain ⟨s0, hs0⟩ : ∃ s, ys[0]? = some s := ⟨_, List.getElem?_eq_getElem HTab.out.ne⟩
          have hm := List.mem_of_getElem? hs0
          have hh := HTab.out.hs s0 hm
          have hp : s0.h ∈ hs := (hdn.2 _).2 ⟨hh.1, by omega, cntL_pos hm⟩
          rw [e] at hp; cases hp
        have hsz : hs.length ≤ size Dm := by omega
        have hsl2 := HL.out.2.2.2.2
        rw [← hln] at hrow
        have SO := sort_any wr w.heap.size _ ys hs hne hrow (by omega)
        rw [hln] at SO hrow
        have HZ := hide (And.intro hdn (And.intro hln (And.intro hrow (And.intro hbe hkd))))
        clear hI hKh hdn hne hrow hbe hkd hln hrg hrg1
        gi_wp2_with fail
        refine ⟨trivial, (callsIn_wide.2 SO).mono ?_⟩
        rintro e w5 ⟨rfl, ho5, hg5⟩
        have HZ5 := hide (And.intro ho5 hg5)
        clear SO ho5 hg5
        gi_wp2
        obtain ⟨hdn, hln, hrow, hbe, hkd⟩ := HZ.out
        obtain ⟨ho5, hg5⟩ := HZ5.out
        have k5 := Kp.of_grown hg5
        have hne : ∀ g, (Value.slice adl n cpl).ownBlock = some g → g ≠ D := fun g e e2 => by
          obtain ⟨_, c, e3⟩ := own_type80 hrow e
          subst e2
          rw [hkd] at e3; cases e3
        have hkd5 : w5.heap[D]? = some (.deferred (some [])) := (k5.block _ (blk_lt hkd) (fun e => hne D e.symm rfl)).trans hkd
        have hbe5 : Below w.heap.size w w5 := hbe.trans (k5.below _ hbe.size (fun j e => (own_type80 hrow e.symm).1))
        refine ⟨by simp, .inl ⟨_, _, rfl, run_takeDeferred hkd5, ?_⟩⟩
        refine ⟨.slice adl n cpl, ?_, _, hs, rfl, ?_, hdn, ?_⟩
        · simp [results, Tryd.results26, go_sem]
        · rw [hln]
          exact own_keep ho5 (fun g e => World.putObj_heap_other (fun e2 => hne g e e2))
        · exact Kp.of_below (hbe5.trans (belowK_b (w := w) (Nat.le_refl _) w5 D _ _ (by omega) hkd5 rfl rfl))
      · intro p sh kl yd yp w2 cnt2 hkey hlk hv hat hrg2 hlt hg2 hs2 hen
        obtain ⟨p', e, rfl, hwf⟩ := keyOf_int_inv Tryd.underlying24 hkey
        obtain rfl : p = p' := by simpa using e
        have hpb : 0 ≤ p ∧ p < 256 := by
          simp [Lit.wf, IntKind.min, IntKind.max, IntKind.signed, IntKind.bits] at hwf
          omega
        have hyd : yd = datS sh := by
          have := shElem_mk sh
          rw [hv] at this
          exact congrArg Prod.fst (Option.some.inj this)
        rw [hyd] at hat
        have hpos : 0 < cntL ys p := by
          refine Classical.byContradiction fun hn => ?_
          have h1 : has Dm (Lit.int .u8 p) = false := (HL.out.2.2.2.1 p hpb.1 hpb.2).2 hn
          rw [has_true_of_atKey hat] at h1
          cases h1
        obtain rfl : sh = ⟨p, cntL ys p, keyL ys p - 1⟩ := datS_inj ((hat .nil).symm.trans (((HL.out.2.2.2.1 p hpb.1 hpb.2).1 hpos).2 .nil))
        obtain ⟨hs, hln, hKh, hrow, hbe, hkd⟩ := hI.out
        have hst := hKh.step (D := Dm) hpb.1 hpb.2 hpos hlk
        have hww : ∃ o, wr.heap[Wm.heap.size]? = some o ∧ o.isCells = false := by
          obtain ⟨o, h1, h2⟩ := hrg.iter_walk
          exact ⟨o, h1, Obj.not_cells_of_walk h2⟩
        have k2 : Kp (fun k => k = Wm.heap.size) wr w2 := (Kp.of_grown hg2).mono (fun i _ e => by cases e; rfl)
        have hV2 : w.heap.size ≤ w2.heap.size := by have := hbe.size; have := k2.size; omega
        have row2 : w2.ownsRow w.heap.size 105 3 (.slice adl n cpl) n (cellsH ys hs) := own_keep hrow (fun g e => k2.block g (own_lt hrow e) (fun e2 => by
          have e3 : g = Wm.heap.size := e2
          subst e3
          obtain ⟨_, c, e4⟩ := own_type80 hrow e
          obtain ⟨o, h1, h2⟩ := hww
          rw [e4] at h1; cases h1; cases h2))
        have be2 : Below w.heap.size w w2 := hbe.trans (k2.below _ hbe.size (fun j e => by have e2 : j = Wm.heap.size := e; have := blk_lt hK; omega))
        have kd2 : w2.heap[D]? = some (.deferred (some [])) := (k2.block _ (blk_lt hkd) (fun e => by have e2 : D = Wm.heap.size := e; omega)).trans hkd
        obtain ⟨cn, hcn⟩ : ∃ c, cntL ys p = c := ⟨_, rfl⟩
        obtain ⟨ky, hky⟩ : ∃ c, keyL ys p - 1 = c := ⟨_, rfl⟩
        have henc : encH ys p = [.int .u8 p, .int .i64 cn, .int .u64 ky] := by unfold encH; rw [hcn, hky]
        rw [hcn, hky] at hen
        unfold encS at hen ⊢
        have KB := (Kp.alloc w2 (.cells #[.int .u8 p, .int .i64 cn, .int .u64 ky] 105) Nu).andAlloc (.cells #[.int .u8 p, .int .i64 cn, .int .u64 ky] 105)
        have HRo := hide ((row2.alloc (.cells #[.int .u8 p, .int .i64 cn, .int .u64 ky] 105)).alloc (.cells #[.int .u8 p, .int .i64 cn, .int .u64 ky] 105))
        have HB := hide (And.intro hln (And.intro hst (And.intro be2 (And.intro kd2 (And.intro KB (And.intro henc (And.intro hlt hrg2)))))))
        have HH := hide hrg
        have hbig : n ≤ 8192 := by have := HL.out.2.2.2.2; omega
        simp only [hcn, hky]
        clear hkey hv hat hpos hpb hwf hI hln hKh hrow hbe hkd hst hww k2 row2 be2 kd2 hcn hky KB henc hyd hlk hlt hg2 hrg2 hs2 hrg hrg1 e
        gi_wp2_with (first
          | (gi_at_builtin; refine wpListIn_append_own _ rfl _ _ 55 rfl w.heap.size 105 i0 (.agg #[.int .u8 0, .int .i64 0, .int .u64 0]) 3 24 Tryd.underlying55 hi0 hz0 hz1 hz2 rfl (by decide) _ _ _ rfl HRo.out ⟨w2.heap.size + 1, 0, none⟩ 1 1 [.int .u8 p, .int .i64 cn, .int .u64 ky] rfl rfl (cell_three_new' _ _ _ _ _ _) (by simp [Value.oneCell']) (by unfold maxLen; omega) (by omega) (by simp; omega) ?_; intro v' w3 hown' hg3 hnil3; obtain ⟨ad3, cp3, ev3⟩ := own_slice hown'; have HO := hide (And.intro hown' hg3); subst ev3; clear hown' hg3 hnil3)
          | gi_in)
        obtain ⟨hln, hst, be2, kd2, KB, henc, hlt, hrg2⟩ := HB.out
        obtain ⟨hown', hg3⟩ := HO.out
        have k3 := Kp.of_grown hg3
        have hrow' := HRo.out
        have hrgA := (hrg2.alloc (.cells #[.int .u8 p, .int .i64 cn, .int .u64 ky] 105)).alloc (.cells #[.int .u8 p, .int .i64 cn, .int .u64 ky] 105)
        have nb : some bm ≠ (Value.slice adl n cpl).ownBlock := fun e => by
          obtain ⟨_, c, e3⟩ := own_type80 hrow' e.symm
          obtain ⟨es, clock, hb, _⟩ := hrgA.owns
          rw [hb] at e3; cases e3
        have ni : some Wm.heap.size ≠ (Value.slice adl n cpl).ownBlock := fun e => by
          obtain ⟨_, c, e3⟩ := own_type80 hrow' e.symm
          obtain ⟨o, h1, h2⟩ := hrgA.iter_walk
          rw [e3] at h1; cases h1; cases h2
        have nd : some D ≠ (Value.slice adl n cpl).ownBlock := fun e => by
          obtain ⟨_, c, e3⟩ := own_type80 hrow' e.symm
          rw [(KB.block _ (blk_lt kd2) (fun h => h)).trans kd2] at e3; cases e3
        have hrg3 := hrgA.kept hg3 nb ni
        have hcell : cellsH ys (hs ++ [p]) = cellsH ys hs ++ [.int .u8 p, .int .i64 cn, .int .u64 ky] := by
          rw [cellsH_append, ← henc]; simp [cellsH]
        have beB := be2.trans (KB.below _ be2.size (fun _ h => h.elim))
        refine ⟨⟨_, cnt2, n + 1, ad3, cp3, rfl, hrg3, by omega, hs ++ [p], by simp [hln], hst, ?_, ?_, ?_⟩, ?_⟩
        · rw [hcell]; exact hown'
        · exact beB.trans (k3.below _ beB.size (fun j e => (own_type80 hrow' e.symm).1))
        · exact (k3.block _ (blk_lt ((KB.block _ (blk_lt kd2) (fun h => h)).trans kd2)) (fun e => nd e)).trans ((KB.block _ (blk_lt kd2) (fun h => h)).trans kd2)
        · rw [hrg3.left_eq, HH.out.left_eq]; exact hlt
end Go.Proofs.YtffcnonhhfhlhaaDoor.Rg
