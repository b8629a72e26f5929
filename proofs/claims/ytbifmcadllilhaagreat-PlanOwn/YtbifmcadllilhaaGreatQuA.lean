import Derived.Test.YtbifmcadllilhaaGreatQsC
import Derived.Test.YtbifmcadllilhaaGreatQtG
import Derived.Test.YtbifmcadllilhaaGreatQtD
import Derived.Test.YtbifmcadllilhaaGreatPdG
import Derived.Test.YtbifmcadllilhaaGreatPmK
import Derived.Test.YtbifmcadllilhaaGreatRgL
namespace Go.Proofs.YtbifmcadllilhaaGreat.Rg
open Go.RowKit Go.Shelf Go.Sort
open Go.Proofs.YtbifmcadllilhaaGreat.It
attribute [local go_sem] Oper.semAt_some
set_option linter.unusedVariables false
/-- the keys at which a move begins, and behind which it ends -/
def mst (m : Mv) : List Int := if m.hi < 18446744073709551615 then [m.lo, m.hi + 1] else [m.lo]
/-- numbers that grow in a box -/
structure Gi (w V : World) (BX : Nat) (C : List Int) : Prop where
  box : ∃ u, V.heap[BX]? = some (.cells #[u] 23 (0, 0)) ∧ V.ownsRow w.heap.size 24 1 u C.length (ucs C)
theorem Gi.nu {w V V' : World} {BX : Nat} {C : List Int} (h : Gi w V BX C) (k : Kp Nu V V') : Gi w V' BX C := by
  obtain ⟨u, h1, h2⟩ := h.box
  exact ⟨u, box2 h1 k, own_keep h2 (fun g e => k.block g (own_lt h2 e) (fun h => h))⟩
theorem Gi.own {w : World} {BX : Nat} (B : Nat) : OwnFrom B (fun (p : List Sg) V => Gi w V BX (p.map (·.lo))) := fun p X Z row hs hg hr => by
  obtain ⟨u, h1, h2⟩ := hs.box
  refine ⟨u, own_cells (β := Unit) B _ _ _ _ () X Z row h1 hg hr, own_keep h2 (fun g e => hg.block g (own_lt h2 e) (fun e2 => ?_))⟩
  obtain ⟨_, o, ho, hc⟩ := hr g e2.symm
  obtain ⟨c, e3⟩ := own_obj h2 e
  rw [e3] at ho; cases ho; cases hc
theorem mid_g {w V V1 : World} {BX n n' sz : Nat} {ty el : TypeId} {X X' : List Value} {u u' : Value} (hte : ty ≠ el) (h1 : V.heap[BX]? = some (.cells #[u] ty (0, 0))) (h2 : V.ownsRow w.heap.size el sz u n X) (hBX : w.heap.size ≤ BX)
    (k : Kp (fun k => some k = u.ownBlock) V V1) (ho : V1.ownsRow w.heap.size el sz u' n' X') (hB : Below w.heap.size w V) :
    V1.heap[BX]? = some (.cells #[u] ty (0, 0)) ∧ (V1.setCell ⟨BX, 0, none⟩ u').heap[BX]? = some (.cells #[u'] ty (0, 0)) ∧ (V1.setCell ⟨BX, 0, none⟩ u').ownsRow w.heap.size el sz u' n' X' ∧ KeepsFrom w.heap.size V (V1.setCell ⟨BX, 0, none⟩ u') ∧ Below w.heap.size w (V1.setCell ⟨BX, 0, none⟩ u') ∧ Kp (fun k => some k = u.ownBlock ∨ k = BX) V (V1.setCell ⟨BX, 0, none⟩ u') := by
  have hty : ∀ g, some g = u.ownBlock → w.heap.size ≤ g ∧ ∃ c, V.heap[g]? = some (.cells c el (0, 0)) := fun g e => ⟨(h2.lt g e.symm).1, own_obj h2 e.symm⟩
  have b1 : V1.heap[BX]? = some (.cells #[u] ty (0, 0)) := (k.block _ (blk_lt h1) (fun hs => by
    obtain ⟨_, c, e3⟩ := hty _ hs
    rw [h1] at e3
    simp only [Option.some.injEq, Obj.cells.injEq] at e3
    exact hte e3.2.1)).trans h1
  have kS : Kp (fun k => some k = u.ownBlock ∨ k = BX) V (V1.setCell ⟨BX, 0, none⟩ u') := (k.mono (fun i _ h => .inl h)).andSet _ _ (.inr (.inr rfl))
  refine ⟨b1, by rw [set3 b1 0 u']; rfl, own_keep ho (fun g e => ?_), kf_cells kS (fun j hj => ?_), hB.trans (kS.below w.heap.size hB.size (fun j hj => ?_)), kS⟩
  · obtain ⟨c, e3⟩ := own_obj ho e
    refine Below.heap_setCell V1 ⟨BX, 0, none⟩ u' g (fun e4 => ?_)
    have e5 : g = BX := e4
    subst e5
    rw [b1] at e3
    simp only [Option.some.injEq, Obj.cells.injEq] at e3
    exact hte e3.2.1
  · rcases hj with hj | rfl
    · obtain ⟨_, c, e⟩ := hty j hj
      exact ⟨c, _, _, e⟩
    · exact ⟨_, _, _, h1⟩
  · rcases hj with hj | rfl
    · exact (hty j hj).1
    · exact hBX
theorem cell_one_new (W : World) (x : Value) (t : TypeId) : ∀ j u, [x][j]? = some u → (W.alloc (.cells #[x] t)).cell? ((⟨W.heap.size, 0, none⟩ : Addr).add j) = some u := by
  intro j u hj
  have h := cell1 (heap_alloc_new W (.cells #[x] t))
  rw [Addr.add_lit, Nat.zero_add]
  match j, hj with
  | 0, hj => simp at hj; subst hj; exact h
  | j + 1, hj => simp at hj
theorem ucs_snoc (l : List Int) (x : Int) : ucs (l ++ [x]) = ucs l ++ [.int .u64 x] := by simp [ucs]
/-- the numbers in their box, while the moves are gone through -/
structure Gs (w V : World) (D : Nat) (u : Value) (C : List Int) : Prop where
  bx : V.heap[w.heap.size]? = some (.cells #[u] 23 (0, 0))
  ow : V.ownsRow w.heap.size 24 1 u C.length (ucs C)
  be : Below w.heap.size w V
  de : V.heap[D]? = some (.deferred (some []))
theorem Gs.nu {w V V' : World} {D : Nat} {u : Value} {C : List Int} (h : Gs w V D u C) (k : Kp Nu V V') : Gs w V' D u C :=
  ⟨box2 h.bx k, own_keep h.ow (fun g e => k.block g (own_lt h.ow e) (fun h => h)), h.be.trans (k.below _ h.be.size (fun _ h => h.elim)), (k.block _ (blk_lt h.de) (fun h => h)).trans h.de⟩
theorem Gs.step {w V w3 : World} {D : Nat} {u u' : Value} {C : List Int} {x : Int} (h : Gs w V D u C) (hg : (V.alloc (.cells #[.int .u64 x] 24)).grownBy w3 u.ownBlock) (ho : w3.ownsRow w.heap.size 24 1 u' (C.length + 1) (ucs C ++ [.int .u64 x])) :
    Gs w (w3.setCell ⟨w.heap.size, 0, none⟩ u') D u' (C ++ [x]) ∧ w3.heap[w.heap.size]? = some (.cells #[u] 23 (0, 0)) ∧ Kp (fun k => some k = u.ownBlock ∨ k = w.heap.size) V (w3.setCell ⟨w.heap.size, 0, none⟩ u') := by
  have hkk : Kp (fun k => some k = u.ownBlock) V w3 := ((Kp.alloc V (.cells #[.int .u64 x] 24) Nu).mono (fun _ _ h => h.elim)).trans (Kp.of_grown hg) (fun _ _ h => h)
  obtain ⟨q1, q2, q3, q4, q5, q6⟩ := mid_g (by decide) h.bx h.ow (Nat.le_refl _) hkk ho h.be
  refine ⟨⟨q2, by rw [List.length_append, ucs_snoc]; exact q3, q5, (q6.block _ (blk_lt h.de) (fun e => ?_)).trans h.de⟩, q1, q6⟩
  rcases e with e | e
  · obtain ⟨c, e3⟩ := own_obj h.ow e.symm
    rw [h.de] at e3; cases e3
  · have := h.de
    rw [e, h.bx] at this; cases this
theorem Gs.far {w V : World} {D k : Nat} {u : Value} {C : List Int} {c : Array Value} {t : TypeId} (h : Gs w V D u C) (hk : V.heap[k]? = some (.cells c t (0, 0))) (h1 : t ≠ 23) (h2 : t ≠ 24) : ¬ (some k = u.ownBlock ∨ k = w.heap.size) := fun e => by
  rcases e with e | e
  · obtain ⟨c, e3⟩ := own_obj h.ow e.symm
    rw [hk] at e3
    simp only [Option.some.injEq, Obj.cells.injEq] at e3
    exact h2 e3.2.1
  · rw [e, h.bx] at hk
    simp only [Option.some.injEq, Obj.cells.injEq] at hk
    exact h1 hk.2.1.symm
set_option maxRecDepth 100000 in
set_option maxHeartbeats 1000000 in
theorem starts59 (w : World) (B b : Nat) (lim : Int) (v u : Value) (L : List Sg) (ms : List Mv) (hT : Tb B w b lim v L) (hu : Mvs w u ms) (hl : ms.length ≤ 4096) :
    Calls Tryz.prog 55 #[.pointer (some ⟨b, 0, none⟩), u] w fun e w' => ∃ sg ns cs, e = .returned (.slice (some ⟨sg, 0, none⟩) ns cs) ∧ 0 < ns ∧ ns ≤ 16384 ∧ ∃ S, Dr w' w.heap.size sg ns cs S ∧ (∀ i j, i < j → j < ns → gt S i < gt S j) ∧ (∀ x, x ∈ S ↔ x ∈ L.map (·.lo) ++ ms.flatMap mst) ∧ Kp Nu w w' := by
  have mixed : Tryz.prog.follows .mixedOrders = true := by kernel_rfl
  have k1 := Kp.alloc w (.cells #[.slice none 0 0] 23) Nu
  have AL := all69 (hT.nu k1)
  have b1 := heap_alloc_new w (.cells #[.slice none 0 0] 23)
  obtain ⟨a1, c1, rfl, hdm⟩ := id hu
  clear hdm
  obtain ⟨N, eN⟩ : ∃ N, ms.length = N := ⟨_, rfl⟩
  have HU := hide (And.intro hu (And.intro eN (And.intro hT (And.intro k1 b1))))
  rw [eN] at hl ⊢
  have hNI : (N : Int) ≤ 4096 := by omega
  clear hu eN hT k1 b1
  refine (callsIn_wide (n := 4)).1 ?_
  refine callsIn_of_wp_marks Tryz.func55 rfl trivial ?_ rfl
  simp only [Tryz.ntmps55, List.size_toArray, List.length_cons, List.length_nil, Nat.reduceAdd, Nat.reduceSub, Array.replicate_succ, Array.replicate_zero, List.push_toArray, List.append_toArray, List.nil_append, List.cons_append]
  gi_wp2_with fail
  refine ⟨trivial, (callsIn_wide.2 AL).mono ?_⟩
  rintro e w5 ⟨Bn, r, cpn, rfl, hbn, hvr, hk5⟩
  clear AL
  have k5 := HU.out.2.2.2.1.andNu hk5
  obtain ⟨cur, hcur, hrow⟩ := (HU.out.2.2.1.nu k5).cur hvr
  have hT8 : L.length ≤ 8192 := by have := HU.out.2.2.1.len; have := HU.out.2.2.1.lim1; omega
  have SQ := from_q Bn r 0 cpn L cur hT8 hrow w5 hbn hcur
  have hrw : r < w5.heap.size := blk_lt hcur
  have hws : w.heap.size ≤ w5.heap.size := k5.size
  have I0 : Gi w w5 w.heap.size (([] : List Sg).map (·.lo)) := ⟨_, box2 HU.out.2.2.2.2 hk5, World.ownsRow_nil _ _ _ _⟩
  have hB0 : Below w.heap.size w w5 := k5.toBelow
  have HK5 := hide k5
  clear hbn hvr hk5 k5 hrow
  gi_wp2_with fail
  obtain ⟨i0, hi0, hz0, hz1, hz2⟩ := info_parts info56z
  refine range_q (gf := 82) rfl (enters_of Tryz.func82 (by kernel_rfl) rfl) SQ (Below.refl _ _) (fun _ => rfl)
    (fun pre V => Gi w V w.heap.size (pre.map (·.lo)) ∧ Below w.heap.size w V ∧ ∃ cur, V.heap[r]? = some (.cells cur 38 (0, 0))) (fun _ _ _ => False)
    (OwnFrom.and (Gi.own _) (OwnFrom.and (ownFrom_below (Nat.le_refl _) hws) (fun p X Z row hs hg hr => by obtain ⟨cu, hc⟩ := hs; exact ⟨cu, own_cells (β := Unit) _ _ _ _ _ () X Z row hc hg hr⟩))) (fun _ _ _ _ _ hs _ _ => hs) ⟨I0, hB0, cur, hcur⟩
    (fun x a' V => ∃ Bx, V.heap[Bx]? = some (.cells #[.int .u64 x.lo, .int .u64 x.hi, .int .u8 x.h] 38 (0, 0)) ∧ a' = { tmps := #[.pointer (some ⟨b, 0, none⟩), .slice a1 N c1, undef, undef, .slice none 0 0, .pointer (some ⟨w.heap.size, 0, none⟩), .pointer (some ⟨Bx, 0, none⟩), undef, undef, .pointer (some ⟨b, 0, none⟩), .func (.func 82) #[] #[.pointer (some ⟨Bn, 0, none⟩)], enc x, undef, undef, undef, undef, undef, undef, undef, undef, undef, undef, undef, undef, undef, undef, undef, undef, undef, undef, undef, undef, undef, undef, undef, undef, undef, undef, undef, undef, undef, undef], defers := [] })
    (fun x a' _ X Z row hs hg hr => by
      obtain ⟨Bx, h1, h2⟩ := hs
      exact ⟨Bx, own_cells (β := Unit) w5.heap.size Bx _ _ _ () X Z row h1 hg hr, h2⟩)
    ?assign1 ?body1 ?done1 (fun _ _ _ _ _ _ h _ => h.elim)
  case assign1 =>
    rintro l' pre x V K ⟨hLp, hB1, cu, hcu⟩ hK
    simp only [enc]
    have kV := Kp.alloc V (.cells #[.int .u64 x.lo, .int .u64 x.hi, .int .u8 x.h] 38) Nu
    have HZ := hide (And.intro (hLp.nu kV) (And.intro kV (box2 hcu kV)))
    clear hLp kV hcu
    gi_wp2
    obtain ⟨f1, kV, hcu⟩ := HZ.out
    exact hK _ _ (kf_nu _ kV) (kc_nu kV) ⟨f1, hB1.alloc hB1.size _, cu, hcu⟩ ⟨V.heap.size, heap_alloc_new V _, rfl⟩
  case body1 =>
    rintro l' pre x a' V hl' hq ⟨⟨u, b1, b2⟩, hB1, cu, hcu⟩ ⟨Bx, hX, rfl⟩ hlt
    obtain ⟨a0, a1', a2⟩ := cell3 hX
    obtain ⟨adu, cpu, hu⟩ := own_slice b2
    have c1' := cell1 b1
    have hVs := hB1.size
    have KV := Kp.alloc V (.cells #[.int .u64 x.lo] 24) Nu
    have HR := hide (b2.alloc (.cells #[.int .u64 x.lo] 24))
    have b1' := box2 b1 KV
    have HBB := hide (And.intro b1' (And.intro b2 (And.intro b1 (And.intro KV hcu))))
    have hpl8 : pre.length ≤ 8192 := by
      have := hlt.length_le
      simp at this
      omega
    generalize hpl : (pre.map (·.lo)).length = PL at *
    have hPL : PL ≤ 8192 := by rw [← hpl, List.length_map]; exact hpl8
    have HPL := hide hpl
    subst hu
    clear b1 b2 hX hl' hq SQ I0 b1' KV hpl hcu
    gi_wp2_with (first
      | (gi_at_builtin; refine wpListIn_append_own _ rfl _ _ 23 rfl w.heap.size 24 i0 (.int .u64 0) 1 8 Tryz.underlying23 hi0 hz0 hz1 hz2 rfl (by decide) _ _ _ rfl HR.out ⟨V.heap.size, 0, none⟩ 1 1 [.int .u64 x.lo] rfl rfl (cell_one_new _ _ _) (by simp [Value.oneCell']) (by unfold maxLen; omega) (by omega) (by simp; omega) ?_; intro v' w3 hown' hg3 hnil3; obtain ⟨ad3, cp3, ev3⟩ := own_slice hown'; have HO := hide (And.intro hown' hg3); have q1 : w3.heap[w.heap.size]? = some (.cells #[.slice adu PL cpu] 23 (0, 0)) := (hg3.block _ (blk_lt HBB.out.1) (fun e => (by obtain ⟨c, e3⟩ := own_obj HR.out e.symm; rw [HBB.out.1] at e3; cases e3))).trans HBB.out.1; have q2 := cell1 q1; have q3 := free3 q1 0; subst ev3; clear hown' hg3 hnil3 q1)
      | fail)
    gi_wp2
    obtain ⟨hown', hg3⟩ := HO.out
    obtain ⟨b1', b2, b1, KV, hcu⟩ := HBB.out
    have hkk : Kp (fun k => some k = (Value.slice adu PL cpu).ownBlock) V w3 := (KV.mono (fun _ _ h => h.elim)).trans (Kp.of_grown hg3) (fun _ _ h => h)
    have hl2 : ((pre ++ [x]).map (·.lo)).length = PL + 1 := by rw [List.map_append, List.length_append, HPL.out]; rfl
    have ho2 : w3.ownsRow w.heap.size 24 1 (.slice ad3 (PL + 1) cp3) ((pre ++ [x]).map (·.lo)).length (ucs ((pre ++ [x]).map (·.lo))) := by
      rw [hl2, List.map_append, List.map_cons, List.map_nil, ucs_snoc]
      exact hown'
    obtain ⟨_, q2, q3, q4, q5, q6⟩ := mid_g (by decide) b1 b2 (Nat.le_refl _) hkk ho2 hB1
    have hrr : ¬ (some r = (Value.slice adu PL cpu).ownBlock ∨ r = w.heap.size) := fun e => by
      rcases e with e | e
      · obtain ⟨c, e3⟩ := own_obj b2 e.symm
        rw [hcu] at e3; cases e3
      · rw [e, b1] at hcu; cases hcu
    exact ⟨kf_mono q4 hws, fun k c t m hk e => by
      have hk2 : k = r := hk
      subst hk2
      exact (q6.block _ (blk_lt e) hrr).trans e, ⟨⟨_, q2, q3⟩, q5, cu, (q6.block _ (blk_lt hcu) hrr).trans hcu⟩⟩
  case done1 =>
    rintro D ys V hD rfl ⟨⟨u, b1, b2⟩, hB1, _⟩ hK
    have G0 : Gs w V D u (ys.map (·.lo)) := ⟨b1, b2, hB1, hK⟩
    have HV := hide G0
    have hD2 := hD
    clear b1 b2 hB1 SQ I0 hcur hK G0
    have hYL : (ys.map (·.lo)).length ≤ 8192 := by rw [List.length_map]; exact hT8
    gi_wp2
    gi_loopw [19] (fun iv wr => ∃ i : Nat, iv = .int .i64 (i : Int) ∧ i ≤ N ∧ Hid (∃ u, Gs w wr D u (ys.map (·.lo) ++ (ms.take i).flatMap mst) ∧ (ys.map (·.lo) ++ (ms.take i).flatMap mst).length ≤ 8192 + 2 * i)) (fun iv _ => N - (intOf iv).toNat)
    case atStart => exact ⟨0, rfl, Nat.zero_le _, hide ⟨u, by simpa using HV.out, by simpa using hYL⟩⟩
    case round =>
      obtain ⟨i, rfl, hi1, hI⟩ := hrel
      have hi0' : (0 : Int) ≤ (i : Int) := by omega
      obtain ⟨uu, hG, hCl⟩ := hI.out
      by_cases hlt : i < N
      · have hltI : (i : Int) < (N : Int) := by omega
        obtain ⟨m, hm⟩ : ∃ m, ms[i]? = some m := ⟨_, List.getElem?_eq_getElem (by rw [HU.out.2.1]; exact hlt)⟩
        have hms : Mvs wr (.slice a1 N c1) ms := by have h := HU.out.1; rw [HU.out.2.1] at h; exact h.nu (Kp.of_below hG.be)
        obtain ⟨bm, om, rfl, hat⟩ := hms.at_ hm
        obtain ⟨x0, x1, x2, x3, x4, hf⟩ := hat
        have eti : (i : Int).toNat = i := by omega
        have etk : (ms.take (i + 1)).flatMap mst = (ms.take i).flatMap mst ++ mst m := by rw [List.take_add_one, hm, List.flatMap_append]; simp
        obtain ⟨mf, mt, lo, hi, mn⟩ := m
        simp only at *
        obtain ⟨W1, hW1⟩ : ∃ W1, wr.alloc (.cells #[.int .u8 mf, .int .u8 mt, .int .u64 lo, .int .u64 hi, .int .i64 mn] 41) = W1 := ⟨_, rfl⟩
        have k1 : Kp Nu wr W1 := by rw [← hW1]; exact Kp.alloc _ _ _
        have bM : W1.heap[wr.heap.size]? = some (.cells #[.int .u8 mf, .int .u8 mt, .int .u64 lo, .int .u64 hi, .int .i64 mn] 41 (0, 0)) := by rw [← hW1]; exact heap_alloc_new wr _
        have G1 := hG.nu k1
        obtain ⟨y0, y1, y2, y3, y4⟩ := cell5 bM
        have cb := cell1 G1.bx
        obtain ⟨C, hC⟩ : ∃ C, ys.map (·.lo) ++ (ms.take i).flatMap mst = C := ⟨_, rfl⟩
        rw [hC] at G1 hCl
        obtain ⟨adu, cpu, hu⟩ := own_slice G1.ow
        have HG := hide (And.intro G1 (And.intro bM (And.intro hCl (And.intro hC (And.intro etk hf)))))
        have hCl2 : C.length ≤ 16384 := by omega
        have hszW := G1.be.size
        generalize eCL : C.length = CL at *
        have HCL := hide eCL
        subst hu
        clear hI hG hCl hm hms hf etk k1 bM G1 hC HV eCL
        gi_wp2_with (gi_at_builtin; refine unhid ?_)
        refine hide ?_
        obtain ⟨G1, bM, _⟩ := HG.out
        have ow1 := G1.ow
        rw [HCL.out] at ow1
        refine wpListIn_append_own _ rfl _ _ 23 rfl w.heap.size 24 i0 (.int .u64 0) 1 8 Tryz.underlying23 hi0 hz0 hz1 hz2 rfl (by decide) (.slice adu CL cpu) CL (ucs C) rfl (ow1.alloc _) ⟨W1.heap.size, 0, none⟩ 1 1 [.int .u64 lo] rfl rfl (cell_one_new _ _ _) (by simp [Value.oneCell']) (by unfold maxLen; omega) (by omega) (by rw [World.size_alloc]; omega) ?_
        intro v' w3 ho3 hg3 hnil3
        obtain ⟨ad3, cp3, ev3⟩ := own_slice ho3
        subst ev3
        rw [← HCL.out] at ho3
        obtain ⟨G2, q1, k2⟩ := G1.step hg3 ho3
        have bM2 := blk_kp bM k2 (G1.far bM (by decide) (by decide))
        rw [HCL.out] at G2 k2 bM2
        obtain ⟨W2, hW2⟩ : ∃ W2, w3.setCell ⟨w.heap.size, 0, none⟩ (.slice ad3 (CL + 1) cp3) = W2 := ⟨_, rfl⟩
        rw [hW2] at G2 k2 bM2
        have p1 := cell1 q1
        have p2 := free3 q1 0
        obtain ⟨z0, z1, z2, z3, z4⟩ := cell5 bM2
        have cb2 := cell1 G2.bx
        have HG2 := hide G2
        have hs2 := G2.be.size
        clear G1 bM ow1 ho3 hg3 hnil3 q1 k2 bM2 G2 y0 y1 y2 y3 y4 cb
        by_cases hhi : hi < 18446744073709551615
        · have dh : decide (hi < 18446744073709551615) = true := by simpa using hhi
          have hf := HG.out.2.2.2.2.2
          have h0 : 0 ≤ hi := hf.h0
          have wr1 : IntKind.u64.wrap (hi + 1) = hi + 1 := by rw [IntKind.wrap_u64]; omega
          have wr2 : (hi + 1) % 18446744073709551616 = hi + 1 := by omega
          have HH := hide hhi
          clear hf h0 hhi
          gi_wp2_with (gi_at_builtin; refine unhid ?_)
          refine hide ?_
          have ow2 := HG2.out.ow
          have hlen2 : (C ++ [lo]).length = CL + 1 := by rw [List.length_append, HCL.out]; rfl
          rw [hlen2] at ow2
          refine wpListIn_append_own _ rfl _ _ 23 rfl w.heap.size 24 i0 (.int .u64 0) 1 8 Tryz.underlying23 hi0 hz0 hz1 hz2 rfl (by decide) (.slice ad3 (CL + 1) cp3) (CL + 1) (ucs (C ++ [lo])) rfl (ow2.alloc _) ⟨W2.heap.size, 0, none⟩ 1 1 [.int .u64 (hi + 1)] rfl rfl (cell_one_new _ _ _) (by simp [Value.oneCell']) (by unfold maxLen; omega) (by omega) (by rw [World.size_alloc]; omega) ?_
          intro v' w4 ho4 hg4 hnil4
          obtain ⟨ad4, cp4, ev4⟩ := own_slice ho4
          subst ev4
          rw [← hlen2] at ho4
          obtain ⟨G3, q1, _⟩ := HG2.out.step hg4 ho4
          rw [hlen2] at G3
          have p1 := cell1 q1
          have p2 := free3 q1 0
          have HG3 := hide G3
          clear ow2 ho4 hg4 hnil4 q1 G3 z0 z1 z2 z3 z4 cb2
          gi_wp2
          obtain ⟨_, _, hCl, hC, etk, hf⟩ := HG.out
          have em : mst ⟨mf, mt, lo, hi, mn⟩ = [lo, hi + 1] := if_pos HH.out
          refine ⟨⟨i + 1, by go_num, by omega, hide ⟨.slice ad4 (CL + 1 + 1) cp4, ?_, ?_⟩⟩, by simp [intOf]; omega⟩
          · rw [etk, em, ← List.append_assoc, hC]
            have h := HG3.out
            rw [List.append_assoc] at h
            exact h
          · rw [etk, em, ← List.append_assoc, hC, List.length_append]
            have := HCL.out
            simp
            omega
        · have dh : decide (hi < 18446744073709551615) = false := by simpa using hhi
          have HH := hide hhi
          clear hhi
          gi_wp2
          obtain ⟨_, _, hCl, hC, etk, hf⟩ := HG.out
          have em : mst ⟨mf, mt, lo, hi, mn⟩ = [lo] := if_neg HH.out
          refine ⟨⟨i + 1, by go_num, by omega, hide ⟨.slice ad3 (CL + 1) cp3, ?_, ?_⟩⟩, by simp [intOf]; omega⟩
          · rw [etk, em, ← List.append_assoc, hC]
            exact HG2.out
          · rw [etk, em, ← List.append_assoc, hC, List.length_append]
            have := HCL.out
            simp
            omega
      · have hltI : ¬ (i : Int) < (N : Int) := by omega
        have ei : i = N := by omega
        have hall : ms.take i = ms := List.take_of_length_le (by rw [HU.out.2.1]; omega)
        rw [hall] at hG hCl
        have hne : 0 < (ys.map (·.lo) ++ ms.flatMap mst).length := by
          have := HU.out.2.2.1.tab.ne
          simp
          omega
        obtain ⟨C, hC⟩ : ∃ C, ys.map (·.lo) ++ ms.flatMap mst = C := ⟨_, rfl⟩
        rw [hC] at hG hCl hne
        obtain ⟨g, cap, e, hBg⟩ : ∃ g cap, uu = .slice (some ⟨g, 0, none⟩) C.length cap ∧ w.heap.size ≤ g := by
          rcases hG.ow.2 with ⟨_, e0⟩ | ⟨g', cap', cu, e0, hb, _⟩
          · omega
          · exact ⟨g', cap', e0, hb⟩
        subst e
        have DR : Dr wr w.heap.size g C.length cap C := ⟨hG.ow, rfl⟩
        have SO := sort85 wr w.heap.size g C.length cap C DR (by omega)
        have cb := cell1 hG.bx
        have HQ := hide (And.intro hG (And.intro hCl (And.intro hC (And.intro hne hBg))))
        obtain ⟨CL, eCL⟩ : ∃ CL, C.length = CL := ⟨_, rfl⟩
        rw [eCL] at SO cb
        have HE := hide eCL
        clear hI hG hCl hne DR hC hBg hall ei eCL
        gi_wp2_with fail
        refine ⟨trivial, (callsIn_wide.2 SO).mono ?_⟩
        rintro e w6 ⟨rfl, l6, d6, p6, s6, k6⟩
        have bx6 : w6.heap[w.heap.size]? = some (.cells #[.slice (some ⟨g, 0, none⟩) CL cap] 23 (0, 0)) := by
          obtain ⟨hG, _⟩ := HQ.out
          have q := hG.bx
          rw [HE.out] at q
          refine blk_kp q k6 (fun e => ?_)
          obtain ⟨c, e3⟩ := own_obj hG.ow (g := g) rfl
          rw [← e, hG.bx] at e3; cases e3
        have CO := compact86 w6 w.heap.size g CL cap l6 d6 s6 (by have := HQ.out.2.2.2.1; rw [HE.out] at this; exact this) (by have := HQ.out.2.1; rw [HE.out] at this; omega)
        have cb6 := cell1 bx6
        have H6 := hide (And.intro p6 (And.intro k6 bx6))
        clear SO cb d6 p6 s6 k6 bx6
        gi_wp2_with fail
        refine ⟨trivial, (callsIn_wide.2 CO).mono ?_⟩
        rintro e w7 ⟨kk, rfl, hk0, hkn, l7, d7, s7, m7, k7⟩
        have H7 := hide (And.intro d7 (And.intro s7 (And.intro m7 k7)))
        clear CO cb6 d7 s7 m7 k7
        gi_wp2
        obtain ⟨hG, hCl, hC, hne, hBg⟩ := HQ.out
        obtain ⟨p6, k6, _⟩ := H6.out
        obtain ⟨d7, s7, m7, k7⟩ := H7.out
        have hgD : g ≠ D := fun e => by
          obtain ⟨c, e3⟩ := own_obj hG.ow (g := g) rfl
          rw [e, hG.de] at e3; cases e3
        have kd6 : w6.heap[D]? = some (.deferred (some [])) := (k6.block _ (blk_lt hG.de) (fun e => hgD e.symm)).trans hG.de
        have kd7 : w7.heap[D]? = some (.deferred (some [])) := (k7.block _ (blk_lt kd6) (fun e => hgD e.symm)).trans kd6
        have be6 : Below w.heap.size w w6 := hG.be.trans (k6.below _ hG.be.size (fun j e => by have e2 : j = g := e; omega))
        have be7 : Below w.heap.size w w7 := be6.trans (k7.below _ be6.size (fun j e => by have e2 : j = g := e; omega))
        have hcl := HE.out
        refine ⟨by simp, .inl ⟨_, _, rfl, run_takeDeferred kd7, ?_⟩⟩
        refine ⟨.slice (some ⟨g, 0, none⟩) kk cap, by simp [results, Tryz.results55, go_sem], g, kk, cap, rfl, hk0, by omega, l7, ⟨own_keep d7.own (fun x e => World.putObj_heap_other (fun e2 => ?_)), d7.len⟩, s7, fun x => ?_, Kp.of_below (be7.trans (belowK_b (w := w) (Nat.le_refl _) w7 D _ _ (by omega) kd7 rfl rfl))⟩
        · simp [Value.ownBlock] at e
          omega
        · rw [m7 x, p6.mem_iff, hC]
end Go.Proofs.YtbifmcadllilhaaGreat.Rg
namespace Go.Proofs.YtbifmcadllilhaaGreat.Rg
open Go.RowKit Go.Shelf Go.Sort
set_option linter.unusedVariables false
/-- the keys are cut into parts: the parts' first keys -/
structure Sts (S : List Int) : Prop where
  ne : 0 < S.length
  zero : gt S 0 = 0
  inc : ∀ i j, i < j → j < S.length → gt S i < gt S j
  top : ∀ i, i < S.length → gt S i < 18446744073709551616
/-- the key behind a part -/
def nx (S : List Int) (j : Nat) : Int := if j + 1 < S.length then gt S (j + 1) else 18446744073709551616
/-- a key lies in a part -/
structure Inp (S : List Int) (j : Nat) (k : Int) : Prop where
  lt : j < S.length
  lo : gt S j ≤ k
  hi : k < nx S j
/-- whose the parts' keys are -/
def Fits (S : List Int) (o : Nat → Int) (L : List Sg) : Prop := ∀ j k, Inp S j k → ow L k = o j
theorem Sts.ge {S : List Int} (h : Sts S) {i : Nat} (hi : i < S.length) : 0 ≤ gt S i := by
  cases i with
  | zero => rw [h.zero]; omega
  | succ i => have := h.inc 0 (i + 1) (by omega) hi; rw [h.zero] at this; omega
theorem Sts.nxle {S : List Int} (h : Sts S) {i j : Nat} (hij : i < j) (hj : j < S.length) : nx S i ≤ gt S j := by
  unfold nx
  rw [if_pos (by omega)]
  by_cases e : i + 1 = j
  · rw [e]; omega
  · have := h.inc (i + 1) j (by omega) hj; omega
theorem Sts.nxgt {S : List Int} (h : Sts S) {i : Nat} (hi : i < S.length) : gt S i < nx S i := by
  unfold nx
  split
  · exact h.inc i (i + 1) (by omega) (by assumption)
  · exact h.top i hi
theorem Sts.nxtop {S : List Int} (h : Sts S) (i : Nat) : nx S i ≤ 18446744073709551616 := by
  unfold nx
  split
  · have := h.top (i + 1) (by assumption); omega
  · omega
theorem Sts.part {S : List Int} (h : Sts S) {k : Int} (h0 : 0 ≤ k) (h1 : k < 18446744073709551616) : ∃ j, Inp S j k := by
  have key : ∀ n, n < S.length → k < nx S n → ∃ j, Inp S j k := by
    intro n
    induction n with
    | zero => intro hn hk; exact ⟨0, hn, by rw [h.zero]; exact h0, hk⟩
    | succ n ih =>
      intro hn hk
      by_cases c : gt S (n + 1) ≤ k
      · exact ⟨n + 1, hn, c, hk⟩
      · exact ih (by omega) (by unfold nx; rw [if_pos hn]; omega)
  refine key (S.length - 1) (by have := h.ne; omega) ?_
  unfold nx
  rw [if_neg (by have := h.ne; omega)]
  exact h1
theorem Sts.one {S : List Int} (h : Sts S) {i j : Nat} {k : Int} (hi : Inp S i k) (hj : Inp S j k) : i = j := by
  rcases Nat.lt_trichotomy i j with c | c | c
  · have := h.nxle c hj.lt; have := hi.hi; have := hj.lo; omega
  · exact c
  · have := h.nxle c hi.lt; have := hj.hi; have := hi.lo; omega
theorem Sts.at_lo {S : List Int} (h : Sts S) {a : Nat} {lo : Int} (ha : Inp S a lo) (hm : lo ∈ S) : gt S a = lo := by
  obtain ⟨i, i1, i2⟩ := gt_mem.1 hm
  have := h.one ha ⟨i1, by omega, by have := h.nxgt i1; omega⟩
  rw [this]; exact i2
theorem Sts.at_hi {S : List Int} (h : Sts S) {b : Nat} {hi : Int} (hb : Inp S b hi) (hm : hi + 1 ∈ S ∨ hi = 18446744073709551615) : nx S b = hi + 1 := by
  have e1 := hb.hi
  have e2 := h.nxtop b
  rcases hm with hm | hm
  · obtain ⟨i, i1, i2⟩ := gt_mem.1 hm
    rcases Nat.lt_or_ge b i with c | c
    · have := h.nxle c i1; omega
    · exfalso
      have e3 := hb.lo
      by_cases e : i = b
      · subst e; omega
      · have := h.inc i b (by omega) hb.lt; omega
  · omega
/-- a run of parts is a range of keys -/
theorem Sts.run {S : List Int} (h : Sts S) {a b : Nat} {lo hi : Int} (ha : gt S a = lo) (hal : a < S.length) (hb : nx S b = hi + 1) (hbl : b < S.length) {j : Nat} {k : Int} (hk : Inp S j k) : (lo ≤ k ∧ k ≤ hi) ↔ (a ≤ j ∧ j ≤ b) := by
  have k1 := hk.lo
  have k2 := hk.hi
  constructor
  · rintro ⟨c1, c2⟩
    constructor
    · rcases Nat.lt_or_ge j a with c | c
      · have := h.nxle c hal; omega
      · exact c
    · rcases Nat.lt_or_ge b j with c | c
      · have := h.nxle c hk.lt; omega
      · exact c
  · rintro ⟨c1, c2⟩
    constructor
    · by_cases e : a = j
      · subst e; omega
      · have := h.inc a j (by omega) hk.lt; omega
    · by_cases e : j = b
      · subst e; omega
      · have := h.nxle (i := j) (j := b) (by omega) hbl; have := h.nxgt hbl; omega
theorem Fits.give {S : List Int} (h : Sts S) {o : Nat → Int} {L : List Sg} (hF : Fits S o L) (hT : Tab L) {a b : Nat} {lo hi x : Int} (h0 : 0 ≤ lo) (h1 : lo ≤ hi) (h2 : hi < 18446744073709551616) (x0 : 0 ≤ x) (x1 : x < 16) (ha : gt S a = lo) (hal : a < S.length) (hb : nx S b = hi + 1) (hbl : b < S.length) :
    Fits S (fun j => if a ≤ j ∧ j ≤ b then x else o j) (asg L lo hi x) := fun j k hk => by
  have k0 : 0 ≤ k := by have := h.ge hk.lt; have := hk.lo; omega
  have k1 : k < 18446744073709551616 := by have := h.nxtop j; have := hk.hi; omega
  rw [(asg_facts hT h0 h1 h2 x0 x1).2.1 k k0 k1, hF j k hk]
  by_cases c : a ≤ j ∧ j ≤ b
  · rw [if_pos ((h.run ha hal hb hbl hk).2 c)]; simp only [c, and_self, if_true]
  · rw [if_neg (fun e => c ((h.run ha hal hb hbl hk).1 e))]; simp only [c, if_false]
theorem Fits.own {S : List Int} (h : Sts S) {o : Nat → Int} {L : List Sg} (hF : Fits S o L) {a b : Nat} {lo hi x : Int} (h0 : 0 ≤ lo) (h2 : hi < 18446744073709551616) (ha : gt S a = lo) (hal : a < S.length) (hb : nx S b = hi + 1) (hbl : b < S.length) :
    Own L lo hi x ↔ ∀ j, a ≤ j → j ≤ b → o j = x := by
  constructor
  · intro hO j j1 j2
    have hjl : j < S.length := by omega
    have hk : Inp S j (gt S j) := ⟨hjl, by omega, h.nxgt hjl⟩
    have := (h.run ha hal hb hbl hk).2 ⟨j1, j2⟩
    rw [← hF j _ hk]
    exact hO _ this.1 this.2
  · intro hA k k1 k2
    obtain ⟨j, hj⟩ := h.part (k := k) (by omega) (by omega)
    have := (h.run ha hal hb hbl hj).1 ⟨k1, k2⟩
    rw [hF j k hj]
    exact hA j this.1 this.2
theorem cov_next : ∀ {L : List Sg} {a b : Int} {s : Sg}, Cov a L b → s ∈ L → s.hi + 1 < b → ∃ s' ∈ L, s'.lo = s.hi + 1
  | [], a, b, s, h, hs, hb => by cases hs
  | x :: r, a, b, s, h, hs, hb => by
    rcases List.mem_cons.1 hs with e | e
    · subst e
      cases r with
      | nil => have : s.hi + 1 = b := h.2.2; omega
      | cons y r => exact ⟨y, by simp, h.2.2.1⟩
    · obtain ⟨s', h1, h2⟩ := cov_next h.2.2 e hb
      exact ⟨s', List.mem_cons_of_mem _ h1, h2⟩
theorem Fits.start {S : List Int} (h : Sts S) {L : List Sg} (hT : Tab L) (hm : ∀ s ∈ L, s.lo ∈ S) : Fits S (fun j => ow L (gt S j)) L := fun j k hk => by
  have e0 := h.ge hk.lt
  have e1 := h.top j hk.lt
  obtain ⟨s, q1, q2, q3, q4, q5⟩ := plc_facts hT.cov e0 e1
  have hs := List.mem_of_getElem? q1
  show ow L k = ow L (gt S j)
  rw [← q4]
  refine ow_mem hT.cov hs (by have := hk.lo; omega) ?_
  rcases Int.lt_or_le s.hi k with c | c
  · exfalso
    have k1 : k < 18446744073709551616 := by have := h.nxtop j; have := hk.hi; omega
    obtain ⟨s', h1, h2⟩ := cov_next hT.cov hs (by omega)
    obtain ⟨i, i1, i2⟩ := gt_mem.1 (hm s' h1)
    have : j < i := by
      rcases Nat.lt_or_ge j i with c | c
      · exact c
      · by_cases e : i = j
        · subst e; omega
        · have := h.inc i j (by omega) hk.lt; omega
    have := h.nxle this i1
    have := hk.hi
    omega
  · exact c
/-- a part as a segment -/
def prt (S : List Int) (o : Nat → Int) (j : Nat) : Sg := ⟨gt S j, nx S j - 1, o j⟩
/-- the segments of the first parts -/
def rk (S : List Int) (o : Nat → Int) (i : Nat) : List Sg := lays [] ((List.range i).map (prt S o))
theorem rk_succ (S : List Int) (o : Nat → Int) (i : Nat) : rk S o (i + 1) = lay (rk S o i) (prt S o i) := by
  unfold rk
  rw [List.range_succ, List.map_append, List.map_cons, List.map_nil, lays_snoc]
theorem rk_cov {S : List Int} (h : Sts S) (o : Nat → Int) : ∀ i, 0 < i → i ≤ S.length → Cov 0 (rk S o i) (nx S (i - 1)) ∧ Alt (rk S o i) ∧ ∀ j k, j < i → Inp S j k → ow (rk S o i) k = o j
  | 0, h0, _ => by omega
  | 1, _, hl => by
    have e : rk S o 1 = [prt S o 0] := rfl
    have := h.nxgt (i := 0) h.ne
    refine ⟨?_, ?_, ?_⟩
    · rw [e]; refine ⟨h.zero, ?_, ?_⟩
      · show (0 : Int) ≤ nx S 0 - 1
        have := h.zero; omega
      · show nx S 0 - 1 + 1 = nx S (1 - 1)
        show nx S 0 - 1 + 1 = nx S 0
        omega
    · rw [e]; trivial
    · intro j k hj hk
      obtain rfl : j = 0 := by omega
      rw [e]
      show (if k ≤ nx S 0 - 1 then o 0 else _) = o 0
      have := hk.hi
      rw [if_pos (by omega)]
  | i + 2, _, hl => by
    obtain ⟨c1, c2, c3⟩ := rk_cov h o (i + 1) (by omega) (by omega)
    rw [rk_succ]
    have e1 : nx S (i + 1 - 1) = gt S (i + 1) := by show nx S i = _; unfold nx; rw [if_pos (by omega)]
    have e2 := h.nxgt (i := i + 1) (by omega)
    obtain ⟨d1, d2⟩ := lay_cov (s := prt S o (i + 1)) c1 e1.symm (by show _ ≤ nx S (i + 1) - 1; omega) (b := nx S (i + 1)) (by show nx S (i + 1) - 1 + 1 = _; omega)
    refine ⟨d1, lay_alt _ _ c2, fun j k hj hk => ?_⟩
    have k0 : 0 ≤ k := by have := h.ge hk.lt; have := hk.lo; omega
    by_cases c : j < i + 1
    · have := h.nxle (i := j) (j := i + 1) c (by omega)
      have := hk.hi
      rw [d2 k k0 (by omega), if_pos (by omega)]
      exact c3 j k c hk
    · obtain rfl : j = i + 1 := by omega
      have := hk.lo
      have := hk.hi
      rw [d2 k k0 (by omega), if_neg (by omega)]
      rfl
theorem rk_all {S : List Int} (h : Sts S) {o : Nat → Int} {L : List Sg} (hT : Tab L) (hF : Fits S o L) : rk S o S.length = L := by
  obtain ⟨c1, c2, c3⟩ := rk_cov h o S.length h.ne (Nat.le_refl _)
  have e : nx S (S.length - 1) = 18446744073709551616 := by unfold nx; rw [if_neg (by have := h.ne; omega)]
  rw [e] at c1
  refine cov_unique c1 hT.cov c2 hT.alt (fun k k0 k1 => ?_)
  obtain ⟨j, hj⟩ := h.part k0 k1
  rw [c3 j k hj.lt hj, hF j k hj]
/-- the list while it is made: its last segment reaches to the end -/
def Rp (S : List Int) (o : Nat → Int) (i : Nat) (R : List Sg) : Prop := (i = 0 ∧ R = []) ∨ (0 < i ∧ ∃ A lo h, R = A ++ [⟨lo, 18446744073709551615, h⟩] ∧ rk S o i = A ++ [⟨lo, nx S (i - 1) - 1, h⟩])
theorem Rp.same {S : List Int} {o : Nat → Int} {i : Nat} {A : List Sg} {lo h : Int} (hi : 0 < i) (hR : rk S o i = A ++ [⟨lo, nx S (i - 1) - 1, h⟩]) (e : h = o i) : Rp S o (i + 1) (A ++ [⟨lo, 18446744073709551615, h⟩]) := by
  refine .inr ⟨by omega, A, lo, h, rfl, ?_⟩
  rw [rk_succ, hR, lay_snoc, if_pos (by exact e)]
  rfl
theorem Rp.more {S : List Int} {o : Nat → Int} {i : Nat} {A : List Sg} {lo h : Int} (hi : 0 < i) (hl : i < S.length) (hR : rk S o i = A ++ [⟨lo, nx S (i - 1) - 1, h⟩]) (e : h ≠ o i) : Rp S o (i + 1) (A ++ [⟨lo, gt S i - 1, h⟩] ++ [⟨gt S i, 18446744073709551615, o i⟩]) := by
  have e1 : nx S (i - 1) = gt S i := by unfold nx; rw [if_pos (by omega), show i - 1 + 1 = i by omega]
  refine .inr ⟨by omega, A ++ [⟨lo, gt S i - 1, h⟩], gt S i, o i, rfl, ?_⟩
  rw [rk_succ, hR, lay_snoc, if_neg (by exact e), e1]
  rfl
theorem Rp.first {S : List Int} {o : Nat → Int} : Rp S o 1 [⟨gt S 0, 18446744073709551615, o 0⟩] := .inr ⟨by omega, [], gt S 0, o 0, rfl, rfl⟩
theorem Rp.last {S : List Int} (hS : Sts S) {o : Nat → Int} {R : List Sg} (h : Rp S o S.length R) : R = rk S o S.length := by
  rcases h with ⟨e, _⟩ | ⟨_, A, lo, x, rfl, e⟩
  · have := hS.ne; omega
  · have e2 : nx S (S.length - 1) = 18446744073709551616 := by unfold nx; rw [if_neg (by have := hS.ne; omega)]
    rw [e, e2]
    rfl
end Go.Proofs.YtbifmcadllilhaaGreat.Rg
