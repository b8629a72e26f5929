import Derived.Test.YtbifmcadllilhaaGreatQsC
import Derived.Test.YtbifmcadllilhaaGreatQtG
import Derived.Test.YtbifmcadllilhaaGreatQtC
import Derived.Test.YtbifmcadllilhaaGreatPdG
namespace Go.Proofs.YtbifmcadllilhaaGreat.Rg
open Go.RowKit Go.Shelf Go.Sort
open Go.Proofs.YtbifmcadllilhaaGreat.It
attribute [local go_sem] Oper.semAt_some
set_option linter.unusedVariables false
/-- the keys at which a move begins, and behind which it ends -/
def mst (m : Mv) : List Int := if m.hi < 18446744073709551615 then [m.lo, m.hi + 1] else [m.lo]
/-- numbers that grow in a box -/
structure Gi (w V : World) (BX : Nat) (C : List Int) : Prop where
  box : ∃ u, V.heap[BX]? = some (.cells #[u] 23 (0, 0)) ∧ V.ownsRow w.heap.size 24 1 u C.length (ucs C)
theorem Gi.nu {w V V' : World} {BX : Nat} {C : List Int} (h : Gi w V BX C) (k : Kp Nu V V') : Gi w V' BX C := by
  obtain ⟨u, h1, h2⟩ := h.box
  exact ⟨u, box2 h1 k, own_keep h2 (fun g e => k.block g (own_lt h2 e) (fun h => h))⟩
theorem Gi.own {w : World} {BX : Nat} (B : Nat) : OwnFrom B (fun (p : List Sg) V => Gi w V BX (p.map (·.lo))) := fun p X Z row hs hg hr => by
  obtain ⟨u, h1, h2⟩ := hs.box
  refine ⟨u, own_cells (β := Unit) B _ _ _ _ () X Z row h1 hg hr, own_keep h2 (fun g e => hg.block g (own_lt h2 e) (fun e2 => ?_))⟩
  obtain ⟨_, o, ho, hc⟩ := hr g e2.symm
  obtain ⟨c, e3⟩ := own_obj h2 e
  rw [e3] at ho; cases ho; cases hc
theorem mid_g {w V V1 : World} {BX n n' sz : Nat} {ty el : TypeId} {X X' : List Value} {u u' : Value} (hte : ty ≠ el) (h1 : V.heap[BX]? = some (.cells #[u] ty (0, 0))) (h2 : V.ownsRow w.heap.size el sz u n X) (hBX : w.heap.size ≤ BX)
    (k : Kp (fun k => some k = u.ownBlock) V V1) (ho : V1.ownsRow w.heap.size el sz u' n' X') (hB : Below w.heap.size w V) :
    V1.heap[BX]? = some (.cells #[u] ty (0, 0)) ∧ (V1.setCell ⟨BX, 0, none⟩ u').heap[BX]? = some (.cells #[u'] ty (0, 0)) ∧ (V1.setCell ⟨BX, 0, none⟩ u').ownsRow w.heap.size el sz u' n' X' ∧ KeepsFrom w.heap.size V (V1.setCell ⟨BX, 0, none⟩ u') ∧ Below w.heap.size w (V1.setCell ⟨BX, 0, none⟩ u') ∧ Kp (fun k => some k = u.ownBlock ∨ k = BX) V (V1.setCell ⟨BX, 0, none⟩ u') := by
  have hty : ∀ g, some g = u.ownBlock → w.heap.size ≤ g ∧ ∃ c, V.heap[g]? = some (.cells c el (0, 0)) := fun g e => ⟨(h2.lt g e.symm).1, own_obj h2 e.symm⟩
  have b1 : V1.heap[BX]? = some (.cells #[u] ty (0, 0)) := (k.block _ (blk_lt h1) (fun hs => by
    obtain ⟨_, c, e3⟩ := hty _ hs
    rw [h1] at e3
    simp only [Option.some.injEq, Obj.cells.injEq] at e3
    exact hte e3.2.1)).trans h1
  have kS : Kp (fun k => some k = u.ownBlock ∨ k = BX) V (V1.setCell ⟨BX, 0, none⟩ u') := (k.mono (fun i _ h => .inl h)).andSet _ _ (.inr (.inr rfl))
  refine ⟨b1, by rw [set3 b1 0 u']; rfl, own_keep ho (fun g e => ?_), kf_cells kS (fun j hj => ?_), hB.trans (kS.below w.heap.size hB.size (fun j hj => ?_)), kS⟩
  · obtain ⟨c, e3⟩ := own_obj ho e
    refine Below.heap_setCell V1 ⟨BX, 0, none⟩ u' g (fun e4 => ?_)
    have e5 : g = BX := e4
    subst e5
    rw [b1] at e3
    simp only [Option.some.injEq, Obj.cells.injEq] at e3
    exact hte e3.2.1
  · rcases hj with hj | rfl
    · obtain ⟨_, c, e⟩ := hty j hj
      exact ⟨c, _, _, e⟩
    · exact ⟨_, _, _, h1⟩
  · rcases hj with hj | rfl
    · exact (hty j hj).1
    · exact hBX
theorem cell_one_new (W : World) (x : Value) (t : TypeId) : ∀ j u, [x][j]? = some u → (W.alloc (.cells #[x] t)).cell? ((⟨W.heap.size, 0, none⟩ : Addr).add j) = some u := by
  intro j u hj
  have h := cell1 (heap_alloc_new W (.cells #[x] t))
  rw [Addr.add_lit, Nat.zero_add]
  match j, hj with
  | 0, hj => simp at hj; subst hj; exact h
  | j + 1, hj => simp at hj
theorem ucs_snoc (l : List Int) (x : Int) : ucs (l ++ [x]) = ucs l ++ [.int .u64 x] := by simp [ucs]
/-- the numbers in their box, while the moves are gone through -/
structure Gs (w V : World) (D : Nat) (u : Value) (C : List Int) : Prop where
  bx : V.heap[w.heap.size]? = some (.cells #[u] 23 (0, 0))
  ow : V.ownsRow w.heap.size 24 1 u C.length (ucs C)
  be : Below w.heap.size w V
  de : V.heap[D]? = some (.deferred (some []))
theorem Gs.nu {w V V' : World} {D : Nat} {u : Value} {C : List Int} (h : Gs w V D u C) (k : Kp Nu V V') : Gs w V' D u C :=
  ⟨box2 h.bx k, own_keep h.ow (fun g e => k.block g (own_lt h.ow e) (fun h => h)), h.be.trans (k.below _ h.be.size (fun _ h => h.elim)), (k.block _ (blk_lt h.de) (fun h => h)).trans h.de⟩
theorem Gs.step {w V w3 : World} {D : Nat} {u u' : Value} {C : List Int} {x : Int} (h : Gs w V D u C) (hg : (V.alloc (.cells #[.int .u64 x] 24)).grownBy w3 u.ownBlock) (ho : w3.ownsRow w.heap.size 24 1 u' (C.length + 1) (ucs C ++ [.int .u64 x])) :
    Gs w (w3.setCell ⟨w.heap.size, 0, none⟩ u') D u' (C ++ [x]) ∧ w3.heap[w.heap.size]? = some (.cells #[u] 23 (0, 0)) ∧ Kp (fun k => some k = u.ownBlock ∨ k = w.heap.size) V (w3.setCell ⟨w.heap.size, 0, none⟩ u') := by
  have hkk : Kp (fun k => some k = u.ownBlock) V w3 := ((Kp.alloc V (.cells #[.int .u64 x] 24) Nu).mono (fun _ _ h => h.elim)).trans (Kp.of_grown hg) (fun _ _ h => h)
  obtain ⟨q1, q2, q3, q4, q5, q6⟩ := mid_g (by decide) h.bx h.ow (Nat.le_refl _) hkk ho h.be
  refine ⟨⟨q2, by rw [List.length_append, ucs_snoc]; exact q3, q5, (q6.block _ (blk_lt h.de) (fun e => ?_)).trans h.de⟩, q1, q6⟩
  rcases e with e | e
  · obtain ⟨c, e3⟩ := own_obj h.ow e.symm
    rw [h.de] at e3; cases e3
  · have := h.de
    rw [e, h.bx] at this; cases this
theorem Gs.far {w V : World} {D k : Nat} {u : Value} {C : List Int} {c : Array Value} {t : TypeId} (h : Gs w V D u C) (hk : V.heap[k]? = some (.cells c t (0, 0))) (h1 : t ≠ 23) (h2 : t ≠ 24) : ¬ (some k = u.ownBlock ∨ k = w.heap.size) := fun e => by
  rcases e with e | e
  · obtain ⟨c, e3⟩ := own_obj h.ow e.symm
    rw [hk] at e3
    simp only [Option.some.injEq, Obj.cells.injEq] at e3
    exact h2 e3.2.1
  · rw [e, h.bx] at hk
    simp only [Option.some.injEq, Obj.cells.injEq] at hk
    exact h1 hk.2.1.symm
set_option maxRecDepth 100000 in
set_option maxHeartbeats 1000000 in
theorem starts59 (w : World) (B b : Nat) (lim : Int) (v u : Value) (L : List Sg) (ms : List Mv) (hT : Tb B w b lim v L) (hu : Mvs w u ms) (hl : ms.length ≤ 4096) :
    Calls Tryz.prog 55 #[.pointer (some ⟨b, 0, none⟩), u] w fun e w' => ∃ sg ns cs, e = .returned (.slice (some ⟨sg, 0, none⟩) ns cs) ∧ 0 < ns ∧ ns ≤ 16384 ∧ ∃ S, Dr w' w.heap.size sg ns cs S ∧ (∀ i j, i < j → j < ns → gt S i < gt S j) ∧ (∀ x, x ∈ S ↔ x ∈ L.map (·.lo) ++ ms.flatMap mst) ∧ Kp Nu w w' := by
  have mixed : Tryz.prog.follows .mixedOrders = true := by kernel_rfl
  have k1 := Kp.alloc w (.cells #[.slice none 0 0] 23) Nu
  have AL := all69 (hT.nu k1)
  have b1 := heap_alloc_new w (.cells #[.slice none 0 0] 23)
  obtain ⟨a1, c1, rfl, hdm⟩ := id hu
  clear hdm
  obtain ⟨N, eN⟩ : ∃ N, ms.length = N := ⟨_, rfl⟩
  have HU := hide (And.intro hu (And.intro eN (And.intro hT (And.intro k1 b1))))
  rw [eN] at hl ⊢
  have hNI : (N : Int) ≤ 4096 := by omega
  clear hu eN hT k1 b1
  refine (callsIn_wide (n := 4)).1 ?_
  refine callsIn_of_wp_marks Tryz.func55 rfl trivial ?_ rfl
  simp only [Tryz.ntmps55, List.size_toArray, List.length_cons, List.length_nil, Nat.reduceAdd, Nat.reduceSub, Array.replicate_succ, Array.replicate_zero, List.push_toArray, List.append_toArray, List.nil_append, List.cons_append]
  gi_wp2_with fail
  refine ⟨trivial, (callsIn_wide.2 AL).mono ?_⟩
  rintro e w5 ⟨Bn, r, cpn, rfl, hbn, hvr, hk5⟩
  clear AL
  have k5 := HU.out.2.2.2.1.andNu hk5
  obtain ⟨cur, hcur, hrow⟩ := (HU.out.2.2.1.nu k5).cur hvr
  have hT8 : L.length ≤ 8192 := by have := HU.out.2.2.1.len; have := HU.out.2.2.1.lim1; omega
  have SQ := from_q Bn r 0 cpn L cur hT8 hrow w5 hbn hcur
  have hrw : r < w5.heap.size := blk_lt hcur
  have hws : w.heap.size ≤ w5.heap.size := k5.size
  have I0 : Gi w w5 w.heap.size (([] : List Sg).map (·.lo)) := ⟨_, box2 HU.out.2.2.2.2 hk5, World.ownsRow_nil _ _ _ _⟩
  have hB0 : Below w.heap.size w w5 := k5.toBelow
  have HK5 := hide k5
  clear hbn hvr hk5 k5 hrow
  gi_wp2_with fail
  obtain ⟨i0, hi0, hz0, hz1, hz2⟩ := info_parts info56z
  refine range_q (gf := 82) rfl (enters_of Tryz.func82 (by kernel_rfl) rfl) SQ (Below.refl _ _) (fun _ => rfl)
    (fun pre V => Gi w V w.heap.size (pre.map (·.lo)) ∧ Below w.heap.size w V ∧ ∃ cur, V.heap[r]? = some (.cells cur 38 (0, 0))) (fun _ _ _ => False)
    (OwnFrom.and (Gi.own _) (OwnFrom.and (ownFrom_below (Nat.le_refl _) hws) (fun p X Z row hs hg hr => by obtain ⟨cu, hc⟩ := hs; exact ⟨cu, own_cells (β := Unit) _ _ _ _ _ () X Z row hc hg hr⟩))) (fun _ _ _ _ _ hs _ _ => hs) ⟨I0, hB0, cur, hcur⟩
    (fun x a' V => ∃ Bx, V.heap[Bx]? = some (.cells #[.int .u64 x.lo, .int .u64 x.hi, .int .u8 x.h] 38 (0, 0)) ∧ a' = { tmps := #[.pointer (some ⟨b, 0, none⟩), .slice a1 N c1, undef, undef, .slice none 0 0, .pointer (some ⟨w.heap.size, 0, none⟩), .pointer (some ⟨Bx, 0, none⟩), undef, undef, .pointer (some ⟨b, 0, none⟩), .func (.func 82) #[] #[.pointer (some ⟨Bn, 0, none⟩)], enc x, undef, undef, undef, undef, undef, undef, undef, undef, undef, undef, undef, undef, undef, undef, undef, undef, undef, undef, undef, undef, undef, undef, undef, undef, undef, undef, undef, undef, undef, undef], defers := [] })
    (fun x a' _ X Z row hs hg hr => by
      obtain ⟨Bx, h1, h2⟩ := hs
      exact ⟨Bx, own_cells (β := Unit) w5.heap.size Bx _ _ _ () X Z row h1 hg hr, h2⟩)
    ?assign1 ?body1 ?done1 (fun _ _ _ _ _ _ h _ => h.elim)
  case assign1 =>
    rintro l' pre x V K ⟨hLp, hB1, cu, hcu⟩ hK
    simp only [enc]
    have kV := Kp.alloc V (.cells #[.int .u64 x.lo, .int .u64 x.hi, .int .u8 x.h] 38) Nu
    have HZ := hide (And.intro (hLp.nu kV) (And.intro kV (box2 hcu kV)))
    clear hLp kV hcu
    gi_wp2
    obtain ⟨f1, kV, hcu⟩ := HZ.out
    exact hK _ _ (kf_nu _ kV) (kc_nu kV) ⟨f1, hB1.alloc hB1.size _, cu, hcu⟩ ⟨V.heap.size, heap_alloc_new V _, rfl⟩
  case body1 =>
    rintro l' pre x a' V hl' hq ⟨⟨u, b1, b2⟩, hB1, cu, hcu⟩ ⟨Bx, hX, rfl⟩ hlt
    obtain ⟨a0, a1', a2⟩ := cell3 hX
    obtain ⟨adu, cpu, hu⟩ := own_slice b2
    have c1' := cell1 b1
    have hVs := hB1.size
    have KV := Kp.alloc V (.cells #[.int .u64 x.lo] 24) Nu
    have HR := hide (b2.alloc (.cells #[.int .u64 x.lo] 24))
    have b1' := box2 b1 KV
    have HBB := hide (And.intro b1' (And.intro b2 (And.intro b1 (And.intro KV hcu))))
    have hpl8 : pre.length ≤ 8192 := by
      have := hlt.length_le
      simp at this
      omega
    generalize hpl : (pre.map (·.lo)).length = PL at *
    have hPL : PL ≤ 8192 := by rw [← hpl, List.length_map]; exact hpl8
    have HPL := hide hpl
    subst hu
    clear b1 b2 hX hl' hq SQ I0 b1' KV hpl hcu
    gi_wp2_with (first
      | (gi_at_builtin; refine wpListIn_append_own _ rfl _ _ 23 rfl w.heap.size 24 i0 (.int .u64 0) 1 8 Tryz.underlying23 hi0 hz0 hz1 hz2 rfl (by decide) _ _ _ rfl HR.out ⟨V.heap.size, 0, none⟩ 1 1 [.int .u64 x.lo] rfl rfl (cell_one_new _ _ _) (by simp [Value.oneCell']) (by unfold maxLen; omega) (by omega) (by simp; omega) ?_; intro v' w3 hown' hg3 hnil3; obtain ⟨ad3, cp3, ev3⟩ := own_slice hown'; have HO := hide (And.intro hown' hg3); have q1 : w3.heap[w.heap.size]? = some (.cells #[.slice adu PL cpu] 23 (0, 0)) := (hg3.block _ (blk_lt HBB.out.1) (fun e => (by obtain ⟨c, e3⟩ := own_obj HR.out e.symm; rw [HBB.out.1] at e3; cases e3))).trans HBB.out.1; have q2 := cell1 q1; have q3 := free3 q1 0; subst ev3; clear hown' hg3 hnil3 q1)
      | fail)
    gi_wp2
    obtain ⟨hown', hg3⟩ := HO.out
    obtain ⟨b1', b2, b1, KV, hcu⟩ := HBB.out
    have hkk : Kp (fun k => some k = (Value.slice adu PL cpu).ownBlock) V w3 := (KV.mono (fun _ _ h => h.elim)).trans (Kp.of_grown hg3) (fun _ _ h => h)
    have hl2 : ((pre ++ [x]).map (·.lo)).length = PL + 1 := by rw [List.map_append, List.length_append, HPL.out]; rfl
    have ho2 : w3.ownsRow w.heap.size 24 1 (.slice ad3 (PL + 1) cp3) ((pre ++ [x]).map (·.lo)).length (ucs ((pre ++ [x]).map (·.lo))) := by
      rw [hl2, List.map_append, List.map_cons, List.map_nil, ucs_snoc]
      exact hown'
    obtain ⟨_, q2, q3, q4, q5, q6⟩ := mid_g (by decide) b1 b2 (Nat.le_refl _) hkk ho2 hB1
    have hrr : ¬ (some r = (Value.slice adu PL cpu).ownBlock ∨ r = w.heap.size) := fun e => by
      rcases e with e | e
      · obtain ⟨c, e3⟩ := own_obj b2 e.symm
        rw [hcu] at e3; cases e3
      · rw [e, b1] at hcu; cases hcu
    exact ⟨kf_mono q4 hws, fun k c t m hk e => by
      have hk2 : k = r := hk
      subst hk2
      exact (q6.block _ (blk_lt e) hrr).trans e, ⟨⟨_, q2, q3⟩, q5, cu, (q6.block _ (blk_lt hcu) hrr).trans hcu⟩⟩
  case done1 =>
    rintro D ys V hD rfl ⟨⟨u, b1, b2⟩, hB1, _⟩ hK
    have G0 : Gs w V D u (ys.map (·.lo)) := ⟨b1, b2, hB1, hK⟩
    have HV := hide G0
    have hD2 := hD
    clear b1 b2 hB1 SQ I0 hcur hK G0
    have hYL : (ys.map (·.lo)).length ≤ 8192 := by rw [List.length_map]; exact hT8
    gi_wp2
    gi_loopw [19] (fun iv wr => ∃ i : Nat, iv = .int .i64 (i : Int) ∧ i ≤ N ∧ Hid (∃ u, Gs w wr D u (ys.map (·.lo) ++ (ms.take i).flatMap mst) ∧ (ys.map (·.lo) ++ (ms.take i).flatMap mst).length ≤ 8192 + 2 * i)) (fun iv _ => N - (intOf iv).toNat)
    case atStart => exact ⟨0, rfl, Nat.zero_le _, hide ⟨u, by simpa using HV.out, by simpa using hYL⟩⟩
    case round =>
      obtain ⟨i, rfl, hi1, hI⟩ := hrel
      have hi0' : (0 : Int) ≤ (i : Int) := by omega
      obtain ⟨uu, hG, hCl⟩ := hI.out
      by_cases hlt : i < N
      · have hltI : (i : Int) < (N : Int) := by omega
        obtain ⟨m, hm⟩ : ∃ m, ms[i]? = some m := ⟨_, List.getElem?_eq_getElem (by rw [HU.out.2.1]; exact hlt)⟩
        have hms : Mvs wr (.slice a1 N c1) ms := by have h := HU.out.1; rw [HU.out.2.1] at h; exact h.nu (Kp.of_below hG.be)
        obtain ⟨bm, om, rfl, hat⟩ := hms.at_ hm
        obtain ⟨x0, x1, x2, x3, x4, hf⟩ := hat
        have eti : (i : Int).toNat = i := by omega
        have etk : (ms.take (i + 1)).flatMap mst = (ms.take i).flatMap mst ++ mst m := by rw [List.take_add_one, hm, List.flatMap_append]; simp
        obtain ⟨mf, mt, lo, hi, mn⟩ := m
        simp only at *
        obtain ⟨W1, hW1⟩ : ∃ W1, wr.alloc (.cells #[.int .u8 mf, .int .u8 mt, .int .u64 lo, .int .u64 hi, .int .i64 mn] 41) = W1 := ⟨_, rfl⟩
        have k1 : Kp Nu wr W1 := by rw [← hW1]; exact Kp.alloc _ _ _
        have bM : W1.heap[wr.heap.size]? = some (.cells #[.int .u8 mf, .int .u8 mt, .int .u64 lo, .int .u64 hi, .int .i64 mn] 41 (0, 0)) := by rw [← hW1]; exact heap_alloc_new wr _
        have G1 := hG.nu k1
        obtain ⟨y0, y1, y2, y3, y4⟩ := cell5 bM
        have cb := cell1 G1.bx
        obtain ⟨C, hC⟩ : ∃ C, ys.map (·.lo) ++ (ms.take i).flatMap mst = C := ⟨_, rfl⟩
        rw [hC] at G1 hCl
        obtain ⟨adu, cpu, hu⟩ := own_slice G1.ow
        have HG := hide (And.intro G1 (And.intro bM (And.intro hCl (And.intro hC (And.intro etk hf)))))
        have hCl2 : C.length ≤ 16384 := by omega
        have hszW := G1.be.size
        generalize eCL : C.length = CL at *
        have HCL := hide eCL
        subst hu
        clear hI hG hCl hm hms hf etk k1 bM G1 hC HV eCL
        gi_wp2_with (gi_at_builtin; refine unhid ?_)
        refine hide ?_
        obtain ⟨G1, bM, _⟩ := HG.out
        have ow1 := G1.ow
        rw [HCL.out] at ow1
        refine wpListIn_append_own _ rfl _ _ 23 rfl w.heap.size 24 i0 (.int .u64 0) 1 8 Tryz.underlying23 hi0 hz0 hz1 hz2 rfl (by decide) (.slice adu CL cpu) CL (ucs C) rfl (ow1.alloc _) ⟨W1.heap.size, 0, none⟩ 1 1 [.int .u64 lo] rfl rfl (cell_one_new _ _ _) (by simp [Value.oneCell']) (by unfold maxLen; omega) (by omega) (by rw [World.size_alloc]; omega) ?_
        intro v' w3 ho3 hg3 hnil3
        obtain ⟨ad3, cp3, ev3⟩ := own_slice ho3
        subst ev3
        rw [← HCL.out] at ho3
        obtain ⟨G2, q1, k2⟩ := G1.step hg3 ho3
        have bM2 := blk_kp bM k2 (G1.far bM (by decide) (by decide))
        rw [HCL.out] at G2 k2 bM2
        obtain ⟨W2, hW2⟩ : ∃ W2, w3.setCell ⟨w.heap.size, 0, none⟩ (.slice ad3 (CL + 1) cp3) = W2 := ⟨_, rfl⟩
        rw [hW2] at G2 k2 bM2
        have p1 := cell1 q1
        have p2 := free3 q1 0
        obtain ⟨z0, z1, z2, z3, z4⟩ := cell5 bM2
        have cb2 := cell1 G2.bx
        have HG2 := hide G2
        have hs2 := G2.be.size
        clear G1 bM ow1 ho3 hg3 hnil3 q1 k2 bM2 G2 y0 y1 y2 y3 y4 cb
        by_cases hhi : hi < 18446744073709551615
        · have dh : decide (hi < 18446744073709551615) = true := by simpa using hhi
          have hf := HG.out.2.2.2.2.2
          have h0 : 0 ≤ hi := hf.h0
          have wr1 : IntKind.u64.wrap (hi + 1) = hi + 1 := by rw [IntKind.wrap_u64]; omega
          have wr2 : (hi + 1) % 18446744073709551616 = hi + 1 := by omega
          have HH := hide hhi
          clear hf h0 hhi
          gi_wp2_with (gi_at_builtin; refine unhid ?_)
          refine hide ?_
          have ow2 := HG2.out.ow
          have hlen2 : (C ++ [lo]).length = CL + 1 := by rw [List.length_append, HCL.out]; rfl
          rw [hlen2] at ow2
          refine wpListIn_append_own _ rfl _ _ 23 rfl w.heap.size 24 i0 (.int .u64 0) 1 8 Tryz.underlying23 hi0 hz0 hz1 hz2 rfl (by decide) (.slice ad3 (CL + 1) cp3) (CL + 1) (ucs (C ++ [lo])) rfl (ow2.alloc _) ⟨W2.heap.size, 0, none⟩ 1 1 [.int .u64 (hi + 1)] rfl rfl (cell_one_new _ _ _) (by simp [Value.oneCell']) (by unfold maxLen; omega) (by omega) (by rw [World.size_alloc]; omega) ?_
          intro v' w4 ho4 hg4 hnil4
          obtain ⟨ad4, cp4, ev4⟩ := own_slice ho4
          subst ev4
          rw [← hlen2] at ho4
          obtain ⟨G3, q1, _⟩ := HG2.out.step hg4 ho4
          rw [hlen2] at G3
          have p1 := cell1 q1
          have p2 := free3 q1 0
          have HG3 := hide G3
          clear ow2 ho4 hg4 hnil4 q1 G3 z0 z1 z2 z3 z4 cb2
          gi_wp2
          obtain ⟨_, _, hCl, hC, etk, hf⟩ := HG.out
          have em : mst ⟨mf, mt, lo, hi, mn⟩ = [lo, hi + 1] := if_pos HH.out
          refine ⟨⟨i + 1, by go_num, by omega, hide ⟨.slice ad4 (CL + 1 + 1) cp4, ?_, ?_⟩⟩, by simp [intOf]; omega⟩
          · rw [etk, em, ← List.append_assoc, hC]
            have h := HG3.out
            rw [List.append_assoc] at h
            exact h
          · rw [etk, em, ← List.append_assoc, hC, List.length_append]
            have := HCL.out
            simp
            omega
        · have dh : decide (hi < 18446744073709551615) = false := by simpa using hhi
          have HH := hide hhi
          clear hhi
          gi_wp2
          obtain ⟨_, _, hCl, hC, etk, hf⟩ := HG.out
          have em : mst ⟨mf, mt, lo, hi, mn⟩ = [lo] := if_neg HH.out
          refine ⟨⟨i + 1, by go_num, by omega, hide ⟨.slice ad3 (CL + 1) cp3, ?_, ?_⟩⟩, by simp [intOf]; omega⟩
          · rw [etk, em, ← List.append_assoc, hC]
            exact HG2.out
          · rw [etk, em, ← List.append_assoc, hC, List.length_append]
            have := HCL.out
            simp
            omega
      · have hltI : ¬ (i : Int) < (N : Int) := by omega
        have ei : i = N := by omega
        have hall : ms.take i = ms := List.take_of_length_le (by rw [HU.out.2.1]; omega)
        rw [hall] at hG hCl
        have hne : 0 < (ys.map (·.lo) ++ ms.flatMap mst).length := by
          have := HU.out.2.2.1.tab.ne
          simp
          omega
        obtain ⟨C, hC⟩ : ∃ C, ys.map (·.lo) ++ ms.flatMap mst = C := ⟨_, rfl⟩
        rw [hC] at hG hCl hne
        obtain ⟨g, cap, e, hBg⟩ : ∃ g cap, uu = .slice (some ⟨g, 0, none⟩) C.length cap ∧ w.heap.size ≤ g := by
          rcases hG.ow.2 with ⟨_, e0⟩ | ⟨g', cap', cu, e0, hb, _⟩
          · omega
          · exact ⟨g', cap', e0, hb⟩
        subst e
        have DR : Dr wr w.heap.size g C.length cap C := ⟨hG.ow, rfl⟩
        have SO := sort85 wr w.heap.size g C.length cap C DR (by omega)
        have cb := cell1 hG.bx
        have HQ := hide (And.intro hG (And.intro hCl (And.intro hC (And.intro hne hBg))))
        obtain ⟨CL, eCL⟩ : ∃ CL, C.length = CL := ⟨_, rfl⟩
        rw [eCL] at SO cb
        have HE := hide eCL
        clear hI hG hCl hne DR hC hBg hall ei eCL
        gi_wp2_with fail
        refine ⟨trivial, (callsIn_wide.2 SO).mono ?_⟩
        rintro e w6 ⟨rfl, l6, d6, p6, s6, k6⟩
        have bx6 : w6.heap[w.heap.size]? = some (.cells #[.slice (some ⟨g, 0, none⟩) CL cap] 23 (0, 0)) := by
          obtain ⟨hG, _⟩ := HQ.out
          have q := hG.bx
          rw [HE.out] at q
          refine blk_kp q k6 (fun e => ?_)
          obtain ⟨c, e3⟩ := own_obj hG.ow (g := g) rfl
          rw [← e, hG.bx] at e3; cases e3
        have CO := compact86 w6 w.heap.size g CL cap l6 d6 s6 (by have := HQ.out.2.2.2.1; rw [HE.out] at this; exact this) (by have := HQ.out.2.1; rw [HE.out] at this; omega)
        have cb6 := cell1 bx6
        have H6 := hide (And.intro p6 (And.intro k6 bx6))
        clear SO cb d6 p6 s6 k6 bx6
        gi_wp2_with fail
        refine ⟨trivial, (callsIn_wide.2 CO).mono ?_⟩
        rintro e w7 ⟨kk, rfl, hk0, hkn, l7, d7, s7, m7, k7⟩
        have H7 := hide (And.intro d7 (And.intro s7 (And.intro m7 k7)))
        clear CO cb6 d7 s7 m7 k7
        gi_wp2
        obtain ⟨hG, hCl, hC, hne, hBg⟩ := HQ.out
        obtain ⟨p6, k6, _⟩ := H6.out
        obtain ⟨d7, s7, m7, k7⟩ := H7.out
        have hgD : g ≠ D := fun e => by
          obtain ⟨c, e3⟩ := own_obj hG.ow (g := g) rfl
          rw [e, hG.de] at e3; cases e3
        have kd6 : w6.heap[D]? = some (.deferred (some [])) := (k6.block _ (blk_lt hG.de) (fun e => hgD e.symm)).trans hG.de
        have kd7 : w7.heap[D]? = some (.deferred (some [])) := (k7.block _ (blk_lt kd6) (fun e => hgD e.symm)).trans kd6
        have be6 : Below w.heap.size w w6 := hG.be.trans (k6.below _ hG.be.size (fun j e => by have e2 : j = g := e; omega))
        have be7 : Below w.heap.size w w7 := be6.trans (k7.below _ be6.size (fun j e => by have e2 : j = g := e; omega))
        have hcl := HE.out
        refine ⟨by simp, .inl ⟨_, _, rfl, run_takeDeferred kd7, ?_⟩⟩
        refine ⟨.slice (some ⟨g, 0, none⟩) kk cap, by simp [results, Tryz.results55, go_sem], g, kk, cap, rfl, hk0, by omega, l7, ⟨own_keep d7.own (fun x e => World.putObj_heap_other (fun e2 => ?_)), d7.len⟩, s7, fun x => ?_, Kp.of_below (be7.trans (belowK_b (w := w) (Nat.le_refl _) w7 D _ _ (by omega) kd7 rfl rfl))⟩
        · simp [Value.ownBlock] at e
          omega
        · rw [m7 x, p6.mem_iff, hC]
end Go.Proofs.YtbifmcadllilhaaGreat.Rg
