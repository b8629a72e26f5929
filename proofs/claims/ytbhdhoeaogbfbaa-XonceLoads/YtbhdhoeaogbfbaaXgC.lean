import Derived.Test.YtbhdhoeaogbfbaaXgA
import Derived.Deep.AppendLies
import Derived.Deep.RegionHeld3
namespace Go.Proofs.Ytbhdhoeaogbfbaa.Xo
open Go.RowKit
set_option linter.unusedVariables false
set_option linter.unusedSimpArgs false
/-- the twin's queue stands -/
def TQ (w wr : World) (u : Value) (qs xs : List (Value × List Int)) : Prop := wr.ownsRow w.heap.size 45 1 u xs.length (xs.map Prod.fst) ∧ xs.length = qs.length ∧ ∀ (i : Nat) (x y : Value × List Int), xs[i]? = some x → qs[i]? = some y → x.2 = y.2 ∧ wr.ownsRow w.heap.size 5 1 x.1 x.2.length (cs x.2)
theorem TQ.keep {w wr w5 : World} {u v : Value} {qs xs : List (Value × List Int)} {b k : Nat} {c : Array Value} {fs : List Value} (h : TQ w wr u qs xs) (hb : wr.heap[b]? = some (.cells c 66 (0, 0))) (own : wr.ownsRow w.heap.size 133 2 v k fs) (k5 : Kp (fun i => i = b ∨ some i = v.ownBlock) wr w5) : TQ w w5 u qs xs := by
  have hk : ∀ (g : Nat) (cur : Array Value) (t : TypeId), wr.heap[g]? = some (.cells cur t (0, 0)) → t ≠ 66 → t ≠ 133 → w5.heap[g]? = wr.heap[g]? := fun g cur t hg h1 h2 => k5.block g (blk_lt hg) (by
    rintro (e | e)
    · exact blk_ne hg hb h1 e.symm
    · obtain ⟨cur', hc⟩ := own_obj own e.symm
      exact blk_ne hg hc h2 rfl)
  refine ⟨own_keep h.1 (fun g hg => by obtain ⟨cur, hc⟩ := own_obj h.1 hg; exact hk g cur 45 hc (by decide) (by decide)), h.2.1, fun i x y hx hy => ?_⟩
  obtain ⟨o1, o2⟩ := h.2.2 i x y hx hy
  exact ⟨o1, own_keep o2 (fun g hg => by obtain ⟨cur, hc⟩ := own_obj o2 hg; exact hk g cur 5 hc (by decide) (by decide))⟩
theorem cell_nuX {w w' : World} {a : Addr} {u : Value} (h : w.cell? a = some u) (k : Kp Nu w w') : w'.cell? a = some u :=
  (World.cell?_of_block (k.block _ (World.block_lt_of_cell? w _ h) (fun h => h))).trans h
theorem cells_two_new (w : World) (x y : Value) (t : TypeId) : ∀ j u, [x, y][j]? = some u → (w.alloc (.cells #[x, y] t)).cell? ((⟨w.heap.size, 0, none⟩ : Addr).add j) = some u := fun j u hj => by
  rw [Addr.add_lit, Nat.zero_add]
  exact cellAt (heap_alloc_new w _) j (by simpa using hj)
theorem info66s : (Try.prog.info? 66).map (·.size) = some 6 := by kernel_rfl
set_option maxRecDepth 100000 in
set_option maxHeartbeats 4000000 in
theorem twinP_any (w : World) (s a m d : Int) (q e : Value) (qs : List (Value × List Int)) (es : List Fm) (hq : Lq w q qs) (he : Le w e es) (hql : qs.length ≤ 5864062014634) (hys : ∀ x ∈ qs, x.2.length ≤ 140737488351232) (hel : es.length ≤ 4398046510976) (hfs : ∀ x ∈ es, x.ys.length ≤ 140737488351232) : Calls Try.prog 48 #[.agg #[.int .u64 s, .int .u64 a, q, .int .u64 m, .int .u64 d, e]] w fun e w' => ∃ t : Px, e = .returned (.agg #[.int .u64 t.p.sent, .int .u64 t.p.acked, t.p.q, .int .u64 t.p.mask, .int .u64 t.p.dlv, t.p.e]) ∧ Pm w' (fun i => w.heap.size ≤ i) t ∧ t.ab = ⟨s, a, m, d, qs.map Prod.snd, es.map fse⟩ ∧ Kp Nu w w' := by
  obtain ⟨i133, hi133, hx0, hx1, hx2⟩ := info_parts info133
  obtain ⟨aq, cq, rfl⟩ := hq.slice
  obtain ⟨ae, ce, rfl⟩ := he.slice
  generalize hn : qs.length = n at *
  generalize hne : es.length = ne at *
  have HQ := hide (And.intro hq (And.intro hn (And.intro hql hys)))
  have HF := hide (And.intro he (And.intro hne (And.intro hel hfs)))
  clear hq hn hql hys he hne hel hfs
  go_enter Try.func48, Try.ntmps48
  go_wp2
  go_loopw [4] (fun i wr => ∃ (k : Nat) (v : Value) (xs : List (Value × List Int)), k ≤ n ∧ i = .int .i64 (k : Int) ∧ Hid (T1 w wr #[.int .u64 s, .int .u64 a, .slice aq n cq, .int .u64 m, .int .u64 d, .slice ae ne ce] s a m d v qs xs k)) (fun i _ => n - (intOf i).toNat)
  case atStart =>
    refine ⟨0, _, [], by omega, rfl, ⟨(((Kp.refl _ _).andAlloc _).andAlloc _).andAlloc _, ?_, ?_, ?_, own_nil', rfl, fun i x y hx => by simp at hx⟩⟩
    · exact (Below.heap_alloc _ _ _ (by simp; omega)).trans ((Below.heap_alloc _ _ _ (by simp)).trans (heap_alloc_new w _))
    · refine (Below.heap_alloc _ _ _ (by simp)).trans ?_
      have := heap_alloc_new (w.alloc (.cells #[.int .u64 s, .int .u64 a, .slice aq n cq, .int .u64 m, .int .u64 d, .slice ae ne ce] 66)) (.cells #[.int .u64 0, .int .u64 0, .slice none 0 0, .int .u64 0, .int .u64 0, .slice none 0 0] 66)
      simpa using this
    · have := heap_alloc_new ((w.alloc (.cells #[.int .u64 s, .int .u64 a, .slice aq n cq, .int .u64 m, .int .u64 d, .slice ae ne ce] 66)).alloc (.cells #[.int .u64 0, .int .u64 0, .slice none 0 0, .int .u64 0, .int .u64 0, .slice none 0 0] 66)) (.cells #[.int .u64 s, .int .u64 a, .slice none 0 0, .int .u64 m, .int .u64 d, .slice none 0 0] 66)
      simpa using this
  case round =>
    obtain ⟨k, v, xs, hkn, rfl, HI⟩ := hrel
    by_cases hlt : k < n
    case neg =>
      obtain rfl : k = n := by omega
      have hI := HI.out
      obtain ⟨hq, hn, hql, hys⟩ := HQ.out
      obtain ⟨av, cv, ev⟩ := own_slice hI.own
      have x2 : wr.cell? ⟨w.heap.size, 2, none⟩ = some (.slice aq k cq) := cellAt hI.p0 2 rfl
      have HT0 : Hid (T2 w wr #[.int .u64 s, .int .u64 a, .slice aq k cq, .int .u64 m, .int .u64 d, .slice ae ne ce] s a m d v (.slice none 0 0) es [] 0 ∧ TQ w wr v qs xs) := ⟨⟨hI.kp, hI.p0, hI.r1, hI.q2, own_nil', rfl, fun i x y hx => by simp at hx⟩, by rw [hI.len]; exact hI.own, by rw [hI.len, hn], hI.pay⟩
      clear hI hlt hq hn hql hys
      go_wp2
      generalize wr = wl at *
      go_loopw [5] (fun i wr => ∃ (j : Nat) (z : Value) (ds : List Fm), j ≤ ne ∧ i = .int .i64 (j : Int) ∧ Hid (T2 w wr #[.int .u64 s, .int .u64 a, .slice aq k cq, .int .u64 m, .int .u64 d, .slice ae ne ce] s a m d v z es ds j ∧ TQ w wr v qs xs)) (fun i _ => ne - (intOf i).toNat)
      case atStart => exact ⟨0, _, [], by omega, rfl, HT0⟩
      case round =>
        obtain ⟨j, z, ds, hjn, rfl, HJ⟩ := hrel
        by_cases hlt : j < ne
        case neg =>
          obtain rfl : j = ne := by omega
          obtain ⟨hJ, hQ⟩ := HJ.out
          subst ev
          obtain ⟨azz, czz, ezz⟩ := own_slice hJ.own
          subst ezz
          obtain ⟨q0, q1, q2, q3, q4, q5⟩ := cell6 hJ.q2
          obtain ⟨r0, r1, r2, r3, r4, r5⟩ := cell6 hJ.r1
          have f0 := free3 hJ.r1 0
          have f1 := free3 hJ.r1 1
          have f2 := free3 hJ.r1 2
          have f3 := free3 hJ.r1 3
          have f4 := free3 hJ.r1 4
          have f5 := free3 hJ.r1 5
          have p5 := cellAt (v := .slice ae j ce) hJ.p0 5 rfl
          have HJ1 := hide (And.intro hJ hQ)
          clear hJ hQ HT0
          go_wp2_with fail
          have hJ := HJ1.out.1
          have hQ := HJ1.out.2
          have hb := set3 (set3 (set3 (set3 (set3 (set3 hJ.r1 0 (.int .u64 s)) 1 (.int .u64 a)) 2 (.slice av k cv)) 3 (.int .u64 m)) 4 (.int .u64 d)) 5 (.slice azz j czz)
          have kk : Kp (fun i => i = w.heap.size + 1) wr _ := (((((((Kp.refl (fun i => i = w.heap.size + 1) wr).put (o := 0) (u := .int .u64 s)).put (o := 1) (u := .int .u64 a)).put (o := 2) (u := .slice av k cv)).put (o := 3) (u := .int .u64 m)).put (o := 4) (u := .int .u64 d)).put (o := 5) (u := .slice azz j czz))
          refine bodyPost_ret (results_cell_row rfl _ _ (w.heap.size + 1) 66 _ _ _ rfl hb Try.underlying66 rfl info66s) rfl ?_
          have kN : ∀ {B e sz nn : Nat} {vv : Value} {ll : List Value}, wr.ownsRow B e sz vv nn ll → e ≠ 66 → ∀ g, vv.ownBlock = some g → g ≠ w.heap.size + 1 := fun h he g hg e2 => by
            obtain ⟨cur, hc⟩ := own_obj h hg
            rw [e2, hJ.r1] at hc
            injection hc with hc
            injection hc with _ h3 _
            exact he h3.symm
          have kO : ∀ {B e sz nn : Nat} {vv : Value} {ll : List Value}, wr.ownsRow B e sz vv nn ll → e ≠ 66 → _ := fun {B e sz nn vv ll} h he => own_keep (w' := _) h (fun g hg => kk.block g (own_lt h hg) (kN h he g hg))
          refine ⟨⟨⟨s, a, .slice av k cv, xs, m, d, .slice azz j czz⟩, ds⟩, rfl, ⟨own_base (kO hQ.1 (by decide)) (Nat.zero_le _), fun y hy => ?_, ?_, fun f hf => ?_, fun g hg => own_ge' hQ.1 hg, fun g hg => own_ge' hJ.own hg⟩, ?_, hJ.kp.trans kk (fun i hi e => by have e : i = w.heap.size + 1 := e; omega)⟩
          · obtain ⟨i, hi⟩ := List.mem_iff_getElem?.1 hy
            have hiq : i < qs.length := by rw [← hQ.2.1]; exact (List.getElem?_eq_some_iff.1 hi).1
            obtain ⟨o1, o2⟩ := hQ.2.2 i y _ hi (List.getElem?_eq_getElem hiq)
            exact ⟨own_base (kO o2 (by decide)) (Nat.zero_le _), fun g hg => own_ge' o2 hg⟩
          · rw [hJ.len]; exact own_base (kO hJ.own (by decide)) (Nat.zero_le _)
          · obtain ⟨i, hi⟩ := List.mem_iff_getElem?.1 hf
            have hie : i < es.length := by have h1 := HF.out.2.1; have h2 := hJ.len; have h3 : i < ds.length := (List.getElem?_eq_some_iff.1 hi).1; omega
            obtain ⟨o1, o2, o3⟩ := hJ.pay i f _ hi (List.getElem?_eq_getElem hie)
            exact ⟨own_base (kO o3 (by decide)) (Nat.zero_le _), fun g hg => own_ge' o3 hg⟩
          · have e1 : xs.map Prod.snd = qs.map Prod.snd := by
              refine List.ext_getElem? (fun i => ?_)
              rw [List.getElem?_map, List.getElem?_map]
              by_cases h1 : i < xs.length
              · have h2 : i < qs.length := by rw [← hQ.2.1]; exact h1
                rw [List.getElem?_eq_getElem h1, List.getElem?_eq_getElem h2]
                exact congrArg some (hQ.2.2 i _ _ (List.getElem?_eq_getElem h1) (List.getElem?_eq_getElem h2)).1
              · rw [List.getElem?_eq_none (by omega), List.getElem?_eq_none (by rw [← hQ.2.1]; omega)]
            have e2 : ds.map fse = es.map fse := by
              refine List.ext_getElem? (fun i => ?_)
              rw [List.getElem?_map, List.getElem?_map]
              have hl1 := hJ.len
              have hl2 := HF.out.2.1
              by_cases h1 : i < ds.length
              · have h2 : i < es.length := by omega
                rw [List.getElem?_eq_getElem h1, List.getElem?_eq_getElem h2]
                obtain ⟨o1, o2, _⟩ := hJ.pay i _ _ (List.getElem?_eq_getElem h1) (List.getElem?_eq_getElem h2)
                exact congrArg some (Prod.ext o1 o2)
              · rw [List.getElem?_eq_none (by omega), List.getElem?_eq_none (by omega)]
            show (⟨s, a, m, d, xs.map Prod.snd, ds.map fse⟩ : Ab) = _
            rw [e1, e2]
        obtain ⟨he, hne, hel, hfs⟩ := HF.out
        obtain ⟨hJ, hQ⟩ := HJ.out
        have hkv : j < es.length := by rw [hne]; exact hlt
        obtain ⟨y, hy⟩ : ∃ y, es[j]? = some y := ⟨es[j], List.getElem?_eq_getElem hkv⟩
        obtain ⟨r, off, ce', eq', hrl, hr0⟩ : ∃ r off c, (Value.slice ae ne ce) = .slice (some ⟨r, off, none⟩) es.length c ∧ Rfl wr r off es ∧ Rfl w r off es := by
          rcases he with ⟨ad, cap, e1, e2⟩ | ⟨r, off, c, e1, h⟩
          · rw [e2] at hkv; simp at hkv
          · exact ⟨r, off, c, e1, h.nu hJ.kp, h⟩
        obtain rfl : ae = some ⟨r, off, none⟩ := by cases eq'; rfl
        obtain ⟨az, cz, ez⟩ := own_slice hJ.own
        subst ez
        obtain ⟨ay, cy, ey⟩ := (hrl j y hy).2.2.slice
        have TW := fun W (kW : Kp Nu wr W) => twin_any W y.v y.ys ((hrl.nu kW) j y hy).2.2 (hfs y (List.mem_of_getElem? hy))
        rw [ey] at TW
        have KS : ∀ W, Kp (fun i => i = w.heap.size + 1 + 1 ∨ some i = (Value.slice az j cz).ownBlock) wr W → W.cell? ⟨w.heap.size, 5, none⟩ = some (.slice (some ⟨r, off, none⟩) ne ce) ∧ W.cell? ⟨r, off + j * 2, none⟩ = some (.int .u64 y.seq) ∧ W.cell? ⟨r, off + j * 2 + 1, none⟩ = some (.slice ay y.ys.length cy) := fun W kW => by
          obtain ⟨hc1, hc2, _⟩ := hr0 j y hy
          rw [ey] at hc2
          have kw0 : Kp Nu w W := hJ.kp.trans kW (fun i hi e => by
            rcases e with e | e
            · omega
            · have := own_ge' hJ.own e.symm; omega)
          refine ⟨cellAt ((kW.block _ (blk_lt hJ.p0) (fun e => ?_)).trans hJ.p0) 5 rfl, cell_nuX hc1 kw0, cell_nuX hc2 kw0⟩
          rcases e with e | e
          · omega
          · obtain ⟨cur, hc⟩ := own_obj hJ.own e.symm
            have := hJ.p0; rw [hc] at this; cases this
        have CQ : ∀ W, Kp Nu wr W → W.cell? ⟨w.heap.size + 1 + 1, 5, none⟩ = some (.slice az j cz) := fun W kW => cellAt (v := .slice az j cz) ((kW.block _ (blk_lt hJ.q2) (fun h => h)).trans hJ.q2) 5 rfl
        have HO : Hid (∀ W, Kp Nu wr W → W.ownsRow w.heap.size 133 2 (.slice az j cz) j (ff ds)) := hide (fun W k => own_keep hJ.own (fun g hg => k.block g (own_lt hJ.own hg) (fun h => h)))
        have HQ6 : Hid (∀ W, Kp (fun i => some i = (Value.slice az j cz).ownBlock) wr W → W.heap[w.heap.size + 1 + 1]? = some (.cells #[.int .u64 s, .int .u64 a, v, .int .u64 m, .int .u64 d, .slice az j cz] 66 (0, 0))) := hide (fun W k => (k.block _ (blk_lt hJ.q2) (fun e => by
          obtain ⟨cur, hc⟩ := own_obj hJ.own e.symm
          have := hJ.q2; rw [hc] at this; cases this)).trans hJ.q2)
        have HZB : Hid (w.heap.size ≤ wr.heap.size) := hide hJ.kp.size
        have KD := (Kp.refl Nu wr).drew
        have KM : ∀ {W}, Kp Nu wr W → Kp (fun i => i = w.heap.size + 1 + 1 ∨ some i = (Value.slice az j cz).ownBlock) wr W := fun k => k.mono (fun _ _ e => e.elim)
        have x5 := CQ _ (Kp.refl Nu wr)
        have hltI : (j : Int) < (ne : Int) := by omega
        have hk0 : (0 : Int) ≤ (j : Int) := by omega
        have hwk : Hid (wrap64 ((j : Int) + 1) = ((j + 1 : Nat) : Int)) := by show wrap64 _ = _; unfold wrap64; omega
        have HJB : Hid (j ≤ 4398046510976) := hide (by omega)
        generalize hM : y.ys.length = M at *
        have HM := hide hM
        clear he hne hel hfs hJ hQ hkv eq' hrl hr0 ey hM
        obtain ⟨c0, c1, c2⟩ := KS wr (KM (Kp.refl _ _))
        go_wp2_with fail
        refine wp_region_held_drew (S := (fun W => W.cell? ⟨w.heap.size, 5, none⟩ = some (.slice (some ⟨r, off, none⟩) ne ce) ∧ W.cell? ⟨r, off + j * 2, none⟩ = some (.int .u64 y.seq) ∧ W.cell? ⟨r, off + j * 2 + 1, none⟩ = some (.slice ay M cy))) (by kernel_rfl) (KS _ (KM KD)) (fun hHeld => ?_)
        refine wpAnyH_take (i := 0) (oi := ?oi0) (v := ?v0) ?ho0 (by kernel_rfl) (by kernel_rfl) (by kernel_rfl) ?hq0 ?hy0 (by assumption) ?_
        case ho0 => (simp only [List.getElem?_toArray, List.getElem?_cons_succ, List.getElem?_cons_zero]; rfl)
        case hq0 => exact fun _ _ _ h => h
        case hy0 => (refine Or.inl ⟨by rfl, ?_⟩; intro w hSw; obtain ⟨g1, g2, g3⟩ := hSw; go_simp; try with_reducible rfl)
        try simp only [Act.put, List.setIfInBounds_toArray, List.set_cons_zero, List.set_cons_succ]
        refine wpAnyH_take (i := 2) (oi := ?oi2) (v := ?v2) ?ho2 (by kernel_rfl) (by kernel_rfl) (by kernel_rfl) ?hq2 ?hy2 (by assumption) ?_
        case ho2 => (simp only [List.getElem?_toArray, List.getElem?_cons_succ, List.getElem?_cons_zero]; rfl)
        case hq2 => exact fun _ _ _ h => h
        case hy2 => (refine Or.inl ⟨by rfl, ?_⟩; intro w hSw; obtain ⟨g1, g2, g3⟩ := hSw; go_simp; try with_reducible rfl)
        try simp only [Act.put, List.setIfInBounds_toArray, List.set_cons_zero, List.set_cons_succ]
        refine wpAnyH_take (i := 3) (oi := ?oi3) (v := ?v3) ?ho3 (by kernel_rfl) (by kernel_rfl) (by kernel_rfl) ?hq3 ?hy3 (by assumption) ?_
        case ho3 => (simp only [List.getElem?_toArray, List.getElem?_cons_succ, List.getElem?_cons_zero]; rfl)
        case hq3 => exact fun _ _ _ h => h
        case hy3 => (refine Or.inl ⟨by rfl, ?_⟩; intro w hSw; obtain ⟨g1, g2, g3⟩ := hSw; go_simp; try with_reducible rfl)
        try simp only [Act.put, List.setIfInBounds_toArray, List.set_cons_zero, List.set_cons_succ]
        refine wpAnyH_take (i := 4) (oi := ?oi4) (v := ?v4) ?ho4 (by kernel_rfl) (by kernel_rfl) (by kernel_rfl) ?hq4 ?hy4 (by assumption) ?_
        case ho4 => (simp only [List.getElem?_toArray, List.getElem?_cons_succ, List.getElem?_cons_zero]; rfl)
        case hq4 => exact fun _ _ _ h => h
        case hy4 => (refine Or.inl ⟨by rfl, ?_⟩; intro w hSw; obtain ⟨g1, g2, g3⟩ := hSw; go_simp; try with_reducible rfl)
        try simp only [Act.put, List.setIfInBounds_toArray, List.set_cons_zero, List.set_cons_succ]
        refine wpAnyH_take (i := 5) (oi := ?oi5) (v := ?v5) ?ho5 (by kernel_rfl) (by kernel_rfl) (by kernel_rfl) ?hq5 ?hy5 (by assumption) ?_
        case ho5 => (simp only [List.getElem?_toArray, List.getElem?_cons_succ, List.getElem?_cons_zero]; rfl)
        case hq5 => exact fun _ _ _ h => h
        case hy5 => (refine Or.inl ⟨by rfl, ?_⟩; intro w hSw; obtain ⟨g1, g2, g3⟩ := hSw; go_simp; try with_reducible rfl)
        try simp only [Act.put, List.setIfInBounds_toArray, List.set_cons_zero, List.set_cons_succ]
        refine wpAnyH_take (i := 6) (oi := ?oi6) (v := ?v6) ?ho6 (by kernel_rfl) (by kernel_rfl) (by kernel_rfl) ?hq6 ?hy6 (by assumption) ?_
        case ho6 => (simp only [List.getElem?_toArray, List.getElem?_cons_succ, List.getElem?_cons_zero]; rfl)
        case hq6 => exact fun _ _ _ h => h
        case hy6 => (refine Or.inl ⟨by rfl, ?_⟩; intro w hSw; obtain ⟨g1, g2, g3⟩ := hSw; go_simp; try with_reducible rfl)
        try simp only [Act.put, List.setIfInBounds_toArray, List.set_cons_zero, List.set_cons_succ]
        refine wpAnyH_take (i := 7) (oi := ?oi7) (v := ?v7) ?ho7 (by kernel_rfl) (by kernel_rfl) (by kernel_rfl) ?hq7 ?hy7 (by assumption) ?_
        case ho7 => (simp only [List.getElem?_toArray, List.getElem?_cons_succ, List.getElem?_cons_zero]; rfl)
        case hq7 => exact fun _ _ _ h => h
        case hy7 => (refine Or.inl ⟨by rfl, ?_⟩; intro w hSw; obtain ⟨g1, g2, g3⟩ := hSw; go_simp; try with_reducible rfl)
        try simp only [Act.put, List.setIfInBounds_toArray, List.set_cons_zero, List.set_cons_succ]
        refine wpAnyH_take (i := 8) (oi := ?oi8) (v := ?v8) ?ho8 (by kernel_rfl) (by kernel_rfl) (by kernel_rfl) ?hq8 ?hy8 (by assumption) ?_
        case ho8 => (simp only [List.getElem?_toArray, List.getElem?_cons_succ, List.getElem?_cons_zero]; rfl)
        case hq8 => exact fun _ _ _ h => h
        case hy8 => (refine Or.inl ⟨by rfl, ?_⟩; intro w hSw; obtain ⟨g1, g2, g3⟩ := hSw; go_simp; try with_reducible rfl)
        try simp only [Act.put, List.setIfInBounds_toArray, List.set_cons_zero, List.set_cons_succ]
        refine wpAnyH_take (i := 9) (oi := ?oi9) (v := ?v9) ?ho9 (by kernel_rfl) (by kernel_rfl) (by kernel_rfl) ?hq9 ?hy9 (by assumption) ?_
        case ho9 => (simp only [List.getElem?_toArray, List.getElem?_cons_succ, List.getElem?_cons_zero]; rfl)
        case hq9 => exact fun _ _ _ h => h
        case hy9 => (refine Or.inl ⟨by rfl, ?_⟩; intro w hSw; obtain ⟨g1, g2, g3⟩ := hSw; go_simp; try with_reducible rfl)
        try simp only [Act.put, List.setIfInBounds_toArray, List.set_cons_zero, List.set_cons_succ]
        refine wpAnyH_take (i := 10) (oi := ?oi10) (v := ?v10) ?ho10 (by kernel_rfl) (by kernel_rfl) (by kernel_rfl) ?hq10 ?hy10 (by assumption) ?_
        case ho10 => (simp only [List.getElem?_toArray, List.getElem?_cons_succ, List.getElem?_cons_zero]; rfl)
        case hq10 => exact fun _ _ _ h => h
        case hy10 => (refine Or.inl ⟨by rfl, ?_⟩; intro w hSw; obtain ⟨g1, g2, g3⟩ := hSw; go_simp; try with_reducible rfl)
        try simp only [Act.put, List.setIfInBounds_toArray, List.set_cons_zero, List.set_cons_succ]
        refine wpAnyH_take (i := 11) (oi := ?oi11) (v := ?v11) ?ho11 (by kernel_rfl) (by kernel_rfl) (by kernel_rfl) ?hq11 ?hy11 (by assumption) ?_
        case ho11 => (simp only [List.getElem?_toArray, List.getElem?_cons_succ, List.getElem?_cons_zero]; rfl)
        case hq11 => exact fun _ _ _ h => h
        case hy11 => (refine Or.inl ⟨by rfl, ?_⟩; intro w hSw; obtain ⟨g1, g2, g3⟩ := hSw; go_simp; try with_reducible rfl)
        try simp only [Act.put, List.setIfInBounds_toArray, List.set_cons_zero, List.set_cons_succ]
        refine wpAnyH_take (i := 12) (oi := ?oi12) (v := ?v12) ?ho12 (by kernel_rfl) (by kernel_rfl) (by kernel_rfl) ?hq12 ?hy12 (by assumption) ?_
        case ho12 => (simp only [List.getElem?_toArray, List.getElem?_cons_succ, List.getElem?_cons_zero]; rfl)
        case hq12 => exact fun _ _ _ h => h
        case hy12 => (refine Or.inl ⟨by rfl, ?_⟩; intro w hSw; obtain ⟨g1, g2, g3⟩ := hSw; go_simp; try with_reducible rfl)
        try simp only [Act.put, List.setIfInBounds_toArray, List.set_cons_zero, List.set_cons_succ]
        refine wpAnyH_take (i := 13) (oi := ?oi13) (v := ?v13) ?ho13 (by kernel_rfl) (by kernel_rfl) (by kernel_rfl) ?hq13 ?hy13 (by assumption) ?_
        case ho13 => (simp only [List.getElem?_toArray, List.getElem?_cons_succ, List.getElem?_cons_zero]; rfl)
        case hq13 => exact fun _ _ _ h => h
        case hy13 => (refine Or.inl ⟨by rfl, ?_⟩; intro w hSw; obtain ⟨g1, g2, g3⟩ := hSw; go_simp; try with_reducible rfl)
        try simp only [Act.put, List.setIfInBounds_toArray, List.set_cons_zero, List.set_cons_succ]
        refine wpAnyH_ready (rs := [1, 14]) (by kernel_rfl) (by simp) ?_
        refine AllReadyH.cons rfl (fun K hK => ?_) (AllReadyH.cons rfl (fun K hK => ?_) AllReadyH.nil)
        · skip
          go_simp
          refine hK.out _ _ (KS _ (KM KD)) (fun hHelda => ?_)
          clear hK K
          try simp only [Act.put, List.setIfInBounds_toArray, List.set_cons_zero, List.set_cons_succ]
          refine wpAnyH_ready (rs := [14]) (by kernel_rfl) (by simp) ?_
          refine AllReadyH.cons rfl (fun K hK => ?_) AllReadyH.nil
          go_simp
          go_at_call 76
          refine (TW _ KD).mono ?_
          rintro e w3 ⟨d3, rfl, ho3, hk3⟩
          obtain ⟨a3, cap3, e3⟩ := own_slice ho3
          subst e3
          have hk3 := (Kp.refl Nu wr).drew.andNu hk3
          have y5 := CQ _ hk3
          go_wp2_with fail
          refine hK.out _ _ (KS _ (KM hk3)) (fun hHeldb => ?_)
          clear hK K
          try simp only [Act.put, List.setIfInBounds_toArray, List.set_cons_zero, List.set_cons_succ]
          refine wpAnyH_take (i := 15) (oi := ?oi15a) (v := ?v15a) ?ho15a (by kernel_rfl) (by kernel_rfl) (by kernel_rfl) ?hq15a ?hy15a (by assumption) ?_
          case ho15a => (simp only [List.getElem?_toArray, List.getElem?_cons_succ, List.getElem?_cons_zero]; rfl)
          case hq15a => exact fun _ _ _ h => h
          case hy15a => (refine Or.inl ⟨by rfl, ?_⟩; intro w hSw; obtain ⟨g1, g2, g3⟩ := hSw; go_simp; try with_reducible rfl)
          try simp only [Act.put, List.setIfInBounds_toArray, List.set_cons_zero, List.set_cons_succ]
          refine wpAnyH_ready (rs := [16]) (by kernel_rfl) (by simp) ?_
          refine AllReadyH.cons rfl (fun K hK => ?_) AllReadyH.nil
          go_simp
          refine hK.out _ _ (KS _ (KM (hk3.andAlloc _))) (fun hHeldc => ?_)
          clear hK K
          try simp only [Act.put, List.setIfInBounds_toArray, List.set_cons_zero, List.set_cons_succ]
          refine wpAnyH_ready (rs := [17]) (by kernel_rfl) (by simp) ?_
          refine AllReadyH.cons rfl (fun K hK => ?_) AllReadyH.nil
          refine step_append_lies _ (by rfl) (.tmp 41) (.tmp 56) 64 (by rfl) w.heap.size 133 i133 (.agg #[.int .u64 0, .slice none 0 0]) 2 32 Try.underlying64 hi133 hx0 hx1 hx2 rfl (by decide) (.slice az j cz) j (ff ds) (by rfl) (HO.out _ (hk3.andAlloc _)) ⟨w3.heap.size, 0, none⟩ 1 1 [.int .u64 y.seq, .slice a3 M cap3] (by rfl) rfl (cells_two_new _ _ _ _) (by intro x hx; simp at hx; rcases hx with rfl | rfl <;> rfl) (by decide) (by have := HJB.out; unfold maxLen; omega) (by have := HJB.out; omega) (by have := hk3.size; have := HZB.out; simp; omega) _ rfl ?_
          intro g gc w6 hown hgrow hlie hglt
          have k6s : Kp (fun i => some i = (Value.slice az j cz).ownBlock) wr w6 := ((hk3.andAlloc _).mono (fun _ _ e => e.elim)).trans (Kp.of_grown hgrow) (fun i hi e => e)
          have k6 : Kp (fun i => i = w.heap.size + 1 + 1 ∨ some i = (Value.slice az j cz).ownBlock) wr w6 := k6s.mono (fun _ _ e => .inr e)
          have hb6 := HQ6.out _ k6s
          have y6 := cellAt hb6 5 rfl
          have f6 := free3 hb6 5
          refine hK.out _ _ (KS _ k6) (fun hHelddp => ?_)
          clear hK K
          try simp only [Act.put, List.setIfInBounds_toArray, List.set_cons_zero, List.set_cons_succ]
          refine wpAnyH_take (i := 18) (oi := ?oi18d) (v := ?v18d) ?ho18d (by kernel_rfl) (by kernel_rfl) (by kernel_rfl) ?hq18d ?hy18d (by assumption) ?_
          case ho18d => (simp only [List.getElem?_toArray, List.getElem?_cons_succ, List.getElem?_cons_zero]; rfl)
          case hq18d => exact fun _ _ _ h => h
          case hy18d => (refine Or.inl ⟨by rfl, ?_⟩; intro w hSw; obtain ⟨g1, g2, g3⟩ := hSw; go_simp; try with_reducible rfl)
          try simp only [Act.put, List.setIfInBounds_toArray, List.set_cons_zero, List.set_cons_succ]
          refine wpAnyH_ready (rs := [19]) (by kernel_rfl) (by simp) ?_
          refine AllReadyH.cons rfl (fun K hK => ?_) AllReadyH.nil
          go_simp
          refine hK.out _ _ (KS _ (k6.andSet _ _ (.inr (.inl rfl)))) (fun hHeldds => ?_)
          clear hK K
          try simp only [Act.put, List.setIfInBounds_toArray, List.set_cons_zero, List.set_cons_succ]
          refine wpAnyH_done (by kernel_rfl) ?_ _
          have hs7 : Kp (fun i => i = w.heap.size + 1 + 1) w6 (w6.setCell ⟨w.heap.size + 1 + 1, 5, none⟩ (.slice (some ⟨g, 0, none⟩) (j + 1) gc)) := (Kp.refl _ _).put
          have hb7 := set3 hb6 5 (.slice (some ⟨g, 0, none⟩) (j + 1) gc)
          have ho7 : (w6.setCell ⟨w.heap.size + 1 + 1, 5, none⟩ (.slice (some ⟨g, 0, none⟩) (j + 1) gc)).ownsRow w.heap.size 133 2 (.slice (some ⟨g, 0, none⟩) (j + 1) gc) (j + 1) (ff ds ++ [.int .u64 y.seq, .slice a3 M cap3]) := own_keep hown (fun q hq => hs7.block q (own_lt hown hq) (fun e => by
            obtain ⟨cur, hc⟩ := own_obj hown hq
            exact blk_ne hb6 hc (by decide) e))
          have h47 : ∀ (i : Nat) (cur : Array Value), w3.heap[i]? = some (.cells cur 5 (0, 0)) → (w6.setCell ⟨w.heap.size + 1 + 1, 5, none⟩ (.slice (some ⟨g, 0, none⟩) (j + 1) gc)).heap[i]? = w3.heap[i]? := fun i cur hc => by
            have ha : (w3.alloc (.cells #[.int .u64 y.seq, .slice a3 M cap3] 133)).heap[i]? = w3.heap[i]? := Below.heap_alloc _ _ _ (blk_lt hc)
            have h6 : w6.heap[i]? = w3.heap[i]? := ((Kp.of_grown hgrow).block i (by have := blk_lt hc; simp; omega) (fun e => by
              obtain ⟨cur', hc2⟩ := own_obj (HO.out _ (hk3.andAlloc (.cells #[.int .u64 y.seq, .slice a3 M cap3] 133))) e.symm
              rw [ha, hc] at hc2
              cases hc2)).trans ha
            exact (hs7.block i (blk_lt (h6.trans hc)) (fun e => blk_ne hb6 (h6.trans hc) (by decide) e)).trans h6
          have hk7 := k6.trans hs7 (fun _ _ e => .inl e)
          have hZ := T2.step HJ.out.1 hy hk3 (by rw [HM.out]; exact ho3) hb7 ho7 hk7 h47
          have hQ2 := HJ.out.2.keep HJ.out.1.q2 HJ.out.1.own hk7
          have HZ := hide (And.intro hZ hQ2)
          clear hs7 hb7 ho7 h47 hk7 hZ hQ2 hown hgrow hlie hglt k6s k6 hb6 y6 f6 TW KS CQ HO HQ6 KM x5 c0 c1 c2
          go_wp2
          exact ⟨⟨j + 1, _, _, hlt, by rw [hwk.out], HZ⟩, lt_m _ hwk.out hlt⟩
        · skip
          go_simp
          go_at_call 76
          refine (TW _ KD).mono ?_
          rintro e w3 ⟨d3, rfl, ho3, hk3⟩
          obtain ⟨a3, cap3, e3⟩ := own_slice ho3
          subst e3
          have hk3 := (Kp.refl Nu wr).drew.andNu hk3
          have y5 := CQ _ hk3
          go_wp2_with fail
          refine hK.out _ _ (KS _ (KM hk3)) (fun hHelde => ?_)
          clear hK K
          try simp only [Act.put, List.setIfInBounds_toArray, List.set_cons_zero, List.set_cons_succ]
          refine wpAnyH_take (i := 15) (oi := ?oi15b) (v := ?v15b) ?ho15b (by kernel_rfl) (by kernel_rfl) (by kernel_rfl) ?hq15b ?hy15b (by assumption) ?_
          case ho15b => (simp only [List.getElem?_toArray, List.getElem?_cons_succ, List.getElem?_cons_zero]; rfl)
          case hq15b => exact fun _ _ _ h => h
          case hy15b => (refine Or.inl ⟨by rfl, ?_⟩; intro w hSw; obtain ⟨g1, g2, g3⟩ := hSw; go_simp; try with_reducible rfl)
          try simp only [Act.put, List.setIfInBounds_toArray, List.set_cons_zero, List.set_cons_succ]
          refine wpAnyH_ready (rs := [1, 16]) (by kernel_rfl) (by simp) ?_
          refine AllReadyH.cons rfl (fun K hK => ?_) (AllReadyH.cons rfl (fun K hK => ?_) AllReadyH.nil)
          · skip
            go_simp
            refine hK.out _ _ (KS _ (KM hk3)) (fun hHeldf => ?_)
            clear hK K
            try simp only [Act.put, List.setIfInBounds_toArray, List.set_cons_zero, List.set_cons_succ]
            refine wpAnyH_ready (rs := [16]) (by kernel_rfl) (by simp) ?_
            refine AllReadyH.cons rfl (fun K hK => ?_) AllReadyH.nil
            go_simp
            refine hK.out _ _ (KS _ (KM (hk3.andAlloc _))) (fun hHeldg => ?_)
            clear hK K
            try simp only [Act.put, List.setIfInBounds_toArray, List.set_cons_zero, List.set_cons_succ]
            refine wpAnyH_ready (rs := [17]) (by kernel_rfl) (by simp) ?_
            refine AllReadyH.cons rfl (fun K hK => ?_) AllReadyH.nil
            refine step_append_lies _ (by rfl) (.tmp 41) (.tmp 56) 64 (by rfl) w.heap.size 133 i133 (.agg #[.int .u64 0, .slice none 0 0]) 2 32 Try.underlying64 hi133 hx0 hx1 hx2 rfl (by decide) (.slice az j cz) j (ff ds) (by rfl) (HO.out _ (hk3.andAlloc _)) ⟨w3.heap.size, 0, none⟩ 1 1 [.int .u64 y.seq, .slice a3 M cap3] (by rfl) rfl (cells_two_new _ _ _ _) (by intro x hx; simp at hx; rcases hx with rfl | rfl <;> rfl) (by decide) (by have := HJB.out; unfold maxLen; omega) (by have := HJB.out; omega) (by have := hk3.size; have := HZB.out; simp; omega) _ rfl ?_
            intro g gc w6 hown hgrow hlie hglt
            have k6s : Kp (fun i => some i = (Value.slice az j cz).ownBlock) wr w6 := ((hk3.andAlloc _).mono (fun _ _ e => e.elim)).trans (Kp.of_grown hgrow) (fun i hi e => e)
            have k6 : Kp (fun i => i = w.heap.size + 1 + 1 ∨ some i = (Value.slice az j cz).ownBlock) wr w6 := k6s.mono (fun _ _ e => .inr e)
            have hb6 := HQ6.out _ k6s
            have y6 := cellAt hb6 5 rfl
            have f6 := free3 hb6 5
            refine hK.out _ _ (KS _ k6) (fun hHeldhp => ?_)
            clear hK K
            try simp only [Act.put, List.setIfInBounds_toArray, List.set_cons_zero, List.set_cons_succ]
            refine wpAnyH_take (i := 18) (oi := ?oi18h) (v := ?v18h) ?ho18h (by kernel_rfl) (by kernel_rfl) (by kernel_rfl) ?hq18h ?hy18h (by assumption) ?_
            case ho18h => (simp only [List.getElem?_toArray, List.getElem?_cons_succ, List.getElem?_cons_zero]; rfl)
            case hq18h => exact fun _ _ _ h => h
            case hy18h => (refine Or.inl ⟨by rfl, ?_⟩; intro w hSw; obtain ⟨g1, g2, g3⟩ := hSw; go_simp; try with_reducible rfl)
            try simp only [Act.put, List.setIfInBounds_toArray, List.set_cons_zero, List.set_cons_succ]
            refine wpAnyH_ready (rs := [19]) (by kernel_rfl) (by simp) ?_
            refine AllReadyH.cons rfl (fun K hK => ?_) AllReadyH.nil
            go_simp
            refine hK.out _ _ (KS _ (k6.andSet _ _ (.inr (.inl rfl)))) (fun hHeldhs => ?_)
            clear hK K
            try simp only [Act.put, List.setIfInBounds_toArray, List.set_cons_zero, List.set_cons_succ]
            refine wpAnyH_done (by kernel_rfl) ?_ _
            have hs7 : Kp (fun i => i = w.heap.size + 1 + 1) w6 (w6.setCell ⟨w.heap.size + 1 + 1, 5, none⟩ (.slice (some ⟨g, 0, none⟩) (j + 1) gc)) := (Kp.refl _ _).put
            have hb7 := set3 hb6 5 (.slice (some ⟨g, 0, none⟩) (j + 1) gc)
            have ho7 : (w6.setCell ⟨w.heap.size + 1 + 1, 5, none⟩ (.slice (some ⟨g, 0, none⟩) (j + 1) gc)).ownsRow w.heap.size 133 2 (.slice (some ⟨g, 0, none⟩) (j + 1) gc) (j + 1) (ff ds ++ [.int .u64 y.seq, .slice a3 M cap3]) := own_keep hown (fun q hq => hs7.block q (own_lt hown hq) (fun e => by
              obtain ⟨cur, hc⟩ := own_obj hown hq
              exact blk_ne hb6 hc (by decide) e))
            have h47 : ∀ (i : Nat) (cur : Array Value), w3.heap[i]? = some (.cells cur 5 (0, 0)) → (w6.setCell ⟨w.heap.size + 1 + 1, 5, none⟩ (.slice (some ⟨g, 0, none⟩) (j + 1) gc)).heap[i]? = w3.heap[i]? := fun i cur hc => by
              have ha : (w3.alloc (.cells #[.int .u64 y.seq, .slice a3 M cap3] 133)).heap[i]? = w3.heap[i]? := Below.heap_alloc _ _ _ (blk_lt hc)
              have h6 : w6.heap[i]? = w3.heap[i]? := ((Kp.of_grown hgrow).block i (by have := blk_lt hc; simp; omega) (fun e => by
                obtain ⟨cur', hc2⟩ := own_obj (HO.out _ (hk3.andAlloc (.cells #[.int .u64 y.seq, .slice a3 M cap3] 133))) e.symm
                rw [ha, hc] at hc2
                cases hc2)).trans ha
              exact (hs7.block i (blk_lt (h6.trans hc)) (fun e => blk_ne hb6 (h6.trans hc) (by decide) e)).trans h6
            have hk7 := k6.trans hs7 (fun _ _ e => .inl e)
            have hZ := T2.step HJ.out.1 hy hk3 (by rw [HM.out]; exact ho3) hb7 ho7 hk7 h47
            have hQ2 := HJ.out.2.keep HJ.out.1.q2 HJ.out.1.own hk7
            have HZ := hide (And.intro hZ hQ2)
            clear hs7 hb7 ho7 h47 hk7 hZ hQ2 hown hgrow hlie hglt k6s k6 hb6 y6 f6 TW KS CQ HO HQ6 KM x5 c0 c1 c2
            go_wp2
            exact ⟨⟨j + 1, _, _, hlt, by rw [hwk.out], HZ⟩, lt_m _ hwk.out hlt⟩
          · skip
            go_simp
            refine hK.out _ _ (KS _ (KM (hk3.andAlloc _))) (fun hHeldi => ?_)
            clear hK K
            try simp only [Act.put, List.setIfInBounds_toArray, List.set_cons_zero, List.set_cons_succ]
            have z5 := CQ _ (hk3.andAlloc (.cells #[.int .u64 y.seq, .slice a3 M cap3] 133))
            refine wpAnyH_ready (rs := [1]) (by kernel_rfl) (by simp) ?_
            refine AllReadyH.cons rfl (fun K hK => ?_) AllReadyH.nil
            go_simp
            refine hK.out _ _ (KS _ (KM (hk3.andAlloc _))) (fun hHeldj => ?_)
            clear hK K
            try simp only [Act.put, List.setIfInBounds_toArray, List.set_cons_zero, List.set_cons_succ]
            refine wpAnyH_ready (rs := [17]) (by kernel_rfl) (by simp) ?_
            refine AllReadyH.cons rfl (fun K hK => ?_) AllReadyH.nil
            refine step_append_lies _ (by rfl) (.tmp 41) (.tmp 56) 64 (by rfl) w.heap.size 133 i133 (.agg #[.int .u64 0, .slice none 0 0]) 2 32 Try.underlying64 hi133 hx0 hx1 hx2 rfl (by decide) (.slice az j cz) j (ff ds) (by rfl) (HO.out _ (hk3.andAlloc _)) ⟨w3.heap.size, 0, none⟩ 1 1 [.int .u64 y.seq, .slice a3 M cap3] (by rfl) rfl (cells_two_new _ _ _ _) (by intro x hx; simp at hx; rcases hx with rfl | rfl <;> rfl) (by decide) (by have := HJB.out; unfold maxLen; omega) (by have := HJB.out; omega) (by have := hk3.size; have := HZB.out; simp; omega) _ rfl ?_
            intro g gc w6 hown hgrow hlie hglt
            have k6s : Kp (fun i => some i = (Value.slice az j cz).ownBlock) wr w6 := ((hk3.andAlloc _).mono (fun _ _ e => e.elim)).trans (Kp.of_grown hgrow) (fun i hi e => e)
            have k6 : Kp (fun i => i = w.heap.size + 1 + 1 ∨ some i = (Value.slice az j cz).ownBlock) wr w6 := k6s.mono (fun _ _ e => .inr e)
            have hb6 := HQ6.out _ k6s
            have y6 := cellAt hb6 5 rfl
            have f6 := free3 hb6 5
            refine hK.out _ _ (KS _ k6) (fun hHeldkp => ?_)
            clear hK K
            try simp only [Act.put, List.setIfInBounds_toArray, List.set_cons_zero, List.set_cons_succ]
            refine wpAnyH_take (i := 18) (oi := ?oi18k) (v := ?v18k) ?ho18k (by kernel_rfl) (by kernel_rfl) (by kernel_rfl) ?hq18k ?hy18k (by assumption) ?_
            case ho18k => (simp only [List.getElem?_toArray, List.getElem?_cons_succ, List.getElem?_cons_zero]; rfl)
            case hq18k => exact fun _ _ _ h => h
            case hy18k => (refine Or.inl ⟨by rfl, ?_⟩; intro w hSw; obtain ⟨g1, g2, g3⟩ := hSw; go_simp; try with_reducible rfl)
            try simp only [Act.put, List.setIfInBounds_toArray, List.set_cons_zero, List.set_cons_succ]
            refine wpAnyH_ready (rs := [19]) (by kernel_rfl) (by simp) ?_
            refine AllReadyH.cons rfl (fun K hK => ?_) AllReadyH.nil
            go_simp
            refine hK.out _ _ (KS _ (k6.andSet _ _ (.inr (.inl rfl)))) (fun hHeldks => ?_)
            clear hK K
            try simp only [Act.put, List.setIfInBounds_toArray, List.set_cons_zero, List.set_cons_succ]
            refine wpAnyH_done (by kernel_rfl) ?_ _
            have hs7 : Kp (fun i => i = w.heap.size + 1 + 1) w6 (w6.setCell ⟨w.heap.size + 1 + 1, 5, none⟩ (.slice (some ⟨g, 0, none⟩) (j + 1) gc)) := (Kp.refl _ _).put
            have hb7 := set3 hb6 5 (.slice (some ⟨g, 0, none⟩) (j + 1) gc)
            have ho7 : (w6.setCell ⟨w.heap.size + 1 + 1, 5, none⟩ (.slice (some ⟨g, 0, none⟩) (j + 1) gc)).ownsRow w.heap.size 133 2 (.slice (some ⟨g, 0, none⟩) (j + 1) gc) (j + 1) (ff ds ++ [.int .u64 y.seq, .slice a3 M cap3]) := own_keep hown (fun q hq => hs7.block q (own_lt hown hq) (fun e => by
              obtain ⟨cur, hc⟩ := own_obj hown hq
              exact blk_ne hb6 hc (by decide) e))
            have h47 : ∀ (i : Nat) (cur : Array Value), w3.heap[i]? = some (.cells cur 5 (0, 0)) → (w6.setCell ⟨w.heap.size + 1 + 1, 5, none⟩ (.slice (some ⟨g, 0, none⟩) (j + 1) gc)).heap[i]? = w3.heap[i]? := fun i cur hc => by
              have ha : (w3.alloc (.cells #[.int .u64 y.seq, .slice a3 M cap3] 133)).heap[i]? = w3.heap[i]? := Below.heap_alloc _ _ _ (blk_lt hc)
              have h6 : w6.heap[i]? = w3.heap[i]? := ((Kp.of_grown hgrow).block i (by have := blk_lt hc; simp; omega) (fun e => by
                obtain ⟨cur', hc2⟩ := own_obj (HO.out _ (hk3.andAlloc (.cells #[.int .u64 y.seq, .slice a3 M cap3] 133))) e.symm
                rw [ha, hc] at hc2
                cases hc2)).trans ha
              exact (hs7.block i (blk_lt (h6.trans hc)) (fun e => blk_ne hb6 (h6.trans hc) (by decide) e)).trans h6
            have hk7 := k6.trans hs7 (fun _ _ e => .inl e)
            have hZ := T2.step HJ.out.1 hy hk3 (by rw [HM.out]; exact ho3) hb7 ho7 hk7 h47
            have hQ2 := HJ.out.2.keep HJ.out.1.q2 HJ.out.1.own hk7
            have HZ := hide (And.intro hZ hQ2)
            clear hs7 hb7 ho7 h47 hk7 hZ hQ2 hown hgrow hlie hglt k6s k6 hb6 y6 f6 TW KS CQ HO HQ6 KM x5 c0 c1 c2
            go_wp2
            exact ⟨⟨j + 1, _, _, hlt, by rw [hwk.out], HZ⟩, lt_m _ hwk.out hlt⟩
    obtain ⟨hq, hn, hql, hys⟩ := HQ.out
    have hI := HI.out
    have hkv : k < qs.length := by rw [hn]; exact hlt
    obtain ⟨y, hy⟩ : ∃ y, qs[k]? = some y := ⟨qs[k], List.getElem?_eq_getElem hkv⟩
    obtain ⟨r, off, cq', eq', hrl⟩ : ∃ r off c, (Value.slice aq n cq) = .slice (some ⟨r, off, none⟩) qs.length c ∧ Rl wr r off qs := by
      rcases hq with ⟨ad, cap, e1, e2⟩ | ⟨r, off, c, e1, h⟩
      · rw [e2] at hkv; simp at hkv
      · exact ⟨r, off, c, e1, h.nu hI.kp⟩
    obtain rfl : aq = some ⟨r, off, none⟩ := by cases eq'; rfl
    obtain ⟨av, cv, ev⟩ := own_slice hI.own
    obtain ⟨ay, cy, ey⟩ := (hrl k y hy).2.slice
    have TW := fun W (kW : Kp Nu wr W) => twin_any W y.1 y.2 ((hrl.nu kW) k y hy).2 (hys y (List.mem_of_getElem? hy))
    rw [ey] at TW
    have CC : ∀ W, Kp Nu wr W → W.cell? ⟨w.heap.size, 2, none⟩ = some (.slice (some ⟨r, off, none⟩) n cq) ∧ W.cell? ⟨w.heap.size + 1 + 1, 2, none⟩ = some (.slice av k cv) ∧ W.cell? ⟨r, off + k, none⟩ = some (.slice ay y.2.length cy) := fun W kW => by
      have hc := ((hrl.nu kW) k y hy).1
      rw [ey] at hc
      refine ⟨cellAt ((kW.block _ (blk_lt hI.p0) (fun h => h)).trans hI.p0) 2 rfl, ?_, hc⟩
      have := cellAt (v := v) ((kW.block _ (blk_lt hI.q2) (fun h => h)).trans hI.q2) 2 rfl
      rw [this, ev]
    have PO := fun W (kW : Kp Nu wr W) a' n' c' => bpush (W3 := W) (o := 2) (d := .slice a' n' c') hI.q2 (v := v) rfl hI.own hI.kp.size (by omega) kW ⟨_, _, _, rfl⟩
    rw [ev] at PO
    have KD := (Kp.refl Nu wr).drew
    obtain ⟨x0, x2, xs0⟩ := CC _ (Kp.refl Nu wr)
    have hltI : (k : Int) < (n : Int) := by omega
    have hk0 : (0 : Int) ≤ (k : Int) := by omega
    have hwk : Hid (wrap64 ((k : Int) + 1) = ((k + 1 : Nat) : Int)) := by show wrap64 _ = _; unfold wrap64; omega
    generalize hM : y.2.length = M at *
    have HM := hide hM
    clear hq hn hql hys hI hkv eq' hrl ey hM
    go_wp2_with fail
    go_region_law (first | (obtain ⟨v', w4, ⟨ad4, n4, cap4, e4⟩, hrun, z1, z2, hH⟩ := HP3.out; subst e4; refine step_append_row rfl (.tmp 23) (.tmp 30) 41 41 rfl _ _ rfl rfl _ w4 hrun ?_) | (go_simp; go_at_call 76; refine (TW _ KD).mono ?_; rintro e w3 ⟨d3, rfl, ho3, hk3⟩; obtain ⟨a3, cap3, e3⟩ := own_slice ho3; subst e3; have HO3 := hide (And.intro ho3 hk3); obtain ⟨y0, y2, y3⟩ := CC _ (KD.andNu hk3); obtain ⟨u0, u2, u3⟩ := CC _ ((KD.andNu hk3).andAlloc (.cells #[.slice a3 M cap3] 45)); have HP3 := hide (PO w3 (KD.andNu hk3) a3 M cap3); clear ho3 hk3))
    all_goals
      obtain ⟨h1, h2, h3, h4⟩ := hH.out
      have hZ := T1.step HI.out hy (KD.andNu HO3.out.2) (by rw [HM.out]; exact own_base HO3.out.1 (Nat.le_refl _)) h1 h2 (by rw [ev]; exact h3) h4
      have HZ := hide hZ
      clear h1 h2 h3 h4 hZ hH HP3 hrun
      go_wp2
      exact ⟨⟨k + 1, _, _, hlt, by rw [hwk.out], HZ⟩, lt_m _ hwk.out hlt⟩
end Go.Proofs.Ytbhdhoeaogbfbaa.Xo
