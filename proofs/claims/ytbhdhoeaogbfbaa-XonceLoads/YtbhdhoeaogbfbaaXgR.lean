import Derived.Test.YtbhdhoeaogbfbaaXgP
import Derived.Test.YtbhdhoeaogbfbaaEnH
import Derived.Test.YtbhdhoeaogbfbaaGnO
namespace Go.Proofs.Ytbhdhoeaogbfbaa.Xo
open Go.RowKit
set_option linter.unusedVariables false
set_option linter.unusedSimpArgs false
/-- sizes that a kept state has -/
def Fit (x : Px) : Prop := x.p.qs.length ≤ 16 ∧ (∀ y ∈ x.p.qs, unf y.2 = false) ∧ x.es.length ≤ 16 ∧ ∀ f ∈ x.es, unf f.ys = false
theorem unf_no {ys : List Int} (h : unf ys = false) : 0 < ys.length ∧ ys.length ≤ 3072 := by
  unfold unf at h
  simp only [Bool.or_eq_false_iff, decide_eq_false_iff_not] at h
  omega
theorem Le.lf {w : World} {v : Value} {es : List Fm} (h : Le w v es) (hu : ∀ f ∈ es, unf f.ys = false) : Lf w v es := by
  rcases h with h | ⟨r, off, cap, e, h⟩
  · exact .inl h
  · refine .inr ⟨r, off, cap, e, fun i x hx => ?_⟩
    obtain ⟨a, b, c⟩ := h i x hx
    have := unf_no (hu x (List.mem_of_getElem? hx))
    exact ⟨a, b, c, this.1, this.2⟩
/-- the first half is told -/
def OutS (W w' : World) (tb : Nat) (ts : List Pr) (k : Nat) (p : Pr) : Prop := ∃ u xs', Row w' tb 66 (ts.set k ⟨p.sent, p.acked, u, xs', p.mask, 0, .slice none 0 0⟩) ∧ w'.ownsRow W.heap.size 45 1 u xs'.length (xs'.map Prod.fst) ∧ xs'.map Prod.snd = p.qs.map Prod.snd ∧ ∀ y ∈ xs', w'.ownsRow W.heap.size 5 1 y.1 y.2.length (cs y.2)
theorem map_snd {vs xs : List (Value × List Int)} (hl : xs.length = vs.length) (h : ∀ (i : Nat) (x y : Value × List Int), xs[i]? = some x → vs[i]? = some y → x.2 = y.2) : xs.map Prod.snd = vs.map Prod.snd := by
  apply List.ext_getElem?
  intro i
  rw [List.getElem?_map, List.getElem?_map]
  rcases Nat.lt_or_ge i xs.length with hi | hi
  · have h2 : i < vs.length := by omega
    rw [List.getElem?_eq_getElem hi, List.getElem?_eq_getElem h2]
    exact congrArg some (h i _ _ (List.getElem?_eq_getElem hi) (List.getElem?_eq_getElem h2))
  · rw [List.getElem?_eq_none hi, List.getElem?_eq_none (by omega)]
theorem map_fse {es ds : List Fm} (hl : ds.length = es.length) (h : ∀ (i : Nat) (d x : Fm), ds[i]? = some d → es[i]? = some x → d.seq = x.seq ∧ d.ys = x.ys) : ds.map fse = es.map fse := by
  apply List.ext_getElem?
  intro i
  rw [List.getElem?_map, List.getElem?_map]
  rcases Nat.lt_or_ge i ds.length with hi | hi
  · have h2 : i < es.length := by omega
    rw [List.getElem?_eq_getElem hi, List.getElem?_eq_getElem h2]
    have := h i _ _ (List.getElem?_eq_getElem hi) (List.getElem?_eq_getElem h2)
    show some (fse _) = some (fse _)
    unfold fse
    rw [this.1, this.2]
  · rw [List.getElem?_eq_none hi, List.getElem?_eq_none (by omega)]
theorem OutS.nu {W w5 w6 : World} {tb : Nat} {ts : List Pr} {k : Nat} {p : Pr} (h : OutS W w5 tb ts k p) (kk : Kp Nu w5 w6) : OutS W w6 tb ts k p := by
  obtain ⟨u, xs', h1, h2, h3, h4⟩ := h
  exact ⟨u, xs', h1.keep (kk.block _ (blk_lt h1) (fun h => h)), own_keep h2 (fun g hg => kk.block g (own_lt h2 hg) (fun h => h)), h3, fun y hy => own_keep (h4 y hy) (fun g hg => kk.block g (own_lt (h4 y hy) hg) (fun h => h))⟩
theorem to_px {W : World} {pb tb : Nat} {ps ts : List Pr} (ht : Row W tb 66 ts) (hp : Row W pb 123 ps) {k : Nat} {p : Pr} (hk : ps[k]? = some p) (hz : ts[k]? = some Pr0) (hq : Lq W p.q p.qs) (hn16 : p.qs.length ≤ 16) (hpay : ∀ x ∈ p.qs, unf x.2 = false) :
    Calls Try.prog 51 #[.pointer (some ⟨pb, k * 6, none⟩), .pointer (some ⟨tb, k * 6, none⟩)] W fun e w' => e = .returned (.tuple #[]) ∧ Kp (fun i => i = tb) W w' ∧ Hid (OutS W w' tb ts k p) := by
  refine (tellOut_gen tb ts ht hp k p Pr0 hk hz hq hn16 hpay).mono ?_
  rintro e w' ⟨e1, u, xs, W0, h1, h2, h3, h4, h5⟩
  have ht0 : Row W0 tb 66 ts := ht.keep (h1.block _ (blk_lt ht) (fun h => h))
  have hne : ∀ {e sz n : Nat} {v : Value} {l : List Value}, e ≠ 66 → W0.ownsRow W.heap.size e sz v n l → w'.ownsRow W.heap.size e sz v n l := fun he hoo => own_keep hoo (fun g hg => h5.block g (own_lt hoo hg) (fun e1 => own_ne ht0 hoo (Ne.symm he) hg e1))
  refine ⟨e1, (h1.mono (fun _ _ e => e.elim)).trans h5 (fun _ _ e => e), u, xs, h4, hne (by decide) h2.own, map_snd h2.len (fun i x y hx hy => (h2.pay i x y hx hy).1), fun y hy => ?_⟩
  obtain ⟨i, hi⟩ := List.mem_iff_getElem?.1 hy
  have hl : i < p.qs.length := by rw [← h2.len]; exact (List.getElem?_eq_some_iff.1 hi).1
  exact hne (by decide) (h2.pay i y _ hi (List.getElem?_eq_getElem hl)).2
theorem ti_px {W w5 : World} {pb tb : Nat} {ps ts : List Pr} {k : Nat} {p : Pr} (ho : OutS W w5 tb ts k p) (hkt : k < ts.length) (hpW : tb < W.heap.size) (kp : Kp (fun i => i = tb) W w5) (hp : Row w5 pb 123 ps) (hk : ps[k]? = some p) {es : List Fm} (he : Lf w5 p.e es) (hn16 : es.length ≤ 16) :
    Calls Try.prog 52 #[.pointer (some ⟨pb, k * 6 + 4, none⟩), .pointer (some ⟨tb, k * 6, none⟩)] w5 fun e w6 => e = .returned (.tuple #[]) ∧ Kp (fun i => i = tb) W w6 ∧ Hid (∃ t : Px, Row w6 tb 66 (ts.set k t.p) ∧ Pm w6 (fun i => W.heap.size ≤ i) t ∧ t.ab = ⟨p.sent, p.acked, p.mask, p.dlv, p.qs.map Prod.snd, es.map fse⟩) := by
  obtain ⟨u, xs', h1, h2, h3, h4⟩ := ho
  have hk2 : (ts.set k ⟨p.sent, p.acked, u, xs', p.mask, 0, .slice none 0 0⟩)[k]? = some ⟨p.sent, p.acked, u, xs', p.mask, 0, .slice none 0 0⟩ := by
    rw [List.getElem?_set_self hkt]
  refine (tellIn_gen tb _ h1 hp k p _ hk hk2 es he hn16).mono ?_
  rintro e w6 ⟨e1, u2, ds, W1, g1, g2, g3, g4, g5⟩
  rw [List.set_set] at g4
  have ht1 := h1.keep (g1.block _ (blk_lt h1) (fun h => h))
  have hne : ∀ {B e sz n : Nat} {v : Value} {l : List Value}, e ≠ 66 → W1.ownsRow B e sz v n l → w6.ownsRow B e sz v n l := fun he hoo => own_keep hoo (fun g hg => g5.block g (own_lt hoo hg) (fun e1 => own_ne ht1 hoo (Ne.symm he) hg e1))
  have hnu : ∀ {B e sz n : Nat} {v : Value} {l : List Value}, w5.ownsRow B e sz v n l → W1.ownsRow B e sz v n l := fun hoo => own_keep hoo (fun g hg => g1.block g (own_lt hoo hg) (fun h => h))
  have hep : ∀ f ∈ ds, W1.ownsRow w5.heap.size 5 1 f.v f.ys.length (cs f.ys) := fun f hf => by
    obtain ⟨i, hi⟩ := List.mem_iff_getElem?.1 hf
    have hl : i < es.length := by rw [← g2.len]; exact (List.getElem?_eq_some_iff.1 hi).1
    have := g2.pay i f _ hi (List.getElem?_eq_getElem hl)
    rw [this.2.1]
    rw [this.2.1] at this
    exact this.2.2
  refine ⟨e1, (kp.trans g1 (fun _ _ e => e.elim)).trans g5 (fun _ _ e => e), ⟨⟨p.sent, p.acked, u, xs', p.mask, p.dlv, u2⟩, ds⟩, g4, ⟨own_base (hne (by decide) (hnu h2)) (Nat.zero_le _), fun y hy => ⟨own_base (hne (by decide) (hnu (h4 y hy))) (Nat.zero_le _), fun g hg => own_ge' (h4 y hy) hg⟩, own_base (hne (by decide) g2.own) (Nat.zero_le _), fun f hf => ⟨own_base (hne (by decide) (hep f hf)) (Nat.zero_le _), fun g hg => Nat.le_trans kp.size (own_ge' (hep f hf) hg)⟩, fun g hg => own_ge' h2 hg, fun g hg => Nat.le_trans kp.size (own_ge' g2.own hg)⟩, ?_⟩
  show (⟨p.sent, p.acked, p.mask, p.dlv, xs'.map Prod.snd, ds.map fse⟩ : Ab) = _
  rw [h3, map_fse g2.len (fun i d x hd hx => ⟨(g2.pay i d x hd hx).1, (g2.pay i d x hd hx).2.1⟩)]
/-- behind some rounds of State -/
structure Se (w0 wr : World) (tb : Nat) (I xs : List Px) (n k : Nat) : Prop where
  kp : Kp Nu w0 wr
  ht : w0.heap.size ≤ tb
  row : Row wr tb 66 (xs.map Px.p ++ List.replicate (n - k) Pr0)
  len : xs.length = k
  pm : ∀ x ∈ xs, Pm wr (fun i => w0.heap.size ≤ i) x
  ab : xs.map Px.ab = (I.take k).map Px.ab
theorem Se.step {w0 wr w4 : World} {tb : Nat} {I xs : List Px} {n k : Nat} {x t : Px} (h : Se w0 wr tb I xs n k) (hkn : k < n) (hx : I[k]? = some x) (k4 : Kp (fun i => i = tb) wr w4) (hr4 : Row w4 tb 66 ((xs.map Px.p ++ List.replicate (n - k) Pr0).set k t.p)) (ht : Pm w4 (fun i => wr.heap.size ≤ i) t) (hab : t.ab = x.ab) :
    Se w0 w4 tb I (xs ++ [t]) n (k + 1) := by
  refine ⟨h.kp.trans k4 (fun i hi e => by have e : i = tb := e; have := h.ht; omega), h.ht, ?_, by rw [List.length_append, h.len]; rfl, fun y hy => ?_, ?_⟩
  · have e1 : (xs.map Px.p ++ List.replicate (n - k) Pr0).set k t.p = (xs ++ [t]).map Px.p ++ List.replicate (n - (k + 1)) Pr0 := by
      rw [List.set_append_right _ _ (by rw [List.length_map, h.len]; exact Nat.le_refl _), List.length_map, h.len, Nat.sub_self]
      obtain ⟨m, hm⟩ : ∃ m, n - k = m + 1 := ⟨n - k - 1, by omega⟩
      rw [hm, List.replicate_succ, List.set_cons_zero, List.map_append, List.append_assoc, show n - (k + 1) = m by omega]
      rfl
    rw [e1] at hr4
    exact hr4
  · rcases List.mem_append.1 hy with hy | hy
    · exact (h.pm y hy).off k4 (fun i c ty e hc => by
        have hb : wr.heap[tb]? = some (.cells (flat (xs.map Px.p ++ List.replicate (n - k) Pr0)).toArray 66 (0, 0)) := h.row
        have e : i = tb := e
        rw [e, hb] at hc
        have := ((Obj.cells.inj (Option.some.inj hc)).2.1).symm
        subst this; decide)
    · rw [List.mem_singleton.1 hy]
      exact ht.mono (fun i hi hG => Nat.le_trans h.kp.size hG)
  · rw [List.map_append, h.ab, List.take_add_one, hx, List.map_append]
    show _ ++ [t.ab] = _ ++ [x.ab]
    rw [hab]
theorem made_gen {w : World} {eb pb n : Nat} {sf qn wn : Int} (c3 : w.cell? ⟨eb, 3, none⟩ = some (.slice (some ⟨pb, 0, none⟩) n n)) (hN : 0 < n) : Calls Try.prog 50 #[.pointer (some ⟨eb, 0, none⟩)] w fun e w' => e = .returned (.bool true) ∧ w' = w := by
  go_enter Try.func50, Try.ntmps50
  go_wp2
  go_ret
  exact ⟨by simp, rfl⟩
end Go.Proofs.Ytbhdhoeaogbfbaa.Xo
namespace Go.Proofs.Ytbhdhoeaogbfbaa.Xo
open Go.RowKit
set_option linter.unusedVariables false
set_option linter.unusedSimpArgs false
set_option maxRecDepth 100000 in
set_option maxHeartbeats 4000000 in
/-- the program's State -/
theorem state20 (w : World) (eb pb : Nat) (sf qn wn : Int) (I : List Px) (hb : w.heap[eb]? = some (.cells #[.int .u8 sf, .int .i64 qn, .int .i64 wn, .slice (some ⟨pb, 0, none⟩) I.length I.length] 117 (0, 0))) (hr : Row w pb 123 (I.map Px.p)) (hin : ∀ x ∈ I, In1 w x) (hf : ∀ x ∈ I, Fit x) (h0 : 0 < I.length) (h16 : I.length ≤ 16) : Calls Try.prog 20 #[.pointer (some ⟨eb, 0, none⟩)] w fun e w' => ∃ u xs, e = .returned (.agg #[u]) ∧ Tl8 w' u (fun i => w.heap.size ≤ i) xs ∧ xs.map Px.ab = I.map Px.ab ∧ Kp Nu w w' := by
  obtain ⟨n, hn⟩ : ∃ n, I.length = n := ⟨_, rfl⟩
  rw [hn] at hb h0 h16
  have c3 := cellAt hb 3 rfl
  have MA := fun W (k : Kp Nu w W) => made_gen (n := n) (w := W) (eb := eb) (pb := pb) (sf := sf) (qn := qn) (wn := wn) (cell_nuX c3 k) h0
  have MK := fun W => mk_told W n h16
  have HH := hide (And.intro hb (And.intro hr (And.intro hin hf)))
  have HN := hide (And.intro hn h16)
  have b3 : ∀ x, (w.alloc x).cell? ⟨eb, 3, none⟩ = some (.slice (some ⟨pb, 0, none⟩) n n) := fun x => (World.cell?_of_block (Below.heap_alloc w x _ (World.block_lt_of_cell? w _ c3))).trans c3
  clear hb hr hin hf hn c3
  go_enter Try.func20, Try.ntmps20
  go_wp2_with (go_at_call 50; refine (MA _ ((Kp.refl _ w).andAlloc _)).mono ?_; rintro e w1 ⟨rfl, hw1⟩; obtain rfl := hw1.symm)
  go_loopw [17] (fun i wr => ∃ (k : Nat) (xs : List Px), k ≤ n ∧ i = .int .i64 (k : Int) ∧ Hid (Se (w.alloc (.cells #[.slice none 0 0] 24)) wr (w.heap.size + 1) I xs n k)) (fun i _ => n - (intOf i).toNat)
  case atStart =>
    refine ⟨0, [], by omega, rfl, ⟨(Kp.refl _ _).andAlloc _, by simp, ?_, rfl, fun x h => by simp at h, rfl⟩⟩
    have := heap_alloc_new (w.alloc (.cells #[.slice none 0 0] 24)) (.cells (flat (List.replicate n Pr0)).toArray 66)
    unfold Row
    simpa using this
  case round =>
    obtain ⟨k, xs, hkn, rfl, HI⟩ := hrel
    by_cases hlt : k < n
    · have hk2 : k < I.length := by rw [HN.out.1]; exact hlt
      obtain ⟨x, hx⟩ : ∃ x, I[k]? = some x := ⟨I[k], List.getElem?_eq_getElem hk2⟩
      have hp : (I.map Px.p)[k]? = some x.p := by rw [List.getElem?_map, hx]; rfl
      have hxm := List.mem_of_getElem? hx
      have hltI : (k : Int) < (n : Int) := by omega
      have hk0 : (0 : Int) ≤ (k : Int) := by omega
      have kw := ((Kp.refl Nu w).andAlloc (.cells #[.slice none 0 0] 24)).andNu HI.out.kp
      have hIn0 := HH.out.2.2.1 x hxm
      have hInx := hIn0.nu kw
      have hF := HH.out.2.2.2 x hxm
      have hlen := HI.out.len
      have hrow := HI.out.row
      have hbk := (kw.block _ (blk_lt HH.out.1) (fun h => h)).trans HH.out.1
      have hpr : Row wr pb 123 (I.map Px.p) := HH.out.2.1.keep (kw.block _ (blk_lt HH.out.2.1) (fun h => h))
      have hz : (xs.map Px.p ++ List.replicate (n - k) Pr0)[k]? = some Pr0 := by
        rw [List.getElem?_append_right (by rw [List.length_map]; omega), List.length_map, List.getElem?_replicate, if_pos (by omega)]
      have hkl : k < (xs.map Px.p ++ List.replicate (n - k) Pr0).length := (List.getElem?_eq_some_iff.1 hz).1
      have net : eb ≠ w.heap.size + 1 := hrow.ne hbk (by decide)
      have npt : pb ≠ w.heap.size + 1 := hrow.ne hpr (by decide)
      have htW : w.heap.size + 1 < wr.heap.size := blk_lt hrow
      have HS : ∀ W, Kp (fun i => i = w.heap.size + 1) wr W → W.cell? ⟨eb, 3, none⟩ = some (.slice (some ⟨pb, 0, none⟩) n n) := fun W kW => cellAt ((kW.block _ (blk_lt hbk) (fun e => net e)).trans hbk) 3 rfl
      have TO : ∀ W, Kp Nu wr W → Calls Try.prog 51 #[.pointer (some ⟨pb, k * 6, none⟩), .pointer (some ⟨w.heap.size + 1, k * 6, none⟩)] W fun e w' => e = .returned (.tuple #[]) ∧ Kp (fun i => i = w.heap.size + 1) wr w' ∧ Hid (∃ V, Kp Nu wr V ∧ Kp (fun i => i = w.heap.size + 1) V w' ∧ OutS V w' (w.heap.size + 1) (xs.map Px.p ++ List.replicate (n - k) Pr0) k x.p) := fun W kW =>
        (to_px (hrow.keep (kW.block _ (blk_lt hrow) (fun h => h))) (hpr.keep (kW.block _ (blk_lt hpr) (fun h => h))) hp hz (hInx.1.nu kW) hF.1 hF.2.1).mono (by
          rintro e w' ⟨e1, kp, h5⟩
          exact ⟨e1, (kW.mono (fun _ _ e => e.elim)).trans kp (fun _ _ e => e), W, kW, kp, h5.out⟩)
      have TI : ∀ (w5 : World), Kp (fun i => i = w.heap.size + 1) wr w5 → (∃ V, Kp Nu wr V ∧ Kp (fun i => i = w.heap.size + 1) V w5 ∧ OutS V w5 (w.heap.size + 1) (xs.map Px.p ++ List.replicate (n - k) Pr0) k x.p) → ∀ W, Kp Nu w5 W → Calls Try.prog 52 #[.pointer (some ⟨pb, k * 6 + 4, none⟩), .pointer (some ⟨w.heap.size + 1, k * 6, none⟩)] W fun e w' => e = .returned (.tuple #[]) ∧ Kp (fun i => i = w.heap.size + 1) wr w' ∧ Hid (Se (w.alloc (.cells #[.slice none 0 0] 24)) w' (w.heap.size + 1) I (xs ++ [x]) n (k + 1) ∨ ∃ t, Se (w.alloc (.cells #[.slice none 0 0] 24)) w' (w.heap.size + 1) I (xs ++ [t]) n (k + 1)) := fun w5 k5 ho W kW => by
        obtain ⟨V, hV, kV, ho⟩ := ho
        have hpb5 : Row W pb 123 (I.map Px.p) := (hpr.keep (k5.block _ (blk_lt hpr) (fun e => npt e))).keep (kW.block _ (by
          have h9 : Row w5 pb 123 (I.map Px.p) := hpr.keep (k5.block _ (blk_lt hpr) (fun e => npt e))
          exact blk_lt h9) (fun h => h))
        have kVW := kV.trans kW (fun _ _ e => e.elim)
        have k5W := k5.trans kW (fun _ _ e => e.elim)
        have hle : Le W x.p.e x.es := (hIn0.nu (kw.trans k5W (fun i hi e => by have e : i = w.heap.size + 1 := e; omega))).2
        refine (ti_px (ho.nu kW) hkl (Nat.lt_of_lt_of_le htW hV.size) kVW hpb5 hp (hle.lf hF.2.2.2) hF.2.2.1).mono ?_
        rintro e w' ⟨e1, g1, g2⟩
        obtain ⟨t, g3, g4, g5⟩ := g2.out
        have kk : Kp (fun i => i = w.heap.size + 1) wr w' := (hV.mono (fun _ _ e => e.elim)).trans g1 (fun _ _ e => e)
        exact ⟨e1, kk, .inr ⟨t, HI.out.step hlt hx kk g3 (g4.mono (fun i hi hG => Nat.le_trans hV.size hG)) g5⟩⟩
      have hwk : Hid (wrap64 ((k : Int) + 1) = ((k + 1 : Nat) : Int)) := by have := HN.out.2; exact wrap_small (by omega) (by omega)
      clear hIn0 hInx hF hrow hz kw net npt hlen hbk hpr hkl htW hp
      go_wp2_with fail
      go_region_held3 (fun W => W.cell? ⟨eb, 3, none⟩ = some (.slice (some ⟨pb, 0, none⟩) n n)) (first | (refine HS _ ?_; repeat (first | assumption | exact Kp.refl _ _ | apply Kp.drew))) (first | (go_at_call 51; refine (TO _ ?_).mono ?_; (repeat (first | assumption | exact Kp.refl _ _ | apply Kp.drew)); rintro e w5 ⟨rfl, hk5, H5⟩))
      have TI5 := TI w5 hk5 H5.out
      have HS5 : ∀ W, Kp Nu w5 W → W.cell? ⟨eb, 3, none⟩ = some (.slice (some ⟨pb, 0, none⟩) n n) := fun W kW => HS W (hk5.trans kW (fun _ _ e => e.elim))
      clear TI TO H5
      go_wp2_with fail
      go_region_held3 (fun W => W.cell? ⟨eb, 3, none⟩ = some (.slice (some ⟨pb, 0, none⟩) n n)) (first | (refine HS5 _ ?_; (repeat (first | assumption | exact Kp.refl _ _ | apply Kp.drew)); done) | (refine HS _ ?_; (repeat (first | assumption | exact Kp.refl _ _ | apply Kp.drew)); done)) (first | (go_at_call 52; refine (TI5 _ ?_).mono ?_; (repeat (first | assumption | exact Kp.refl _ _ | apply Kp.drew)); rintro e w6 ⟨rfl, hk6, H6⟩))
      obtain ⟨t, HD⟩ : ∃ t, Hid (Se (w.alloc (.cells #[.slice none 0 0] 24)) w6 (w.heap.size + 1) I (xs ++ [t]) n (k + 1)) := by
        rcases H6.out with h | ⟨t, h⟩
        · exact ⟨x, h⟩
        · exact ⟨t, h⟩
      clear H6 TI5 HS5 HS
      go_wp2
      exact ⟨⟨k + 1, _, hlt, congrArg (Value.int .i64) (show (k : Int) + 1 = ((k + 1 : Nat) : Int) by omega), HD⟩, lt_m _ (show (k : Int) + 1 = ((k + 1 : Nat) : Int) by omega) hlt⟩
    · obtain rfl : k = n := by omega
      clear hlt
      have HB : Hid (wr.heap[w.heap.size]? = some (.cells #[.slice none 0 0] 24 (0, 0))) := new_at w _ HI.out.kp
      have x0 := cellAt HB.out 0 (by rfl)
      have f0 := free3 HB.out 0
      go_wp2
      have hI := HI.out
      have hb2 := set3 HB.out 0 (.slice (some ⟨w.heap.size + 1, 0, none⟩) k k)
      have hne : w.heap.size ≠ w.heap.size + 1 := by omega
      have kk : Kp (fun i => i = w.heap.size) wr (wr.setCell ⟨w.heap.size, 0, none⟩ (.slice (some ⟨w.heap.size + 1, 0, none⟩) k k)) := (Kp.refl _ _).put
      have hrow : Row wr (w.heap.size + 1) 66 (xs.map Px.p) := by
        have := hI.row
        rwa [Nat.sub_self, List.replicate_zero, List.append_nil] at this
      refine bodyPost_ret (results_cell_row rfl _ _ w.heap.size 24 _ _ _ rfl hb2 Try.underlying24 rfl info24) rfl ?_
      have hrow2 := hrow.keep (kk.block _ (blk_lt hrow) (fun e => hne (Eq.symm e)))
      have hlx := hI.len
      refine ⟨.slice (some ⟨w.heap.size + 1, 0, none⟩) k k, xs, rfl, ⟨?_, fun g hg => ?_, fun y hy => ?_⟩, ?_, (((Kp.refl Nu w).andAlloc _).andNu hI.kp).trans kk (fun i hi e => by have e : i = w.heap.size := e; omega)⟩
      · rw [hlx]
        have hfl : (flat (xs.map Px.p)).length = k * 6 := by rw [flat_length, List.length_map, hlx]
        refine ⟨hfl, .inr ⟨w.heap.size + 1, k, (flat (xs.map Px.p)).toArray, rfl, Nat.zero_le _, hrow2, Nat.le_refl _, by have := HN.out.2; unfold maxLen; omega, by rw [List.size_toArray, hfl], by rw [List.take_of_length_le (by simp [hfl])]⟩⟩
      · simp [Value.ownBlock] at hg; omega
      · refine ((hI.pm y hy).off kk (fun i c ty e hc => ?_)).mono (fun i _ hG => by simp at hG; omega)
        have e : i = w.heap.size := e
        rw [e, HB.out] at hc
        have := ((Obj.cells.inj (Option.some.inj hc)).2.1).symm
        subst this; decide
      · rw [hI.ab, List.take_of_length_le (by rw [HN.out.1]; exact Nat.le_refl _)]
end Go.Proofs.Ytbhdhoeaogbfbaa.Xo
