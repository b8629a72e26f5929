import Derived.Test.YtbhdhoeaogbfbaaXgM
import Derived.Test.YtbhdhoeaogbfbaaXgL
namespace Go.Proofs.Ytbhdhoeaogbfbaa.Xo
open Go.RowKit
set_option linter.unusedVariables false
set_option linter.unusedSimpArgs false
/-- the program's Load behind some rounds -/
structure L3 (w wr : World) (eb pb : Nat) (v : Value) (sf qn wn : Int) (I xs : List Px) (n k : Nat) : Prop where
  kp : Kp Nu w wr
  ebx : wr.heap[eb]? = some (.cells #[.int .u8 sf, .int .i64 qn, .int .i64 wn, .slice (some ⟨pb, 0, none⟩) n n] 117 (0, 0))
  b0x : wr.heap[w.heap.size]? = some (.cells #[v] 24 (0, 0))
  row : Row wr pb 123 (xs.map Px.p ++ List.replicate (n - k) Pr0)
  len : xs.length = k
  pm : ∀ x ∈ xs, Pm wr (fun i => w.heap.size ≤ i) x
  sep : xs.Pairwise (fun x y => (∀ g, x.p.q.ownBlock = some g → y.p.q.ownBlock ≠ some g) ∧ ∀ g, x.p.e.ownBlock = some g → y.p.e.ownBlock ≠ some g)
  ab : xs.map Px.ab = (I.take k).map Px.ab
  hd : w.heap.size ≤ eb
  hp : w.heap.size ≤ pb
  good : ∀ i x, i < k → I[i]? = some x → (okO x.p.sent x.p.acked x.p.mask qn (IntKind.u64.wrap (x.p.sent - x.p.acked)) x.p.qs && okE x.p.dlv wn 1 x.es) = true
set_option maxHeartbeats 1000000 in
theorem L3.step {w wr w4 : World} {eb pb : Nat} {v : Value} {sf qn wn : Int} {I xs : List Px} {n k : Nat} {x t : Px} (h : L3 w wr eb pb v sf qn wn I xs n k) (hkn : k < n) (hx : I[k]? = some x) (hg : (okO x.p.sent x.p.acked x.p.mask qn (IntKind.u64.wrap (x.p.sent - x.p.acked)) x.p.qs && okE x.p.dlv wn 1 x.es) = true) (k4 : Kp (fun i => i = pb) wr w4) (hr4 : Row w4 pb 123 ((xs.map Px.p ++ List.replicate (n - k) Pr0).set k t.p)) (ht : Pm w4 (fun i => wr.heap.size ≤ i) t) (hab : t.ab = x.ab) :
    L3 w w4 eb pb v sf qn wn I (xs ++ [t]) n (k + 1) := by
  have hoff : ∀ i c ty, i = pb → wr.heap[i]? = some (.cells c ty (0, 0)) → ty = 123 := fun i c ty e hc => by
    have hb : wr.heap[pb]? = some (.cells (flat (xs.map Px.p ++ List.replicate (n - k) Pr0)).toArray 123 (0, 0)) := h.row
    rw [e, hb] at hc
    exact ((Obj.cells.inj (Option.some.inj hc)).2.1).symm
  refine ⟨h.kp.trans k4 (fun i hi e => by have e : i = pb := e; have := h.hp; omega), ?_, ?_, ?_, by rw [List.length_append, h.len]; rfl, fun y hy => ?_, ?_, ?_, h.hd, h.hp, fun i y hi hy => ?_⟩
  · exact (k4.block eb (blk_lt h.ebx) (fun e => by have := hoff eb _ _ e h.ebx; cases this)).trans h.ebx
  · exact (k4.block _ (blk_lt h.b0x) (fun e => by have := hoff _ _ _ e h.b0x; cases this)).trans h.b0x
  · have e1 : (xs.map Px.p ++ List.replicate (n - k) Pr0).set k t.p = (xs ++ [t]).map Px.p ++ List.replicate (n - (k + 1)) Pr0 := by
      rw [List.set_append_right _ _ (by rw [List.length_map, h.len]; exact Nat.le_refl _), List.length_map, h.len, Nat.sub_self]
      obtain ⟨m, hm⟩ : ∃ m, n - k = m + 1 := ⟨n - k - 1, by omega⟩
      rw [hm, List.replicate_succ, List.set_cons_zero, List.map_append, List.append_assoc, show n - (k + 1) = m by omega]
      rfl
    rw [e1] at hr4
    exact hr4
  · rcases List.mem_append.1 hy with hy | hy
    · exact (h.pm y hy).off k4 (fun i c ty e hc => by have := hoff i c ty e hc; subst this; decide)
    · rw [List.mem_singleton.1 hy]
      exact ht.mono (fun i hi hG => Nat.le_trans h.kp.size hG)
  · refine List.pairwise_append.2 ⟨h.sep, List.pairwise_singleton _ _, fun y hy z hz => ?_⟩
    rw [List.mem_singleton.1 hz]
    exact ⟨fun g hg hg2 => by have := own_lt (h.pm y hy).own hg; have := ht.gq g hg2; omega, fun g hg hg2 => by have := own_lt (h.pm y hy).eown hg; have := ht.ge g hg2; omega⟩
  · rw [List.map_append, h.ab, List.take_add_one, hx, List.map_append]
    show _ ++ [t.ab] = _ ++ [x.ab]
    rw [hab]
  · rcases Nat.lt_or_ge i k with h1 | h1
    · exact h.good i y h1 hy
    · have : i = k := by omega
      subst this; rw [hx] at hy; cases hy; exact hg
/-- a zero state may be loaded -/
theorem zero_ok {s a m d qn wn : Int} {qs : List (Value × List Int)} {es : List Fm} (hq : 0 ≤ qn) (h : zeroS s a m d qs.length es.length = true) : (okO s a m qn (IntKind.u64.wrap (s - a)) qs && okE d wn 1 es) = true := by
  unfold zeroS at h
  simp only [Bool.and_eq_true, decide_eq_true_eq] at h
  obtain ⟨rfl, rfl, rfl, rfl, h5, h6⟩ := h
  obtain rfl : qs = [] := List.eq_nil_of_length_eq_zero h5
  obtain rfl : es = [] := List.eq_nil_of_length_eq_zero h6
  have e : IntKind.u64.wrap ((0 : Int) - 0) = 0 := rfl
  rw [e]
  unfold okO inM
  simp [okE, hq]
/-- the program's end -/
structure YesP (w w' : World) (eb : Nat) (sf qn wn : Int) (xs : List Px) : Prop where
  kp : Kp Nu w w'
  hd : w.heap.size ≤ eb
  ex : ∃ pb, w.heap.size ≤ pb ∧ w'.heap[eb]? = some (.cells #[.int .u8 sf, .int .i64 qn, .int .i64 wn, .slice (some ⟨pb, 0, none⟩) xs.length xs.length] 117 (0, 0)) ∧ Row w' pb 123 (xs.map Px.p)
  pm : ∀ x ∈ xs, Pm w' (fun i => w.heap.size ≤ i) x
  sep : xs.Pairwise (fun x y => (∀ g, x.p.q.ownBlock = some g → y.p.q.ownBlock ≠ some g) ∧ ∀ g, x.p.e.ownBlock = some g → y.p.e.ownBlock ≠ some g)
/-- the first half is loaded -/
def OutP (W w' : World) (pb : Nat) (ps : List Pr) (k : Nat) (x : Px) : Prop := ∃ u xs', Row w' pb 123 (ps.set k ⟨x.p.sent, x.p.acked, u, xs', x.p.mask, 0, .slice none 0 0⟩) ∧ w'.ownsRow W.heap.size 45 1 u xs'.length (xs'.map Prod.fst) ∧ xs'.map Prod.snd = x.p.qs.map Prod.snd ∧ ∀ y ∈ xs', w'.ownsRow W.heap.size 5 1 y.1 y.2.length (cs y.2)
theorem lo_px {W : World} {pb : Nat} {ps : List Pr} {k : Nat} {x : Px} {qn : Int} (row : Row W pb 123 ps) (hk : ps[k]? = some Pr0) (hin : In1 W x) (hb : Bd x) (hqn : qn ≤ 16) (hok : okO x.p.sent x.p.acked x.p.mask qn (IntKind.u64.wrap (x.p.sent - x.p.acked)) x.p.qs = true) :
    Calls Try.prog 63 #[.pointer (some ⟨pb, k * 6, none⟩), .agg #[.int .u64 x.p.sent, .int .u64 x.p.acked, x.p.q, .int .u64 x.p.mask, .int .u64 x.p.dlv, x.p.e], .int .i64 qn] W fun e w' => e = .returned (.bool true) ∧ Kp (fun i => i = pb) W w' ∧ Hid (OutP W w' pb ps k x) := by
  obtain ⟨ae, ce, he⟩ := hin.2.slice
  refine (loadOut_gen row k Pr0 hk x.p.sent x.p.acked x.p.mask x.p.dlv qn x.p.q x.p.e x.p.qs hin.1 hqn hb.2.2.2.2.2.2.2.2.1 hb.2.2.2.2.2.2.2.2.2.1 ⟨_, _, _, he⟩ hok).mono ?_
  rintro e w' ⟨e1, u, xs', h1, h2, h3, h4, h5⟩
  exact ⟨e1, h2, u, xs', h1, h3, h4, h5⟩
theorem in_low {w : World} {x : Px} {pb : Nat} (hin : In1 w x) (hp : w.heap.size ≤ pb) : (x.es ≠ [] → ∀ r off n c, x.p.e = .slice (some ⟨r, off, none⟩) n c → r ≠ pb) ∧ ∀ f ∈ x.es, f.ys ≠ [] → ∀ aa nn cc, f.v = .slice (some aa) nn cc → aa.block ≠ pb := by
  rcases hin.2 with ⟨ad, cap, e1, e2⟩ | ⟨r0, off0, cap, e1, hrf⟩
  · exact ⟨fun h => absurd e2 h, fun f hf => by rw [e2] at hf; cases hf⟩
  · refine ⟨fun h r off n c e => ?_, fun f hf hy aa nn cc e => ?_⟩
    · obtain ⟨f, r2, hl⟩ : ∃ f r, x.es = f :: r := List.exists_cons_of_ne_nil h
      have hc := (hrf 0 f (by rw [hl]; rfl)).1
      rw [e1] at e
      have e3 := (Value.slice.inj e).1
      have := World.block_lt_of_cell? w _ hc
      have e4 : r0 = r := by have := Option.some.inj e3; exact congrArg Addr.block this
      simp only at this
      omega
    · obtain ⟨i, hi⟩ := List.mem_iff_getElem?.1 hf
      have hr := (hrf i f hi).2.2
      rcases hr with ⟨e3, e4⟩ | ⟨a, c, e3, hc⟩
      · exact absurd e4 hy
      · rw [e] at e3
        have e5 := Option.some.inj (Value.slice.inj e3).1
        obtain ⟨z, r2, hl⟩ : ∃ (z : Int) (r : List Int), f.ys = z :: r := by
          obtain ⟨f0, r0, h0⟩ := List.exists_cons_of_ne_nil hy
          exact ⟨f0, r0, h0⟩
        have h0 := hc 0 (.int .u8 z) (by rw [hl]; rfl)
        have := World.block_lt_of_cell? w _ h0
        rw [add_block] at this
        rw [e5]
        omega
theorem li_px {w W w5 : World} {pb : Nat} {ps : List Pr} {k : Nat} {x : Px} {wn : Int} (ho : OutP W w5 pb ps k x) (hk : k < ps.length) (hpW : pb < W.heap.size) (kp : Kp (fun i => i = pb) W w5) (kw : Kp Nu w w5) (hp : w.heap.size ≤ pb) (hin : In1 w x) (hb : Bd x) (hw1 : 1 ≤ wn) (hw2 : wn ≤ 16) (hok : okE x.p.dlv wn 1 x.es = true) :
    Calls Try.prog 64 #[.pointer (some ⟨pb, k * 6 + 4, none⟩), .agg #[.int .u64 x.p.sent, .int .u64 x.p.acked, x.p.q, .int .u64 x.p.mask, .int .u64 x.p.dlv, x.p.e], .int .i64 wn] w5 fun e w6 => e = .returned (.bool true) ∧ Kp (fun i => i = pb) W w6 ∧ Hid (∃ t : Px, Row w6 pb 123 (ps.set k t.p) ∧ Pm w6 (fun i => W.heap.size ≤ i) t ∧ t.ab = x.ab) := by
  obtain ⟨u, xs', h1, h2, h3, h4⟩ := ho
  obtain ⟨aq, cq, hq⟩ := hin.1.slice
  obtain ⟨l1, l2⟩ := in_low hin hp
  have hk2 : (ps.set k ⟨x.p.sent, x.p.acked, u, xs', x.p.mask, 0, .slice none 0 0⟩)[k]? = some ⟨x.p.sent, x.p.acked, u, xs', x.p.mask, 0, .slice none 0 0⟩ := by
    rw [List.getElem?_set_self hk]
  refine (loadIn_gen h1 k _ hk2 x.p.sent x.p.acked x.p.mask x.p.dlv wn x.p.q x.p.e x.es (hin.2.nu kw) (by have := hb.2.2.1; omega) l1 l2 hb.2.2.2.2.2.2.2.2.2.2.1 hb.2.2.2.2.2.2.2.2.2.2.2.1 hb.2.2.2.2.2.2.2.2.2.2.2.2 hw1 hw2 ⟨_, _, _, hq⟩ hok).mono ?_
  rintro e w6 ⟨e1, u2, ds, g1, g2, g3, g4, g5⟩
  rw [List.set_set] at g1
  have hne : ∀ {e sz n : Nat} {v : Value} {l : List Value}, w5.ownsRow W.heap.size e sz v n l → w6.ownsRow W.heap.size e sz v n l := fun hoo => own_keep hoo (fun g hg => g2.block g (own_lt hoo hg) (fun e1 => by
    have e1 : g = pb := e1
    have := own_ge' hoo hg
    omega))
  refine ⟨e1, kp.trans g2 (fun _ _ e => e), ⟨⟨x.p.sent, x.p.acked, u, xs', x.p.mask, x.p.dlv, u2⟩, ds⟩, g1, ⟨own_base (hne h2) (Nat.zero_le _), fun y hy => ⟨own_base (hne (h4 y hy)) (Nat.zero_le _), fun g hg => own_ge' (h4 y hy) hg⟩, own_base g3 (Nat.zero_le _), fun f hf => ⟨own_base (g5 f hf) (Nat.zero_le _), fun g hg => Nat.le_trans kp.size (own_ge' (g5 f hf) hg)⟩, fun g hg => own_ge' h2 hg, fun g hg => Nat.le_trans kp.size (own_ge' g3 hg)⟩, ?_⟩
  show (⟨x.p.sent, x.p.acked, x.p.mask, x.p.dlv, xs'.map Prod.snd, ds.map fse⟩ : Ab) = ⟨x.p.sent, x.p.acked, x.p.mask, x.p.dlv, x.p.qs.map Prod.snd, x.es.map fse⟩
  rw [h3, g4]
theorem li_no {w W w5 : World} {pb : Nat} {ps : List Pr} {k : Nat} {x : Px} {wn : Int} (ho : OutP W w5 pb ps k x) (hk : k < ps.length) (kp : Kp (fun i => i = pb) W w5) (kw : Kp Nu w w5) (hp : w.heap.size ≤ pb) (hin : In1 w x) (hb : Bd x) (hw1 : 1 ≤ wn) (hw2 : wn ≤ 16) (hno : okE x.p.dlv wn 1 x.es = false) :
    Calls Try.prog 64 #[.pointer (some ⟨pb, k * 6 + 4, none⟩), .agg #[.int .u64 x.p.sent, .int .u64 x.p.acked, x.p.q, .int .u64 x.p.mask, .int .u64 x.p.dlv, x.p.e], .int .i64 wn] w5 fun e w6 => e = .returned (.bool false) ∧ Kp (fun i => i = pb) W w6 := by
  obtain ⟨u, xs', h1, h2, h3, h4⟩ := ho
  obtain ⟨aq, cq, hq⟩ := hin.1.slice
  obtain ⟨l1, l2⟩ := in_low hin hp
  have hk2 : (ps.set k ⟨x.p.sent, x.p.acked, u, xs', x.p.mask, 0, .slice none 0 0⟩)[k]? = some ⟨x.p.sent, x.p.acked, u, xs', x.p.mask, 0, .slice none 0 0⟩ := by
    rw [List.getElem?_set_self hk]
  refine (loadIn_no h1 k _ hk2 x.p.sent x.p.acked x.p.mask x.p.dlv wn x.p.q x.p.e x.es (hin.2.nu kw) (by have := hb.2.2.1; omega) l1 l2 hb.2.2.2.2.2.2.2.2.2.2.1 hb.2.2.2.2.2.2.2.2.2.2.2.1 hb.2.2.2.2.2.2.2.2.2.2.2.2 hw1 hw2 ⟨_, _, _, hq⟩ hno).mono ?_
  rintro e w6 ⟨e1, g2⟩
  exact ⟨e1, kp.trans g2 (fun _ _ e => e)⟩
end Go.Proofs.Ytbhdhoeaogbfbaa.Xo
