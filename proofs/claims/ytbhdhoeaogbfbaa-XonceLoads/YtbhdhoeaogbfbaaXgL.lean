import Derived.Test.YtbhdhoeaogbfbaaXgK
namespace Go.Proofs.Ytbhdhoeaogbfbaa.Xo
open Go.RowKit
set_option linter.unusedVariables false
set_option linter.unusedSimpArgs false
/-- the document's Load behind some rounds -/
structure L4 (w wr : World) (db pb : Nat) (v : Value) (sf qn wn : Int) (I xs : List Px) (n k : Nat) : Prop where
  kp : Kp Nu w wr
  dbx : wr.heap[db]? = some (.cells #[.bool true, .int .i64 sf, .int .i64 (n : Int), .int .i64 qn, .int .i64 wn, .slice (some ⟨pb, 0, none⟩) n n] 37 (0, 0))
  b0x : wr.heap[w.heap.size]? = some (.cells #[v] 24 (0, 0))
  row : Row wr pb 66 (xs.map Px.p ++ List.replicate (n - k) Pr0)
  len : xs.length = k
  pm : ∀ x ∈ xs, Pm wr (fun i => w.heap.size ≤ i) x
  ab : xs.map Px.ab = (I.take k).map Px.ab
  hd : w.heap.size ≤ db
  hp : w.heap.size ≤ pb
  good : ∀ i x, i < k → I[i]? = some x → goodP sf qn wn i x = true
set_option maxHeartbeats 1000000 in
theorem L4.step {w wr w3 : World} {db pb : Nat} {v : Value} {sf qn wn : Int} {I xs : List Px} {n k : Nat} {x t : Px} (h : L4 w wr db pb v sf qn wn I xs n k) (hkn : k < n) (hx : I[k]? = some x) (hg : goodP sf qn wn k x = true) (k3 : Kp Nu wr w3) (ht : Pm w3 (fun i => wr.heap.size ≤ i) t) (hab : t.ab = x.ab) :
    L4 w ((((((w3.setCell ⟨pb, k * 6, none⟩ (.int .u64 t.p.sent)).setCell ⟨pb, k * 6 + 1, none⟩ (.int .u64 t.p.acked)).setCell ⟨pb, k * 6 + 2, none⟩ t.p.q).setCell ⟨pb, k * 6 + 3, none⟩ (.int .u64 t.p.mask)).setCell ⟨pb, k * 6 + 4, none⟩ (.int .u64 t.p.dlv)).setCell ⟨pb, k * 6 + 5, none⟩ t.p.e) db pb v sf qn wn I (xs ++ [t]) n (k + 1) := by
  have hrow : Row w3 pb 66 (xs.map Px.p ++ List.replicate (n - k) Pr0) := h.row.keep (k3.block _ (blk_lt h.row) (fun e => e))
  have hk : (xs.map Px.p ++ List.replicate (n - k) Pr0)[k]? = some Pr0 := by
    rw [List.getElem?_append_right (by rw [List.length_map, h.len]; exact Nat.le_refl _), List.length_map, h.len, Nat.sub_self, List.getElem?_replicate, if_pos (by omega)]
  have hr6 := set6 hrow hk t.p.sent t.p.acked t.p.q t.p.qs t.p.mask t.p.dlv t.p.e
  have ks : Kp (fun i => i = pb) w3 ((((((w3.setCell ⟨pb, k * 6, none⟩ (.int .u64 t.p.sent)).setCell ⟨pb, k * 6 + 1, none⟩ (.int .u64 t.p.acked)).setCell ⟨pb, k * 6 + 2, none⟩ t.p.q).setCell ⟨pb, k * 6 + 3, none⟩ (.int .u64 t.p.mask)).setCell ⟨pb, k * 6 + 4, none⟩ (.int .u64 t.p.dlv)).setCell ⟨pb, k * 6 + 5, none⟩ t.p.e) := ((((((Kp.refl (fun i => i = pb) w3).put (o := k * 6) (u := .int .u64 t.p.sent)).put (o := k * 6 + 1) (u := .int .u64 t.p.acked)).put (o := k * 6 + 2) (u := t.p.q)).put (o := k * 6 + 3) (u := .int .u64 t.p.mask)).put (o := k * 6 + 4) (u := .int .u64 t.p.dlv)).put (o := k * 6 + 5) (u := t.p.e)
  have hoff : ∀ i c ty, i = pb → w3.heap[i]? = some (.cells c ty (0, 0)) → ty = 66 := fun i c ty e hc => by
    have hb : w3.heap[pb]? = some (.cells (flat (xs.map Px.p ++ List.replicate (n - k) Pr0)).toArray 66 (0, 0)) := hrow
    rw [e, hb] at hc
    exact ((Obj.cells.inj (Option.some.inj hc)).2.1).symm
  have k4 : Kp (fun i => i = pb) wr ((((((w3.setCell ⟨pb, k * 6, none⟩ (.int .u64 t.p.sent)).setCell ⟨pb, k * 6 + 1, none⟩ (.int .u64 t.p.acked)).setCell ⟨pb, k * 6 + 2, none⟩ t.p.q).setCell ⟨pb, k * 6 + 3, none⟩ (.int .u64 t.p.mask)).setCell ⟨pb, k * 6 + 4, none⟩ (.int .u64 t.p.dlv)).setCell ⟨pb, k * 6 + 5, none⟩ t.p.e) := (k3.mono (fun _ _ e => e.elim)).trans ks (fun _ _ e => e)
  refine ⟨h.kp.trans k4 (fun i hi e => by have e : i = pb := e; have := h.hp; omega), ?_, ?_, ?_, by rw [List.length_append, h.len]; rfl, fun y hy => ?_, ?_, h.hd, h.hp, fun i y hi hy => ?_⟩
  · have h3 := (k3.block db (blk_lt h.dbx) (fun e => e)).trans h.dbx
    exact (ks.block db (blk_lt h3) (fun e => by have := hoff db _ _ e h3; cases this)).trans h3
  · have h3 := (k3.block _ (blk_lt h.b0x) (fun e => e)).trans h.b0x
    exact (ks.block _ (blk_lt h3) (fun e => by have := hoff _ _ _ e h3; cases this)).trans h3
  · have e1 : (xs.map Px.p ++ List.replicate (n - k) Pr0).set k ⟨t.p.sent, t.p.acked, t.p.q, t.p.qs, t.p.mask, t.p.dlv, t.p.e⟩ = (xs ++ [t]).map Px.p ++ List.replicate (n - (k + 1)) Pr0 := by
      rw [List.set_append_right _ _ (by rw [List.length_map, h.len]; exact Nat.le_refl _), List.length_map, h.len, Nat.sub_self]
      obtain ⟨m, hm⟩ : ∃ m, n - k = m + 1 := ⟨n - k - 1, by omega⟩
      rw [hm, List.replicate_succ, List.set_cons_zero, List.map_append, List.append_assoc, show n - (k + 1) = m by omega]
      rfl
    rw [e1] at hr6
    exact hr6
  · rcases List.mem_append.1 hy with hy | hy
    · exact ((h.pm y hy).nu k3).off ks (fun i c ty e hc => by have := hoff i c ty e hc; subst this; decide)
    · rw [List.mem_singleton.1 hy]
      exact (ht.off ks (fun i c ty e hc => by have := hoff i c ty e hc; subst this; decide)).mono (fun i hi hG => Nat.le_trans h.kp.size hG)
  · rw [List.map_append, h.ab, List.take_add_one, hx, List.map_append]
    show _ ++ [t.ab] = _ ++ [x.ab]
    rw [hab]
  · rcases Nat.lt_or_ge i k with h1 | h1
    · exact h.good i y h1 hy
    · have : i = k := by omega
      subst this; rw [hx] at hy; cases hy; exact hg
instance (sf hosts qn wn : Int) : Decidable (newOk sf hosts qn wn) := by unfold newOk; infer_instance
/-- what the document's New and Load leave where they refuse -/
def NoE (w w' : World) (db : Nat) : Prop := w.heap.size ≤ db ∧ w'.heap[db]? = some (.cells #[.bool false, .int .i64 0, .int .i64 0, .int .i64 0, .int .i64 0, .slice none 0 0] 37 (0, 0)) ∧ Kp Nu w w'
/-- the document's end -/
structure YesE (w w' : World) (db : Nat) (sf qn wn : Int) (xs : List Px) : Prop where
  kp : Kp Nu w w'
  hd : w.heap.size ≤ db
  ex : ∃ pb, w.heap.size ≤ pb ∧ w'.heap[db]? = some (.cells #[.bool true, .int .i64 sf, .int .i64 (xs.length : Int), .int .i64 qn, .int .i64 wn, .slice (some ⟨pb, 0, none⟩) xs.length xs.length] 37 (0, 0)) ∧ Row w' pb 66 (xs.map Px.p)
  pm : ∀ x ∈ xs, Pm w' (fun i => w.heap.size ≤ i) x
set_option maxRecDepth 100000 in
set_option maxHeartbeats 8000000 in
/-- the document's Load -/
theorem load46 (w : World) (sf hosts qn wn : Int) (v : Value) (I : List Px) (hI : Wi w v I) (hb : ∀ x ∈ I, Bd x) (hl : I.length ≤ 1759218604441) :
    Calls Try.prog 46 #[.int .i64 sf, .int .i64 hosts, .int .i64 qn, .int .i64 wn, .agg #[v]] w fun e w' => ∃ db, (ldOk sf hosts qn wn I ∧ e = .returned (.tuple #[.pointer (some ⟨db, 0, none⟩), .int .i64 0]) ∧ ∃ xs, xs.map Px.ab = I.map Px.ab ∧ YesE w w' db sf qn wn xs) ∨ (¬ ldOk sf hosts qn wn I ∧ e = .returned (.tuple #[.pointer (some ⟨db, 0, none⟩), .int .i64 (if newOk sf hosts qn wn then 87 else 2)]) ∧ NoE w w' db) := by
  have mixed : Try.prog.follows .mixedOrders = true := by kernel_rfl
  obtain ⟨aI, cI, eI⟩ := hI.slice
  subst eI
  obtain ⟨n, en⟩ : ∃ n, I.length = n := ⟨_, rfl⟩
  rw [en] at hI ⊢
  have k0 : Kp Nu w (w.alloc (.cells #[.slice aI n cI] 24)) := (Kp.refl Nu w).andAlloc _
  have hbx := heap_alloc_new w (.cells #[.slice aI n cI] 24)
  by_cases hnew : newOk sf hosts qn wn
  · rw [if_pos hnew]
    obtain ⟨h, eh⟩ : ∃ h : Nat, hosts = h := ⟨hosts.toNat, by have := hnew.1; omega⟩
    subst eh
    have NW := fun W => new47_ok sf h qn wn hnew W
    have HN := hide (And.intro en (And.intro hl (And.intro hb hnew)))
    have HI := hide hI
    by_cases hlen : (n : Int) = (h : Int)
    · obtain rfl : n = h := by omega
      have hne : ((n : Int) != (n : Int)) = false := by simp
      clear hI hb hl en hnew hlen
      go_enter Try.func46, Try.ntmps46
      go_wp2_with (go_at_call 47; refine (NW _).mono ?_; rintro e w1 ⟨db, pb, rfl, hd, hp, hdx, hrow, k1⟩; have z1 := cellAt (v := .slice aI n cI) ((k1.block _ (blk_lt hbx) (fun e => e)).trans hbx) 0 rfl)
      have HT0 : Hid (L4 w w1 db pb (.slice aI n cI) sf qn wn I [] n 0) := hide ⟨k0.andNu k1, hdx, (k1.block _ (blk_lt hbx) (fun e => e)).trans hbx, by simpa using hrow, rfl, (fun x hx => by cases hx), rfl, Nat.le_trans k0.size hd, Nat.le_trans k0.size hp, fun i x hi => by omega⟩
      clear hd hp hdx hrow k1 hbx k0 NW
      go_loopw [14] (fun it wr => ∃ (k : Nat) (xs : List Px), k ≤ n ∧ it = .int .i64 (k : Int) ∧ Hid (L4 w wr db pb (.slice aI n cI) sf qn wn I xs n k)) (fun it _ => n - (intOf it).toNat)
      case atStart => exact ⟨0, [], by omega, rfl, HT0⟩
      case round =>
        clear z1 HT0
        obtain ⟨k, xs, hkn, rfl, HJ⟩ := hrel
        have hJ := HJ.out
        have z1 := cellAt (v := .slice aI n cI) hJ.b0x 0 rfl
        by_cases hlt : k < n
        · obtain ⟨x, hx⟩ : ∃ x, I[k]? = some x := ⟨_, List.getElem?_eq_getElem (by rw [HN.out.1]; exact hlt)⟩
          have hbd := HN.out.2.2.1 x (List.mem_of_getElem? hx)
          obtain ⟨bi, oi, ci', E0, s0, s1, s2, s3, s4, s5, hin⟩ := HI.out.six hx
          have E1 := (Value.slice.inj E0).1
          clear E0
          subst E1
          obtain ⟨a1, b1, f1⟩ := hin.1.slice
          obtain ⟨a2, b2, f2⟩ := hin.2.slice
          have inr := hin.nu hJ.kp
          have GZ := fun W => zero_gen x.p.sent x.p.acked x.p.mask x.p.dlv a1 a2 x.p.qs.length x.es.length b1 b2 W
          have GR := right75 wr db x.p.sent x.p.acked x.p.mask x.p.dlv qn wn _ x.p.q x.p.e x.p.qs x.es inr.1 inr.2 (cellAt hJ.dbx 3 rfl) (cellAt hJ.dbx 4 rfl) rfl hbd.2.2.2.2.2.2.2.2.1 hbd.2.2.2.2.2.2.2.2.2.1 HN.out.2.2.2.2.2.2.2.2.1 ⟨by have := HN.out.2.2.2.2.2.2.2.2.2.1; omega, by have h1 := HN.out.2.2.2.2.2.2.2.2.2.2; have h2 := HN.out.2.2.2.2.2.2.2.2.1; omega⟩ hbd.2.2.2.2.2.2.2.2.2.2.1 (fun f hf => (hbd.2.2.2.2.2.2.2.2.2.2.2.2 f hf).2) (by have := hbd.2.2.1; omega) (by have := hbd.1; omega)
          have TW : ∀ W, Kp Nu wr W → Calls Try.prog 48 #[.agg #[.int .u64 x.p.sent, .int .u64 x.p.acked, x.p.q, .int .u64 x.p.mask, .int .u64 x.p.dlv, x.p.e]] W fun e w' => ∃ t : Px, e = .returned (.agg #[.int .u64 t.p.sent, .int .u64 t.p.acked, t.p.q, .int .u64 t.p.mask, .int .u64 t.p.dlv, t.p.e]) ∧ Pm w' (fun i => wr.heap.size ≤ i) t ∧ t.ab = x.ab ∧ Kp Nu W w' := fun W kW => by
            refine (twinP_any W x.p.sent x.p.acked x.p.mask x.p.dlv x.p.q x.p.e x.p.qs x.es (hin.1.nu (hJ.kp.andNu kW)) (hin.2.nu (hJ.kp.andNu kW)) hbd.1 hbd.2.1 hbd.2.2.1 hbd.2.2.2.1).mono ?_
            rintro e w' ⟨t, e1, e2, e3, e4⟩
            exact ⟨t, e1, e2.mono (fun i hi hG => Nat.le_trans kW.size hG), e3, e4⟩
          have HGP : Hid (goodP sf qn wn k x = (if (k : Int) = sf then zeroS x.p.sent x.p.acked x.p.mask x.p.dlv x.p.qs.length x.es.length else (okO x.p.sent x.p.acked x.p.mask qn (IntKind.u64.wrap (x.p.sent - x.p.acked)) x.p.qs && okE x.p.dlv wn 1 x.es))) := hide rfl
          rw [f1, f2] at TW GR
          rw [f1] at s2
          rw [f2] at s5
          generalize x.p.qs.length = l1 at *
          generalize x.es.length = l2 at *
          have CS : ∀ W, Kp (fun i => i = pb) wr W → W.cell? ⟨db, 5, none⟩ = some (.slice (some ⟨pb, 0, none⟩) n n) ∧ W.cell? ⟨w.heap.size, 0, none⟩ = some (.slice (some ⟨bi, oi, none⟩) n cI) ∧ W.cell? ⟨bi, oi + k * 6, none⟩ = some (.int .u64 x.p.sent) ∧ W.cell? ⟨bi, oi + k * 6 + 1, none⟩ = some (.int .u64 x.p.acked) ∧ W.cell? ⟨bi, oi + k * 6 + 2, none⟩ = some (.slice a1 l1 b1) ∧ W.cell? ⟨bi, oi + k * 6 + 3, none⟩ = some (.int .u64 x.p.mask) ∧ W.cell? ⟨bi, oi + k * 6 + 4, none⟩ = some (.int .u64 x.p.dlv) ∧ W.cell? ⟨bi, oi + k * 6 + 5, none⟩ = some (.slice a2 l2 b2) := fun W kW => by
            have kw0 : Kp Nu w W := hJ.kp.trans kW (fun i hi e => by have e : i = pb := e; have := hJ.hp; omega)
            have hno : ∀ (i : Nat) (c : Array Value) (ty : TypeId), wr.heap[i]? = some (.cells c ty (0, 0)) → ty ≠ 66 → W.heap[i]? = some (.cells c ty (0, 0)) := fun i c ty hc hty => (kW.block i (blk_lt hc) (fun e => by
              have hb : wr.heap[pb]? = some (.cells (flat (xs.map Px.p ++ List.replicate (n - k) Pr0)).toArray 66 (0, 0)) := hJ.row
              have e : i = pb := e
              rw [e, hb] at hc
              exact hty ((Obj.cells.inj (Option.some.inj hc)).2.1).symm)).trans hc
            exact ⟨cellAt (hno _ _ _ hJ.dbx (by decide)) 5 rfl, cellAt (hno _ _ _ hJ.b0x (by decide)) 0 rfl, cell_nuX s0 kw0, cell_nuX s1 kw0, cell_nuX s2 kw0, cell_nuX s3 kw0, cell_nuX s4 kw0, cell_nuX s5 kw0⟩
          have KM : ∀ {W}, Kp Nu wr W → Kp (fun i => i = pb) wr W := fun kk => kk.mono (fun _ _ e => e.elim)
          have HRow : Hid (∀ W, Kp Nu wr W → Row W pb 66 (xs.map Px.p ++ List.replicate (n - k) Pr0)) := hide (fun W kk => hJ.row.keep (kk.block _ (blk_lt hJ.row) (fun e => e)))
          have hltI : (k : Int) < (n : Int) := by omega
          have hk0 : (0 : Int) ≤ (k : Int) := by omega
          have hwk : Hid (wrap64 ((k : Int) + 1) = ((k + 1 : Nat) : Int)) := by have := HN.out.1; have := HN.out.2.1; show wrap64 _ = _; unfold wrap64; omega
          have HX := hide (And.intro hlt hx)
          have HKR := hide hJ.kp
          obtain ⟨y0, y1, y2, y3, y4, y5, y6, y7⟩ := CS wr (KM (Kp.refl _ _))
          clear hJ hbd hin inr s0 s1 s2 s3 s4 s5 f1 f2 hkn z1
          have HP0 : Hid ((xs.map Px.p ++ List.replicate (n - k) Pr0)[k]? = some Pr0) := hide (by
            rw [List.getElem?_append_right (by rw [List.length_map, HJ.out.len]; exact Nat.le_refl _), List.length_map, HJ.out.len, Nat.sub_self, List.getElem?_replicate, if_pos (by omega)])
          clear hx hlt
          by_cases hs : (k : Int) = sf
          · have g1 : ((k : Int) == sf) = true := by simp [hs]
            have g2 : ((k : Int) != sf) = false := by simp [hs]
            rw [if_pos hs] at HGP
            have HS := hide hs
            clear hs GR
            cases hz : zeroS x.p.sent x.p.acked x.p.mask x.p.dlv l1 l2 with
            | false =>
              rw [hz] at GZ
              have HZ0 := hide hz
              clear hz
              go_wp2_with (go_at_call 74; refine (GZ _).mono ?_; rintro e w5 ⟨rfl, k5⟩)
              go_ret2
              refine ⟨_, .inr ⟨fun hk => ?_, rfl, by have := HKR.out.size; have := k5.size; omega, heap_alloc_new _ _, (HKR.out.andNu k5).andAlloc _⟩⟩
              have h1 := hk.2.2 k x HX.out.2
              rw [HGP.out] at h1
              rw [HZ0.out] at h1; cases h1
            | true =>
              rw [hz] at GZ HGP
              have HG := hide (HGP.out)
              clear hz
              go_wp2_with (go_at_call 74; refine (GZ _).mono ?_; rintro e w5 ⟨rfl, k5⟩; clear y0 y1 y2 y3 y4 y5 y6 y7; obtain ⟨x0, x1, x2, x3, x4, x5, x6, x7⟩ := CS _ (KM k5))
              go_wp2_with fail
              go_region_held3 (fun W => W.cell? ⟨db, 5, none⟩ = some (.slice (some ⟨pb, 0, none⟩) n n) ∧ W.cell? ⟨w.heap.size, 0, none⟩ = some (.slice (some ⟨bi, oi, none⟩) n cI) ∧ W.cell? ⟨bi, oi + k * 6, none⟩ = some (.int .u64 x.p.sent) ∧ W.cell? ⟨bi, oi + k * 6 + 1, none⟩ = some (.int .u64 x.p.acked) ∧ W.cell? ⟨bi, oi + k * 6 + 2, none⟩ = some (.slice a1 l1 b1) ∧ W.cell? ⟨bi, oi + k * 6 + 3, none⟩ = some (.int .u64 x.p.mask) ∧ W.cell? ⟨bi, oi + k * 6 + 4, none⟩ = some (.int .u64 x.p.dlv) ∧ W.cell? ⟨bi, oi + k * 6 + 5, none⟩ = some (.slice a2 l2 b2)) (first | (with_reducible exact CS _ (KM (Kp.drew k5))) | (with_reducible exact CS _ (KM k3)) | (with_reducible exact CS _ (Kp.put (Kp.put (Kp.put (Kp.put (Kp.put (Kp.put (KM k3))))))))  | (refine CS _ ?_; (repeat with_reducible apply Kp.put); exact KM k3))
                (first | (go_at_call 48; refine (TW _ (Kp.drew k5)).mono ?_; rintro e w3 ⟨⟨⟨ts, ta, tq, tqs, tm, td, te⟩, tes⟩, rfl, ht3, hab3, hk3⟩; simp only at ht3 hab3 ⊢; obtain ⟨tqa, tqc, etq⟩ := own_slice ht3.own; obtain ⟨tea, tec, ete⟩ := own_slice ht3.eown; simp only at etq ete; subst etq ete; generalize tqs.length = tql at *; generalize tes.length = tel at *; have k3 := (Kp.drew k5).andNu hk3; have hr3 := HRow.out _ k3; have F0 := hr3.free (k * 6); have F1 := hr3.free (k * 6 + 1); have F2 := hr3.free (k * 6 + 2); have F3 := hr3.free (k * 6 + 3); have F4 := hr3.free (k * 6 + 4); have F5 := hr3.free (k * 6 + 5); obtain ⟨R0, R1, R2, R3, R4, R5⟩ := hr3.at HP0.out; clear hr3))
              have HZ := hide (HJ.out.step HX.out.1 HX.out.2 HG.out k3 ht3 hab3)
              clear ht3 hab3 hk3 F0 F1 F2 F3 F4 F5 R0 R1 R2 R3 R4 R5 x0 x1 x2 x3 x4 x5 x6 x7
              clear CS TW KM
              go_wp2
              exact ⟨⟨k + 1, _, HX.out.1, by rw [hwk.out], HZ⟩, lt_m _ hwk.out HX.out.1⟩
          · have g1 : ((k : Int) == sf) = false := by simp [hs]
            have g2 : ((k : Int) != sf) = true := by simp [hs]
            rw [if_neg hs] at HGP
            have HS := hide hs
            clear hs GZ
            cases hz : (okO x.p.sent x.p.acked x.p.mask qn (IntKind.u64.wrap (x.p.sent - x.p.acked)) x.p.qs && okE x.p.dlv wn 1 x.es) with
            | false =>
              rw [hz] at GR
              have HZ0 := hide hz
              clear hz
              go_wp2_with (go_at_call 75; refine GR.mono ?_; rintro e w5 ⟨rfl, k5⟩)
              go_ret2
              refine ⟨_, .inr ⟨fun hk => ?_, rfl, by have := HKR.out.size; have := k5.size; omega, heap_alloc_new _ _, (HKR.out.andNu k5).andAlloc _⟩⟩
              have h1 := hk.2.2 k x HX.out.2
              rw [HGP.out] at h1
              rw [HZ0.out] at h1; cases h1
            | true =>
              rw [hz] at GR HGP
              have HG := hide (HGP.out)
              clear hz
              go_wp2_with (go_at_call 75; refine GR.mono ?_; rintro e w5 ⟨rfl, k5⟩; clear y0 y1 y2 y3 y4 y5 y6 y7; obtain ⟨x0, x1, x2, x3, x4, x5, x6, x7⟩ := CS _ (KM k5))
              go_wp2_with fail
              go_region_held3 (fun W => W.cell? ⟨db, 5, none⟩ = some (.slice (some ⟨pb, 0, none⟩) n n) ∧ W.cell? ⟨w.heap.size, 0, none⟩ = some (.slice (some ⟨bi, oi, none⟩) n cI) ∧ W.cell? ⟨bi, oi + k * 6, none⟩ = some (.int .u64 x.p.sent) ∧ W.cell? ⟨bi, oi + k * 6 + 1, none⟩ = some (.int .u64 x.p.acked) ∧ W.cell? ⟨bi, oi + k * 6 + 2, none⟩ = some (.slice a1 l1 b1) ∧ W.cell? ⟨bi, oi + k * 6 + 3, none⟩ = some (.int .u64 x.p.mask) ∧ W.cell? ⟨bi, oi + k * 6 + 4, none⟩ = some (.int .u64 x.p.dlv) ∧ W.cell? ⟨bi, oi + k * 6 + 5, none⟩ = some (.slice a2 l2 b2)) (first | (with_reducible exact CS _ (KM (Kp.drew k5))) | (with_reducible exact CS _ (KM k3)) | (with_reducible exact CS _ (Kp.put (Kp.put (Kp.put (Kp.put (Kp.put (Kp.put (KM k3))))))))  | (refine CS _ ?_; (repeat with_reducible apply Kp.put); exact KM k3))
                (first | (go_at_call 48; refine (TW _ (Kp.drew k5)).mono ?_; rintro e w3 ⟨⟨⟨ts, ta, tq, tqs, tm, td, te⟩, tes⟩, rfl, ht3, hab3, hk3⟩; simp only at ht3 hab3 ⊢; obtain ⟨tqa, tqc, etq⟩ := own_slice ht3.own; obtain ⟨tea, tec, ete⟩ := own_slice ht3.eown; simp only at etq ete; subst etq ete; generalize tqs.length = tql at *; generalize tes.length = tel at *; have k3 := (Kp.drew k5).andNu hk3; have hr3 := HRow.out _ k3; have F0 := hr3.free (k * 6); have F1 := hr3.free (k * 6 + 1); have F2 := hr3.free (k * 6 + 2); have F3 := hr3.free (k * 6 + 3); have F4 := hr3.free (k * 6 + 4); have F5 := hr3.free (k * 6 + 5); obtain ⟨R0, R1, R2, R3, R4, R5⟩ := hr3.at HP0.out; clear hr3))
              have HZ := hide (HJ.out.step HX.out.1 HX.out.2 HG.out k3 ht3 hab3)
              clear ht3 hab3 hk3 F0 F1 F2 F3 F4 F5 R0 R1 R2 R3 R4 R5 x0 x1 x2 x3 x4 x5 x6 x7
              clear CS TW KM
              go_wp2
              exact ⟨⟨k + 1, _, HX.out.1, by rw [hwk.out], HZ⟩, lt_m _ hwk.out HX.out.1⟩
        · obtain rfl : k = n := by omega
          have hJ2 := HJ.out
          have hlx := hJ2.len
          have hld : ldOk sf (k : Int) qn wn I := ⟨HN.out.2.2.2, by rw [HN.out.1], fun i x hx => hJ2.good i x (by rw [← HN.out.1]; exact (List.getElem?_eq_some_iff.1 hx).1) hx⟩
          have HF := hide (And.intro hld (And.intro hlx hJ2))
          clear hlt hJ hJ2 hlx hld
          go_wp2
          go_ret2
          obtain ⟨hld, hlx, hJ2⟩ := HF.out
          refine ⟨db, .inl ⟨hld, rfl, xs, ?_, hJ2.kp, hJ2.hd, ⟨pb, hJ2.hp, ?_, ?_⟩, hJ2.pm⟩⟩
          · rw [hJ2.ab, List.take_of_length_le (by rw [HN.out.1]; exact Nat.le_refl _)]
          · rw [hlx]; exact hJ2.dbx
          · have := hJ2.row
            rwa [Nat.sub_self, List.replicate_zero, List.append_nil] at this
    · have hne : ((n : Int) != (h : Int)) = true := by simp [hlen]
      have HNL := hide (And.intro en hlen)
      clear hI hb hl en hnew HN HI hlen
      go_enter Try.func46, Try.ntmps46
      go_wp2_with (go_at_call 47; refine (NW _).mono ?_; rintro e w1 ⟨db, pb, rfl, hd, hp, hdx, hrow, k1⟩; have z1 := cellAt (v := .slice aI n cI) ((k1.block _ (blk_lt hbx) (fun e => e)).trans hbx) 0 rfl)
      go_ret2
      refine ⟨_, .inr ⟨fun hk => ?_, rfl, by have := k0.size; have := k1.size; omega, heap_alloc_new _ _, (k0.andNu k1).andAlloc _⟩⟩
      have h1 := hk.2.1
      rw [HNL.out.1] at h1
      exact HNL.out.2 h1
  · rw [if_neg hnew]
    have NW := fun W => new47_no sf hosts qn wn hnew W
    have HNN := hide hnew
    clear hI hb hl en hnew
    go_enter Try.func46, Try.ntmps46
    go_wp2_with (go_at_call 47; refine (NW _).mono ?_; rintro e w1 ⟨db, rfl, hd, hdx, k1⟩)
    go_ret2
    exact ⟨db, .inr ⟨fun hk => HNN.out hk.1, rfl, Nat.le_trans k0.size hd, hdx, k0.andNu k1⟩⟩
end Go.Proofs.Ytbhdhoeaogbfbaa.Xo
