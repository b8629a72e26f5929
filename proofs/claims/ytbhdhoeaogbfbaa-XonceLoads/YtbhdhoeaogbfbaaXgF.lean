import Derived.Test.YtbhdhoeaogbfbaaXgD
import Derived.Test.YtbhdhoeaogbfbaaXgB
import Derived.Deep.AppendLies
import Derived.Deep.RegionHeld3
namespace Go.Proofs.Ytbhdhoeaogbfbaa.Xo
open Go.RowKit
set_option linter.unusedVariables false
set_option linter.unusedSimpArgs false
set_option maxRecDepth 100000 in
set_option maxHeartbeats 4000000 in
/-- the document's State -/
theorem state21 (w : World) (db : Nat) (th : Bool) (sf qn wn : Int) (v : Value) (I : List Px) (hd : w.heap[db]? = some (.cells #[.bool th, .int .i64 sf, .int .i64 (I.length : Int), .int .i64 qn, .int .i64 wn, v] 37 (0, 0))) (hI : Wi w v I) (hb : ∀ x ∈ I, Bd x) (hl : I.length ≤ 1759218604441) : Calls Try.prog 21 #[.pointer (some ⟨db, 0, none⟩)] w fun e w' => ∃ u xs, e = .returned (.agg #[u]) ∧ Tl8 w' u (fun i => w.heap.size ≤ i) xs ∧ xs.map Px.ab = I.map Px.ab ∧ Kp Nu w w' := by
  obtain ⟨i66, hi66, hx0, hx1, hx2⟩ := info_parts info66
  obtain ⟨aI, cI, eI⟩ := hI.slice
  subst eI
  obtain ⟨n, en⟩ : ∃ n, I.length = n := ⟨_, rfl⟩
  rw [en] at hI hd
  have HI := hide hI
  have HN := hide (And.intro en (And.intro hl hb))
  have HD2 : Hid (w.cell? ⟨db, 2, none⟩ = some (.int .i64 (n : Int))) := hide (cellAt hd 2 rfl)
  have HD5 : Hid (w.cell? ⟨db, 5, none⟩ = some (.slice aI n cI)) := hide (cellAt hd 5 rfl)
  have hV : Kp Nu w ((w.alloc (.cells #[.slice none 0 0] 24)).alloc (.cells #[.slice none 0 0] 24)) := ((Kp.refl Nu w).andAlloc _).andAlloc _
  have HT0 : Hid (Ts w ((w.alloc (.cells #[.slice none 0 0] 24)).alloc (.cells #[.slice none 0 0] 24)) ((w.alloc (.cells #[.slice none 0 0] 24)).alloc (.cells #[.slice none 0 0] 24)) (w.heap.size + 1) (.slice none 0 0) [] I 0) := hide ⟨hV, by omega, hV, by
    have h1 := heap_alloc_new (w.alloc (.cells #[.slice none 0 0] 24)) (.cells #[.slice none 0 0] 24)
    simpa using h1, own_nil', fun x hx => by simp at hx, rfl, fun i c _ h => h⟩
  have z1 := cell_nuX HD2.out hV
  clear hI hb hl en hV hd
  go_enter Try.func21, Try.ntmps21
  go_wp2_with fail
  go_loopw [4] (fun it wr => ∃ (k : Nat) (z : Value) (xs : List Px), k ≤ n ∧ it = .int .i64 (k : Int) ∧ Hid (Ts w ((w.alloc (.cells #[.slice none 0 0] 24)).alloc (.cells #[.slice none 0 0] 24)) wr (w.heap.size + 1) z xs I k)) (fun it _ => n - (intOf it).toNat)
  case atStart => exact ⟨0, _, [], by omega, rfl, HT0⟩
  case round =>
    clear z1 HT0
    obtain ⟨k, z, xs, hkn, rfl, HJ⟩ := hrel
    have hJ := HJ.out
    have hlx : xs.length = k := by
      have h1 := congrArg List.length hJ.ab
      rw [List.length_map, List.length_map, List.length_take, HN.out.1] at h1
      rw [h1]; omega
    have HLX := hide hlx
    obtain ⟨az, cz, ez⟩ := own_slice hJ.own
    rw [hlx] at ez
    subst ez
    have c1 := cell_nuX HD2.out hJ.kp
    by_cases hlt : k < n
    · obtain ⟨x, hx⟩ : ∃ x, I[k]? = some x := ⟨_, List.getElem?_eq_getElem (by rw [HN.out.1]; exact hlt)⟩
      have hbd := HN.out.2.2 x (List.mem_of_getElem? hx)
      obtain ⟨bi, oi, ci', E0, s0, s1, s2, s3, s4, s5, hin⟩ := HI.out.six hx
      have E1 := (Value.slice.inj E0).1
      clear E0
      subst E1
      obtain ⟨a1, b1, f1⟩ := hin.1.slice
      obtain ⟨a2, b2, f2⟩ := hin.2.slice
      have TW : ∀ W, Kp Nu wr W → Calls Try.prog 48 #[.agg #[.int .u64 x.p.sent, .int .u64 x.p.acked, x.p.q, .int .u64 x.p.mask, .int .u64 x.p.dlv, x.p.e]] W fun e w' => ∃ t : Px, e = .returned (.agg #[.int .u64 t.p.sent, .int .u64 t.p.acked, t.p.q, .int .u64 t.p.mask, .int .u64 t.p.dlv, t.p.e]) ∧ Pm w' (fun i => wr.heap.size ≤ i) t ∧ t.ab = x.ab ∧ Kp Nu W w' := fun W kW => by
        refine (twinP_any W x.p.sent x.p.acked x.p.mask x.p.dlv x.p.q x.p.e x.p.qs x.es (hin.1.nu (hJ.kp.andNu kW)) (hin.2.nu (hJ.kp.andNu kW)) hbd.1 hbd.2.1 hbd.2.2.1 hbd.2.2.2.1).mono ?_
        rintro e w' ⟨t, e1, e2, e3, e4⟩
        exact ⟨t, e1, e2.mono (fun i hi hG => Nat.le_trans kW.size hG), e3, e4⟩
      rw [f1, f2] at TW
      rw [f1] at s2
      rw [f2] at s5
      generalize x.p.qs.length = l1 at *
      generalize x.es.length = l2 at *
      have KS : ∀ W, Kp (fun i => i = w.heap.size + 1 ∨ some i = (Value.slice az k cz).ownBlock) wr W → W.cell? ⟨db, 5, none⟩ = some (.slice (some ⟨bi, oi, none⟩) n cI) ∧ W.cell? ⟨bi, oi + k * 6, none⟩ = some (.int .u64 x.p.sent) ∧ W.cell? ⟨bi, oi + k * 6 + 1, none⟩ = some (.int .u64 x.p.acked) ∧ W.cell? ⟨bi, oi + k * 6 + 2, none⟩ = some (.slice a1 l1 b1) ∧ W.cell? ⟨bi, oi + k * 6 + 3, none⟩ = some (.int .u64 x.p.mask) ∧ W.cell? ⟨bi, oi + k * 6 + 4, none⟩ = some (.int .u64 x.p.dlv) ∧ W.cell? ⟨bi, oi + k * 6 + 5, none⟩ = some (.slice a2 l2 b2) := fun W kW => by
        have kw0 : Kp Nu w W := hJ.kp.trans kW (fun i hi e => by
          rcases e with e | e
          · have := hJ.hb; omega
          · have := own_ge' hJ.own e.symm; omega)
        refine ⟨cell_nuX HD5.out kw0, cell_nuX s0 kw0, cell_nuX s1 kw0, cell_nuX s2 kw0, cell_nuX s3 kw0, cell_nuX s4 kw0, cell_nuX s5 kw0⟩
      have CQ : ∀ W, Kp Nu wr W → W.cell? ⟨w.heap.size + 1, 0, none⟩ = some (.slice az k cz) := fun W kW => cellAt (v := .slice az k cz) ((kW.block _ (blk_lt hJ.bxh) (fun h => h)).trans hJ.bxh) 0 rfl
      have HO : Hid (∀ W, Kp Nu wr W → W.ownsRow w.heap.size 66 6 (.slice az k cz) k (flat (xs.map Px.p))) := hide (fun W kk => by
        have := own_keep hJ.own (fun g hg => kk.block g (own_lt hJ.own hg) (fun h => h))
        rw [hlx] at this
        exact this)
      have HQ6 : Hid (∀ W, Kp (fun i => some i = (Value.slice az k cz).ownBlock) wr W → W.heap[w.heap.size + 1]? = some (.cells #[.slice az k cz] 24 (0, 0))) := hide (fun W kk => (kk.block _ (blk_lt hJ.bxh) (fun e => by
        obtain ⟨cur, hc⟩ := own_obj hJ.own e.symm
        have := hJ.bxh; rw [hc] at this; cases this)).trans hJ.bxh)
      have HZB : Hid (w.heap.size ≤ wr.heap.size) := hide hJ.kp.size
      have KD := (Kp.refl Nu wr).drew
      have KM : ∀ {W}, Kp Nu wr W → Kp (fun i => i = w.heap.size + 1 ∨ some i = (Value.slice az k cz).ownBlock) wr W := fun kk => kk.mono (fun _ _ e => e.elim)
      have x5 := CQ _ (Kp.refl Nu wr)
      have hltI : (k : Int) < (n : Int) := by omega
      have hk0 : (0 : Int) ≤ (k : Int) := by omega
      have hwk : Hid (wrap64 ((k : Int) + 1) = ((k + 1 : Nat) : Int)) := by have := HN.out.1; have := HN.out.2.1; show wrap64 _ = _; unfold wrap64; omega
      have HKB : Hid (k + 1 ≤ 1759218604441) := hide (by have := HN.out.1; have := HN.out.2.1; omega)
      clear hJ hlx hbd hin s0 s1 s2 s3 s4 s5 f1 f2 hkn
      have CS := KS wr (KM (Kp.refl _ _))
      obtain ⟨_, s0, s1, s2, s3, s4, s5⟩ := CS
      have CS := trivial
      go_wp2_with fail
      refine wp_region_held_drew (S := (fun W => W.cell? ⟨db, 5, none⟩ = some (.slice (some ⟨bi, oi, none⟩) n cI) ∧ W.cell? ⟨bi, oi + k * 6, none⟩ = some (.int .u64 x.p.sent) ∧ W.cell? ⟨bi, oi + k * 6 + 1, none⟩ = some (.int .u64 x.p.acked) ∧ W.cell? ⟨bi, oi + k * 6 + 2, none⟩ = some (.slice a1 l1 b1) ∧ W.cell? ⟨bi, oi + k * 6 + 3, none⟩ = some (.int .u64 x.p.mask) ∧ W.cell? ⟨bi, oi + k * 6 + 4, none⟩ = some (.int .u64 x.p.dlv) ∧ W.cell? ⟨bi, oi + k * 6 + 5, none⟩ = some (.slice a2 l2 b2))) (by kernel_rfl) (KS _ (KM KD)) (fun hHeld => ?_)
      refine wpAnyH_take (i := 0) (oi := ?oi0) (v := ?v0) ?ho0 (by kernel_rfl) (by kernel_rfl) (by kernel_rfl) ?hq0 ?hy0 (by assumption) ?_
      case ho0 => (simp only [List.getElem?_toArray, List.getElem?_cons_succ, List.getElem?_cons_zero]; rfl)
      case hq0 => exact fun _ _ _ h => h
      case hy0 => (refine Or.inl ⟨by rfl, ?_⟩; intro w hSw; obtain ⟨g0, g1, g2, g3, g4, g5, g6⟩ := hSw; go_simp; try with_reducible rfl)
      try simp only [Act.put, List.setIfInBounds_toArray, List.set_cons_zero, List.set_cons_succ]
      refine wpAnyH_take (i := 2) (oi := ?oi2) (v := ?v2) ?ho2 (by kernel_rfl) (by kernel_rfl) (by kernel_rfl) ?hq2 ?hy2 (by assumption) ?_
      case ho2 => (simp only [List.getElem?_toArray, List.getElem?_cons_succ, List.getElem?_cons_zero]; rfl)
      case hq2 => exact fun _ _ _ h => h
      case hy2 => (refine Or.inl ⟨by rfl, ?_⟩; intro w hSw; obtain ⟨g0, g1, g2, g3, g4, g5, g6⟩ := hSw; go_simp; try with_reducible rfl)
      try simp only [Act.put, List.setIfInBounds_toArray, List.set_cons_zero, List.set_cons_succ]
      refine wpAnyH_take (i := 3) (oi := ?oi3) (v := ?v3) ?ho3 (by kernel_rfl) (by kernel_rfl) (by kernel_rfl) ?hq3 ?hy3 (by assumption) ?_
      case ho3 => (simp only [List.getElem?_toArray, List.getElem?_cons_succ, List.getElem?_cons_zero]; rfl)
      case hq3 => exact fun _ _ _ h => h
      case hy3 => (refine Or.inl ⟨by rfl, ?_⟩; intro w hSw; obtain ⟨g0, g1, g2, g3, g4, g5, g6⟩ := hSw; go_simp; try with_reducible rfl)
      try simp only [Act.put, List.setIfInBounds_toArray, List.set_cons_zero, List.set_cons_succ]
      refine wpAnyH_take (i := 4) (oi := ?oi4) (v := ?v4) ?ho4 (by kernel_rfl) (by kernel_rfl) (by kernel_rfl) ?hq4 ?hy4 (by assumption) ?_
      case ho4 => (simp only [List.getElem?_toArray, List.getElem?_cons_succ, List.getElem?_cons_zero]; rfl)
      case hq4 => exact fun _ _ _ h => h
      case hy4 => (refine Or.inl ⟨by rfl, ?_⟩; intro w hSw; obtain ⟨g0, g1, g2, g3, g4, g5, g6⟩ := hSw; go_simp; try with_reducible rfl)
      try simp only [Act.put, List.setIfInBounds_toArray, List.set_cons_zero, List.set_cons_succ]
      refine wpAnyH_take (i := 5) (oi := ?oi5) (v := ?v5) ?ho5 (by kernel_rfl) (by kernel_rfl) (by kernel_rfl) ?hq5 ?hy5 (by assumption) ?_
      case ho5 => (simp only [List.getElem?_toArray, List.getElem?_cons_succ, List.getElem?_cons_zero]; rfl)
      case hq5 => exact fun _ _ _ h => h
      case hy5 => (refine Or.inl ⟨by rfl, ?_⟩; intro w hSw; obtain ⟨g0, g1, g2, g3, g4, g5, g6⟩ := hSw; go_simp; try with_reducible rfl)
      try simp only [Act.put, List.setIfInBounds_toArray, List.set_cons_zero, List.set_cons_succ]
      refine wpAnyH_take (i := 6) (oi := ?oi6) (v := ?v6) ?ho6 (by kernel_rfl) (by kernel_rfl) (by kernel_rfl) ?hq6 ?hy6 (by assumption) ?_
      case ho6 => (simp only [List.getElem?_toArray, List.getElem?_cons_succ, List.getElem?_cons_zero]; rfl)
      case hq6 => exact fun _ _ _ h => h
      case hy6 => (refine Or.inl ⟨by rfl, ?_⟩; intro w hSw; obtain ⟨g0, g1, g2, g3, g4, g5, g6⟩ := hSw; go_simp; try with_reducible rfl)
      try simp only [Act.put, List.setIfInBounds_toArray, List.set_cons_zero, List.set_cons_succ]
      refine wpAnyH_take (i := 7) (oi := ?oi7) (v := ?v7) ?ho7 (by kernel_rfl) (by kernel_rfl) (by kernel_rfl) ?hq7 ?hy7 (by assumption) ?_
      case ho7 => (simp only [List.getElem?_toArray, List.getElem?_cons_succ, List.getElem?_cons_zero]; rfl)
      case hq7 => exact fun _ _ _ h => h
      case hy7 => (refine Or.inl ⟨by rfl, ?_⟩; intro w hSw; obtain ⟨g0, g1, g2, g3, g4, g5, g6⟩ := hSw; go_simp; try with_reducible rfl)
      try simp only [Act.put, List.setIfInBounds_toArray, List.set_cons_zero, List.set_cons_succ]
      refine wpAnyH_take (i := 8) (oi := ?oi8) (v := ?v8) ?ho8 (by kernel_rfl) (by kernel_rfl) (by kernel_rfl) ?hq8 ?hy8 (by assumption) ?_
      case ho8 => (simp only [List.getElem?_toArray, List.getElem?_cons_succ, List.getElem?_cons_zero]; rfl)
      case hq8 => exact fun _ _ _ h => h
      case hy8 => (refine Or.inl ⟨by rfl, ?_⟩; intro w hSw; obtain ⟨g0, g1, g2, g3, g4, g5, g6⟩ := hSw; go_simp; try with_reducible rfl)
      try simp only [Act.put, List.setIfInBounds_toArray, List.set_cons_zero, List.set_cons_succ]
      refine wpAnyH_ready (rs := [1, 9]) (by kernel_rfl) (by simp) ?_
      refine AllReadyH.cons rfl (fun K hK => ?_) (AllReadyH.cons rfl (fun K hK => ?_) AllReadyH.nil)
      · skip
        go_simp
        refine hK.out _ _ (KS _ (KM KD)) (fun hHelda => ?_)
        clear hK K
        try simp only [Act.put, List.setIfInBounds_toArray, List.set_cons_zero, List.set_cons_succ]
        refine wpAnyH_ready (rs := [9]) (by kernel_rfl) (by simp) ?_
        refine AllReadyH.cons rfl (fun K hK => ?_) AllReadyH.nil
        go_simp
        go_at_call 48
        refine (TW _ KD).mono ?_
        rintro e w3 ⟨⟨⟨ts, ta, tq, tqs, tm, td, te⟩, tes⟩, rfl, ht3, hab3, hk3⟩
        simp only at ht3 hab3 ⊢
        obtain ⟨tqa, tqc, etq⟩ := own_slice ht3.own
        obtain ⟨tea, tec, ete⟩ := own_slice ht3.eown
        simp only at etq ete
        subst etq ete
        generalize tqs.length = tql at *
        generalize tes.length = tel at *
        have hk3 := (Kp.refl Nu wr).drew.andNu hk3
        go_wp2_with fail
        refine hK.out _ _ (KS _ (KM hk3)) (fun hHeldb => ?_)
        clear hK K
        try simp only [Act.put, List.setIfInBounds_toArray, List.set_cons_zero, List.set_cons_succ]
        have y5 := CQ _ hk3
        refine wpAnyH_ready (rs := [10]) (by kernel_rfl) (by simp) ?_
        refine AllReadyH.cons rfl (fun K hK => ?_) AllReadyH.nil
        go_simp
        refine hK.out _ _ (KS _ (KM (hk3.andAlloc _))) (fun hHeldc => ?_)
        clear hK K
        try simp only [Act.put, List.setIfInBounds_toArray, List.set_cons_zero, List.set_cons_succ]
        refine wpAnyH_ready (rs := [11]) (by kernel_rfl) (by simp) ?_
        refine AllReadyH.cons rfl (fun K hK => ?_) AllReadyH.nil
        refine step_append_lies _ (by rfl) (.tmp 14) (.tmp 23) 22 (by rfl) w.heap.size 66 i66 (.agg #[.int .u64 0, .int .u64 0, .slice none 0 0, .int .u64 0, .int .u64 0, .slice none 0 0]) 6 80 Try.underlying22 hi66 hx0 hx1 hx2 rfl (by decide) (.slice az k cz) k (flat (xs.map Px.p)) (by rfl) (HO.out _ (hk3.andAlloc _)) ⟨w3.heap.size, 0, none⟩ 1 1 [.int .u64 ts, .int .u64 ta, .slice tqa tql tqc, .int .u64 tm, .int .u64 td, .slice tea tel tec] (by rfl) rfl (cells_six_new _ _ _ _ _ _ _ _) (by intro x hx; simp at hx; rcases hx with rfl | rfl | rfl | rfl | rfl | rfl <;> rfl) (by decide) (by have := HKB.out; unfold maxLen; omega) (by have := HKB.out; omega) (by have := hk3.size; have := HZB.out; simp; omega) _ rfl ?_
        intro g gc w6 hown hgrow hlie hglt
        have k6s : Kp (fun i => some i = (Value.slice az k cz).ownBlock) wr w6 := ((hk3.andAlloc _).mono (fun _ _ e => e.elim)).trans (Kp.of_grown hgrow) (fun i hi e => e)
        have k6 : Kp (fun i => i = w.heap.size + 1 ∨ some i = (Value.slice az k cz).ownBlock) wr w6 := k6s.mono (fun _ _ e => .inr e)
        have hb6 := HQ6.out _ k6s
        have y6 := cellAt hb6 0 rfl
        have f6 := free3 hb6 0
        refine hK.out _ _ (KS _ k6) (fun hHelddp => ?_)
        clear hK K
        try simp only [Act.put, List.setIfInBounds_toArray, List.set_cons_zero, List.set_cons_succ]
        refine wpAnyH_take (i := 12) (oi := ?oi12d) (v := ?v12d) ?ho12d (by kernel_rfl) (by kernel_rfl) (by kernel_rfl) ?hq12d ?hy12d (by assumption) ?_
        case ho12d => (simp only [List.getElem?_toArray, List.getElem?_cons_succ, List.getElem?_cons_zero]; rfl)
        case hq12d => exact fun _ _ _ h => h
        case hy12d => (refine Or.inl ⟨by rfl, ?_⟩; intro w hSw; obtain ⟨g0, g1, g2, g3, g4, g5, g6⟩ := hSw; go_simp; try with_reducible rfl)
        try simp only [Act.put, List.setIfInBounds_toArray, List.set_cons_zero, List.set_cons_succ]
        refine wpAnyH_ready (rs := [13]) (by kernel_rfl) (by simp) ?_
        refine AllReadyH.cons rfl (fun K hK => ?_) AllReadyH.nil
        go_simp
        refine hK.out _ _ (KS _ (k6.andSet _ _ (.inr (.inl rfl)))) (fun hHeldds => ?_)
        clear hK K
        try simp only [Act.put, List.setIfInBounds_toArray, List.set_cons_zero, List.set_cons_succ]
        refine wpAnyH_done (by kernel_rfl) ?_ _
        have HZ := hide (Ts.step HJ.out hx hk3 ht3 hab3 (by rw [HLX.out]; exact hown) (Kp.of_grown hgrow))
        clear hown hgrow hlie hglt k6s k6 hb6 y6 f6 TW KS CQ HO HQ6 KM x5 ht3 hab3 hk3
        clear CS
        go_wp2
        exact ⟨⟨k + 1, _, _, hlt, by rw [hwk.out], HZ⟩, lt_m _ hwk.out hlt⟩
      · skip
        go_simp
        go_at_call 48
        refine (TW _ KD).mono ?_
        rintro e w3 ⟨⟨⟨ts, ta, tq, tqs, tm, td, te⟩, tes⟩, rfl, ht3, hab3, hk3⟩
        simp only at ht3 hab3 ⊢
        obtain ⟨tqa, tqc, etq⟩ := own_slice ht3.own
        obtain ⟨tea, tec, ete⟩ := own_slice ht3.eown
        simp only at etq ete
        subst etq ete
        generalize tqs.length = tql at *
        generalize tes.length = tel at *
        have hk3 := (Kp.refl Nu wr).drew.andNu hk3
        go_wp2_with fail
        refine hK.out _ _ (KS _ (KM hk3)) (fun hHelde => ?_)
        clear hK K
        try simp only [Act.put, List.setIfInBounds_toArray, List.set_cons_zero, List.set_cons_succ]
        have y5 := CQ _ hk3
        refine wpAnyH_ready (rs := [1, 10]) (by kernel_rfl) (by simp) ?_
        refine AllReadyH.cons rfl (fun K hK => ?_) (AllReadyH.cons rfl (fun K hK => ?_) AllReadyH.nil)
        · skip
          go_simp
          refine hK.out _ _ (KS _ (KM hk3)) (fun hHeldf => ?_)
          clear hK K
          try simp only [Act.put, List.setIfInBounds_toArray, List.set_cons_zero, List.set_cons_succ]
          refine wpAnyH_ready (rs := [10]) (by kernel_rfl) (by simp) ?_
          refine AllReadyH.cons rfl (fun K hK => ?_) AllReadyH.nil
          go_simp
          refine hK.out _ _ (KS _ (KM (hk3.andAlloc _))) (fun hHeldg => ?_)
          clear hK K
          try simp only [Act.put, List.setIfInBounds_toArray, List.set_cons_zero, List.set_cons_succ]
          refine wpAnyH_ready (rs := [11]) (by kernel_rfl) (by simp) ?_
          refine AllReadyH.cons rfl (fun K hK => ?_) AllReadyH.nil
          refine step_append_lies _ (by rfl) (.tmp 14) (.tmp 23) 22 (by rfl) w.heap.size 66 i66 (.agg #[.int .u64 0, .int .u64 0, .slice none 0 0, .int .u64 0, .int .u64 0, .slice none 0 0]) 6 80 Try.underlying22 hi66 hx0 hx1 hx2 rfl (by decide) (.slice az k cz) k (flat (xs.map Px.p)) (by rfl) (HO.out _ (hk3.andAlloc _)) ⟨w3.heap.size, 0, none⟩ 1 1 [.int .u64 ts, .int .u64 ta, .slice tqa tql tqc, .int .u64 tm, .int .u64 td, .slice tea tel tec] (by rfl) rfl (cells_six_new _ _ _ _ _ _ _ _) (by intro x hx; simp at hx; rcases hx with rfl | rfl | rfl | rfl | rfl | rfl <;> rfl) (by decide) (by have := HKB.out; unfold maxLen; omega) (by have := HKB.out; omega) (by have := hk3.size; have := HZB.out; simp; omega) _ rfl ?_
          intro g gc w6 hown hgrow hlie hglt
          have k6s : Kp (fun i => some i = (Value.slice az k cz).ownBlock) wr w6 := ((hk3.andAlloc _).mono (fun _ _ e => e.elim)).trans (Kp.of_grown hgrow) (fun i hi e => e)
          have k6 : Kp (fun i => i = w.heap.size + 1 ∨ some i = (Value.slice az k cz).ownBlock) wr w6 := k6s.mono (fun _ _ e => .inr e)
          have hb6 := HQ6.out _ k6s
          have y6 := cellAt hb6 0 rfl
          have f6 := free3 hb6 0
          refine hK.out _ _ (KS _ k6) (fun hHeldhp => ?_)
          clear hK K
          try simp only [Act.put, List.setIfInBounds_toArray, List.set_cons_zero, List.set_cons_succ]
          refine wpAnyH_take (i := 12) (oi := ?oi12h) (v := ?v12h) ?ho12h (by kernel_rfl) (by kernel_rfl) (by kernel_rfl) ?hq12h ?hy12h (by assumption) ?_
          case ho12h => (simp only [List.getElem?_toArray, List.getElem?_cons_succ, List.getElem?_cons_zero]; rfl)
          case hq12h => exact fun _ _ _ h => h
          case hy12h => (refine Or.inl ⟨by rfl, ?_⟩; intro w hSw; obtain ⟨g0, g1, g2, g3, g4, g5, g6⟩ := hSw; go_simp; try with_reducible rfl)
          try simp only [Act.put, List.setIfInBounds_toArray, List.set_cons_zero, List.set_cons_succ]
          refine wpAnyH_ready (rs := [13]) (by kernel_rfl) (by simp) ?_
          refine AllReadyH.cons rfl (fun K hK => ?_) AllReadyH.nil
          go_simp
          refine hK.out _ _ (KS _ (k6.andSet _ _ (.inr (.inl rfl)))) (fun hHeldhs => ?_)
          clear hK K
          try simp only [Act.put, List.setIfInBounds_toArray, List.set_cons_zero, List.set_cons_succ]
          refine wpAnyH_done (by kernel_rfl) ?_ _
          have HZ := hide (Ts.step HJ.out hx hk3 ht3 hab3 (by rw [HLX.out]; exact hown) (Kp.of_grown hgrow))
          clear hown hgrow hlie hglt k6s k6 hb6 y6 f6 TW KS CQ HO HQ6 KM x5 ht3 hab3 hk3
          clear CS
          go_wp2
          exact ⟨⟨k + 1, _, _, hlt, by rw [hwk.out], HZ⟩, lt_m _ hwk.out hlt⟩
        · skip
          go_simp
          refine hK.out _ _ (KS _ (KM (hk3.andAlloc _))) (fun hHeldi => ?_)
          clear hK K
          try simp only [Act.put, List.setIfInBounds_toArray, List.set_cons_zero, List.set_cons_succ]
          have zz5 := CQ _ (hk3.andAlloc (.cells #[.int .u64 ts, .int .u64 ta, .slice tqa tql tqc, .int .u64 tm, .int .u64 td, .slice tea tel tec] 66))
          refine wpAnyH_ready (rs := [1]) (by kernel_rfl) (by simp) ?_
          refine AllReadyH.cons rfl (fun K hK => ?_) AllReadyH.nil
          go_simp
          refine hK.out _ _ (KS _ (KM (hk3.andAlloc _))) (fun hHeldj => ?_)
          clear hK K
          try simp only [Act.put, List.setIfInBounds_toArray, List.set_cons_zero, List.set_cons_succ]
          refine wpAnyH_ready (rs := [11]) (by kernel_rfl) (by simp) ?_
          refine AllReadyH.cons rfl (fun K hK => ?_) AllReadyH.nil
          refine step_append_lies _ (by rfl) (.tmp 14) (.tmp 23) 22 (by rfl) w.heap.size 66 i66 (.agg #[.int .u64 0, .int .u64 0, .slice none 0 0, .int .u64 0, .int .u64 0, .slice none 0 0]) 6 80 Try.underlying22 hi66 hx0 hx1 hx2 rfl (by decide) (.slice az k cz) k (flat (xs.map Px.p)) (by rfl) (HO.out _ (hk3.andAlloc _)) ⟨w3.heap.size, 0, none⟩ 1 1 [.int .u64 ts, .int .u64 ta, .slice tqa tql tqc, .int .u64 tm, .int .u64 td, .slice tea tel tec] (by rfl) rfl (cells_six_new _ _ _ _ _ _ _ _) (by intro x hx; simp at hx; rcases hx with rfl | rfl | rfl | rfl | rfl | rfl <;> rfl) (by decide) (by have := HKB.out; unfold maxLen; omega) (by have := HKB.out; omega) (by have := hk3.size; have := HZB.out; simp; omega) _ rfl ?_
          intro g gc w6 hown hgrow hlie hglt
          have k6s : Kp (fun i => some i = (Value.slice az k cz).ownBlock) wr w6 := ((hk3.andAlloc _).mono (fun _ _ e => e.elim)).trans (Kp.of_grown hgrow) (fun i hi e => e)
          have k6 : Kp (fun i => i = w.heap.size + 1 ∨ some i = (Value.slice az k cz).ownBlock) wr w6 := k6s.mono (fun _ _ e => .inr e)
          have hb6 := HQ6.out _ k6s
          have y6 := cellAt hb6 0 rfl
          have f6 := free3 hb6 0
          refine hK.out _ _ (KS _ k6) (fun hHeldkp => ?_)
          clear hK K
          try simp only [Act.put, List.setIfInBounds_toArray, List.set_cons_zero, List.set_cons_succ]
          refine wpAnyH_take (i := 12) (oi := ?oi12k) (v := ?v12k) ?ho12k (by kernel_rfl) (by kernel_rfl) (by kernel_rfl) ?hq12k ?hy12k (by assumption) ?_
          case ho12k => (simp only [List.getElem?_toArray, List.getElem?_cons_succ, List.getElem?_cons_zero]; rfl)
          case hq12k => exact fun _ _ _ h => h
          case hy12k => (refine Or.inl ⟨by rfl, ?_⟩; intro w hSw; obtain ⟨g0, g1, g2, g3, g4, g5, g6⟩ := hSw; go_simp; try with_reducible rfl)
          try simp only [Act.put, List.setIfInBounds_toArray, List.set_cons_zero, List.set_cons_succ]
          refine wpAnyH_ready (rs := [13]) (by kernel_rfl) (by simp) ?_
          refine AllReadyH.cons rfl (fun K hK => ?_) AllReadyH.nil
          go_simp
          refine hK.out _ _ (KS _ (k6.andSet _ _ (.inr (.inl rfl)))) (fun hHeldks => ?_)
          clear hK K
          try simp only [Act.put, List.setIfInBounds_toArray, List.set_cons_zero, List.set_cons_succ]
          refine wpAnyH_done (by kernel_rfl) ?_ _
          have HZ := hide (Ts.step HJ.out hx hk3 ht3 hab3 (by rw [HLX.out]; exact hown) (Kp.of_grown hgrow))
          clear hown hgrow hlie hglt k6s k6 hb6 y6 f6 TW KS CQ HO HQ6 KM x5 ht3 hab3 hk3
          clear CS
          go_wp2
          exact ⟨⟨k + 1, _, _, hlt, by rw [hwk.out], HZ⟩, lt_m _ hwk.out hlt⟩
    · obtain rfl : k = n := by omega
      clear hlt
      have hJ := HJ.out
      have x6 := cellAt (v := .slice az k cz) hJ.bxh 0 rfl
      have hr := hJ.k24 w.heap.size #[.slice none 0 0] (by omega) (by
        exact (Below.heap_alloc _ _ _ (by simp)).trans (heap_alloc_new w _))
      have x7 := cellAt (v := .slice none 0 0) hr 0 rfl
      have f7 := free3 hr 0
      have HF := hide (And.intro hJ hr)
      clear hJ hr
      go_wp2_with fail
      have hb := set3 HF.out.2 0 (.slice az k cz)
      have kk : Kp (fun i => i = w.heap.size) wr _ := (Kp.refl (fun i => i = w.heap.size) wr).put (o := 0) (u := .slice az k cz)
      refine bodyPost_ret (results_cell_row rfl _ _ w.heap.size 24 _ _ _ rfl hb Try.underlying24 rfl info24s) rfl ?_
      have hJ := HF.out.1
      have hoff : ∀ i c t, i = w.heap.size → wr.heap[i]? = some (.cells c t (0, 0)) → t = 24 := fun i c t e hc => by
        rw [e, HF.out.2] at hc
        injection hc with hc
        injection hc with _ e2 _
        exact e2.symm
      refine ⟨_, xs, rfl, ⟨?_, fun g hg => own_ge' hJ.own hg, fun y hy => (hJ.pm y hy).off kk (fun i c t e hc => by have := hoff i c t e hc; subst this; decide)⟩, ?_, hJ.kp.trans kk (fun i hi e => by have e : i = w.heap.size := e; omega)⟩
      · exact own_base (own_keep hJ.own (fun g hg => kk.block g (own_lt hJ.own hg) (fun e => by
          obtain ⟨cur, hc⟩ := own_obj hJ.own hg
          have := hoff g _ _ e hc; cases this))) (Nat.zero_le _)
      · rw [hJ.ab, List.take_of_length_le (by rw [HN.out.1]; exact Nat.le_refl _)]
end Go.Proofs.Ytbhdhoeaogbfbaa.Xo
