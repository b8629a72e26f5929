import Derived.Test.YtbhdhoeaogbfbaaEnI
namespace Go.Proofs.Ytbhdhoeaogbfbaa.Xo
open Go.RowKit
set_option linter.unusedVariables false
section
variable {B eb pb : Nat} {w w' : World} {me qn wn : Int} {ps : List Pr}
theorem step_append_row {P : Program} {ops : Array Oper} {o : Oper} {a : Act} {w : World} {K : Act → World → Prop} {Q : Exit → Act → World → Prop} {E : Prop}
    (hg : o.guard = none) (s x : Operand) (t u : TypeId) (hop : o.op = Op.call { callee := Callee.builtin Builtin.append, args := #[s, x], argTypes := #[t, u] })
    (v y : Value) (hs : a.eval s = v) (hx : a.eval x = y) (v' : Value) (w' : World) (hrun : (Builtin.append_ #[t, u] o.type #[v, y]).run P w = .ok v' w')
    (hK : K (a.put o.dst v') w') : if Region.wanted o (yielded ops a.tmps) = true then Oper.wp P o a w K Q else E := by
  have hw : Region.wanted o (yielded ops a.tmps) = true := by simp [Region.wanted, hg]
  rw [if_pos hw]
  unfold Oper.wp execOp
  simp only [hop, resolve, invoke, builtin, Sem.run_bind, Sem.run_pure, Result.andThen_ok, List.map_toArray, List.map_cons, List.map_nil, hs, hx, hrun]
  exact hK
set_option maxHeartbeats 400000 in
theorem open_same (a : Nat) (o : Nat) (wn : Int) (ad : Option Addr) (n cap : Nat) (w : World) (c2 : w.cell? ⟨a, o + 2, none⟩ = some (.slice ad n cap)) (m : Int) (hm : min wn (n : Int) = m) : Calls Try.prog 81 #[.pointer (some ⟨a, o, none⟩), .int .i64 wn] w fun e w' => e = .returned (.int .i64 m) ∧ w' = w := by
  by_cases hc : wn ≤ (n : Int)
  · obtain rfl : wn = m := by omega
    clear hm
    go_enter Try.func81, Try.ntmps81
    go_wp2
    all_goals go_ret
    all_goals refine ⟨?_, rfl⟩
    all_goals first | rfl | (exfalso; omega) | (simp; omega)
  · obtain rfl : (n : Int) = m := by omega
    clear hm
    have hc2 : (n : Int) < wn := by omega
    clear hc
    go_enter Try.func81, Try.ntmps81
    go_wp2
    all_goals go_ret
    all_goals refine ⟨?_, rfl⟩
    all_goals first | rfl | (exfalso; omega) | (simp; omega)
theorem own_ne {w : World} {b : Nat} {ty : TypeId} {ps : List Pr} (h : Row w b ty ps) {B e size n : Nat} {v : Value} {xs : List Value} (ho : w.ownsRow B e size v n xs) (ht : ty ≠ e) {g : Nat} (hg : v.ownBlock = some g) : g ≠ b := by
  obtain ⟨cur, hc⟩ := own_obj ho hg
  exact h.ne hc ht
/-- the queue has grown by a payload -/
theorem qpush {W3 : World} (hr : Row w pb 123 ps) {k : Nat} {p : Pr} (hk : ps[k]? = some p) {m : Nat} {xs : List Value} (own : w.ownsRow B 45 1 p.q m xs) (hB : B ≤ w.heap.size) (hm : m ≤ 16) (k3 : Kp Nu w W3) {d : Value} (hd : ∃ ad n cap, d = .slice ad n cap) (qs' : List (Value × List Int)) :
    ∃ v' w4, (∃ ad n cap, v' = .slice ad n cap) ∧ (Builtin.append_ #[41, 41] 41 #[p.q, .slice (some ⟨W3.heap.size, 0, none⟩) 1 1]).run Try.prog (W3.alloc (.cells #[d] 45)) = .ok v' w4 ∧ w4.cell? ⟨pb, k * 6 + 2, none⟩ = some p.q ∧ w4.frozen? ⟨pb, k * 6 + 2, none⟩ = false ∧
      Hid (Row (w4.setCell ⟨pb, k * 6 + 2, none⟩ v') pb 123 (ps.set k ⟨p.sent, p.acked, v', qs', p.mask, p.dlv, p.e⟩) ∧ (w4.setCell ⟨pb, k * 6 + 2, none⟩ v').ownsRow B 45 1 v' (m + 1) (xs ++ [d]) ∧ Kp (fun i => i = pb ∨ some i = p.q.ownBlock) w (w4.setCell ⟨pb, k * 6 + 2, none⟩ v') ∧ (v'.ownBlock = p.q.ownBlock ∨ ∃ g, w.heap.size ≤ g ∧ v'.ownBlock = some g) ∧ ∀ (i : Nat) (cur : Array Value), W3.heap[i]? = some (.cells cur 5 (0, 0)) → (w4.setCell ⟨pb, k * 6 + 2, none⟩ v').heap[i]? = W3.heap[i]?) := by
  obtain ⟨i0, hi, hz0, hz1, hz2⟩ := info_parts info45
  obtain ⟨ad, n, cap, hdd⟩ := hd
  have ka : Kp Nu w (W3.alloc (.cells #[d] 45)) := k3.andAlloc _
  have hra : Row (W3.alloc (.cells #[d] 45)) pb 123 ps := hr.keep (ka.block _ (blk_lt hr) (fun h => h))
  have owna : (W3.alloc (.cells #[d] 45)).ownsRow B 45 1 p.q m xs := own_keep own (fun g hg => ka.block g (own_lt own hg) (fun h => h))
  obtain ⟨v', w4, h1, h2, h3, _, h5⟩ := run_append_own_at (P := Try.prog) (W3.alloc (.cells #[d] 45)) B 41 41 45 i0 _ 1 24 Try.underlying41 hi hz0 hz1 hz2 rfl (by decide) p.q m xs owna ⟨W3.heap.size, 0, none⟩ 1 1 [d] rfl (by
    intro j x hj
    rw [Addr.add_lit, Nat.zero_add]
    exact cellAt (heap_alloc_new W3 _) j (by simpa using hj)) (by
    intro x hx
    simp at hx
    rw [hx, hdd]; rfl) (by unfold maxLen; omega) (by omega) (by have := ka.size; omega)
  have kg := Kp.of_grown h3
  have hpb4 : w4.heap[pb]? = (W3.alloc (.cells #[d] 45)).heap[pb]? := kg.block pb (blk_lt hra) (fun e => own_ne hra owna (by decide) e.symm rfl)
  have hr4 : Row w4 pb 123 ps := hra.keep hpb4
  have hne : ∀ g, v'.ownBlock = some g → g ≠ pb := fun g hg => own_ne hr4 h2 (by decide) hg
  have ks : Kp (fun i => i = pb) w4 (w4.setCell ⟨pb, k * 6 + 2, none⟩ v') := (Kp.refl _ _).put
  refine ⟨v', w4, (by obtain ⟨a1, c1, e1⟩ := own_slice h2; exact ⟨_, _, _, e1⟩), h1, (hr4.at hk).2.2.1, hr4.free _, ?_, ?_, ?_, ?_, ?_⟩
  · exact hr4.set hk 2 (by omega) v' ⟨p.sent, p.acked, v', qs', p.mask, p.dlv, p.e⟩ rfl
  · exact own_keep (by simpa using h2) (fun g hg => ks.block g (own_lt h2 hg) (fun e => hne g hg e))
  · refine ((ka.mono (T := fun i => i = pb ∨ some i = p.q.ownBlock) (fun _ _ e => e.elim)).trans kg (fun _ _ e => .inr e)).trans ks (fun _ _ e => .inl e)
  · rcases h5 with h5 | h5
    · exact .inl h5
    · exact .inr ⟨_, ka.size, h5⟩
  · intro i cur hc
    have hca : (W3.alloc (.cells #[d] 45)).heap[i]? = W3.heap[i]? := Below.heap_alloc _ _ _ (blk_lt hc)
    have h4 : w4.heap[i]? = W3.heap[i]? := (kg.block i (by have := blk_lt hc; simp; omega) (fun e => by
      obtain ⟨cur', hc'⟩ := own_obj owna e.symm
      rw [hca, hc] at hc'
      cases hc')).trans hca
    exact (ks.block i (blk_lt (h4.trans hc)) (fun e => hr4.ne (h4.trans hc) (by decide) e)).trans h4
theorem own_cell {w : World} {B e n : Nat} {v : Value} {xs : List Value} (h : w.ownsRow B e 1 v n xs) {j : Nat} {x : Value} (hj : xs[j]? = some x) : ∃ r cap, v = .slice (some ⟨r, 0, none⟩) n cap ∧ w.cell? ⟨r, j, none⟩ = some x := by
  have hl : j < xs.length := (List.getElem?_eq_some_iff.1 hj).1
  rcases h.2 with ⟨_, h0⟩ | ⟨r, cap, cur, e, hB, hg, h1, h2, h3, h4⟩
  · have := h.1; omega
  · refine ⟨r, cap, e, cellAt hg j ?_⟩
    rw [← h4, List.getElem?_take_of_lt (by have := h.1; omega)] at hj
    simpa using hj
set_option maxRecDepth 100000 in
set_option maxHeartbeats 4000000 in
theorem push_any (hr : Row w pb 123 ps) (k : Nat) (p : Pr) (hk : ps[k]? = some p) (hw : Pw w B p) (hB : B ≤ w.heap.size) (m : Nat) (hm : p.qs.length = m) (hmw : (m : Int) < wn) (hwn : wn ≤ 16) (t : Int) (u : Value) (ys : List Int) (hu : Rd w u ys) (hua : ∀ a n c, u = .slice (some a) n c → a.block ≠ pb) (hy0 : 0 < ys.length) (hy : ys.length ≤ 3072) (s1 : p.sent < 18446744073709551615) :
    Calls Try.prog 57 #[.pointer (some ⟨pb, k * 6, none⟩), .int .u8 t, u, .int .i64 wn] w fun e w' => ∃ v q' d, e = .returned v ∧ Dt w' w.heap.size v t (p.sent + 1) ys ∧ Row w' pb 123 (ps.set k ⟨p.sent + 1, p.acked, q', p.qs ++ [(d, ys)], p.mask, p.dlv, p.e⟩) ∧ Pw w' B ⟨p.sent + 1, p.acked, q', p.qs ++ [(d, ys)], p.mask, p.dlv, p.e⟩ ∧ Kp (fun i => i = pb ∨ some i = p.q.ownBlock) w w' ∧ (q'.ownBlock = p.q.ownBlock ∨ ∃ g, w.heap.size ≤ g ∧ q'.ownBlock = some g) := by
  obtain ⟨c0, c1, c2, c3, c4, c5⟩ := hr.at hk
  obtain ⟨ad, cap, hqs⟩ := hw.slice
  rw [hm] at hqs
  have c2s : w.cell? ⟨pb, k * 6 + 2, none⟩ = some (.slice ad m cap) := by rw [← hqs]; exact c2
  have f0 := hr.free (k * 6)
  have hs : IntKind.u64.wrap (p.sent + 1) = p.sent + 1 := by have := hw.a0; have := hw.nums; rw [IntKind.wrap_u64]; omega
  have OP := fun W c => open_same pb (k * 6) wn ad m cap W c (m : Int) (by omega)
  have OP2 := fun W ad' cap' c => open_same pb (k * 6) wn ad' (m + 1) cap' W c ((m : Int) + 1) (by omega)
  have hrA : Row (w.setCell ⟨pb, k * 6, none⟩ (.int .u64 (p.sent + 1))) pb 123 (ps.set k ⟨p.sent + 1, p.acked, p.q, p.qs, p.mask, p.dlv, p.e⟩) := hr.set hk 0 (by omega) _ _ rfl
  have HC := hide (And.intro hr (And.intro hk (And.intro hw (And.intro hB (And.intro hm (And.intro hmw (And.intro hwn s1)))))))
  have HY := hide (And.intro hu (And.intro hy0 hy))
  have HQ := hide hqs
  clear hr hw hB hm hmw hwn s1 hu hy0 hy hqs c2
  go_enter Try.func57, Try.ntmps57
  go_wp2_with (first | (go_at_call 81; refine (OP _ (by assumption)).mono ?_; rintro e w1 ⟨rfl, hw1⟩; obtain rfl := hw1.symm))
  generalize hWA : w.setCell ⟨pb, k * 6, none⟩ (.int .u64 (p.sent + 1)) = WA at *
  obtain ⟨hr, hk', hw, hB, hm, hmw, hwn, s1⟩ := HC.out
  obtain ⟨hu, hy0, hy⟩ := HY.out
  have hqs := HQ.out
  have kA : Kp (fun i => i = pb) w WA := by rw [← hWA]; exact (Kp.refl _ _).put
  have ownA : WA.ownsRow B 45 1 p.q m (p.qs.map Prod.fst) := by
    rw [← hm]; exact own_keep hw.own (fun g hg => kA.block g (own_lt hw.own hg) (fun e => own_ne hr hw.own (by decide) hg e))
  have hszA : WA.heap.size = w.heap.size := by rw [← hWA]; simp [World.setCell]
  have ruA : Rd WA u ys := by
    rcases hu with h | ⟨a, c, e, hc⟩
    · exact .inl h
    · refine .inr ⟨a, c, e, fun j x hj => ?_⟩
      have h1 := hc j x hj
      have hb := hua a _ c e
      exact (World.cell?_of_block (kA.block _ (World.block_lt_of_cell? w _ h1) (fun e => hb (by rw [add_block] at e; exact e)))).trans h1
  have CL := fun W (k' : Kp Nu WA W) => clone_any W u ys (ruA.nu k') hy hy0
  have CC := fun W (k' : Kp Nu WA W) => ((hrA.keep (k'.block _ (blk_lt hrA) (fun h => h))).at (set_self hk' _)).2.2.1
  have PO := fun W (k' : Kp Nu WA W) a' n' cap' => qpush (W3 := W) (d := .slice a' n' cap') hrA (set_self hk' _) ownA (by omega) (by omega) k' ⟨_, _, _, rfl⟩ (p.qs ++ [(.slice a' n' cap', ys)])
  have KA := Kp.refl Nu WA
  rw [hqs] at CC
  simp only [List.set_set] at PO
  rw [hqs] at PO
  obtain ⟨adu, cpu, hue⟩ := hu.slice
  subst hue
  have kd := KA.drew
  have e2 := CC _ KA
  have HX := hide (And.intro kA (And.intro ownA hszA))
  generalize hN : ys.length = N at *
  have HNN := hide hN
  clear hN
  clear hr hua hw hB hm hmw hwn s1 hy0 hy hqs hu ruA kA ownA hszA hrA KA c0 c1 c3 c4 c5 c2s f0 hs hk'
  go_region_law (first | (obtain ⟨v', w4, ⟨ad4, n4, cap4, e4⟩, hrun, z1, z2, hH⟩ := HP3.out; subst e4; refine step_append_row rfl (.tmp 24) (.tmp 27) 41 41 rfl _ _ rfl rfl _ w4 hrun ?_) | (go_simp; go_at_call 82; refine (CL _ kd).mono ?_; rintro e w3 ⟨d3, rfl, ho3, hk3⟩; obtain ⟨a3, cap3, e3⟩ := own_slice ho3; subst e3; have HO3 := hide ho3; have y1 := CC _ (kd.andNu hk3); have y2 := CC _ ((kd.andNu hk3).andAlloc (.cells #[.slice a3 N cap3] 45)); have HP3 := hide (PO w3 (kd.andNu hk3) a3 N cap3); clear ho3))
  all_goals
    obtain ⟨h1, h2, h3, h4, h5⟩ := hH.out
    obtain ⟨hr, hk', hw, hB, hm, hmw, hwn, s1⟩ := HC.out
    generalize hw5 : w4.setCell ⟨pb, k * 6 + 2, none⟩ (.slice ad4 n4 cap4) = w5 at *
    have hj : (p.qs.map Prod.fst ++ [Value.slice a3 N cap3])[m]? = some (.slice a3 N cap3) := by rw [List.getElem?_append_right (by simp [hm]), List.length_map, hm, Nat.sub_self]; rfl
    obtain ⟨r, capr, er, cu⟩ := own_cell h2 hj
    obtain ⟨_, d1, _, _, _, _⟩ := h1.at (set_self hk' _)
    have d2 : w5.cell? ⟨pb, k * 6 + 2, none⟩ = some (.slice (some ⟨r, 0, none⟩) (m + 1) capr) := by rw [← er]; exact (h1.at (set_self hk' _)).2.2.1
    have hO3 := HO3.out
    have rd5 : Rd w5 (.slice a3 N cap3) ys := Rd.of_own (own_keep hO3 (fun g hg => by obtain ⟨cur, hc⟩ := own_obj hO3 hg; exact h5 g cur hc))
    obtain ⟨_, hy0, hy⟩ := HY.out
    have hN := HNN.out
    have DA := datas_one pb (k * 6) t m w5 p.acked (p.sent + 1) r capr (m + 1) d1 d2 (by omega) (by omega) (.slice a3 N cap3) ys cu rd5 (by omega) (by omega) (by
      have hnm := hw.nums; have := hw.a0; rw [hm] at hnm
      have e1 : IntKind.u64.wrap (p.acked + 1) = p.acked + 1 := by rw [IntKind.wrap_u64]; omega
      have e2 : IntKind.u64.wrap (m : Int) = (m : Int) := by rw [IntKind.wrap_u64]; omega
      rw [e1, e2, IntKind.wrap_u64]; omega)
    have O2 := OP2 w5 _ _ d2
    have HF := hide (And.intro h1 (And.intro h2 (And.intro h3 (And.intro h4 h5))))
    have HW3 := hide hk3
    clear h1 h2 h3 h4 h5 hr hk' hw hB hm hmw hwn s1 hj cu d1 rd5 hO3 hy0 hy hN OP OP2 CL CC PO y1 y2 z1 z2 hH HP3 hrun hk3 e2 hw5
    go_wp2_with (first | (go_at_call 81; refine O2.mono ?_; rintro e w6 ⟨rfl, hw6⟩; obtain rfl := hw6.symm) | (go_at_call 83; refine DA.mono ?_; rintro e w7 ⟨v, rfl, hD, hk7⟩))
    go_ret
    obtain ⟨h1, h2, h3, h4, h5⟩ := HF.out
    obtain ⟨hr, hk', hw, hB, hm, hmw, hwn, s1⟩ := HC.out
    obtain ⟨kA, ownA, hszA⟩ := HX.out
    have hO3 := HO3.out
    have hW3 := HW3.out
    have hN := HNN.out
    obtain ⟨_, hy0, hy⟩ := HY.out
    have kw5 : Kp (fun i => i = pb ∨ some i = p.q.ownBlock) w w5 := (kA.mono (fun _ _ e => .inl e)).trans h3 (fun _ _ e => by rw [HQ.out]; exact e)
    have by7 : ∀ (g : Nat) (cur : Array Value), w3.heap[g]? = some (.cells cur 5 (0, 0)) → w7.heap[g]? = w3.heap[g]? := fun g cur hc => by
      have h := h5 g cur hc
      exact (hk7.block g (blk_lt (h.trans hc)) (fun h => h)).trans h
    have byw : ∀ (g : Nat) (cur : Array Value), w.heap[g]? = some (.cells cur 5 (0, 0)) → w7.heap[g]? = w.heap[g]? := fun g cur hc => by
      have ha : WA.heap[g]? = w.heap[g]? := kA.block g (blk_lt hc) (fun e => hr.ne hc (by decide) e)
      have h3' : w3.heap[g]? = w.heap[g]? := (hW3.block g (blk_lt (ha.trans hc)) (fun h => h)).trans ha
      exact (by7 g cur (h3'.trans hc)).trans h3'
    have hlt : w.heap.size ≤ w5.heap.size := kw5.size
    obtain ⟨dd, hd1, hd2⟩ := hD
    refine ⟨v, _, _, rfl, ⟨dd, own_base hd1 hlt, own_base hd2 hlt⟩, h1.keep (hk7.block _ (blk_lt h1) (fun h => h)), ⟨?_, ?_, hw.e0, ?_, hw.a0, ?_⟩, kw5.andNu hk7, ?_⟩
    · have := own_keep h2 (fun g hg => hk7.block g (own_lt h2 hg) (fun h => h))
      simpa [hm] using this
    · intro x hx
      rcases List.mem_append.1 hx with hx | hx
      · have hp := hw.pay x hx
        exact ⟨own_keep hp.1 (fun g hg => by obtain ⟨cur, hc⟩ := own_obj hp.1 hg; exact byw g cur hc), hp.2⟩
      · simp at hx
        subst hx
        refine ⟨?_, by show 0 < ys.length; omega, by show ys.length ≤ 3072; omega⟩
        show w7.ownsRow B 5 1 (.slice a3 N cap3) ys.length (cs ys)
        rw [hN]
        exact own_base (own_keep hO3 (fun g hg => by obtain ⟨cur, hc⟩ := own_obj hO3 hg; exact by7 g cur hc)) (by show B ≤ WA.heap.size; omega)
    · have hnm := hw.nums
      show p.sent + 1 = p.acked + ((p.qs ++ [_]).length : Int)
      rw [List.length_append, List.length_singleton]
      omega
    · show p.sent + 1 ≤ 18446744073709551615
      omega
    · rw [hszA, ← HQ.out] at h4
      exact h4
end
end Go.Proofs.Ytbhdhoeaogbfbaa.Xo
