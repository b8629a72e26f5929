import Derived.Test.YtcbonbeogdgogaaLoG
import Derived.Maps.OwnOps
namespace Go.Proofs.Ytcbonbeogdgogaa.Li
open Go.RowKit Go.Maps
set_option linter.unusedVariables false
/-- how a cell in the map reads: as it is -/
def cellR (v : Value) : Option (DataW Value × List MemPlace) := some (.held v, [])
def zv : Value := .agg #[.bool false, .slice none 0 0]
theorem keyK : Keyed Try.prog 23 := int_keyed Try.underlying23
theorem zero64 (w : World) : (zeroValue 64).run Try.prog w = .ok zv w := by kernel_rfl
theorem key_u64 {k : Int} (h0 : 0 ≤ k) (h1 : k < 18446744073709551616) : keyOf Try.prog 23 (.int .u64 k) = some (Lit.int .u64 k) := keyOf_int_mk Try.underlying23 (by simp [Lit.wf, IntKind.min, IntKind.max, IntKind.signed, IntKind.bits]; omega)
theorem Kp.undrew {S : Nat → Prop} {a b : World} (h : Kp S a.drew b) : Kp S a b := ⟨h.os, h.tape, h.output, h.size, h.block⟩
/-- the map says what the keys have -/
def Pm (w : World) (D : DataW Value) (f : Int → Option (List Int)) : Prop := IsMap D ∧ ∀ k, 0 ≤ k → k < 18446744073709551616 → ∃ (z : Zc) (X : List Int), D.atKey (Lit.int .u64 k) (.held zv) = .held (.agg #[.bool z.h, .slice z.a z.n z.c]) ∧ f k = opt z.h X ∧ By w (.slice z.a z.n z.c) X ∧ (z.h = false → X = [])
theorem Pm.zero (w : World) : Pm w (.map []) (fun _ => none) := ⟨isMap_empty, fun k _ _ => ⟨⟨false, none, 0, 0⟩, [], WideAt.atKey_none _ (fun p hp => by cases hp), rfl, By.nil w, fun _ => rfl⟩⟩
theorem Pm.put {w : World} {D : DataW Value} {f : Int → Option (List Int)} (h : Pm w D f) {k : Int} {z : Zc} {X : List Int} (hb : By w (.slice z.a z.n z.c) X) (hX : z.h = false → X = []) : Pm w (D.put (Lit.int .u64 k) (.held (.agg #[.bool z.h, .slice z.a z.n z.c]))) (upd f k (opt z.h X)) := by
  refine ⟨h.1.put _ _, fun k' h0 h1 => ?_⟩
  by_cases e : k' = k
  · subst e
    exact ⟨z, X, atKey_put_same h.1 (by trivial) _ _, by simp [upd], hb, hX⟩
  · obtain ⟨z', X', p1, p2, p3, p4⟩ := h.2 k' h0 h1
    refine ⟨z', X', ?_, by simp [upd, e, p2], p3, p4⟩
    rw [atKey_put_other (by intro e2; simp only [Lit.int.injEq, true_and] at e2; exact e e2)]
    exact p1
/-- where play stands -/
structure Py (w wr : World) (L : List Ca) (o : List Int) (i : Nat) (D : DataW Value) (f : Int → Option (List Int)) : Prop where
  kp : Kp Nu w wr
  mp : wr.ownsMap Try.prog 23 cellR w.heap.size i D
  fr : Fr L o i = some f
  pm : Pm w D f
/-- keys that are numbers of 64 bits -/
def Kys (L : List Ca) : Prop := ∀ c ∈ L, 0 ≤ c.key ∧ c.key < 18446744073709551616
theorem map_nu {w w' : World} {b n : Nat} {D : DataW Value} (h : w.ownsMap Try.prog 23 cellR b n D) (k : Kp Nu w w') : w'.ownsMap Try.prog 23 cellR b n D := by
  obtain ⟨es, clock, hb, r⟩ := h
  exact ⟨es, clock, (k.block _ (blk_lt hb) (fun h => h)).trans hb, r⟩
set_option maxRecDepth 100000 in
set_option maxHeartbeats 8000000 in
theorem play37 (w : World) (u v : Value) (L : List Ca) (o : List Int) (hL : Cls w u L) (hO : Ns w v o) (hN : L.length ≤ 400) (hM : o.length ≤ 400) (hK : Kys L) (hLst : Lst L o o.length) :
    Calls Try.prog 37 #[u, v] w fun e w' => Ans ((run L o (fun _ => none)).isSome = true) e ∧ Kp Nu w w' := by
  have mixed : Try.prog.follows .mixedOrders = true := by kernel_rfl
  obtain ⟨ua, uc, rfl⟩ := hL.slice
  obtain ⟨va, vc, rfl, _, _⟩ := id hO
  obtain ⟨N, eN⟩ : ∃ N, L.length = N := ⟨_, rfl⟩
  obtain ⟨M, eM⟩ : ∃ M, o.length = M := ⟨_, rfl⟩
  have HL := hide (And.intro hL (And.intro eN (And.intro hO eM)))
  have HP := hide (And.intro hK hLst)
  rw [eN] at hN ⊢
  rw [eM] at hM ⊢
  have hNI : (N : Int) ≤ 400 := by omega
  have hMI : (M : Int) ≤ 400 := by omega
  clear hL hO eN eM hK hLst
  have hmm := @run_makeMap Try.prog
  have H0 : Hid (Py w (w.alloc (.map #[] 0)) L o 0 (.map []) (fun _ => none)) := hide ⟨Kp.alloc _ _ _, World.ownsMap_made w Try.prog 23 cellR, Fr.zero L o, Pm.zero w⟩
  go_enter Try.func37, Try.ntmps37
  go_wp2
  go_loopw [14] (fun iv wr => ∃ (i : Nat) (D : DataW Value) (f : Int → Option (List Int)), iv = .int .i64 (i : Int) ∧ i ≤ M ∧ Hid (Py w wr L o i D f)) (fun iv _ => M - (intOf iv).toNat)
  case atStart => exact ⟨0, _, _, rfl, Nat.zero_le _, H0⟩
  case round =>
    obtain ⟨i, D, f, rfl, hi, hI⟩ := hrel
    have hi0 : (0 : Int) ≤ (i : Int) := by omega
    by_cases hlt : i < M
    · have hltI : (i : Int) < (M : Int) := by omega
      obtain ⟨x, hx⟩ : ∃ x, o[i]? = some x := ⟨_, List.getElem?_eq_getElem (by rw [HL.out.2.2.2]; exact hlt)⟩
      obtain ⟨hx0, hxN, c, hc, _⟩ := lst_call HP.out.2 hx
      rw [HL.out.2.1] at hxN
      obtain ⟨bL, off, rfl, hR, ok⟩ := call_at (HL.out.1.nu hI.out.kp) rfl hc
      obtain ⟨bO, rfl, kx⟩ := (HL.out.2.2.1.nu hI.out.kp).at_ hx
      have okw : CaOk w c := by obtain ⟨_, _, _, _, q⟩ := call_at HL.out.1 rfl hc; exact q
      have eti : (i : Int).toNat = i := by omega
      have hky := HP.out.1 c (List.mem_of_getElem? hc)
      obtain ⟨z, X, p1, p2, p3, p4⟩ := hI.out.pm.2 c.key hky.1 hky.2
      have look : ∀ Z, Kp Nu wr Z → (Instr.lookup 96 (.map (some w.heap.size)) (.int .u64 c.key) false).run Try.prog Z = .ok (.agg #[.bool z.h, .slice z.a z.n z.c]) Z := fun Z q => by
        obtain ⟨v, ps, hrun, hv⟩ := (map_nu hI.out.mp q).lookup keyK Try.underlying96 (zero64 Z) (show cellR zv = some (.held zv, []) from rfl) (key_u64 hky.1 hky.2)
        rw [p1] at hv
        simp only [cellR, Option.some.injEq, Prod.mk.injEq, DataW.held.injEq] at hv
        rw [hrun, hv.1]
      have HS : ∀ Z, Kp Nu wr Z → (Z.cell? ⟨bL, off + x.toNat * 13, none⟩ = some (.int .u8 c.who) ∧ Z.cell? ⟨bL, off + x.toNat * 13 + 1, none⟩ = some (.int .u64 c.seq) ∧ Z.cell? ⟨bL, off + x.toNat * 13 + 2, none⟩ = some (.int .u8 c.k) ∧ Z.cell? ⟨bL, off + x.toNat * 13 + 3, none⟩ = some (.int .u64 c.key) ∧ Z.cell? ⟨bL, off + x.toNat * 13 + 4, none⟩ = some (.int .u64 c.hi) ∧ Z.cell? ⟨bL, off + x.toNat * 13 + 5, none⟩ = some (.slice c.va c.V.length c.vc) ∧ Z.cell? ⟨bL, off + x.toNat * 13 + 6, none⟩ = some (.slice c.oa c.O.length c.oc) ∧ Z.cell? ⟨bL, off + x.toNat * 13 + 7, none⟩ = some (.bool c.has) ∧ Z.cell? ⟨bL, off + x.toNat * 13 + 8, none⟩ = some (.int .u8 c.lim) ∧ Z.cell? ⟨bL, off + x.toNat * 13 + 9, none⟩ = some (.int .u8 c.st) ∧ Z.cell? ⟨bL, off + x.toNat * 13 + 10, none⟩ = some (.slice c.ya c.Y.length c.yc) ∧ Z.cell? ⟨bL, off + x.toNat * 13 + 11, none⟩ = some (.int .i64 c.beg) ∧ Z.cell? ⟨bL, off + x.toNat * 13 + 12, none⟩ = some (.int .i64 c.en) ∧ (Instr.lookup 96 (.map (some w.heap.size)) (.int .u64 c.key) false).run Try.prog Z = .ok (.agg #[.bool z.h, .slice z.a z.n z.c]) Z) := fun Z q => by
        obtain ⟨r0, r1, r2, r3, r4, r5, r6, r7, r8, r9, r10, r11, r12⟩ := range_cells (rangeAt_nu hR q)
        exact ⟨r0, r1, r2, r3, r4, r5, r6, r7, r8, r9, r10, r11, r12, look Z q⟩
      have EF := fun Z (q : Kp Nu wr Z) => (effect30 w Z (hI.out.kp.andNu q) z.h z.a z.n z.c X c.V c.O c.Y c.who c.seq c.k c.key c.hi c.lim c.st c.beg c.en c.has c.va c.oa c.ya c.V.length c.vc c.O.length c.oc c.Y.length c.yc p3 okw.v okw.o okw.y p4).mono (fun e w' r => (by
        obtain ⟨⟨can, h', a, n, cc, X', e1, e2, e3, e4, e5⟩, e6⟩ := r
        exact ⟨can, h', a, n, cc, e1, ⟨X', e2, e3, e4, e5⟩, q.andNu e6, e6⟩ : ∃ can h' a n cc, e = .returned (.tuple #[.bool can, .agg #[.bool h', .slice a n cc]]) ∧ Hid (∃ X', stp c.k c.st (c.en != -1) c.has c.V c.O c.Y (opt z.h X) = (if can = true then some (opt h' X') else none) ∧ By w (.slice a n cc) X' ∧ (h' = false → X' = []) ∧ (can = false → h' = false)) ∧ Kp Nu wr w' ∧ Kp Nu Z w'))
      obtain ⟨r0, r1, r2, r3, r4, r5, r6, r7, r8, r9, r10, r11, r12, lk⟩ := HS wr (Kp.refl _ _)
      have r3' : wr.cell? ⟨bL, off + x.toNat * 13 + 2 + 1, none⟩ = some (.int .u64 c.key) := r3
      have HX := hide (And.intro hx (And.intro hc (And.intro hky p2)))
      clear hx hc hky p1 p2 p3 p4 hR ok okw look
      go_wp2_with fail
      go_region_held3 (fun Z => Z.cell? ⟨bL, off + x.toNat * 13, none⟩ = some (.int .u8 c.who) ∧ Z.cell? ⟨bL, off + x.toNat * 13 + 1, none⟩ = some (.int .u64 c.seq) ∧ Z.cell? ⟨bL, off + x.toNat * 13 + 2, none⟩ = some (.int .u8 c.k) ∧ Z.cell? ⟨bL, off + x.toNat * 13 + 3, none⟩ = some (.int .u64 c.key) ∧ Z.cell? ⟨bL, off + x.toNat * 13 + 4, none⟩ = some (.int .u64 c.hi) ∧ Z.cell? ⟨bL, off + x.toNat * 13 + 5, none⟩ = some (.slice c.va c.V.length c.vc) ∧ Z.cell? ⟨bL, off + x.toNat * 13 + 6, none⟩ = some (.slice c.oa c.O.length c.oc) ∧ Z.cell? ⟨bL, off + x.toNat * 13 + 7, none⟩ = some (.bool c.has) ∧ Z.cell? ⟨bL, off + x.toNat * 13 + 8, none⟩ = some (.int .u8 c.lim) ∧ Z.cell? ⟨bL, off + x.toNat * 13 + 9, none⟩ = some (.int .u8 c.st) ∧ Z.cell? ⟨bL, off + x.toNat * 13 + 10, none⟩ = some (.slice c.ya c.Y.length c.yc) ∧ Z.cell? ⟨bL, off + x.toNat * 13 + 11, none⟩ = some (.int .i64 c.beg) ∧ Z.cell? ⟨bL, off + x.toNat * 13 + 12, none⟩ = some (.int .i64 c.en) ∧ (Instr.lookup 96 (.map (some w.heap.size)) (.int .u64 c.key) false).run Try.prog Z = .ok (.agg #[.bool z.h, .slice z.a z.n z.c]) Z) (first | (exact ⟨by assumption, by assumption, by assumption, by assumption, by assumption, by assumption, by assumption, by assumption, by assumption, by assumption, by assumption, by assumption, by assumption, by assumption⟩) | (refine HS _ ?_; (repeat (first | assumption | exact Kp.refl _ _ | apply Kp.drew | apply Kp.andAlloc | refine Kp.andSet ?_ _ _ (Or.inl (Nat.le_refl _)))); done)) (first | (go_at_call 30; refine (EF _ ?_).mono ?_; (repeat (first | assumption | exact Kp.refl _ _ | apply Kp.drew | apply Kp.andAlloc)); rintro e w6 ⟨can, h', a', n', c', rfl, hef, hk6, hkZ⟩; (try (have hb6 := new_at wr _ hkZ.undrew; have y0 := cellAt hb6 0 (v := .bool false) rfl; have y1 := cellAt hb6 1 (v := .slice none 0 0) rfl; have f0 := free3 hb6 0; have f1 := free3 hb6 1))))
      · obtain ⟨w7, e7⟩ : ∃ w7, w6.alloc (.cells #[.bool h', .slice a' n' c'] 64) = w7 := ⟨_, rfl⟩
        have k7 : Kp Nu wr w7 := by rw [← e7]; exact hk6.andAlloc _
        have hb7 : w7.heap[w6.heap.size]? = some (.cells #[.bool h', .slice a' n' c'] 64 (0, 0)) := by rw [← e7]; exact heap_new w6 _
        rw [e7]
        have g0 := cellAt hb7 0 (v := .bool h') rfl
        have g1 := cellAt hb7 1 (v := .slice a' n' c') rfl
        have hown := map_nu hI.out.mp k7
        have H7 := hide (And.intro (hI.out.kp.andNu k7) hown)
        obtain ⟨X', q1, q2, q3, q4⟩ := hef.out
        rw [← HX.out.2.2.2] at q1
        have HQ := hide (And.intro q1 (And.intro q2 q3))
        have hky := HX.out.2.2.1
        clear EF HS hkZ hk6 k7 hb7 hef q1 q2 q3 q4 lk r0 r1 r2 r3 r4 r5 r6 r7 r8 r9 r10 r11 r12 r3' e7
        cases can with
        | false =>
          clear hown hky
          go_wp2
          go_ret
          refine ⟨⟨false, rfl, ?_⟩, H7.out.1⟩
          simp
          have hn : Fr L o (i + 1) = none := by
            rw [Fr.step HX.out.1 HX.out.2.1, hI.out.fr]
            have : stpc c (f c.key) = none := HQ.out.1
            simp [this]
          exact Fr.none hn
        | true =>
          go_wp2_with (at_mapUpdate; refine wpList_mapUpdate_own _ rfl _ _ _ 96 rfl 23 64 keyK Try.underlying96 cellR w.heap.size i D rfl hown (by unfold maxLen; omega) _ _ _ rfl rfl (key_u64 hky.1 hky.2) _ [] rfl ?_; intro w8 hown8 hgrow8)
          have H8 := hide (And.intro hown8 (H7.out.1.trans (Kp.of_grown hgrow8) (fun q hq e => by have e' := Option.some.inj e; omega)))
          clear hown hown8 hgrow8 hky
          go_wp2
          have hst : stpc c (f c.key) = some (opt h' X') := HQ.out.1
          have hF1 : Fr L o (i + 1) = some (upd f c.key (opt h' X')) := by rw [Fr.step HX.out.1 HX.out.2.1, hI.out.fr]; simp [hst]
          exact ⟨⟨i + 1, _, _, by go_num, by omega, hide ⟨H8.out.2, H8.out.1, hF1, hI.out.pm.put (z := ⟨h', a', n', c'⟩) HQ.out.2.1 HQ.out.2.2⟩⟩, by simp [intOf]; omega⟩
      · obtain ⟨w7, e7⟩ : ∃ w7, (w6.setCell ⟨wr.heap.size, 0, none⟩ (.bool h')).setCell ⟨wr.heap.size, 1, none⟩ (.slice a' n' c') = w7 := ⟨_, rfl⟩
        have k7 : Kp Nu wr w7 := by rw [← e7]; exact (hk6.andSet _ _ (.inl (Nat.le_refl _))).andSet _ _ (.inl (Nat.le_refl _))
        have hb7 : w7.heap[wr.heap.size]? = some (.cells #[.bool h', .slice a' n' c'] 64 (0, 0)) := by rw [← e7]; exact set3 (set3 hb6 0 _) 1 _
        rw [e7]
        have g0 := cellAt hb7 0 (v := .bool h') rfl
        have g1 := cellAt hb7 1 (v := .slice a' n' c') rfl
        have hown := map_nu hI.out.mp k7
        have H7 := hide (And.intro (hI.out.kp.andNu k7) hown)
        obtain ⟨X', q1, q2, q3, q4⟩ := hef.out
        rw [← HX.out.2.2.2] at q1
        have HQ := hide (And.intro q1 (And.intro q2 q3))
        have hky := HX.out.2.2.1
        clear EF HS hkZ hk6 k7 hb7 hef q1 q2 q3 q4 lk r0 r1 r2 r3 r4 r5 r6 r7 r8 r9 r10 r11 r12 r3' e7
        cases can with
        | false =>
          clear hown hky
          go_wp2
          go_ret
          refine ⟨⟨false, rfl, ?_⟩, H7.out.1⟩
          simp
          have hn : Fr L o (i + 1) = none := by
            rw [Fr.step HX.out.1 HX.out.2.1, hI.out.fr]
            have : stpc c (f c.key) = none := HQ.out.1
            simp [this]
          exact Fr.none hn
        | true =>
          go_wp2_with (at_mapUpdate; refine wpList_mapUpdate_own _ rfl _ _ _ 96 rfl 23 64 keyK Try.underlying96 cellR w.heap.size i D rfl hown (by unfold maxLen; omega) _ _ _ rfl rfl (key_u64 hky.1 hky.2) _ [] rfl ?_; intro w8 hown8 hgrow8)
          have H8 := hide (And.intro hown8 (H7.out.1.trans (Kp.of_grown hgrow8) (fun q hq e => by have e' := Option.some.inj e; omega)))
          clear hown hown8 hgrow8 hky
          go_wp2
          have hst : stpc c (f c.key) = some (opt h' X') := HQ.out.1
          have hF1 : Fr L o (i + 1) = some (upd f c.key (opt h' X')) := by rw [Fr.step HX.out.1 HX.out.2.1, hI.out.fr]; simp [hst]
          exact ⟨⟨i + 1, _, _, by go_num, by omega, hide ⟨H8.out.2, H8.out.1, hF1, hI.out.pm.put (z := ⟨h', a', n', c'⟩) HQ.out.2.1 HQ.out.2.2⟩⟩, by simp [intOf]; omega⟩
      · obtain ⟨w7, e7⟩ : ∃ w7, (w6.setCell ⟨wr.heap.size, 0, none⟩ (.bool h')).setCell ⟨wr.heap.size, 1, none⟩ (.slice a' n' c') = w7 := ⟨_, rfl⟩
        have k7 : Kp Nu wr w7 := by rw [← e7]; exact (hk6.andSet _ _ (.inl (Nat.le_refl _))).andSet _ _ (.inl (Nat.le_refl _))
        have hb7 : w7.heap[wr.heap.size]? = some (.cells #[.bool h', .slice a' n' c'] 64 (0, 0)) := by rw [← e7]; exact set3 (set3 hb6 0 _) 1 _
        rw [e7]
        have g0 := cellAt hb7 0 (v := .bool h') rfl
        have g1 := cellAt hb7 1 (v := .slice a' n' c') rfl
        have hown := map_nu hI.out.mp k7
        have H7 := hide (And.intro (hI.out.kp.andNu k7) hown)
        obtain ⟨X', q1, q2, q3, q4⟩ := hef.out
        rw [← HX.out.2.2.2] at q1
        have HQ := hide (And.intro q1 (And.intro q2 q3))
        have hky := HX.out.2.2.1
        clear EF HS hkZ hk6 k7 hb7 hef q1 q2 q3 q4 lk r0 r1 r2 r3 r4 r5 r6 r7 r8 r9 r10 r11 r12 r3' e7
        cases can with
        | false =>
          clear hown hky
          go_wp2
          go_ret
          refine ⟨⟨false, rfl, ?_⟩, H7.out.1⟩
          simp
          have hn : Fr L o (i + 1) = none := by
            rw [Fr.step HX.out.1 HX.out.2.1, hI.out.fr]
            have : stpc c (f c.key) = none := HQ.out.1
            simp [this]
          exact Fr.none hn
        | true =>
          go_wp2_with (at_mapUpdate; refine wpList_mapUpdate_own _ rfl _ _ _ 96 rfl 23 64 keyK Try.underlying96 cellR w.heap.size i D rfl hown (by unfold maxLen; omega) _ _ _ rfl rfl (key_u64 hky.1 hky.2) _ [] rfl ?_; intro w8 hown8 hgrow8)
          have H8 := hide (And.intro hown8 (H7.out.1.trans (Kp.of_grown hgrow8) (fun q hq e => by have e' := Option.some.inj e; omega)))
          clear hown hown8 hgrow8 hky
          go_wp2
          have hst : stpc c (f c.key) = some (opt h' X') := HQ.out.1
          have hF1 : Fr L o (i + 1) = some (upd f c.key (opt h' X')) := by rw [Fr.step HX.out.1 HX.out.2.1, hI.out.fr]; simp [hst]
          exact ⟨⟨i + 1, _, _, by go_num, by omega, hide ⟨H8.out.2, H8.out.1, hF1, hI.out.pm.put (z := ⟨h', a', n', c'⟩) HQ.out.2.1 HQ.out.2.2⟩⟩, by simp [intOf]; omega⟩
    · have hge : ¬ (i : Int) < (M : Int) := by omega
      obtain rfl : M = i := by omega
      go_wp2
      go_ret
      refine ⟨⟨true, rfl, ?_⟩, hI.out.kp⟩
      have hf := hI.out.fr
      rw [Fr.all L o (by rw [HL.out.2.2.2]; exact Nat.le_refl _)] at hf
      rw [hf]
      simp
end Go.Proofs.Ytcbonbeogdgogaa.Li
