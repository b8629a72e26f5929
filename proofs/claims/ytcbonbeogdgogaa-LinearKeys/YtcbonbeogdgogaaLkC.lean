import Derived.Test.YtcbonbeogdgogaaLkB
import Derived.Test.YtcbonbeogdgogaaLrI
namespace Go.Proofs.Ytcbonbeogdgogaa.Li
open Go.RowKit
set_option linter.unusedVariables false
/-- a struct loaded in a region that draws, guarded or not -/
theorem wpStill_loadw {ops : Array Oper} {rest : List Oper} {o : Oper} {a : Act} {w : World} {Q : Act → Prop} (ty n : Nat) (x : Operand) (hw : Region.wanted o (yielded ops a.tmps) = true) (ho : o.op = .load ty x)
    (hi : (Try.prog.info? ty).map (·.size) = some n) (d : TypeDesc) (hu : Try.prog.underlying ty = some d) (hd : d.isRow = true) (b off : Nat) (hx : a.eval x = .pointer (some ⟨b, off, none⟩)) (cs : List Value) (hc : w.rangeAt b off cs)
    (hl : cs.length = n) (h : wpStill Try.prog ops w Q rest (a.put o.dst (.agg cs.toArray))) : wpStill Try.prog ops w Q (o :: rest) a := by
  refine wpStill_step (fun K hK => ?_)
  rw [if_pos hw]
  unfold Oper.still execOp
  simp only [ho, hx, Instr.loadAt, Instr.sureAddr, Sem.run_bind, Sem.run_pure, Result.andThen_ok, run_loadVar_mid w b off ty cs d hc hu hd (by rw [hl]; exact hi), Oper.stillUpon]
  exact ⟨trivial, hK _ h⟩
/-- a cell stored into a block of one's own -/
theorem two_set {w w7 : World} (hk : Kp Nu w w7) {Y : Nat} (hY : w.heap.size ≤ Y) {c0 c1 : Value} (bY : w7.heap[Y]? = some (.cells #[c0, c1] 60 (0, 0))) (u v : Value) {P : Prop}
    (h : ∀ w8, (w7.setCell ⟨Y, 0, none⟩ u).setCell ⟨Y, 1, none⟩ v = w8 → Kp Nu w w8 → w8.heap[Y]? = some (.cells #[u, v] 60 (0, 0)) → P) : P :=
  h _ rfl ((hk.andSet _ _ (.inl hY)).andSet _ _ (.inl hY)) (set3 (set3 bY 0 u) 1 v)
theorem two_new {w w7 : World} (hk : Kp Nu w w7) (u v : Value) {P : Prop} (h : ∀ w8, w7.alloc (.cells #[u, v] 60) = w8 → Kp Nu w w8 → w8.heap[w7.heap.size]? = some (.cells #[u, v] 60 (0, 0)) → P) : P :=
  h _ rfl (hk.andAlloc _) (heap_new _ _)
/-- what the document's next answers -/
def NxR (L : List Ca) (st s i : Nat) (e : Ending) : Prop :=
  ∃ (ok : Bool) (m : Nat), e = .returned (.tuple #[.bool ok, .int .i64 (m : Int)]) ∧ m ≤ L.length ∧ (ok = true → (schOf L).may st i ∧ (schOf L).T i s = some m) ∧ (ok = false → ∀ a, (schOf L).may st i → (schOf L).T i s ≠ some a)
theorem NxR.no {L : List Ca} {st s i : Nat} (h : ¬ (schOf L).may st i) : NxR L st s i (.returned (.tuple #[.bool false, .int .i64 0])) :=
  ⟨false, 0, rfl, Nat.zero_le _, (fun h => by cases h), fun _ a hm => absurd hm h⟩
set_option maxRecDepth 100000 in
set_option maxHeartbeats 4000000 in
theorem next82 (w0 w : World) (k0 : Kp Nu w0 w) (b : Nat) (u cv : Value) (L : List Ca) (hL : Cls w0 u L) (hM : AllMB L) (hb : w.heap[b]? = some (.cells #[u, cv] 115 (0, 0))) (st s i : Nat) (hst : st < 2 ^ L.length) (hs : s ≤ L.length) (hi : i < L.length) (hN : L.length ≤ 16) :
    Calls Try.prog 82 #[.pointer (some ⟨b, 0, none⟩), .int .i64 (st : Int), .int .i64 (s : Int), .int .i64 (i : Int)] w fun e w' => NxR L st s i e ∧ Kp Nu w w' := by
  have mixed : Try.prog.follows .mixedOrders = true := by kernel_rfl
  obtain ⟨ua, uc, rfl⟩ := hL.slice
  obtain ⟨N, eN⟩ : ∃ N, L.length = N := ⟨_, rfl⟩
  have hst6 : st < 65536 := Nat.lt_of_lt_of_le hst (two16 hN)
  obtain ⟨d, hd⟩ : ∃ d, L[i]? = some d := ⟨_, List.getElem?_eq_getElem hi⟩
  have HA := hide (And.intro k0 (And.intro hL (And.intro hb (And.intro eN (And.intro hst6 (And.intro hM (And.intro hd (And.intro hs (And.intro hi hN)))))))))
  have hNI : (N : Int) ≤ 16 := by omega
  have hs0 : (0 : Int) ≤ (st : Int) := by omega
  have hsI : (st : Int) < 65536 := by omega
  have hi0 : (0 : Int) ≤ (i : Int) := by omega
  have hiN : (i : Int) < (N : Int) := by omega
  have hi32 : (i : Int) ≤ 32 := by omega
  have eti : (i : Int).toNat = i := by omega
  have tb := bit_i64 (st := st) (k := i) hst6 (by omega)
  clear k0 hL hb hst6 hM hd hs hN hst
  by_cases hbit : st.testBit i = true
  · rw [if_pos hbit] at tb
    have HB := hide hbit
    clear hbit hi eN
    go_enter Try.func82, Try.ntmps82
    go_wp2
    go_ret2
    exact ⟨NxR.no (fun h => by have := h.2.1; rw [HB.out] at this; cases this), Kp.refl _ _⟩
  rw [if_neg hbit] at tb
  have HB : Hid (st.testBit i = false) := hide (by simpa using hbit)
  clear hbit hi eN
  go_enter Try.func82, Try.ntmps82
  go_wp2
  clear tb
  go_loopw [10] (fun jv wr => ∃ j : Nat, jv = .int .i64 (j : Int) ∧ j ≤ N ∧ Hid (Kp Nu w wr ∧ ∀ (q : Nat) e, q < j → L[q]? = some e → bef e d → st.testBit q = true)) (fun jv _ => N - (intOf jv).toNat)
  case atStart => exact ⟨0, rfl, Nat.zero_le _, hide ⟨Kp.refl _ _, fun j d hj => by omega⟩⟩
  case round =>
    obtain ⟨j, rfl, hj, hJ⟩ := hrel
    have hj0 : (0 : Int) ≤ (j : Int) := by omega
    have t0 := cellAt (box_k HA.out.2.2.1 hJ.out.1) 0 (v := .slice ua L.length uc) rfl
    rw [HA.out.2.2.2.1] at t0
    have hcl := HA.out.2.1.nu (HA.out.1.andNu hJ.out.1)
    rw [HA.out.2.2.2.1] at hcl
    obtain ⟨bL, off, hua, hR, ok⟩ := call_at hcl HA.out.2.2.2.1 HA.out.2.2.2.2.2.2.1
    subst hua
    by_cases hlt : j < N
    · have hltI : (j : Int) < (N : Int) := by omega
      have hj32 : (j : Int) ≤ 32 := by omega
      have etj : (j : Int).toNat = j := by omega
      have tj := bit_i64 (st := st) (k := j) HA.out.2.2.2.2.1 (by omega)
      obtain ⟨c, hc⟩ : ∃ c, L[j]? = some c := ⟨_, List.getElem?_eq_getElem (by rw [HA.out.2.2.2.1]; exact hlt)⟩
      obtain ⟨bL', off', e', hR', ok'⟩ := call_at hcl HA.out.2.2.2.1 hc
      simp only [Option.some.injEq, Addr.mk.injEq, and_true] at e'
      obtain ⟨rfl, rfl⟩ := e'
      have HR := hide (And.intro hR (And.intro hR' hc))
      clear hR hR' ok ok' hc hcl
      by_cases hbj : st.testBit j = true
      · rw [if_pos hbj] at tj
        have HBJ := hide hbj
        clear hbj
        go_wp2_with fail
        go_quiet (fail)
        go_wp2
        refine ⟨⟨j + 1, by go_num, by omega, hide ⟨hJ.out.1.andNu ⟨rfl, rfl, rfl, Nat.le_refl _, fun _ _ _ => rfl⟩, fun q e hq he hbe => ?_⟩⟩, by simp [intOf]; omega⟩
        by_cases ej : q = j
        · subst ej; exact HBJ.out
        · exact hJ.out.2 q e (by omega) he hbe
      · rw [if_neg hbj] at tj
        clear hbj
        have BF := before48 { wr with drawn := wr.drawn + 1 } c d
        have dk : Kp Nu wr { wr with drawn := wr.drawn + 1 } := ⟨rfl, rfl, rfl, Nat.le_refl _, fun _ _ _ => rfl⟩
        have HD := hide dk
        clear dk
        go_wp2_with fail
        refine wp_region_still_tail 20 mixed (by kernel_rfl) ?_
        simp only [List.take_succ_cons, List.take_zero, List.drop_succ_cons, List.drop_zero]
        iterate 12 still_step
        refine wpStill_loadw 30 13 (.tmp 38) (by rfl) rfl info30 _ Try.underlying30 rfl bL (off + j * 13) rfl c.cells (range_drawn HR.out.2.1) rfl ?_
        iterate 6 still_step
        refine wpStill_loadw 30 13 (.tmp 45) (by rfl) rfl info30 _ Try.underlying30 rfl bL (off + i * 13) rfl d.cells (range_drawn HR.out.1) rfl ?_
        refine wpStill_nil ?_
        go_wp2_with fail
        refine BF.mono ?_; rintro e w6 ⟨⟨bb, rfl, hbb⟩, hk6⟩
        have HBB := hide hbb
        have HK6 := hide (hJ.out.1.andNu (HD.out.andNu hk6))
        clear BF hbb hk6
        cases bb with
        | true =>
          go_wp2
          go_ret2
          refine ⟨NxR.no (fun h => ?_), HK6.out⟩
          have hsub := h.2.2
          rw [schOf_B HA.out.2.2.2.2.2.2.1] at hsub
          have := hsub j ((bset_bit _ _ _).2 ⟨by have := HA.out.2.2.2.1; omega, (befs_iff HR.out.2.2).2 (HBB.out.1 (by simp))⟩)
          have h2 := bit_i64 (st := st) (k := j) HA.out.2.2.2.2.1 (by omega)
          rw [if_pos this, tj] at h2
          cases h2
        | false =>
          go_wp2
          refine ⟨⟨j + 1, by go_num, by omega, hide ⟨HK6.out, fun q e hq he hbe => ?_⟩⟩, by simp [intOf]; omega⟩
          by_cases ej : q = j
          · subst ej
            rw [HR.out.2.2] at he
            cases he
            have := HBB.out.2 hbe
            simp at this
          · exact hJ.out.2 q e (by omega) he hbe
    · have hge : ¬ (j : Int) < (N : Int) := by omega
      have hmay : (schOf L).may st i := by
        refine ⟨HA.out.2.2.2.2.2.2.2.2.1, HB.out, fun k hk => ?_⟩
        rw [schOf_B HA.out.2.2.2.2.2.2.1] at hk
        obtain ⟨hkl, hkb⟩ := (bset_bit _ _ _).1 hk
        obtain ⟨e, he⟩ : ∃ e, L[k]? = some e := ⟨_, List.getElem?_eq_getElem hkl⟩
        exact hJ.out.2 k e (by have := HA.out.2.2.2.1; omega) he ((befs_iff he).1 hkb)
      have HMY := hide hmay
      have HRR : ∀ Z, Kp Nu wr Z → (Z.cell? ⟨bL, off + i * 13, none⟩ = some (.int .u8 d.who) ∧ Z.cell? ⟨bL, off + i * 13 + 1, none⟩ = some (.int .u64 d.seq) ∧ Z.cell? ⟨bL, off + i * 13 + 2, none⟩ = some (.int .u8 d.k) ∧ Z.cell? ⟨bL, off + i * 13 + 3, none⟩ = some (.int .u64 d.key) ∧ Z.cell? ⟨bL, off + i * 13 + 4, none⟩ = some (.int .u64 d.hi) ∧ Z.cell? ⟨bL, off + i * 13 + 5, none⟩ = some (.slice d.va d.V.length d.vc) ∧ Z.cell? ⟨bL, off + i * 13 + 6, none⟩ = some (.slice d.oa d.O.length d.oc) ∧ Z.cell? ⟨bL, off + i * 13 + 7, none⟩ = some (.bool d.has) ∧ Z.cell? ⟨bL, off + i * 13 + 8, none⟩ = some (.int .u8 d.lim) ∧ Z.cell? ⟨bL, off + i * 13 + 9, none⟩ = some (.int .u8 d.st) ∧ Z.cell? ⟨bL, off + i * 13 + 10, none⟩ = some (.slice d.ya d.Y.length d.yc) ∧ Z.cell? ⟨bL, off + i * 13 + 11, none⟩ = some (.int .i64 d.beg) ∧ Z.cell? ⟨bL, off + i * 13 + 12, none⟩ = some (.int .i64 d.en)) ∧ Z.cell? ⟨b, 0, none⟩ = some (.slice (some ⟨bL, off, none⟩) N uc) := fun Z q =>
        ⟨range_cells (rangeAt_nu hR q), (World.cell?_of_block (q.block _ (World.block_lt_of_cell? wr _ t0) (fun h => h))).trans t0⟩
      obtain ⟨⟨r0, r1, r2, r3, r4, r5, r6, r7, r8, r9, r10, r11, r12⟩, _⟩ := HRR wr (Kp.refl _ _)
      have CE := fun Z (q : Kp Nu wr Z) => (cell99 w0 Z ((HA.out.1.andNu hJ.out.1).andNu q) b _ cv L HA.out.2.1 (box_k (box_k HA.out.2.2.1 hJ.out.1) q) s HA.out.2.2.2.2.2.2.2.1 HA.out.2.2.2.2.2.2.2.2.2).mono (fun e w' r => (by
        obtain ⟨⟨h, a, n, c, X, e1, e2, e3⟩, e4⟩ := r
        exact ⟨_, e1, h, a, n, c, X, rfl, e2, e3, q.andNu e4, e4⟩ : ∃ v, e = .returned v ∧ ∃ h a n c X, v = .agg #[.bool h, .slice a n c] ∧ (cvs L)[s]? = some (opt h X) ∧ (h = true → By w0 (.slice a n c) X) ∧ Kp Nu wr w' ∧ Kp Nu Z w'))
      have hcok := (cls_at HA.out.2.1 HA.out.2.2.2.2.2.2.1)
      obtain ⟨_, _, _, _, _, ok0⟩ := hcok
      have PL := fun Z (q : Kp Nu wr Z) (h : Bool) (a : Option Addr) (n c : Nat) (X : List Int) (hX : h = true → By w0 (.slice a n c) X) => (play26b w0 Z ((HA.out.1.andNu hJ.out.1).andNu q) h a n c X d.V d.O d.Y d.who d.seq d.k d.key d.hi d.lim d.st d.beg d.en d.has d.va d.oa d.ya d.V.length d.vc d.O.length d.oc d.Y.length d.yc (HA.out.2.2.2.2.2.1 d (List.mem_of_getElem? HA.out.2.2.2.2.2.2.1)) hX ok0.v ok0.o ok0.y).mono (fun e w' r => (by
        obtain ⟨⟨can, h', a', n', c', X', e1, e2, e3, e4⟩, e5⟩ := r
        exact ⟨_, e1, can, h', a', n', c', X', rfl, e2, e3, e4, q.andNu e5, e5⟩ : ∃ v, e = .returned v ∧ ∃ can h' a' n' c' X', v = .tuple #[.bool can, .agg #[.bool h', .slice a' n' c']] ∧ Hid (can = (stpc d (opt h X)).isSome) ∧ (h' = true → By w0 (.slice a' n' c') X') ∧ (can = true → stpc d (opt h X) = some (opt h' X')) ∧ Kp Nu wr w' ∧ Kp Nu Z w'))
      have ST := fun Z (q : Kp Nu wr Z) (h : Bool) (a : Option Addr) (n c : Nat) (X : List Int) (hX : h = true → By w0 (.slice a n c) X) => (state100 Z _ L (HA.out.2.1.nu ((HA.out.1.andNu hJ.out.1).andNu q)) HA.out.2.2.2.2.2.2.2.2.2 h a n c X (fun hh => (hX hh).nu ((HA.out.1.andNu hJ.out.1).andNu q))).mono (fun e w' r => (by
        obtain ⟨⟨m, e1, e2, e3⟩, e5⟩ := r
        exact ⟨_, e1, m, rfl, e2, e3, q.andNu e5⟩ : ∃ v, e = .returned v ∧ ∃ m : Nat, v = .int .i64 (m : Int) ∧ m ≤ L.length ∧ (∀ x, pl (cvs L) (opt h X) = some x → m = x) ∧ Kp Nu wr w'))
      rw [HA.out.2.2.2.1] at ST
      have hlr : bL < wr.heap.size := World.block_lt_of_cell? wr ⟨bL, off + i * 13, none⟩ r0
      have hbr : b < wr.heap.size := World.block_lt_of_cell? wr ⟨b, 0, none⟩ t0
      clear hR ok hmay hcl ok0
      go_wp2_with fail
      go_region_law (first | (refine step_callL (by rfl) 99 #[.pointer (some ⟨b, 0, none⟩), .int .i64 (s : Int)] (by go_simp; first | done | (with_reducible rfl)) _ (CE _ (by first | exact (Kp.refl _ _).drew | exact (Kp.refl _ _).drew.andAlloc _ | exact ((Kp.refl _ _).andAlloc _).drew)) ?_; rintro v6 w6 ⟨hh, aa, nn, cc, XX, rfl, hcv, hBy, hk6, hkz6⟩; (try (have bY6 : w6.heap[wr.heap.size]? = some (.cells #[.bool false, .slice none 0 0] 60 (0, 0)) := box_k (b := wr.heap.size) (c := #[.bool false, .slice none 0 0]) (ty := 60) (by exact heap_new wr (.cells #[.bool false, .slice none 0 0] 60)) hkz6; have yy0 := cellAt bY6 0 (v := .bool false) rfl; have yy1 := cellAt bY6 1 (v := .slice none 0 0) rfl; have ff0 := free3 bY6 0; have ff1 := free3 bY6 1)); obtain ⟨⟨q0, q1, q2, q3, q4, q5, q6, q7, q8, q9, q10, q11, q12⟩, qt⟩ := HRR _ hk6; have hl6 : bL < w6.heap.size := World.block_lt_of_cell? w6 ⟨bL, off + i * 13, none⟩ q0; have hb6 : b < w6.heap.size := World.block_lt_of_cell? w6 ⟨b, 0, none⟩ qt) | (refine step_callL (by rfl) 26 #[.agg #[.int .u8 d.who, .int .u64 d.seq, .int .u8 d.k, .int .u64 d.key, .int .u64 d.hi, .slice d.va d.V.length d.vc, .slice d.oa d.O.length d.oc, .bool d.has, .int .u8 d.lim, .int .u8 d.st, .slice d.ya d.Y.length d.yc, .int .i64 d.beg, .int .i64 d.en], .agg #[.bool hh, .slice aa nn cc]] (by go_simp; first | done | (with_reducible rfl)) _ (PL _ (by first | exact hk6 | exact hk6.andAlloc _) hh aa nn cc XX hBy) ?_; rintro v7 w7 ⟨can, h7, a7, n7, c7, X7, rfl, hcan, hBy7, hst7, hk7, hkz7⟩; (first | (have bY : w7.heap[wr.heap.size]? = some (.cells #[.bool false, .slice none 0 0] 60 (0, 0)) := box_k bY6 hkz7; have hY : wr.heap.size ≤ wr.heap.size := Nat.le_refl _; have vv0 := cellAt bY 0 (v := .bool false) rfl; have vv1 := cellAt bY 1 (v := .slice none 0 0) rfl; have gg0 := free3 bY 0; have gg1 := free3 bY 1) | (have bY : w7.heap[w6.heap.size]? = some (.cells #[.bool false, .slice none 0 0] 60 (0, 0)) := box_k (b := w6.heap.size) (c := #[.bool false, .slice none 0 0]) (ty := 60) (by exact heap_new w6 (.cells #[.bool false, .slice none 0 0] 60)) hkz7; have hY : wr.heap.size ≤ w6.heap.size := hk6.size; have vv0 := cellAt bY 0 (v := .bool false) rfl; have vv1 := cellAt bY 1 (v := .slice none 0 0) rfl; have gg0 := free3 bY 0; have gg1 := free3 bY 1) | skip)))
      all_goals
        first
        | refine two_set hk7 hY bY (.bool h7) (.slice a7 n7 c7) ?_
        | refine two_new hk7 (.bool h7) (.slice a7 n7 c7) ?_
        intro w8 e8 k8 b8
        have z0 := cellAt b8 0 (v := .bool h7) rfl
        have z1 := cellAt b8 1 (v := .slice a7 n7 c7) rfl
        have ztt := (HRR w8 k8).2
        have H8 := hide (And.intro hcv (And.intro hcan (And.intro hst7 hBy7)))
        (try clear vv0 vv1 gg0 gg1 bY hY)
        clear hl6 hb6 hlr hbr
        (try clear yy0 yy1 ff0 ff1 bY6)
        clear r0 r1 r2 r3 r4 r5 r6 r7 r8 r9 r10 r11 r12 q0 q1 q2 q3 q4 q5 q6 q7 q8 q9 q10 q11 q12 qt CE PL hkz6 hkz7 hk6 hk7 b8 HRR t0 hcv hcan hst7 hBy hBy7
        go_wp2_with fail
        try rw [e8]
        go_region_law (first | (refine step_callL (by rfl) 100 #[.slice (some ⟨bL, off, none⟩) N uc, .agg #[.bool h7, .slice a7 n7 c7]] (by go_simp; first | done | (with_reducible rfl)) _ (ST _ k8.drew h7 a7 n7 c7 X7 H8.out.2.2.2) ?_; rintro v9 w9 ⟨m, rfl, hmN, hpl, hk9⟩))
        all_goals
          have HF : Hid (NxR L st s i (.returned (.tuple #[.bool can, .int .i64 (m : Int)]))) := hide ⟨can, m, rfl, by rw [HA.out.2.2.2.1]; exact hmN, fun hc => by
            refine ⟨HMY.out, ?_⟩
            rw [schOf_T HA.out.2.2.2.2.2.2.1]
            unfold stT
            rw [H8.out.1]
            show (stpc d (opt hh XX)).bind _ = _
            have h7r := H8.out.2.2.1 hc
            rw [h7r]
            show pl (cvs L) (opt h7 X7) = some m
            obtain ⟨x, hx⟩ : ∃ x, pl (cvs L) (opt h7 X7) = some x := pl_in (by
              rcases stpc_in h7r with e | e | e
              · rw [e]; exact List.mem_of_getElem? H8.out.1
              · rw [e]; exact cvs_none L
              · rw [e]; exact cvs_val (List.mem_of_getElem? HA.out.2.2.2.2.2.2.1))
            rw [hx, hpl x hx], fun hc x hmy => by
            rw [schOf_T HA.out.2.2.2.2.2.2.1]
            unfold stT
            rw [H8.out.1]
            show (stpc d (opt hh XX)).bind _ ≠ _
            have h1 := H8.out.2.1.out
            rw [hc] at h1
            cases hq : stpc d (opt hh XX) with
            | none => simp
            | some y => rw [hq] at h1; cases h1⟩
          have HK9 := hide (hJ.out.1.andNu hk9)
          clear hmN hpl hk9 ST
          go_wp2
          go_ret2
          exact ⟨HF.out, HK9.out⟩
end Go.Proofs.Ytcbonbeogdgogaa.Li
