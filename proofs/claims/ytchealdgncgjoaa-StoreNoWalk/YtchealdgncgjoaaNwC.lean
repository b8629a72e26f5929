import Derived.Test.YtchealdgncgjoaaNwB
namespace Go.Proofs.Ytchealdgncgjoaa.StI
open Go.RowKit Go.Proofs.Ytchealdgncgjoaa.St Go.Shelf Go.Sort Go.Proofs.Ytchealdgncgjoaa.It
attribute [local go_sem] Oper.semAt_some
set_option linter.unusedVariables false

def NwI (w : World) (bk br mb bt : Nat) (key lo hi : Int) (a : Act) (V : World) : Prop :=
  ∃ (k : Nat) (u11 u12 u13 u14 u21 u22 u23 u24 u25 u26 u27 u28 u29 u30 u31 u32 u33 u34 u35 u36 u37 u38 u39 u40 u41 u42 u43 u44 u45 u46 u47 u48 u49 u50 u51 u52 u53 u54 u55 u56 u57 u58 u59 u60 u61 u62 u63 u64 u65 u66 u67 u68 : Value) (Ls : List Nat), k ≤ 4 ∧ a = { tmps := #[.int .i64 key, .int .i64 lo, .int .i64 hi, .pointer (some ⟨bk, 0, none⟩), undef, undef, .pointer (some ⟨br, 0, none⟩), .pointer none, .pointer (some ⟨mb, 0, none⟩), .pointer (some ⟨bt, 0, none⟩), .int .i64 (k : Int), u11, u12, u13, u14, .pointer (some ⟨mb, 0, none⟩), .pointer (some ⟨mb, 0, none⟩), .bool false, .pointer (some ⟨mb, 0, none⟩), .int .i64 key, .tuple #[.int .i64 0, .bool false], u21, u22, u23, u24, u25, u26, u27, u28, u29, u30, u31, u32, u33, u34, u35, u36, u37, u38, u39, u40, u41, u42, u43, u44, u45, u46, u47, u48, u49, u50, u51, u52, u53, u54, u55, u56, u57, u58, u59, u60, u61, u62, u63, u64, u65, u66, u67, u68], defers := Ls.map (fun D => { target := .collected D, args := #[] }) } ∧ (∃ n, Nw w V bk br mb bt key n) ∧ Below w.heap.size w V ∧ Ls.Nodup ∧ (∀ D ∈ Ls, w.heap.size ≤ D ∧ V.heap[D]? = some (.deferred (some [])))
def nwM (a : Act) (V : World) : Nat := 4 - (intOf (a.tmps.getD 10 undef)).toNat
theorem pre_one {pre : List (Int × Int)} {x p : Int × Int} (h : pre ++ [x] <+: [p]) : pre = [] ∧ x = p := by
  obtain ⟨s, hs⟩ := h
  cases pre with
  | nil => simp at hs; exact ⟨rfl, hs.1⟩
  | cons a l => simp at hs
theorem pre_nil {pre : List (Int × Int)} {x : Int × Int} (h : pre ++ [x] <+: []) : False := by
  obtain ⟨s, hs⟩ := h
  simp at hs

set_option maxRecDepth 100000 in
set_option maxHeartbeats 4000000 in
theorem nowalk_walk (w : World) (key lo hi : Int) : Calls Try.prog 3 #[.int .i64 key, .int .i64 lo, .int .i64 hi] w fun e w' => e = .returned (.bool true) ∧ Kp Nu w w' := by
  have NA := new_any
  refine (callsIn_wide (n := 4)).1 ?_
  refine callsIn_of_wp_marks Try.func3 rfl trivial ?_ rfl
  simp only [Try.ntmps3, List.size_toArray, List.length_cons, List.length_nil, Nat.reduceAdd, Nat.reduceSub, Array.replicate_succ, Array.replicate_zero, List.push_toArray, List.append_toArray, List.nil_append, List.cons_append]
  gi_wp2_with fail
  refine ⟨trivial, (callsIn_wide.2 (NA _)).mono ?_⟩
  rintro e w1 ⟨rfl, hm1, k1⟩
  have PF := put_first hm1 key 5
  have x0 : w1.heap[w.heap.size]? = some (.cells #[.int .i64 key] 3 (0, 0)) := (k1.block _ (by simp; omega) (fun h => h)).trans ((Below.heap_alloc _ _ _ (by simp)).trans (heap_alloc_new w _))
  have x1 : w1.heap[w.heap.size + 1]? = some (.cells #[.bool false] 4 (0, 0)) := (k1.block _ (by simp) (fun h => h)).trans (by have := heap_alloc_new (w.alloc (.cells #[.int .i64 key] 3)) (.cells #[.bool false] 4); simpa using this)
  have K1 : Kp Nu w w1 := ((Kp.alloc w _ Nu).andAlloc _).andNu k1
  have c0 := cell1 x0
  obtain ⟨mb, hmb⟩ : ∃ mb, ((w.alloc (.cells #[.int .i64 key] 3)).alloc (.cells #[.bool false] 4)).heap.size = mb := ⟨_, rfl⟩
  rw [hmb] at hm1 PF ⊢
  have hmbv : mb = w.heap.size + 1 + 1 := by rw [← hmb]; simp
  clear hmb k1
  have HMB := hide hmbv
  clear hmbv NA
  gi_wp2_with fail
  refine ⟨trivial, (callsIn_wide.2 PF).mono ?_⟩
  rintro e w2 ⟨rfl, hm2, k2⟩
  have KZ : Kp Nu w2 (w2.alloc (.cells #[.int .i64 0] 3)) := Kp.alloc w2 _ Nu
  have N0 : Hid (Nw w (w2.alloc (.cells #[.int .i64 0] 3)) w.heap.size (w.heap.size + 1) mb w2.heap.size key 0 ∧ Below w.heap.size w (w2.alloc (.cells #[.int .i64 0] 3)) ∧ w.heap.size < w2.heap.size) := by
    have hmv := HMB.out
    have y0 := (k2.block _ (blk_lt x0) (fun e => by have e : w.heap.size = mb := e; omega)).trans x0
    have y1 := (k2.block _ (blk_lt x1) (fun e => by have e : w.heap.size + 1 = mb := e; omega)).trans x1
    refine ⟨⟨(KZ.block _ (blk_lt y0) (fun h => h)).trans y0, (KZ.block _ (blk_lt y1) (fun h => h)).trans y1, hm2.nu KZ, heap_alloc_new w2 _⟩, ?_, blk_lt y0⟩
    exact ((K1.trans k2 (fun i hi e => by have e : i = mb := e; omega)).andNu KZ).toBelow
  clear PF hm1 hm2 k2 x0 x1 K1 c0 KZ
  gi_wp2_with fail
  generalize w2.alloc (.cells #[.int .i64 0] 3) = w3 at *
  obtain ⟨bt, hbt⟩ : ∃ bt, w2.heap.size = bt := ⟨_, rfl⟩
  rw [hbt] at N0 ⊢
  clear hbt
  obtain ⟨br, hbr⟩ : ∃ br, w.heap.size + 1 = br := ⟨_, rfl⟩
  rw [hbr] at N0 ⊢
  have HBR : Hid (w.heap.size ≤ br) := by show w.heap.size ≤ br; omega
  clear hbr
  obtain ⟨bk, hbk⟩ : ∃ bk, w.heap.size = bk := ⟨_, rfl⟩
  have HBK := hide hbk
  rw [show Nw w w3 w.heap.size br mb bt key 0 = Nw w w3 bk br mb bt key 0 by rw [hbk]] at N0
  rw [hbk]
  have HNE : Hid (bt ≠ bk ∧ w.heap.size ≤ bt) := by have := N0.out.2.2; exact ⟨by omega, by omega⟩
  clear hbk
  refine wpIn_loop (NwI w bk br mb bt key lo hi) nwM ?_ ?_
  · exact ⟨0, _, _, _, _, _, _, _, _, _, _, _, _, _, _, _, _, _, _, _, _, _, _, _, _, _, _, _, _, _, _, _, _, _, _, _, _, _, _, _, _, _, _, _, _, _, _, _, _, _, _, _, _, [], by omega, rfl, ⟨0, N0.out.1⟩, N0.out.2.1, List.nodup_nil, fun D hD => by cases hD⟩
  rintro a V ⟨k, u11, u12, u13, u14, u21, u22, u23, u24, u25, u26, u27, u28, u29, u30, u31, u32, u33, u34, u35, u36, u37, u38, u39, u40, u41, u42, u43, u44, u45, u46, u47, u48, u49, u50, u51, u52, u53, u54, u55, u56, u57, u58, u59, u60, u61, u62, u63, u64, u65, u66, u67, u68, Ls, hk, rfl, ⟨n, hN⟩, hB, hnd, hLs⟩
  clear N0
  have ct := cell1 hN.t
  have ck := cell1 hN.k
  have ft := free3 hN.t 0
  have cr := cell1 hN.r
  have fr_ := free3 hN.r 0
  have HN := hide (And.intro hN (And.intro hB (And.intro hnd hLs)))
  clear hN hB hnd hLs
  have hcs : k = 0 ∨ k = 1 ∨ k = 2 ∨ k = 3 ∨ k = 4 := by omega
  rcases hcs with rfl | rfl | rfl | rfl | rfl
  · gi_wp2_with fail
    refine ⟨trivial, (callsIn_wide.2 (all_any V none)).mono ?_⟩
    rintro e w4 ⟨rfl, hb4, k4⟩
    have N4 := HN.out.1.nu k4
    have ct4 := cell1 N4.t
    have ft4 := free3 N4.t 0
    have ck4 := cell1 N4.k
    have nf : ∀ W : World, (binOp .eql 27 (.func (.func 82) #[] #[.pointer (some ⟨V.heap.size, 0, none⟩)]) .nilFunc).run Try.prog W = .ok (.bool false) W := fun W => by rfl
    gi_wp2_with fail
    have N6 := N4.set HNE.out.1 0
    have K6 : Kp Nu w (w4.setCell ⟨bt, 0, none⟩ (.int .i64 0)) := (((Kp.of_below HN.out.2.1).andNu k4)).andSet ⟨bt, 0, none⟩ (.int .i64 0) (.inl HNE.out.2)
    have L6 : ∀ D ∈ Ls, (w4.setCell ⟨bt, 0, none⟩ (.int .i64 0)).heap[D]? = some (.deferred (some [])) := fun D hD => by
      have d0 := (HN.out.2.2.2 D hD).2
      have d4 := (k4.block D (blk_lt d0) (fun h => h)).trans d0
      have d5 := d4
      exact (Below.heap_setCell _ ⟨bt, 0, none⟩ _ D (fun e => by have e : D = bt := e; rw [e, N4.t] at d5; cases d5)).trans d5
    have XO : ∀ (b : Nat) (c : Array Value) (tt : TypeId) (mm : Nat × Nat), b ≠ bt → w4.heap[b]? = some (.cells c tt mm) → (w4.setCell ⟨bt, 0, none⟩ (.int .i64 0)).heap[b]? = some (.cells c tt mm) := fun b c tt mm hb e => (Below.heap_setCell _ ⟨bt, 0, none⟩ _ b hb).trans e
    have hbt4 : bt < V.heap.size := blk_lt HN.out.1.t
    have hs4 := k4.size
    have SQ := all_q0 mb V.heap.size (w4.setCell ⟨bt, 0, none⟩ (.int .i64 0)) (XO _ _ _ _ (by omega) hb4)
    generalize w4.setCell ⟨bt, 0, none⟩ (.int .i64 0) = W6 at N6 K6 L6 SQ ⊢
    have D6 : ∀ D ∈ Ls, D < W6.heap.size := fun D hD => blk_lt (L6 D hD)
    have hs6 : w.heap.size ≤ W6.heap.size := K6.size
    have HLS : Hid (∀ D ∈ Ls, w.heap.size ≤ D) := fun D hD => (HN.out.2.2.2 D hD).1
    have HND : Hid Ls.Nodup := HN.out.2.2.1
    clear XO ct ck ft cr fr_ ct4 ft4 ck4 nf HN
    refine range_q (gf := 82) rfl (enters_of Try.func82 (by kernel_rfl) rfl) SQ (Below.refl _ _) (fun _ => rfl)
      (fun pre V' => (Nw w V' bk br mb bt key (pre.length : Int) ∧ Below w.heap.size w V') ∧ ∀ D ∈ Ls, V'.heap[D]? = some (.deferred (some []))) (fun _ _ _ => False)
      (fun pre X Z row hs hg hr => ⟨⟨hs.1.1.cc (Cc.grown hg hr), ownFrom_below (β := Unit) (Nat.le_refl _) hs6 () X Z row hs.1.2 hg hr⟩, fun D hD => own_block (D6 D hD) () X Z row (hs.2 D hD) hg hr⟩)
      (fun _ _ _ _ _ hs _ _ => hs) ⟨⟨N6, K6.toBelow⟩, L6⟩
      (fun x a' V' => a' = { tmps := #[Value.int IntKind.i64 key, Value.int IntKind.i64 lo, Value.int IntKind.i64 hi, Value.pointer (some { block := bk, off := 0 }), undef, undef, Value.pointer (some { block := br, off := 0 }), Value.pointer none, Value.pointer (some { block := mb, off := 0 }), Value.pointer (some { block := bt, off := 0 }), Value.int IntKind.i64 0, Value.func (Fn.func 82) #[] #[Value.pointer (some { block := V.heap.size, off := 0 })], Value.int IntKind.i64 0, .int .i64 x.1, .int .i64 x.2, Value.pointer (some { block := mb, off := 0 }), Value.pointer (some { block := mb, off := 0 }), Value.bool false, Value.pointer (some { block := mb, off := 0 }), Value.int IntKind.i64 key, Value.tuple #[Value.int IntKind.i64 0, Value.bool false], Value.int IntKind.i64 0, Value.bool true, u23, u24, Value.pointer none, Value.func (Fn.func 82) #[] #[Value.pointer (some { block := V.heap.size, off := 0 })], Value.int IntKind.i64 0, Value.bool false, Value.bool false, u30, u31, u32, u33, Value.bool false, Value.bool false, u36, u37, u38, u39, u40, u41, u42, u43, u44, u45, u46, u47, Value.bool false, Value.bool false, u50, u51, Value.func (Fn.func 82) #[] #[Value.pointer (some { block := V.heap.size, off := 0 })], Value.bool false, Value.func (Fn.func 82) #[] #[Value.pointer (some { block := V.heap.size, off := 0 })], .int .i64 x.1, .int .i64 x.2, u57, u58, u59, u60, u61, u62, u63, u64, u65, u66, u67, u68], defers := [] }) (fun x a' _ X Z row hs hg hr => hs)
      ?as0 ?bo0 ?do0 (fun _ _ _ _ _ _ h _ => h.elim)
    case as0 =>
      rintro l' pre x V' R hI hR
      have HI := hide hI
      clear hI SQ
      gi_wp2
      exact hR _ _ (kf_nu _ (Kp.refl _ _)) (kc_nu (Kp.refl _ _)) HI.out rfl
    case bo0 =>
      rintro l' pre x a' V' hl' hq hI hA hlt
      exact (pre_nil hlt).elim
    case do0 =>
      rintro D ys V' hD hys ⟨⟨hN', hB'⟩, hL'⟩ hK'
      subst hys
      have c1 : V'.cell? ⟨bt, 0, none⟩ = some (.int .i64 0) := cell1 hN'.t
      have HX : Hid ((∃ n, Nw w V' bk br mb bt key n) ∧ Below w.heap.size w V' ∧ (D :: Ls).Nodup ∧ (∀ D' ∈ D :: Ls, w.heap.size ≤ D' ∧ V'.heap[D']? = some (.deferred (some [])))) := by
        refine ⟨⟨_, hN'⟩, hB', List.nodup_cons.2 ⟨fun h => by have := D6 D h; omega, HND.out⟩, fun D' h => ?_⟩
        rcases List.mem_cons.1 h with rfl | h
        · exact ⟨by omega, hK'⟩
        · exact ⟨HLS.out D' h, hL' D' h⟩
      clear hN' hB' hL' SQ N6 K6 L6
      gi_wp2_with fail
      exact ⟨⟨1, _, _, _, _, _, _, _, _, _, _, _, _, _, _, _, _, _, _, _, _, _, _, _, _, _, _, _, _, _, _, _, _, _, _, _, _, _, _, _, _, _, _, _, _, _, _, _, _, _, _, _, _, D :: Ls, by omega, rfl, HX.out.1, HX.out.2.1, HX.out.2.2.1, HX.out.2.2.2⟩, by show (3 : Nat) < 4; omega⟩
  · gi_wp2_with fail
    refine ⟨trivial, (callsIn_wide.2 (all_any V none)).mono ?_⟩
    rintro e w4 ⟨rfl, hb4, k4⟩
    have N4 := HN.out.1.nu k4
    have ct4 := cell1 N4.t
    have ft4 := free3 N4.t 0
    have ck4 := cell1 N4.k
    gi_wp2_with fail
    refine ⟨trivial, (callsIn_wide.2 (between_any w4 (none) lo hi)).mono ?_⟩
    rintro e w5 ⟨B1, B2, rfl, hb5, hb51, hb52, hB1, hB2, k5⟩
    have N5 := N4.nu k5
    have ct5 := cell1 N5.t
    have ft5 := free3 N5.t 0
    have ck5 := cell1 N5.k
    have nf : ∀ W : World, (binOp .eql 27 (.func (.func 86) #[] #[.pointer (some ⟨w4.heap.size, 0, none⟩), .pointer (some ⟨B1, 0, none⟩), .pointer (some ⟨B2, 0, none⟩)]) .nilFunc).run Try.prog W = .ok (.bool false) W := fun W => by rfl
    gi_wp2_with fail
    have N6 := N5.set HNE.out.1 0
    have K6 : Kp Nu w (w5.setCell ⟨bt, 0, none⟩ (.int .i64 0)) := (((Kp.of_below HN.out.2.1).andNu k4).andNu k5).andSet ⟨bt, 0, none⟩ (.int .i64 0) (.inl HNE.out.2)
    have L6 : ∀ D ∈ Ls, (w5.setCell ⟨bt, 0, none⟩ (.int .i64 0)).heap[D]? = some (.deferred (some [])) := fun D hD => by
      have d0 := (HN.out.2.2.2 D hD).2
      have d4 := (k4.block D (blk_lt d0) (fun h => h)).trans d0
      have d5 := (k5.block D (blk_lt d4) (fun h => h)).trans d4
      exact (Below.heap_setCell _ ⟨bt, 0, none⟩ _ D (fun e => by have e : D = bt := e; rw [e, N5.t] at d5; cases d5)).trans d5
    have XO : ∀ (b : Nat) (c : Array Value) (tt : TypeId) (mm : Nat × Nat), b ≠ bt → w5.heap[b]? = some (.cells c tt mm) → (w5.setCell ⟨bt, 0, none⟩ (.int .i64 0)).heap[b]? = some (.cells c tt mm) := fun b c tt mm hb e => (Below.heap_setCell _ ⟨bt, 0, none⟩ _ b hb).trans e
    have hbt4 : bt < V.heap.size := blk_lt HN.out.1.t
    have hs4 := k4.size
    have SQ := between_q0 mb w4.heap.size B1 B2 (w5.setCell ⟨bt, 0, none⟩ (.int .i64 0)) lo hi (XO _ _ _ _ (by omega) hb5) (XO _ _ _ _ (by omega) hb51) (XO _ _ _ _ (by omega) hb52)
    generalize w5.setCell ⟨bt, 0, none⟩ (.int .i64 0) = W6 at N6 K6 L6 SQ ⊢
    have D6 : ∀ D ∈ Ls, D < W6.heap.size := fun D hD => blk_lt (L6 D hD)
    have hs6 : w.heap.size ≤ W6.heap.size := K6.size
    have HLS : Hid (∀ D ∈ Ls, w.heap.size ≤ D) := fun D hD => (HN.out.2.2.2 D hD).1
    have HND : Hid Ls.Nodup := HN.out.2.2.1
    clear XO ct ck ft cr fr_ ct4 ft4 ck4 nf HN
    refine range_q (gf := 86) rfl (enters_of Try.func86 (by kernel_rfl) rfl) SQ (Below.refl _ _) (fun _ => rfl)
      (fun pre V' => (Nw w V' bk br mb bt key (pre.length : Int) ∧ Below w.heap.size w V') ∧ ∀ D ∈ Ls, V'.heap[D]? = some (.deferred (some []))) (fun _ _ _ => False)
      (fun pre X Z row hs hg hr => ⟨⟨hs.1.1.cc (Cc.grown hg hr), ownFrom_below (β := Unit) (Nat.le_refl _) hs6 () X Z row hs.1.2 hg hr⟩, fun D hD => own_block (D6 D hD) () X Z row (hs.2 D hD) hg hr⟩)
      (fun _ _ _ _ _ hs _ _ => hs) ⟨⟨N6, K6.toBelow⟩, L6⟩
      (fun x a' V' => a' = { tmps := #[Value.int IntKind.i64 key, Value.int IntKind.i64 lo, Value.int IntKind.i64 hi, Value.pointer (some { block := bk, off := 0 }), undef, undef, Value.pointer (some { block := br, off := 0 }), Value.pointer none, Value.pointer (some { block := mb, off := 0 }), Value.pointer (some { block := bt, off := 0 }), Value.int IntKind.i64 1, Value.func (Fn.func 86) #[] #[Value.pointer (some { block := w4.heap.size, off := 0 }), Value.pointer (some { block := B1, off := 0 }), Value.pointer (some { block := B2, off := 0 })], Value.int IntKind.i64 0, .int .i64 x.1, .int .i64 x.2, Value.pointer (some { block := mb, off := 0 }), Value.pointer (some { block := mb, off := 0 }), Value.bool false, Value.pointer (some { block := mb, off := 0 }), Value.int IntKind.i64 key, Value.tuple #[Value.int IntKind.i64 0, Value.bool false], Value.int IntKind.i64 1, Value.bool true, u23, u24, Value.pointer none, Value.func (Fn.func 82) #[] #[Value.pointer (some { block := V.heap.size, off := 0 })], Value.int IntKind.i64 1, Value.bool true, Value.bool true, Value.pointer none, Value.int IntKind.i64 lo, Value.int IntKind.i64 hi, Value.func (Fn.func 86) #[] #[Value.pointer (some { block := w4.heap.size, off := 0 }), Value.pointer (some { block := B1, off := 0 }), Value.pointer (some { block := B2, off := 0 })], u34, u35, u36, u37, u38, u39, u40, u41, u42, u43, u44, u45, u46, u47, u48, u49, u50, u51, Value.func (Fn.func 86) #[] #[Value.pointer (some { block := w4.heap.size, off := 0 }), Value.pointer (some { block := B1, off := 0 }), Value.pointer (some { block := B2, off := 0 })], Value.bool false, Value.func (Fn.func 86) #[] #[Value.pointer (some { block := w4.heap.size, off := 0 }), Value.pointer (some { block := B1, off := 0 }), Value.pointer (some { block := B2, off := 0 })], .int .i64 x.1, .int .i64 x.2, u57, u58, u59, u60, u61, u62, u63, u64, u65, u66, u67, u68], defers := [] }) (fun x a' _ X Z row hs hg hr => hs)
      ?as1 ?bo1 ?do1 (fun _ _ _ _ _ _ h _ => h.elim)
    case as1 =>
      rintro l' pre x V' R hI hR
      have HI := hide hI
      clear hI SQ
      gi_wp2
      exact hR _ _ (kf_nu _ (Kp.refl _ _)) (kc_nu (Kp.refl _ _)) HI.out rfl
    case bo1 =>
      rintro l' pre x a' V' hl' hq hI hA hlt
      exact (pre_nil hlt).elim
    case do1 =>
      rintro D ys V' hD hys ⟨⟨hN', hB'⟩, hL'⟩ hK'
      subst hys
      have c1 : V'.cell? ⟨bt, 0, none⟩ = some (.int .i64 0) := cell1 hN'.t
      have HX : Hid ((∃ n, Nw w V' bk br mb bt key n) ∧ Below w.heap.size w V' ∧ (D :: Ls).Nodup ∧ (∀ D' ∈ D :: Ls, w.heap.size ≤ D' ∧ V'.heap[D']? = some (.deferred (some [])))) := by
        refine ⟨⟨_, hN'⟩, hB', List.nodup_cons.2 ⟨fun h => by have := D6 D h; omega, HND.out⟩, fun D' h => ?_⟩
        rcases List.mem_cons.1 h with rfl | h
        · exact ⟨by omega, hK'⟩
        · exact ⟨HLS.out D' h, hL' D' h⟩
      clear hN' hB' hL' SQ N6 K6 L6
      gi_wp2_with fail
      exact ⟨⟨2, _, _, _, _, _, _, _, _, _, _, _, _, _, _, _, _, _, _, _, _, _, _, _, _, _, _, _, _, _, _, _, _, _, _, _, _, _, _, _, _, _, _, _, _, _, _, _, _, _, _, _, _, D :: Ls, by omega, rfl, HX.out.1, HX.out.2.1, HX.out.2.2.1, HX.out.2.2.2⟩, by show (2 : Nat) < 3; omega⟩
  · by_cases hl1 : lo ≤ key
    · by_cases hl2 : key ≤ hi
      · have hin : lo ≤ key ∧ key ≤ hi := ⟨hl1, hl2⟩
        gi_wp2_with fail
        refine ⟨trivial, (callsIn_wide.2 (all_any V none)).mono ?_⟩
        rintro e w4 ⟨rfl, hb4, k4⟩
        have N4 := HN.out.1.nu k4
        have ct4 := cell1 N4.t
        have ft4 := free3 N4.t 0
        have ck4 := cell1 N4.k
        gi_wp2_with fail
        refine ⟨trivial, (callsIn_wide.2 (between_any w4 (some ⟨mb, 0, none⟩) lo hi)).mono ?_⟩
        rintro e w5 ⟨B1, B2, rfl, hb5, hb51, hb52, hB1, hB2, k5⟩
        have N5 := N4.nu k5
        have ct5 := cell1 N5.t
        have ft5 := free3 N5.t 0
        have ck5 := cell1 N5.k
        have nf : ∀ W : World, (binOp .eql 27 (.func (.func 86) #[] #[.pointer (some ⟨w4.heap.size, 0, none⟩), .pointer (some ⟨B1, 0, none⟩), .pointer (some ⟨B2, 0, none⟩)]) .nilFunc).run Try.prog W = .ok (.bool false) W := fun W => by rfl
        gi_wp2_with fail
        have N6 := N5.set HNE.out.1 0
        have K6 : Kp Nu w (w5.setCell ⟨bt, 0, none⟩ (.int .i64 0)) := (((Kp.of_below HN.out.2.1).andNu k4).andNu k5).andSet ⟨bt, 0, none⟩ (.int .i64 0) (.inl HNE.out.2)
        have L6 : ∀ D ∈ Ls, (w5.setCell ⟨bt, 0, none⟩ (.int .i64 0)).heap[D]? = some (.deferred (some [])) := fun D hD => by
          have d0 := (HN.out.2.2.2 D hD).2
          have d4 := (k4.block D (blk_lt d0) (fun h => h)).trans d0
          have d5 := (k5.block D (blk_lt d4) (fun h => h)).trans d4
          exact (Below.heap_setCell _ ⟨bt, 0, none⟩ _ D (fun e => by have e : D = bt := e; rw [e, N5.t] at d5; cases d5)).trans d5
        have XO : ∀ (b : Nat) (c : Array Value) (tt : TypeId) (mm : Nat × Nat), b ≠ bt → w5.heap[b]? = some (.cells c tt mm) → (w5.setCell ⟨bt, 0, none⟩ (.int .i64 0)).heap[b]? = some (.cells c tt mm) := fun b c tt mm hb e => (Below.heap_setCell _ ⟨bt, 0, none⟩ _ b hb).trans e
        have hbt4 : bt < V.heap.size := blk_lt HN.out.1.t
        have hs4 := k4.size
        have SQ := between_q (lo := lo) (hi := hi) N6.m (XO _ _ _ _ (by omega) hb5) (XO _ _ _ _ (by omega) hb51) (XO _ _ _ _ (by omega) hb52) (by simp [T.sz])
        rw [seg_one key lo hi hin] at SQ
        generalize w5.setCell ⟨bt, 0, none⟩ (.int .i64 0) = W6 at N6 K6 L6 SQ ⊢
        have D6 : ∀ D ∈ Ls, D < W6.heap.size := fun D hD => blk_lt (L6 D hD)
        have hs6 : w.heap.size ≤ W6.heap.size := K6.size
        have HLS : Hid (∀ D ∈ Ls, w.heap.size ≤ D) := fun D hD => (HN.out.2.2.2 D hD).1
        have HND : Hid Ls.Nodup := HN.out.2.2.1
        clear XO ct ck ft cr fr_ ct4 ft4 ck4 nf HN
        refine range_q (gf := 86) rfl (enters_of Try.func86 (by kernel_rfl) rfl) SQ (Below.refl _ _) (fun _ => rfl)
          (fun pre V' => (Nw w V' bk br mb bt key (pre.length : Int) ∧ Below w.heap.size w V') ∧ ∀ D ∈ Ls, V'.heap[D]? = some (.deferred (some []))) (fun _ _ _ => False)
          (fun pre X Z row hs hg hr => ⟨⟨hs.1.1.cc (Cc.grown hg hr), ownFrom_below (β := Unit) (Nat.le_refl _) hs6 () X Z row hs.1.2 hg hr⟩, fun D hD => own_block (D6 D hD) () X Z row (hs.2 D hD) hg hr⟩)
          (fun _ _ _ _ _ hs _ _ => hs) ⟨⟨N6, K6.toBelow⟩, L6⟩
          (fun x a' V' => a' = { tmps := #[Value.int IntKind.i64 key, Value.int IntKind.i64 lo, Value.int IntKind.i64 hi, Value.pointer (some { block := bk, off := 0 }), undef, undef, Value.pointer (some { block := br, off := 0 }), Value.pointer none, Value.pointer (some { block := mb, off := 0 }), Value.pointer (some { block := bt, off := 0 }), Value.int IntKind.i64 2, Value.func (Fn.func 86) #[] #[Value.pointer (some { block := w4.heap.size, off := 0 }), Value.pointer (some { block := B1, off := 0 }), Value.pointer (some { block := B2, off := 0 })], Value.int IntKind.i64 1, .int .i64 x.1, .int .i64 x.2, Value.pointer (some { block := mb, off := 0 }), Value.pointer (some { block := mb, off := 0 }), Value.bool false, Value.pointer (some { block := mb, off := 0 }), Value.int IntKind.i64 key, Value.tuple #[Value.int IntKind.i64 0, Value.bool false], Value.int IntKind.i64 2, Value.bool true, u23, u24, Value.pointer none, Value.func (Fn.func 82) #[] #[Value.pointer (some { block := V.heap.size, off := 0 })], Value.int IntKind.i64 2, Value.bool false, Value.bool false, u30, u31, u32, u33, Value.bool true, Value.bool true, Value.pointer (some { block := mb, off := 0 }), Value.int IntKind.i64 lo, Value.int IntKind.i64 hi, Value.func (Fn.func 86) #[] #[Value.pointer (some { block := w4.heap.size, off := 0 }), Value.pointer (some { block := B1, off := 0 }), Value.pointer (some { block := B2, off := 0 })], Value.int IntKind.i64 lo, Value.int IntKind.i64 key, Value.bool true, Value.bool true, Value.int IntKind.i64 key, Value.int IntKind.i64 hi, Value.bool true, Value.bool true, u48, u49, u50, u51, Value.func (Fn.func 86) #[] #[Value.pointer (some { block := w4.heap.size, off := 0 }), Value.pointer (some { block := B1, off := 0 }), Value.pointer (some { block := B2, off := 0 })], Value.bool false, Value.func (Fn.func 86) #[] #[Value.pointer (some { block := w4.heap.size, off := 0 }), Value.pointer (some { block := B1, off := 0 }), Value.pointer (some { block := B2, off := 0 })], .int .i64 x.1, .int .i64 x.2, u57, u58, u59, u60, u61, u62, u63, u64, u65, u66, u67, u68], defers := [] }) (fun x a' _ X Z row hs hg hr => hs)
          ?as2 ?bo2 ?do2 (fun _ _ _ _ _ _ h _ => h.elim)
        case as2 =>
          rintro l' pre x V' R hI hR
          have HI := hide hI
          clear hI SQ
          gi_wp2
          exact hR _ _ (kf_nu _ (Kp.refl _ _)) (kc_nu (Kp.refl _ _)) HI.out rfl
        case bo2 =>
          rintro l' pre x a' V' hl' hq ⟨⟨hN', hB'⟩, hL'⟩ rfl hlt
          obtain ⟨rfl, rfl⟩ := pre_one hlt
          have c1 : V'.cell? ⟨bt, 0, none⟩ = some (.int .i64 0) := cell1 hN'.t
          have c2 := cell1 hN'.k
          have f1 := free3 hN'.t 0
          have HX : Hid (ownPostG W6.heap.size (Kc (KM mb)) (fun pre V' => (Nw w V' bk br mb bt key (pre.length : Int) ∧ Below w.heap.size w V') ∧ ∀ D ∈ Ls, V'.heap[D]? = some (.deferred (some []))) (fun _ _ _ => False) ([] ++ [(key, (5 : Int))]) V' .normal { tmps := #[], defers := [] } (V'.setCell ⟨bt, 0, none⟩ (.int .i64 1))) := by
            refine ⟨kf_cells (Kp.setCell V' ⟨bt, 0, none⟩ _) (fun k e => ⟨#[.int .i64 (([] : List (Int × Int)).length : Int)], 3, (0, 0), by have e : k = bt := e; rw [e]; exact hN'.t⟩), kc_cells (Kp.setCell V' ⟨bt, 0, none⟩ _) (fun k c tt m e h hK => ?_), ⟨hN'.set HNE.out.1 1, ?_⟩, fun D hD => ?_⟩
            · have e : k = bt := e
              subst e
              rw [hN'.t] at h
              cases h
              rcases hK with h | h | h | h | h
              · cases h
              · cases h
              · cases h
              · cases h
              · obtain ⟨a, h1, _⟩ := hN'.m.ex
                have h : k = mb := h
                subst h
                rw [hN'.t] at h1; cases h1
            · exact ((Kp.of_below hB').andSet ⟨bt, 0, none⟩ _ (.inl HNE.out.2)).toBelow
            · exact (Below.heap_setCell V' ⟨bt, 0, none⟩ _ D (fun e => by have e : D = bt := e; have := hL' D hD; rw [e, hN'.t] at this; cases this)).trans (hL' D hD)
          clear hN' hB' hL' SQ N6 K6 L6
          gi_wp2
          exact HX.out
        case do2 =>
          rintro D ys V' hD hys ⟨⟨hN', hB'⟩, hL'⟩ hK'
          subst hys
          have c1 : V'.cell? ⟨bt, 0, none⟩ = some (.int .i64 1) := cell1 hN'.t
          have HX : Hid ((∃ n, Nw w V' bk br mb bt key n) ∧ Below w.heap.size w V' ∧ (D :: Ls).Nodup ∧ (∀ D' ∈ D :: Ls, w.heap.size ≤ D' ∧ V'.heap[D']? = some (.deferred (some [])))) := by
            refine ⟨⟨_, hN'⟩, hB', List.nodup_cons.2 ⟨fun h => by have := D6 D h; omega, HND.out⟩, fun D' h => ?_⟩
            rcases List.mem_cons.1 h with rfl | h
            · exact ⟨by omega, hK'⟩
            · exact ⟨HLS.out D' h, hL' D' h⟩
          clear hN' hB' hL' SQ N6 K6 L6
          gi_wp2_with fail
          exact ⟨⟨3, _, _, _, _, _, _, _, _, _, _, _, _, _, _, _, _, _, _, _, _, _, _, _, _, _, _, _, _, _, _, _, _, _, _, _, _, _, _, _, _, _, _, _, _, _, _, _, _, _, _, _, _, D :: Ls, by omega, rfl, HX.out.1, HX.out.2.1, HX.out.2.2.1, HX.out.2.2.2⟩, by show (1 : Nat) < 2; omega⟩
      · have hin : ¬ (lo ≤ key ∧ key ≤ hi) := fun h => hl2 h.2
        gi_wp2_with fail
        refine ⟨trivial, (callsIn_wide.2 (all_any V none)).mono ?_⟩
        rintro e w4 ⟨rfl, hb4, k4⟩
        have N4 := HN.out.1.nu k4
        have ct4 := cell1 N4.t
        have ft4 := free3 N4.t 0
        have ck4 := cell1 N4.k
        gi_wp2_with fail
        refine ⟨trivial, (callsIn_wide.2 (between_any w4 (some ⟨mb, 0, none⟩) lo hi)).mono ?_⟩
        rintro e w5 ⟨B1, B2, rfl, hb5, hb51, hb52, hB1, hB2, k5⟩
        have N5 := N4.nu k5
        have ct5 := cell1 N5.t
        have ft5 := free3 N5.t 0
        have ck5 := cell1 N5.k
        have nf : ∀ W : World, (binOp .eql 27 (.func (.func 86) #[] #[.pointer (some ⟨w4.heap.size, 0, none⟩), .pointer (some ⟨B1, 0, none⟩), .pointer (some ⟨B2, 0, none⟩)]) .nilFunc).run Try.prog W = .ok (.bool false) W := fun W => by rfl
        gi_wp2_with fail
        have N6 := N5.set HNE.out.1 0
        have K6 : Kp Nu w (w5.setCell ⟨bt, 0, none⟩ (.int .i64 0)) := (((Kp.of_below HN.out.2.1).andNu k4).andNu k5).andSet ⟨bt, 0, none⟩ (.int .i64 0) (.inl HNE.out.2)
        have L6 : ∀ D ∈ Ls, (w5.setCell ⟨bt, 0, none⟩ (.int .i64 0)).heap[D]? = some (.deferred (some [])) := fun D hD => by
          have d0 := (HN.out.2.2.2 D hD).2
          have d4 := (k4.block D (blk_lt d0) (fun h => h)).trans d0
          have d5 := (k5.block D (blk_lt d4) (fun h => h)).trans d4
          exact (Below.heap_setCell _ ⟨bt, 0, none⟩ _ D (fun e => by have e : D = bt := e; rw [e, N5.t] at d5; cases d5)).trans d5
        have XO : ∀ (b : Nat) (c : Array Value) (tt : TypeId) (mm : Nat × Nat), b ≠ bt → w5.heap[b]? = some (.cells c tt mm) → (w5.setCell ⟨bt, 0, none⟩ (.int .i64 0)).heap[b]? = some (.cells c tt mm) := fun b c tt mm hb e => (Below.heap_setCell _ ⟨bt, 0, none⟩ _ b hb).trans e
        have hbt4 : bt < V.heap.size := blk_lt HN.out.1.t
        have hs4 := k4.size
        have SQ := between_q (lo := lo) (hi := hi) N6.m (XO _ _ _ _ (by omega) hb5) (XO _ _ _ _ (by omega) hb51) (XO _ _ _ _ (by omega) hb52) (by simp [T.sz])
        rw [seg_none key lo hi hin] at SQ
        generalize w5.setCell ⟨bt, 0, none⟩ (.int .i64 0) = W6 at N6 K6 L6 SQ ⊢
        have D6 : ∀ D ∈ Ls, D < W6.heap.size := fun D hD => blk_lt (L6 D hD)
        have hs6 : w.heap.size ≤ W6.heap.size := K6.size
        have HLS : Hid (∀ D ∈ Ls, w.heap.size ≤ D) := fun D hD => (HN.out.2.2.2 D hD).1
        have HND : Hid Ls.Nodup := HN.out.2.2.1
        clear XO ct ck ft cr fr_ ct4 ft4 ck4 nf HN
        refine range_q (gf := 86) rfl (enters_of Try.func86 (by kernel_rfl) rfl) SQ (Below.refl _ _) (fun _ => rfl)
          (fun pre V' => (Nw w V' bk br mb bt key (pre.length : Int) ∧ Below w.heap.size w V') ∧ ∀ D ∈ Ls, V'.heap[D]? = some (.deferred (some []))) (fun _ _ _ => False)
          (fun pre X Z row hs hg hr => ⟨⟨hs.1.1.cc (Cc.grown hg hr), ownFrom_below (β := Unit) (Nat.le_refl _) hs6 () X Z row hs.1.2 hg hr⟩, fun D hD => own_block (D6 D hD) () X Z row (hs.2 D hD) hg hr⟩)
          (fun _ _ _ _ _ hs _ _ => hs) ⟨⟨N6, K6.toBelow⟩, L6⟩
          (fun x a' V' => a' = { tmps := #[Value.int IntKind.i64 key, Value.int IntKind.i64 lo, Value.int IntKind.i64 hi, Value.pointer (some { block := bk, off := 0 }), undef, undef, Value.pointer (some { block := br, off := 0 }), Value.pointer none, Value.pointer (some { block := mb, off := 0 }), Value.pointer (some { block := bt, off := 0 }), Value.int IntKind.i64 2, Value.func (Fn.func 86) #[] #[Value.pointer (some { block := w4.heap.size, off := 0 }), Value.pointer (some { block := B1, off := 0 }), Value.pointer (some { block := B2, off := 0 })], Value.int IntKind.i64 0, .int .i64 x.1, .int .i64 x.2, Value.pointer (some { block := mb, off := 0 }), Value.pointer (some { block := mb, off := 0 }), Value.bool false, Value.pointer (some { block := mb, off := 0 }), Value.int IntKind.i64 key, Value.tuple #[Value.int IntKind.i64 0, Value.bool false], Value.int IntKind.i64 2, Value.bool true, u23, u24, Value.pointer none, Value.func (Fn.func 82) #[] #[Value.pointer (some { block := V.heap.size, off := 0 })], Value.int IntKind.i64 2, Value.bool false, Value.bool false, u30, u31, u32, u33, Value.bool true, Value.bool true, Value.pointer (some { block := mb, off := 0 }), Value.int IntKind.i64 lo, Value.int IntKind.i64 hi, Value.func (Fn.func 86) #[] #[Value.pointer (some { block := w4.heap.size, off := 0 }), Value.pointer (some { block := B1, off := 0 }), Value.pointer (some { block := B2, off := 0 })], Value.int IntKind.i64 lo, Value.int IntKind.i64 key, Value.bool true, Value.bool true, Value.int IntKind.i64 key, Value.int IntKind.i64 hi, Value.bool (decide (key ≤ hi)), Value.bool (decide (key ≤ hi)), u48, u49, u50, u51, Value.func (Fn.func 86) #[] #[Value.pointer (some { block := w4.heap.size, off := 0 }), Value.pointer (some { block := B1, off := 0 }), Value.pointer (some { block := B2, off := 0 })], Value.bool false, Value.func (Fn.func 86) #[] #[Value.pointer (some { block := w4.heap.size, off := 0 }), Value.pointer (some { block := B1, off := 0 }), Value.pointer (some { block := B2, off := 0 })], .int .i64 x.1, .int .i64 x.2, u57, u58, u59, u60, u61, u62, u63, u64, u65, u66, u67, u68], defers := [] }) (fun x a' _ X Z row hs hg hr => hs)
          ?as3 ?bo3 ?do3 (fun _ _ _ _ _ _ h _ => h.elim)
        case as3 =>
          rintro l' pre x V' R hI hR
          have HI := hide hI
          clear hI SQ
          gi_wp2
          exact hR _ _ (kf_nu _ (Kp.refl _ _)) (kc_nu (Kp.refl _ _)) HI.out rfl
        case bo3 =>
          rintro l' pre x a' V' hl' hq hI hA hlt
          exact (pre_nil hlt).elim
        case do3 =>
          rintro D ys V' hD hys ⟨⟨hN', hB'⟩, hL'⟩ hK'
          subst hys
          have c1 : V'.cell? ⟨bt, 0, none⟩ = some (.int .i64 0) := cell1 hN'.t
          have HX : Hid ((∃ n, Nw w V' bk br mb bt key n) ∧ Below w.heap.size w V' ∧ (D :: Ls).Nodup ∧ (∀ D' ∈ D :: Ls, w.heap.size ≤ D' ∧ V'.heap[D']? = some (.deferred (some [])))) := by
            refine ⟨⟨_, hN'⟩, hB', List.nodup_cons.2 ⟨fun h => by have := D6 D h; omega, HND.out⟩, fun D' h => ?_⟩
            rcases List.mem_cons.1 h with rfl | h
            · exact ⟨by omega, hK'⟩
            · exact ⟨HLS.out D' h, hL' D' h⟩
          clear hN' hB' hL' SQ N6 K6 L6
          gi_wp2_with fail
          exact ⟨⟨3, _, _, _, _, _, _, _, _, _, _, _, _, _, _, _, _, _, _, _, _, _, _, _, _, _, _, _, _, _, _, _, _, _, _, _, _, _, _, _, _, _, _, _, _, _, _, _, _, _, _, _, _, D :: Ls, by omega, rfl, HX.out.1, HX.out.2.1, HX.out.2.2.1, HX.out.2.2.2⟩, by show (1 : Nat) < 2; omega⟩
    · have hin : ¬ (lo ≤ key ∧ key ≤ hi) := fun h => hl1 h.1
      gi_wp2_with fail
      refine ⟨trivial, (callsIn_wide.2 (all_any V none)).mono ?_⟩
      rintro e w4 ⟨rfl, hb4, k4⟩
      have N4 := HN.out.1.nu k4
      have ct4 := cell1 N4.t
      have ft4 := free3 N4.t 0
      have ck4 := cell1 N4.k
      gi_wp2_with fail
      refine ⟨trivial, (callsIn_wide.2 (between_any w4 (some ⟨mb, 0, none⟩) lo hi)).mono ?_⟩
      rintro e w5 ⟨B1, B2, rfl, hb5, hb51, hb52, hB1, hB2, k5⟩
      have N5 := N4.nu k5
      have ct5 := cell1 N5.t
      have ft5 := free3 N5.t 0
      have ck5 := cell1 N5.k
      have nf : ∀ W : World, (binOp .eql 27 (.func (.func 86) #[] #[.pointer (some ⟨w4.heap.size, 0, none⟩), .pointer (some ⟨B1, 0, none⟩), .pointer (some ⟨B2, 0, none⟩)]) .nilFunc).run Try.prog W = .ok (.bool false) W := fun W => by rfl
      gi_wp2_with fail
      have N6 := N5.set HNE.out.1 0
      have K6 : Kp Nu w (w5.setCell ⟨bt, 0, none⟩ (.int .i64 0)) := (((Kp.of_below HN.out.2.1).andNu k4).andNu k5).andSet ⟨bt, 0, none⟩ (.int .i64 0) (.inl HNE.out.2)
      have L6 : ∀ D ∈ Ls, (w5.setCell ⟨bt, 0, none⟩ (.int .i64 0)).heap[D]? = some (.deferred (some [])) := fun D hD => by
        have d0 := (HN.out.2.2.2 D hD).2
        have d4 := (k4.block D (blk_lt d0) (fun h => h)).trans d0
        have d5 := (k5.block D (blk_lt d4) (fun h => h)).trans d4
        exact (Below.heap_setCell _ ⟨bt, 0, none⟩ _ D (fun e => by have e : D = bt := e; rw [e, N5.t] at d5; cases d5)).trans d5
      have XO : ∀ (b : Nat) (c : Array Value) (tt : TypeId) (mm : Nat × Nat), b ≠ bt → w5.heap[b]? = some (.cells c tt mm) → (w5.setCell ⟨bt, 0, none⟩ (.int .i64 0)).heap[b]? = some (.cells c tt mm) := fun b c tt mm hb e => (Below.heap_setCell _ ⟨bt, 0, none⟩ _ b hb).trans e
      have hbt4 : bt < V.heap.size := blk_lt HN.out.1.t
      have hs4 := k4.size
      have SQ := between_q (lo := lo) (hi := hi) N6.m (XO _ _ _ _ (by omega) hb5) (XO _ _ _ _ (by omega) hb51) (XO _ _ _ _ (by omega) hb52) (by simp [T.sz])
      rw [seg_none key lo hi hin] at SQ
      generalize w5.setCell ⟨bt, 0, none⟩ (.int .i64 0) = W6 at N6 K6 L6 SQ ⊢
      have D6 : ∀ D ∈ Ls, D < W6.heap.size := fun D hD => blk_lt (L6 D hD)
      have hs6 : w.heap.size ≤ W6.heap.size := K6.size
      have HLS : Hid (∀ D ∈ Ls, w.heap.size ≤ D) := fun D hD => (HN.out.2.2.2 D hD).1
      have HND : Hid Ls.Nodup := HN.out.2.2.1
      clear XO ct ck ft cr fr_ ct4 ft4 ck4 nf HN
      refine range_q (gf := 86) rfl (enters_of Try.func86 (by kernel_rfl) rfl) SQ (Below.refl _ _) (fun _ => rfl)
        (fun pre V' => (Nw w V' bk br mb bt key (pre.length : Int) ∧ Below w.heap.size w V') ∧ ∀ D ∈ Ls, V'.heap[D]? = some (.deferred (some []))) (fun _ _ _ => False)
        (fun pre X Z row hs hg hr => ⟨⟨hs.1.1.cc (Cc.grown hg hr), ownFrom_below (β := Unit) (Nat.le_refl _) hs6 () X Z row hs.1.2 hg hr⟩, fun D hD => own_block (D6 D hD) () X Z row (hs.2 D hD) hg hr⟩)
        (fun _ _ _ _ _ hs _ _ => hs) ⟨⟨N6, K6.toBelow⟩, L6⟩
        (fun x a' V' => a' = { tmps := #[Value.int IntKind.i64 key, Value.int IntKind.i64 lo, Value.int IntKind.i64 hi, Value.pointer (some { block := bk, off := 0 }), undef, undef, Value.pointer (some { block := br, off := 0 }), Value.pointer none, Value.pointer (some { block := mb, off := 0 }), Value.pointer (some { block := bt, off := 0 }), Value.int IntKind.i64 2, Value.func (Fn.func 86) #[] #[Value.pointer (some { block := w4.heap.size, off := 0 }), Value.pointer (some { block := B1, off := 0 }), Value.pointer (some { block := B2, off := 0 })], Value.int IntKind.i64 0, .int .i64 x.1, .int .i64 x.2, Value.pointer (some { block := mb, off := 0 }), Value.pointer (some { block := mb, off := 0 }), Value.bool false, Value.pointer (some { block := mb, off := 0 }), Value.int IntKind.i64 key, Value.tuple #[Value.int IntKind.i64 0, Value.bool false], Value.int IntKind.i64 2, Value.bool true, u23, u24, Value.pointer none, Value.func (Fn.func 82) #[] #[Value.pointer (some { block := V.heap.size, off := 0 })], Value.int IntKind.i64 2, Value.bool false, Value.bool false, u30, u31, u32, u33, Value.bool true, Value.bool true, Value.pointer (some { block := mb, off := 0 }), Value.int IntKind.i64 lo, Value.int IntKind.i64 hi, Value.func (Fn.func 86) #[] #[Value.pointer (some { block := w4.heap.size, off := 0 }), Value.pointer (some { block := B1, off := 0 }), Value.pointer (some { block := B2, off := 0 })], Value.int IntKind.i64 lo, Value.int IntKind.i64 key, Value.bool false, Value.bool false, undef, undef, undef, Value.bool false, u48, u49, u50, u51, Value.func (Fn.func 86) #[] #[Value.pointer (some { block := w4.heap.size, off := 0 }), Value.pointer (some { block := B1, off := 0 }), Value.pointer (some { block := B2, off := 0 })], Value.bool false, Value.func (Fn.func 86) #[] #[Value.pointer (some { block := w4.heap.size, off := 0 }), Value.pointer (some { block := B1, off := 0 }), Value.pointer (some { block := B2, off := 0 })], .int .i64 x.1, .int .i64 x.2, u57, u58, u59, u60, u61, u62, u63, u64, u65, u66, u67, u68], defers := [] }) (fun x a' _ X Z row hs hg hr => hs)
        ?as4 ?bo4 ?do4 (fun _ _ _ _ _ _ h _ => h.elim)
      case as4 =>
        rintro l' pre x V' R hI hR
        have HI := hide hI
        clear hI SQ
        gi_wp2
        exact hR _ _ (kf_nu _ (Kp.refl _ _)) (kc_nu (Kp.refl _ _)) HI.out rfl
      case bo4 =>
        rintro l' pre x a' V' hl' hq hI hA hlt
        exact (pre_nil hlt).elim
      case do4 =>
        rintro D ys V' hD hys ⟨⟨hN', hB'⟩, hL'⟩ hK'
        subst hys
        have c1 : V'.cell? ⟨bt, 0, none⟩ = some (.int .i64 0) := cell1 hN'.t
        have HX : Hid ((∃ n, Nw w V' bk br mb bt key n) ∧ Below w.heap.size w V' ∧ (D :: Ls).Nodup ∧ (∀ D' ∈ D :: Ls, w.heap.size ≤ D' ∧ V'.heap[D']? = some (.deferred (some [])))) := by
          refine ⟨⟨_, hN'⟩, hB', List.nodup_cons.2 ⟨fun h => by have := D6 D h; omega, HND.out⟩, fun D' h => ?_⟩
          rcases List.mem_cons.1 h with rfl | h
          · exact ⟨by omega, hK'⟩
          · exact ⟨HLS.out D' h, hL' D' h⟩
        clear hN' hB' hL' SQ N6 K6 L6
        gi_wp2_with fail
        exact ⟨⟨3, _, _, _, _, _, _, _, _, _, _, _, _, _, _, _, _, _, _, _, _, _, _, _, _, _, _, _, _, _, _, _, _, _, _, _, _, _, _, _, _, _, _, _, _, _, _, _, _, _, _, _, _, D :: Ls, by omega, rfl, HX.out.1, HX.out.2.1, HX.out.2.2.1, HX.out.2.2.2⟩, by show (1 : Nat) < 2; omega⟩
  · gi_wp2_with fail
    refine ⟨trivial, (callsIn_wide.2 (all_any V none)).mono ?_⟩
    rintro e w4 ⟨rfl, hb4, k4⟩
    have N4 := HN.out.1.nu k4
    have ct4 := cell1 N4.t
    have ft4 := free3 N4.t 0
    have ck4 := cell1 N4.k
    gi_wp2_with fail
    refine ⟨trivial, (callsIn_wide.2 (all_any w4 (some ⟨mb, 0, none⟩))).mono ?_⟩
    rintro e w5 ⟨rfl, hb5, k5⟩
    have N5 := N4.nu k5
    have ct5 := cell1 N5.t
    have ft5 := free3 N5.t 0
    have ck5 := cell1 N5.k
    have nf : ∀ W : World, (binOp .eql 27 (.func (.func 82) #[] #[.pointer (some ⟨w4.heap.size, 0, none⟩)]) .nilFunc).run Try.prog W = .ok (.bool false) W := fun W => by rfl
    gi_wp2_with fail
    have N6 := N5.set HNE.out.1 0
    have K6 : Kp Nu w (w5.setCell ⟨bt, 0, none⟩ (.int .i64 0)) := (((Kp.of_below HN.out.2.1).andNu k4).andNu k5).andSet ⟨bt, 0, none⟩ (.int .i64 0) (.inl HNE.out.2)
    have L6 : ∀ D ∈ Ls, (w5.setCell ⟨bt, 0, none⟩ (.int .i64 0)).heap[D]? = some (.deferred (some [])) := fun D hD => by
      have d0 := (HN.out.2.2.2 D hD).2
      have d4 := (k4.block D (blk_lt d0) (fun h => h)).trans d0
      have d5 := (k5.block D (blk_lt d4) (fun h => h)).trans d4
      exact (Below.heap_setCell _ ⟨bt, 0, none⟩ _ D (fun e => by have e : D = bt := e; rw [e, N5.t] at d5; cases d5)).trans d5
    have XO : ∀ (b : Nat) (c : Array Value) (tt : TypeId) (mm : Nat × Nat), b ≠ bt → w5.heap[b]? = some (.cells c tt mm) → (w5.setCell ⟨bt, 0, none⟩ (.int .i64 0)).heap[b]? = some (.cells c tt mm) := fun b c tt mm hb e => (Below.heap_setCell _ ⟨bt, 0, none⟩ _ b hb).trans e
    have hbt4 : bt < V.heap.size := blk_lt HN.out.1.t
    have hs4 := k4.size
    have SQ := all_q N6.m (XO _ _ _ _ (by omega) hb5) (by simp [T.sz])
    rw [show (T.node T.nil (key, (5 : Int)) T.nil).xs = [(key, 5)] from rfl] at SQ
    generalize w5.setCell ⟨bt, 0, none⟩ (.int .i64 0) = W6 at N6 K6 L6 SQ ⊢
    have D6 : ∀ D ∈ Ls, D < W6.heap.size := fun D hD => blk_lt (L6 D hD)
    have hs6 : w.heap.size ≤ W6.heap.size := K6.size
    have HLS : Hid (∀ D ∈ Ls, w.heap.size ≤ D) := fun D hD => (HN.out.2.2.2 D hD).1
    have HND : Hid Ls.Nodup := HN.out.2.2.1
    clear XO ct ck ft cr fr_ ct4 ft4 ck4 nf HN
    refine range_q (gf := 82) rfl (enters_of Try.func82 (by kernel_rfl) rfl) SQ (Below.refl _ _) (fun _ => rfl)
      (fun pre V' => (Nw w V' bk br mb bt key (pre.length : Int) ∧ Below w.heap.size w V') ∧ ∀ D ∈ Ls, V'.heap[D]? = some (.deferred (some []))) (fun _ _ _ => False)
      (fun pre X Z row hs hg hr => ⟨⟨hs.1.1.cc (Cc.grown hg hr), ownFrom_below (β := Unit) (Nat.le_refl _) hs6 () X Z row hs.1.2 hg hr⟩, fun D hD => own_block (D6 D hD) () X Z row (hs.2 D hD) hg hr⟩)
      (fun _ _ _ _ _ hs _ _ => hs) ⟨⟨N6, K6.toBelow⟩, L6⟩
      (fun x a' V' => a' = { tmps := #[Value.int IntKind.i64 key, Value.int IntKind.i64 lo, Value.int IntKind.i64 hi, Value.pointer (some { block := bk, off := 0 }), undef, undef, Value.pointer (some { block := br, off := 0 }), Value.pointer none, Value.pointer (some { block := mb, off := 0 }), Value.pointer (some { block := bt, off := 0 }), Value.int IntKind.i64 3, Value.func (Fn.func 82) #[] #[Value.pointer (some { block := w4.heap.size, off := 0 })], Value.int IntKind.i64 1, .int .i64 x.1, .int .i64 x.2, Value.pointer (some { block := mb, off := 0 }), Value.pointer (some { block := mb, off := 0 }), Value.bool false, Value.pointer (some { block := mb, off := 0 }), Value.int IntKind.i64 key, Value.tuple #[Value.int IntKind.i64 0, Value.bool false], Value.int IntKind.i64 3, Value.bool true, u23, u24, Value.pointer none, Value.func (Fn.func 82) #[] #[Value.pointer (some { block := V.heap.size, off := 0 })], Value.int IntKind.i64 3, Value.bool false, Value.bool false, u30, u31, u32, u33, Value.bool false, Value.bool false, u36, u37, u38, u39, u40, u41, u42, u43, u44, u45, u46, u47, Value.bool true, Value.bool true, Value.pointer (some { block := mb, off := 0 }), Value.func (Fn.func 82) #[] #[Value.pointer (some { block := w4.heap.size, off := 0 })], Value.func (Fn.func 82) #[] #[Value.pointer (some { block := w4.heap.size, off := 0 })], Value.bool false, Value.func (Fn.func 82) #[] #[Value.pointer (some { block := w4.heap.size, off := 0 })], .int .i64 x.1, .int .i64 x.2, u57, u58, u59, u60, u61, u62, u63, u64, u65, u66, u67, u68], defers := [] }) (fun x a' _ X Z row hs hg hr => hs)
      ?as5 ?bo5 ?do5 (fun _ _ _ _ _ _ h _ => h.elim)
    case as5 =>
      rintro l' pre x V' R hI hR
      have HI := hide hI
      clear hI SQ
      gi_wp2
      exact hR _ _ (kf_nu _ (Kp.refl _ _)) (kc_nu (Kp.refl _ _)) HI.out rfl
    case bo5 =>
      rintro l' pre x a' V' hl' hq ⟨⟨hN', hB'⟩, hL'⟩ rfl hlt
      obtain ⟨rfl, rfl⟩ := pre_one hlt
      have c1 : V'.cell? ⟨bt, 0, none⟩ = some (.int .i64 0) := cell1 hN'.t
      have c2 := cell1 hN'.k
      have f1 := free3 hN'.t 0
      have HX : Hid (ownPostG W6.heap.size (Kc (KM mb)) (fun pre V' => (Nw w V' bk br mb bt key (pre.length : Int) ∧ Below w.heap.size w V') ∧ ∀ D ∈ Ls, V'.heap[D]? = some (.deferred (some []))) (fun _ _ _ => False) ([] ++ [(key, (5 : Int))]) V' .normal { tmps := #[], defers := [] } (V'.setCell ⟨bt, 0, none⟩ (.int .i64 1))) := by
        refine ⟨kf_cells (Kp.setCell V' ⟨bt, 0, none⟩ _) (fun k e => ⟨#[.int .i64 (([] : List (Int × Int)).length : Int)], 3, (0, 0), by have e : k = bt := e; rw [e]; exact hN'.t⟩), kc_cells (Kp.setCell V' ⟨bt, 0, none⟩ _) (fun k c tt m e h hK => ?_), ⟨hN'.set HNE.out.1 1, ?_⟩, fun D hD => ?_⟩
        · have e : k = bt := e
          subst e
          rw [hN'.t] at h
          cases h
          rcases hK with h | h | h | h | h
          · cases h
          · cases h
          · cases h
          · cases h
          · obtain ⟨a, h1, _⟩ := hN'.m.ex
            have h : k = mb := h
            subst h
            rw [hN'.t] at h1; cases h1
        · exact ((Kp.of_below hB').andSet ⟨bt, 0, none⟩ _ (.inl HNE.out.2)).toBelow
        · exact (Below.heap_setCell V' ⟨bt, 0, none⟩ _ D (fun e => by have e : D = bt := e; have := hL' D hD; rw [e, hN'.t] at this; cases this)).trans (hL' D hD)
      clear hN' hB' hL' SQ N6 K6 L6
      gi_wp2
      exact HX.out
    case do5 =>
      rintro D ys V' hD hys ⟨⟨hN', hB'⟩, hL'⟩ hK'
      subst hys
      have c1 : V'.cell? ⟨bt, 0, none⟩ = some (.int .i64 1) := cell1 hN'.t
      have HX : Hid ((∃ n, Nw w V' bk br mb bt key n) ∧ Below w.heap.size w V' ∧ (D :: Ls).Nodup ∧ (∀ D' ∈ D :: Ls, w.heap.size ≤ D' ∧ V'.heap[D']? = some (.deferred (some [])))) := by
        refine ⟨⟨_, hN'⟩, hB', List.nodup_cons.2 ⟨fun h => by have := D6 D h; omega, HND.out⟩, fun D' h => ?_⟩
        rcases List.mem_cons.1 h with rfl | h
        · exact ⟨by omega, hK'⟩
        · exact ⟨HLS.out D' h, hL' D' h⟩
      clear hN' hB' hL' SQ N6 K6 L6
      gi_wp2_with fail
      exact ⟨⟨4, _, _, _, _, _, _, _, _, _, _, _, _, _, _, _, _, _, _, _, _, _, _, _, _, _, _, _, _, _, _, _, _, _, _, _, _, _, _, _, _, _, _, _, _, _, _, _, _, _, _, _, _, D :: Ls, by omega, rfl, HX.out.1, HX.out.2.1, HX.out.2.2.1, HX.out.2.2.2⟩, by show (0 : Nat) < 1; omega⟩
  · have HR : Hid (∀ Z, Cc (V.setCell ⟨br, 0, none⟩ (.bool true)) Z → Kp (fun k => w.heap.size ≤ k) (V.setCell ⟨br, 0, none⟩ (.bool true)) Z → Z.cell? ⟨br, 0, none⟩ = some (.bool true) ∧ Kp Nu w Z) := fun Z hc hk => by
      refine ⟨cell1 (hc _ _ _ _ (by rw [set3 HN.out.1.r]; rfl)), ?_⟩
      have hbr : w.heap.size ≤ br := HBR.out
      exact ((Kp.of_below HN.out.2.1).andSet ⟨br, 0, none⟩ (.bool true) (.inl hbr)).trans hk (fun i hi e => by have e : w.heap.size ≤ i := e; omega)
    have L6 : ∀ D ∈ Ls, w.heap.size ≤ D ∧ (V.setCell ⟨br, 0, none⟩ (.bool true)).heap[D]? = some (.deferred (some [])) := fun D hD => by
      obtain ⟨d1, d0⟩ := HN.out.2.2.2 D hD
      exact ⟨d1, (Below.heap_setCell _ ⟨br, 0, none⟩ _ D (fun e => by have e : D = br := e; rw [e, HN.out.1.r] at d0; cases d0)).trans d0⟩
    have HND := hide HN.out.2.2.1
    gi_wp2_with fail
    refine leaves_all Ls _ HND.out L6 (fun Z hc hk => ?_)
    obtain ⟨z1, z2⟩ := HR.out Z hc hk
    refine ⟨.bool true, ?_, rfl, z2⟩
    simp [results, Try.results3, go_sem, z1]
end Go.Proofs.Ytchealdgncgjoaa.StI
