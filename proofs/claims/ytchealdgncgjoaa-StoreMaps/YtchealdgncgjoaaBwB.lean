import Derived.Test.YtchealdgncgjoaaBwA
namespace Go.Proofs.Ytchealdgncgjoaa.StI
open Go.RowKit Go.Proofs.Ytchealdgncgjoaa.St Go.Shelf Go.Sort Go.Proofs.Ytchealdgncgjoaa.It
attribute [local go_sem] Oper.semAt_some
set_option linter.unusedVariables false
/-- what stands ahead of a pair -/
def BwJ (w w3 : World) (bi : Nat) (stop : Int) (pre : List (Int × Int)) (V : World) : Prop := (Cc w3 V ∧ V.heap[bi]? = some (.cells #[.int .i64 (pre.length : Int)] 3 (0, 0)) ∧ Below w.heap.size w V) ∧ ¬ (0 < stop ∧ stop ≤ (pre.length : Int))
/-- what stands where it is stopped -/
def BwE (w w3 : World) (bi : Nat) (stop : Int) (c : Code) (pre : List (Int × Int)) (V : World) : Prop := c = .exit 0 ∧ (Cc w3 V ∧ V.heap[bi]? = some (.cells #[.int .i64 (pre.length : Int)] 3 (0, 0)) ∧ Below w.heap.size w V) ∧ stop = (pre.length : Int) ∧ 0 < pre.length
theorem region_tight {F : Fence} {n : Nat} {P : Program} {c : Code} {K : Act → World → Prop} {Q : Exit → Act → World → Prop} {a : Act} {w : World} (h : c.wpIn F n P (Exit.then K (fun _ _ _ => False)) a w) : c.wpIn F n P (Exit.then K Q) a w :=
  Code.wpIn_mono (fun e a w h => by cases e <;> first | exact h | exact h.elim) h
theorem bw_grown {w w3 : World} {bi B : Nat} {n : Int} (hB : w.heap.size ≤ B) {X Z : World} {row : Option Nat} (h : Cc w3 X ∧ X.heap[bi]? = some (.cells #[.int .i64 n] 3 (0, 0)) ∧ Below w.heap.size w X) (hg : X.grownBy Z row) (hr : ∀ r, row = some r → B ≤ r ∧ ∃ o, X.heap[r]? = some o ∧ o.isCells = false) : Cc w3 Z ∧ Z.heap[bi]? = some (.cells #[.int .i64 n] 3 (0, 0)) ∧ Below w.heap.size w Z :=
  ⟨h.1.trans (Cc.grown hg hr), Cc.grown hg hr _ _ _ _ h.2.1, ownFrom_below (β := Unit) (Nat.le_refl _) hB () X Z row h.2.2 hg hr⟩
theorem bw_set {w w3 V : World} {bi : Nat} {n : Int} (hi : w3.heap.size ≤ bi) (hw : w.heap.size ≤ bi) (h : Cc w3 V ∧ V.heap[bi]? = some (.cells #[.int .i64 n] 3 (0, 0)) ∧ Below w.heap.size w V) (n' : Int) : Cc w3 (V.setCell ⟨bi, 0, none⟩ (.int .i64 n')) ∧ (V.setCell ⟨bi, 0, none⟩ (.int .i64 n')).heap[bi]? = some (.cells #[.int .i64 n'] 3 (0, 0)) ∧ Below w.heap.size w (V.setCell ⟨bi, 0, none⟩ (.int .i64 n')) :=
  ⟨h.1.set hi _, by rw [set3 h.2.1]; rfl, ((Kp.of_below h.2.2).andSet ⟨bi, 0, none⟩ _ (.inl hw)).toBelow⟩
set_option maxRecDepth 100000 in
set_option maxHeartbeats 4000000 in
theorem between_walk (w : World) (v0 v1 : Value) (S O : List Int) (lo hi stop : Int) (hS : Wi w v0 S) (hO : Wi w v1 O) (hl0 : S.length ≤ 17592186043904) (hl1 : O.length ≤ 17592186043904) :
   Calls Try.prog 7 #[v0, v1, .int .i64 lo, .int .i64 hi, .int .i64 stop] w fun e w' => e = .returned (.bool true) ∧ Kp Nu w w' := by
  have HW := hide (And.intro hS (And.intro hO (And.intro hl0 hl1)))
  clear hS hO hl0 hl1
  refine (callsIn_wide (n := 4)).1 ?_
  refine callsIn_of_wp_marks Try.func7 rfl trivial ?_ rfl
  simp only [Try.ntmps7, List.size_toArray, List.length_cons, List.length_nil, Nat.reduceAdd, Nat.reduceSub, Array.replicate_succ, Array.replicate_zero, List.push_toArray, List.append_toArray, List.nil_append, List.cons_append]
  gi_wp2_with fail
  have k0 : Kp Nu w ((w.alloc (.cells #[.int .i64 stop] 3)).alloc (.cells #[.bool false] 4)) := (Kp.alloc w _ Nu).andAlloc _
  have x0 : ((w.alloc (.cells #[.int .i64 stop] 3)).alloc (.cells #[.bool false] 4)).heap[w.heap.size]? = some (.cells #[.int .i64 stop] 3 (0, 0)) := (Below.heap_alloc _ _ _ (by simp)).trans (heap_alloc_new w _)
  have x1 : ((w.alloc (.cells #[.int .i64 stop] 3)).alloc (.cells #[.bool false] 4)).heap[w.heap.size + 1]? = some (.cells #[.bool false] 4 (0, 0)) := by have := heap_alloc_new (w.alloc (.cells #[.int .i64 stop] 3)) (.cells #[.bool false] 4); simpa using this
  generalize (w.alloc (.cells #[.int .i64 stop] 3)).alloc (.cells #[.bool false] 4) = w0 at *
  obtain ⟨br, hbr⟩ : ∃ br, w.heap.size + 1 = br := ⟨_, rfl⟩
  have HBR : Hid (w.heap.size ≤ br) := by show w.heap.size ≤ br; omega
  rw [hbr] at x1 ⊢
  obtain ⟨bs, hbs⟩ : ∃ bs, w.heap.size = bs := ⟨_, rfl⟩
  rw [show w0.heap[w.heap.size]? = w0.heap[bs]? by rw [hbs]] at x0
  rw [hbs]
  clear hbr hbs
  refine ⟨trivial, (callsIn_wide.2 (filled_any w0 v0 v1 S O (HW.out.1.nu k0) (HW.out.2.1.nu k0) HW.out.2.2.1 HW.out.2.2.2)).mono ?_⟩
  rintro e w1 ⟨mb, rb, t, rfl, hmb, hrb, hm1, ⟨vk0, vv0, hr1⟩, hsz, k1⟩
  have y0 := (k1.block _ (blk_lt x0) (fun h => h)).trans x0
  have y1 := (k1.block _ (blk_lt x1) (fun h => h)).trans x1
  have H1 := hide (And.intro hm1 (And.intro hr1 (And.intro hsz (And.intro (k0.andNu k1) (And.intro y0 (And.intro y1 (And.intro k1.size k0.size)))))))
  clear hm1 hr1 hsz k0 k1 x0 x1 y0 y1 hmb hrb
  gi_wp2_with fail
  refine ⟨trivial, (callsIn_wide.2 (rbetween_any H1.out.2.1 order_0 lo hi (by have h1 := HW.out.2.2.1; have h2 := H1.out.2.2.1; rw [T.xs_length]; omega))).mono ?_⟩
  rintro e w2 ⟨vk, vv, rfl, ht2, k2⟩
  obtain ⟨L, hL⟩ : ∃ L, t.xs.filter (inB cmpI lo hi) = L := ⟨_, rfl⟩
  rw [hL] at ht2
  have hLl : L.length ≤ t.sz := by rw [← hL, ← T.xs_length]; exact List.length_filter_le _ _
  have hok := ht2.ok
  have hov := ht2.ov
  rw [kv_len] at hok
  rw [vv_len] at hov
  obtain ⟨adk, capk, ek⟩ := own_slice hok
  obtain ⟨adv, capv, ev⟩ := own_slice hov
  obtain ⟨N, hN⟩ : ∃ N, L.length = N := ⟨_, rfl⟩
  rw [hN] at ek ev
  subst ek ev
  have HL := hide (And.intro hL (And.intro hN hLl))
  have H2 := hide (And.intro hok (And.intro hov k2))
  clear ht2 k2 hok hov hL hN hLl
  gi_wp2_with fail
  have q3 : Kp Nu w2 ((w2.alloc (.cells #[.slice adk N capk] 47)).alloc (.cells #[.slice adv N capv] 47)) := (Kp.alloc w2 _ Nu).andAlloc _
  have z0 : ((w2.alloc (.cells #[.slice adk N capk] 47)).alloc (.cells #[.slice adv N capv] 47)).heap[w2.heap.size]? = some (.cells #[.slice adk N capk] 47 (0, 0)) := (Below.heap_alloc _ _ _ (by simp)).trans (heap_alloc_new w2 _)
  have z1 : ((w2.alloc (.cells #[.slice adk N capk] 47)).alloc (.cells #[.slice adv N capv] 47)).heap[w2.heap.size + 1]? = some (.cells #[.slice adv N capv] 47 (0, 0)) := by have := heap_alloc_new (w2.alloc (.cells #[.slice adk N capk] 47)) (.cells #[.slice adv N capv] 47); simpa using this
  have zs : ((w2.alloc (.cells #[.slice adk N capk] 47)).alloc (.cells #[.slice adv N capv] 47)).heap.size = w2.heap.size + 1 + 1 := by simp
  generalize (w2.alloc (.cells #[.slice adk N capk] 47)).alloc (.cells #[.slice adv N capv] 47) = w3 at *
  rw [← zs]
  obtain ⟨bv, hbv⟩ : ∃ bv, w2.heap.size + 1 = bv := ⟨_, rfl⟩
  rw [hbv] at z1 ⊢
  obtain ⟨bk, hbk⟩ : ∃ bk, w2.heap.size = bk := ⟨_, rfl⟩
  rw [hbk] at z0 ⊢
  have HB : Hid (Bw w3 bs br bk bv mb rb w0.heap.size stop t (.slice adk N capk) (.slice adv N capv) vk0 vv0 L ∧ Kp Nu w w3 ∧ t.sz ≤ 17592186043904) := by
    obtain ⟨hm1, hr1, hsz, kw, y0, y1, hs1, hs0⟩ := H1.out
    obtain ⟨hok, hov, k2⟩ := H2.out
    have k3 := k2.andNu q3
    refine ⟨⟨(k3.block _ (blk_lt y0) (fun h => h)).trans y0, (k3.block _ (blk_lt y1) (fun h => h)).trans y1, z0, z1, hm1.nu k3, hr1.nu k3, (Cc.nu q3).own (own_lower hs1 hok), (Cc.nu q3).own (own_lower hs1 hov)⟩, kw.andNu k3, ?_⟩
    have h1 := HW.out.2.2.1
    omega
  clear q3 z0 z1 zs hbv hbk H1 H2 HW
  refine ⟨trivial, (callsIn_wide.2 (between_any _ (some ⟨mb, 0, none⟩) lo hi)).mono ?_⟩
  have k4 : Kp Nu w3 (w3.alloc (.cells #[.int .i64 0] 3)) := Kp.alloc w3 _ Nu
  have x4 : (w3.alloc (.cells #[.int .i64 0] 3)).heap[w3.heap.size]? = some (.cells #[.int .i64 0] 3 (0, 0)) := heap_alloc_new w3 _
  generalize w3.alloc (.cells #[.int .i64 0] 3) = w4 at *
  obtain ⟨bi, hbi⟩ : ∃ bi, w3.heap.size = bi := ⟨_, rfl⟩
  have HBI : Hid (w3.heap.size ≤ bi) := by show w3.heap.size ≤ bi; omega
  rw [hbi] at x4 ⊢
  clear hbi
  rintro e w5 ⟨B1, B2, rfl, hb5, hb51, hb52, hB1, hB2, k5⟩
  have nf : ∀ W : World, (binOp .eql 27 (.func (.func 86) #[] #[.pointer (some ⟨w4.heap.size, 0, none⟩), .pointer (some ⟨B1, 0, none⟩), .pointer (some ⟨B2, 0, none⟩)]) .nilFunc).run Try.prog W = .ok (.bool false) W := fun W => by rfl
  have SQ := between_q ((HB.out.1.m.nu k4).nu k5) hb5 hb51 hb52 (by have := HB.out.2.2; omega)
  rw [seg_filter HB.out.1.m.srt lo hi, HL.out.1] at SQ
  have HK : Hid (Cc w3 w5 ∧ w5.heap[bi]? = some (.cells #[.int .i64 0] 3 (0, 0)) ∧ Below w.heap.size w w5) := ⟨(Cc.nu k4).trans (Cc.nu k5), (k5.block _ (blk_lt x4) (fun h => h)).trans x4, ((HB.out.2.1.andNu k4).andNu k5).toBelow⟩
  have hs5 : Hid (w.heap.size ≤ w5.heap.size) := HK.out.2.2.size
  clear k4 x4 k5 hb5 hb51 hb52 hB1 hB2
  gi_wp2_with fail
  clear nf
  have HWI : Hid (w.heap.size ≤ bi) := by have h1 := HB.out.2.1.size; have h2 := HBI.out; show w.heap.size ≤ bi; omega
  refine range_q (gf := 86) rfl (enters_of Try.func86 (by kernel_rfl) rfl) SQ (Below.refl _ _) (fun _ => rfl)
    (BwJ w w3 bi stop) (BwE w w3 bi stop)
    (fun pre X Z row hs hg hr => ⟨bw_grown hs5.out hs.1 hg hr, hs.2⟩) (fun c pre X Z row hs hg hr => ⟨hs.1, bw_grown hs5.out hs.2.1 hg hr, hs.2.2⟩) ⟨HK.out, by simp⟩
    (fun x a' V' => a' = { tmps := #[v0, v1, Value.int IntKind.i64 lo, Value.int IntKind.i64 hi, Value.int IntKind.i64 stop, undef, undef, undef, undef, Value.pointer (some { block := bs, off := 0 }), Value.pointer (some { block := br, off := 0 }), Value.pointer (some { block := mb, off := 0 }), Value.pointer (some { block := rb, off := 0 }), Value.pointer (some { block := bk, off := 0 }), Value.pointer (some { block := bv, off := 0 }), Value.pointer (some { block := bi, off := 0 }), Value.func (Fn.func 86) #[] #[Value.pointer (some { block := w4.heap.size, off := 0 }), Value.pointer (some { block := B1, off := 0 }), Value.pointer (some { block := B2, off := 0 })], .int .i64 x.1, .int .i64 x.2, undef, Value.tuple #[Value.pointer (some { block := mb, off := 0 }), Value.pointer (some { block := rb, off := 0 })], v0, v1, Value.tuple #[Value.pointer (some { block := mb, off := 0 }), Value.pointer (some { block := rb, off := 0 })], Value.pointer (some { block := mb, off := 0 }), Value.pointer (some { block := rb, off := 0 }), Value.tuple #[Value.slice adk N capk, Value.slice adv N capv], Value.pointer (some { block := rb, off := 0 }), Value.int IntKind.i64 lo, Value.int IntKind.i64 hi, Value.tuple #[Value.slice adk N capk, Value.slice adv N capv], Value.slice adk N capk, Value.slice adv N capv, Value.pointer (some { block := mb, off := 0 }), Value.int IntKind.i64 lo, Value.int IntKind.i64 hi, Value.func (Fn.func 86) #[] #[Value.pointer (some { block := w4.heap.size, off := 0 }), Value.pointer (some { block := B1, off := 0 }), Value.pointer (some { block := B2, off := 0 })], Value.func (Fn.func 86) #[] #[Value.pointer (some { block := w4.heap.size, off := 0 }), Value.pointer (some { block := B1, off := 0 }), Value.pointer (some { block := B2, off := 0 })], Value.bool false, Value.func (Fn.func 86) #[] #[Value.pointer (some { block := w4.heap.size, off := 0 }), Value.pointer (some { block := B1, off := 0 }), Value.pointer (some { block := B2, off := 0 })], .int .i64 x.1, .int .i64 x.2, undef, undef, undef, undef, undef, undef, undef, undef, undef, undef, undef, undef, undef, undef, undef, undef, undef, undef, undef, undef, undef, undef, undef, undef, undef, undef, undef, undef, undef, undef, undef, undef, undef, undef, undef, undef, undef, undef, undef, undef, undef, undef, undef, undef, undef, undef, undef, undef], defers := [] }) (fun _ _ _ _ _ _ hs _ _ => hs)
    ?as0 ?bo ?dn ?st
  case as0 =>
    rintro l' pre x V' R hI hR
    have HI := hide hI
    clear hI SQ
    gi_wp2
    exact hR _ _ (kf_nu _ (Kp.refl _ _)) (kc_nu (Kp.refl _ _)) HI.out rfl
  case bo =>
    rintro l' pre x a' V' hl' hq hJ rfl hlt
    obtain ⟨hx, hln⟩ := pre_at hlt
    have hB' := HB.out.1.cc hJ.1.1
    have HJ := hide hJ
    have c1 : V'.cell? ⟨bi, 0, none⟩ = some (.int .i64 (pre.length : Int)) := cell1 hJ.1.2.1
    have f1 := free3 hJ.1.2.1 0
    have c2 := cell1 hB'.k
    have c3 := cell1 hB'.v
    obtain ⟨rk, ck, ek, d1⟩ := rowI_at (i := pre.length) (u := .int .i64 x.1) hB'.ok (by simp [kv]) (by simp [kv, hx])
    obtain ⟨rv, cv, ev, d2⟩ := rowI_at (i := pre.length) (u := .int .i64 x.2) hB'.ov (by simp [vvs]) (by simp [vvs, hx])
    rw [HL.out.2.1] at ek ev hln
    have HM : Hid (mb < w3.heap.size ∧ V'.heap[mb]? ≠ V'.heap[bi]?) := by
      refine ⟨HB.out.1.m.lt, fun e => ?_⟩
      obtain ⟨a, h1, _⟩ := hB'.m.ex
      rw [h1, hJ.1.2.1] at e; cases e
    have csX : ∀ u, (V'.setCell ⟨bi, 0, none⟩ u).cell? ⟨bs, 0, none⟩ = some (.int .i64 stop) := fun u => by
      have := blk_lt HB.out.1.s
      have h2 := HBI.out
      exact cell1 ((Below.heap_setCell V' ⟨bi, 0, none⟩ u bs (fun e => by have e : bs = bi := e; omega)).trans hB'.s)
    have ciX : ∀ u, (V'.setCell ⟨bi, 0, none⟩ u).cell? ⟨bi, 0, none⟩ = some u := fun u => cell1 (by rw [set3 hJ.1.2.1]; rfl)
    have hnI : (pre.length : Int) < (N : Int) := by omega
    have hge : ¬ (N : Int) ≤ (pre.length : Int) := by omega
    have hn0 : (0 : Int) ≤ (pre.length : Int) := by omega
    have hN2 : N ≤ 17592186043904 := by have h1 := HL.out.2; have h2 := HB.out.2.2; omega
    have hwr : wrap64 ((pre.length : Int) + 1) = (pre.length : Int) + 1 := by unfold wrap64; omega
    have hlen : ((pre ++ [x]).length : Int) = (pre.length : Int) + 1 := by simp
    have hb1 : (x.1 == x.1) = true := by simp
    have hb2 : (x.2 == x.2) = true := by simp
    have HG : Hid (∀ (hno : ¬ (pre.length : Int) + 1 = stop), ownPostG w5.heap.size (Kc (KM mb)) (BwJ w w3 bi stop) (BwE w w3 bi stop) (pre ++ [x]) V' .normal { tmps := #[], defers := [] } (V'.setCell ⟨bi, 0, none⟩ (.int .i64 ((pre.length : Int) + 1)))) := fun hno => by
      refine ⟨kf_cells (Kp.setCell V' ⟨bi, 0, none⟩ _) (fun k e => ⟨#[.int .i64 (pre.length : Int)], 3, (0, 0), by have e : k = bi := e; rw [e]; exact hJ.1.2.1⟩), kc_cells (Kp.setCell V' ⟨bi, 0, none⟩ _) (fun k c tt m e h hK => ?_), ?_⟩
      · have e : k = bi := e
        subst e
        rw [hJ.1.2.1] at h
        cases h
        rcases hK with h | h | h | h | h
        · cases h
        · cases h
        · cases h
        · cases h
        · have h : k = mb := h
          exact HM.out.2 (by rw [h])
      · have := bw_set HBI.out HWI.out hJ.1 ((pre.length : Int) + 1)
        exact ⟨by rw [hlen]; exact this, by have := hJ.2; rw [hlen]; omega⟩
    have HE : Hid (∀ (hno : (pre.length : Int) + 1 = stop), ownPostG w5.heap.size (Kc (KM mb)) (BwJ w w3 bi stop) (BwE w w3 bi stop) (pre ++ [x]) V' (.exit 0) { tmps := #[], defers := [] } (V'.setCell ⟨bi, 0, none⟩ (.int .i64 ((pre.length : Int) + 1)))) := fun hno => by
      refine ⟨kf_cells (Kp.setCell V' ⟨bi, 0, none⟩ _) (fun k e => ⟨#[.int .i64 (pre.length : Int)], 3, (0, 0), by have e : k = bi := e; rw [e]; exact hJ.1.2.1⟩), rfl, ?_, by rw [hlen]; exact hno.symm, by simp⟩
      have := bw_set HBI.out HWI.out hJ.1 ((pre.length : Int) + 1)
      rw [hlen]; exact this
    cases ek
    cases ev
    clear hx hln hB' HJ hJ hlt hq SQ hN2 hlen
    by_cases hst : (pre.length : Int) + 1 = stop
    · have hse : (((pre.length : Int) + 1) == stop) = true := by simpa using hst
      have HS := hide hst
      clear hst
      gi_wp2
      exact HE.out HS.out
    · have hse : (((pre.length : Int) + 1) == stop) = false := by simpa using hst
      have HS := hide hst
      clear hst
      gi_wp2
      exact HG.out HS.out
  case dn =>
    rintro D ys V' hD hys ⟨hJ, hno⟩ hK'
    subst hys
    rw [HL.out.2.1] at hJ hno
    have hk : Kp Nu w V' := Kp.of_below hJ.2.2
    have hB' := HB.out.1.cc hJ.1
    have c1 : V'.cell? ⟨bi, 0, none⟩ = some (.int .i64 ((N : Int))) := cell1 hJ.2.1
    have c2 := cell1 hB'.k
    have c4 := cell1 hB'.s
    have cr := cell1 hB'.r
    have fr_ := free3 hB'.r 0
    obtain ⟨ad0, cap0, e0⟩ := own_slice hB'.d.ok
    rw [T.xs_length] at e0
    obtain ⟨_, d1, _⟩ := cell3 hB'.d.blk
    rw [e0] at d1
    have LA := len_any hB'.m
    have LB := len_any (hB'.m.nu (Kp.refl Nu V').drew)
    have mixed : Try.prog.follows .mixedOrders = true := by kernel_rfl
    have hb1 : (((N : Int)) == ((N : Int))) = true := by simp
    have hb2 : ((t.sz : Int) == (t.sz : Int)) = true := by simp
    have HR : Hid (∀ Z, Cc (V'.setCell ⟨br, 0, none⟩ (.bool true)) Z → Kp (fun k => w.heap.size ≤ k) (V'.setCell ⟨br, 0, none⟩ (.bool true)) Z → Z.cell? ⟨br, 0, none⟩ = some (.bool true) ∧ Kp Nu w Z) := fun Z hc hk => by
      refine ⟨cell1 (hc _ _ _ _ (by rw [set3 hB'.r]; rfl)), ?_⟩
      have hbr : w.heap.size ≤ br := HBR.out
      exact ((Kp.of_below hJ.2.2).andSet ⟨br, 0, none⟩ (.bool true) (.inl hbr)).trans hk (fun i hi e => by have e : w.heap.size ≤ i := e; omega)
    have L6 : ∀ D' ∈ [D], w.heap.size ≤ D' ∧ (V'.setCell ⟨br, 0, none⟩ (.bool true)).heap[D']? = some (.deferred (some [])) := fun D' hD' => by
      obtain rfl : D' = D := by simpa using hD'
      refine ⟨Nat.le_trans hs5.out hD, (Below.heap_setCell _ ⟨br, 0, none⟩ _ D' (fun e => by have e : D' = br := e; rw [e, hB'.r] at hK'; cases hK')).trans hK'⟩
    have HL6 := hide L6
    clear hJ hk hB' SQ e0 hK' L6
    by_cases hp : 0 < stop
    · have hnl : ¬ stop < (N : Int) := fun h => hno ⟨hp, by omega⟩
      clear hno
      gi_wp2_with fail
      refine region_tight ?_
      gi_region_with_o (first
        | (refine ⟨trivial, (callsIn_wide.2 LB).mono ?_⟩; rintro e w' ⟨rfl, hw⟩; obtain rfl := hw.symm)
        | (refine ⟨trivial, (callsIn_wide.2 LA).mono ?_⟩; rintro e w' ⟨rfl, hw⟩; obtain rfl := hw.symm))
      all_goals (try gi_wp2_with fail)
      all_goals refine leaves_all [D] _ (by simp) HL6.out (fun Z hc hk => ?_)
      all_goals obtain ⟨z1, z2⟩ := HR.out Z hc ⟨hk.os, hk.tape, hk.output, hk.size, hk.block⟩
      all_goals refine ⟨.bool true, ?_, rfl, z2⟩
      all_goals simp [results, Try.results7, go_sem, z1]
    · clear hno
      gi_wp2_with fail
      refine region_tight ?_
      gi_region_with_o (first
        | (refine ⟨trivial, (callsIn_wide.2 LB).mono ?_⟩; rintro e w' ⟨rfl, hw⟩; obtain rfl := hw.symm)
        | (refine ⟨trivial, (callsIn_wide.2 LA).mono ?_⟩; rintro e w' ⟨rfl, hw⟩; obtain rfl := hw.symm))
      all_goals (try gi_wp2_with fail)
      all_goals refine leaves_all [D] _ (by simp) HL6.out (fun Z hc hk => ?_)
      all_goals obtain ⟨z1, z2⟩ := HR.out Z hc ⟨hk.os, hk.tape, hk.output, hk.size, hk.block⟩
      all_goals refine ⟨.bool true, ?_, rfl, z2⟩
      all_goals simp [results, Try.results7, go_sem, z1]
  case st =>
    rintro D c pre V' hD hpre ⟨rfl, hJ, hst, hp0⟩ hK'
    have hle : pre.length ≤ N := by rw [← HL.out.2.1]; exact hpre.length_le
    rw [← hst] at hJ
    have hps : 0 < stop := by omega
    have hls : stop ≤ (N : Int) := by omega
    clear hst hp0 hpre hle
    have hk : Kp Nu w V' := Kp.of_below hJ.2.2
    have hB' := HB.out.1.cc hJ.1
    have c1 : V'.cell? ⟨bi, 0, none⟩ = some (.int .i64 (stop)) := cell1 hJ.2.1
    have c2 := cell1 hB'.k
    have c4 := cell1 hB'.s
    have cr := cell1 hB'.r
    have fr_ := free3 hB'.r 0
    obtain ⟨ad0, cap0, e0⟩ := own_slice hB'.d.ok
    rw [T.xs_length] at e0
    obtain ⟨_, d1, _⟩ := cell3 hB'.d.blk
    rw [e0] at d1
    have LA := len_any hB'.m
    have LB := len_any (hB'.m.nu (Kp.refl Nu V').drew)
    have mixed : Try.prog.follows .mixedOrders = true := by kernel_rfl
    have hb1 : ((stop) == (stop)) = true := by simp
    have hb2 : ((t.sz : Int) == (t.sz : Int)) = true := by simp
    have HR : Hid (∀ Z, Cc (V'.setCell ⟨br, 0, none⟩ (.bool true)) Z → Kp (fun k => w.heap.size ≤ k) (V'.setCell ⟨br, 0, none⟩ (.bool true)) Z → Z.cell? ⟨br, 0, none⟩ = some (.bool true) ∧ Kp Nu w Z) := fun Z hc hk => by
      refine ⟨cell1 (hc _ _ _ _ (by rw [set3 hB'.r]; rfl)), ?_⟩
      have hbr : w.heap.size ≤ br := HBR.out
      exact ((Kp.of_below hJ.2.2).andSet ⟨br, 0, none⟩ (.bool true) (.inl hbr)).trans hk (fun i hi e => by have e : w.heap.size ≤ i := e; omega)
    have L6 : ∀ D' ∈ [D], w.heap.size ≤ D' ∧ (V'.setCell ⟨br, 0, none⟩ (.bool true)).heap[D']? = some (.deferred (some [])) := fun D' hD' => by
      obtain rfl : D' = D := by simpa using hD'
      refine ⟨Nat.le_trans hs5.out hD, (Below.heap_setCell _ ⟨br, 0, none⟩ _ D' (fun e => by have e : D' = br := e; rw [e, hB'.r] at hK'; cases hK')).trans hK'⟩
    have HL6 := hide L6
    clear hJ hk hB' SQ e0 hK' L6
    by_cases hlt : stop < (N : Int)
    · clear hls
      gi_wp2_with fail
      refine region_tight ?_
      gi_region_with_o (first
        | (refine ⟨trivial, (callsIn_wide.2 LB).mono ?_⟩; rintro e w' ⟨rfl, hw⟩; obtain rfl := hw.symm)
        | (refine ⟨trivial, (callsIn_wide.2 LA).mono ?_⟩; rintro e w' ⟨rfl, hw⟩; obtain rfl := hw.symm))
      all_goals (try gi_wp2_with fail)
      all_goals refine leaves_all [D] _ (by simp) HL6.out (fun Z hc hk => ?_)
      all_goals obtain ⟨z1, z2⟩ := HR.out Z hc ⟨hk.os, hk.tape, hk.output, hk.size, hk.block⟩
      all_goals refine ⟨.bool true, ?_, rfl, z2⟩
      all_goals simp [results, Try.results7, go_sem, z1]
    · have hse : stop = (N : Int) := by omega
      clear hls
      have hse2 : (stop == (N : Int)) = true := by simpa using hse
      clear hse
      gi_wp2_with fail
      refine region_tight ?_
      gi_region_with_o (first
        | (refine ⟨trivial, (callsIn_wide.2 LB).mono ?_⟩; rintro e w' ⟨rfl, hw⟩; obtain rfl := hw.symm)
        | (refine ⟨trivial, (callsIn_wide.2 LA).mono ?_⟩; rintro e w' ⟨rfl, hw⟩; obtain rfl := hw.symm))
      all_goals (try gi_wp2_with fail)
      all_goals refine leaves_all [D] _ (by simp) HL6.out (fun Z hc hk => ?_)
      all_goals obtain ⟨z1, z2⟩ := HR.out Z hc ⟨hk.os, hk.tape, hk.output, hk.size, hk.block⟩
      all_goals refine ⟨.bool true, ?_, rfl, z2⟩
      all_goals simp [results, Try.results7, go_sem, z1]
end Go.Proofs.Ytchealdgncgjoaa.StI
