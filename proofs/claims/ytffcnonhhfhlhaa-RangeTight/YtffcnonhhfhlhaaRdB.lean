import Derived.Test.YtffcnonhhfhlhaaRdA
namespace Go.Proofs.Ytffcnonhhfhlhaa.Rg
open Go.RowKit Go.Shelf Go.Sort
open Go.Proofs.Ytffcnonhhfhlhaa.It
attribute [local go_sem] Oper.semAt_some
set_option linter.unusedVariables false

set_option maxHeartbeats 1000000 in
theorem all_any {B b : Nat} {w : World} {lim : Int} {v : Value} {L : List Sg} (h : Tb B w b lim v L) : Calls Try.prog 35 #[.pointer (some ⟨b, 0, none⟩)] w fun e w' => ∃ Bn r cap, e = .returned (.func (.func 40) #[] #[.pointer (some ⟨Bn, 0, none⟩)]) ∧ w'.heap[Bn]? = some (.cells #[.slice (some ⟨r, 0, none⟩) L.length cap] 44 (0, 0)) ∧ v.ownBlock = some r ∧ Kp Nu w w' := by
  have FR := from_any h 0 (by omega) (by omega)
  rw [plc_first h.tab.cov] at FR
  simp only [List.drop_zero, Nat.zero_mul] at FR
  clear h
  go_enter Try.func35, Try.ntmps35
  go_wp2_with (go_at_call 31; refine FR.mono ?_; rintro e w' ⟨Bn, r, cap, rfl, h1, h2, h3, h4⟩)
  go_ret
  exact ⟨Bn, r, cap, rfl, h2, h3, h4⟩
theorem wp_scope {n : Nat} {P : Program} {c : Code} {Q : Exit → Act → World → Prop} {a : Act} {w : World} (h : c.wpIn Fence.wide n P (Exit.noGoto Q) a w) : (Code.scope c).wpIn Fence.wide n P Q a w :=
  wpIn_wide.2 (wp_scope_straight (wpIn_wide.1 h))
def plOf (wr : World) (BP : Nat) : Nat := ((wr.cell? ⟨BP, 0, none⟩).map (fun v => (intOf v).toNat)).getD 0

theorem dx_len (x : Sg) : ∀ F : List Sg, (dx x F).1.length ≤ (dx x F).2 + 1 ∧ (dx x F).2 ≤ F.length
  | [] => ⟨by simp [dx], by simp [dx]⟩
  | y :: r => by
    have ih := dx_len x r
    simp only [dx]
    split
    · simp only [List.length_cons]; omega
    · split
      · split <;> simp
      · split <;> simp <;> omega
theorem dst_len (E : List Sg) : ∀ n (A : List Sg), A.length = n → (dst E A).2.length ≤ A.length + (dst E A).1 ∧ (dst E A).1 ≤ E.length
  | 0, A, h => by
    have : A = [] := List.length_eq_zero_iff.1 h
    subst this; simp [dst]
  | n + 1, A, h => by
    obtain ⟨B, x, rfl⟩ : ∃ B x, A = B ++ [x] := ⟨A.dropLast, A.getLast (by intro e; simp [e] at h), (List.dropLast_concat_getLast _).symm⟩
    have ih := dst_len E n B (by simpa using h)
    have h1 := dx_len x (E.drop (dst E B).1)
    rw [dst_snoc]
    simp only [List.length_append, List.length_drop, List.length_singleton] at h1 ⊢
    omega
theorem plOf_at {V : World} {BP p : Nat} (h : V.heap[BP]? = some (.cells #[.int .i64 (p : Int)] 3 (0, 0))) : plOf V BP = p := by
  simp [plOf, cell1 h, intOf]
/-- a step's end: the place goes on -/
theorem rd_end {w V W : World} {BP BT B3 b2 Bx p r B0 : Nat} {C : List Cg} {X : Array Value} (h : Dm w W BP BT B3 b2 p C) (hX : W.heap[Bx]? = some (.cells X 40 (0, 0))) (hDf : Df w V W r B0) (hBP : w.heap.size ≤ BP) (hr : r < w.heap.size) :
    Dm w (W.setCell ⟨BP, 0, none⟩ (.int .i64 ((p : Int) + 1))) BP BT B3 b2 (p + 1) C ∧ (W.setCell ⟨BP, 0, none⟩ (.int .i64 ((p : Int) + 1))).heap[Bx]? = some (.cells X 40 (0, 0)) ∧ Df w V (W.setCell ⟨BP, 0, none⟩ (.int .i64 ((p : Int) + 1))) r B0 ∧ plOf (W.setCell ⟨BP, 0, none⟩ (.int .i64 ((p : Int) + 1))) BP = p + 1 := by
  obtain ⟨h1, h2⟩ := h.next
  have hne : Bx ≠ BP := fun e => by subst e; rw [h.pl] at hX; cases hX
  refine ⟨h1, (h2.block _ (blk_lt hX) hne).trans hX, hDf.step h2 (fun j _ hj => ?_) hr, plOf_at h1.pl⟩
  have hj : j = BP := hj
  subst hj
  exact ⟨hBP, _, _, h.pl⟩

set_option maxRecDepth 100000 in
set_option maxHeartbeats 4000000 in
theorem diff_any {B b1 b2 : Nat} {w : World} {l1 l2 : Int} {v1 v2 : Value} {A E : List Sg} (h1 : Tb B w b1 l1 v1 A) (h2 : Tb B w b2 l2 v2 E) :
    Calls Try.prog 21 #[.pointer (some ⟨b1, 0, none⟩), .pointer (some ⟨b2, 0, none⟩)] w fun e w' => ∃ u, e = .returned (.tuple #[u, .int .i64 0]) ∧ w'.ownsRow w.heap.size 55 4 u (dst E A).2.length (cellsC (dst E A).2) ∧ Kp Nu w w' := by
  have mixed : Try.prog.follows .mixedOrders = true := by kernel_rfl
  obtain ⟨i0, hi0, hz0, hz1, hz2⟩ := info_parts info55
  have KA := Kp.alloc w (.cells #[.pointer (some ⟨b2, 0, none⟩)] 24) Nu
  have M1 := made_any (h1.nu KA)
  have M2 := made_any (h2.nu KA)
  have K3 := (KA.andAlloc (.cells #[.slice none 0 0] 51)).andAlloc (.cells #[.int .i64 0] 3)
  have AL := all_any (h1.nu K3)
  refine (callsIn_wide (n := 4)).1 ?_
  refine callsIn_of_wp_marks Try.func21 rfl trivial ?_ rfl
  simp only [Try.ntmps21, List.size_toArray, List.length_cons, List.length_nil, Nat.reduceAdd, Nat.reduceSub, Array.replicate_succ, Array.replicate_zero, List.push_toArray, List.append_toArray, List.nil_append, List.cons_append]
  gi_wp2_with fail
  refine wp_scope ?_
  gi_wp2_with fail
  refine ⟨trivial, (callsIn_wide.2 M1).mono ?_⟩
  rintro e w1 ⟨rfl, hw1⟩
  obtain rfl := hw1.symm
  clear hw1
  gi_wp2_with fail
  refine ⟨trivial, (callsIn_wide.2 M2).mono ?_⟩
  rintro e w1 ⟨rfl, hw1⟩
  obtain rfl := hw1.symm
  clear hw1 M1 M2
  gi_wp2_with fail
  refine wpIn_label ?_
  gi_wp2_with fail
  refine ⟨trivial, (callsIn_wide.2 AL).mono ?_⟩
  rintro e w4 ⟨Bn, r, cap, rfl, hbn, hr, hk4⟩
  have D0 : Dm w ((((w.alloc (.cells #[.pointer (some ⟨b2, 0, none⟩)] 24)).alloc (.cells #[.slice none 0 0] 51))).alloc (.cells #[.int .i64 0] 3)) (w.heap.size + 1 + 1) (w.heap.size + 1) w.heap.size b2 0 [] := by
    have e0 : ((((w.alloc (.cells #[.pointer (some ⟨b2, 0, none⟩)] 24)).alloc (.cells #[.slice none 0 0] 51))).alloc (.cells #[.int .i64 0] 3)).heap[w.heap.size + 1 + 1]? = some (.cells #[.int .i64 0] 3 (0, 0)) := by
      have := heap_alloc_new ((w.alloc (.cells #[.pointer (some ⟨b2, 0, none⟩)] 24)).alloc (.cells #[.slice none 0 0] 51)) (.cells #[.int .i64 0] 3)
      rwa [World.size_alloc, World.size_alloc] at this
    have e1 : ((((w.alloc (.cells #[.pointer (some ⟨b2, 0, none⟩)] 24)).alloc (.cells #[.slice none 0 0] 51))).alloc (.cells #[.int .i64 0] 3)).heap[w.heap.size + 1]? = some (.cells #[.slice none 0 0] 51 (0, 0)) := by
      have := heap_alloc_new (w.alloc (.cells #[.pointer (some ⟨b2, 0, none⟩)] 24)) (.cells #[.slice none 0 0] 51)
      rw [World.size_alloc] at this
      exact (Below.heap_alloc _ _ _ (blk_lt this)).trans this
    have e2 : ((((w.alloc (.cells #[.pointer (some ⟨b2, 0, none⟩)] 24)).alloc (.cells #[.slice none 0 0] 51))).alloc (.cells #[.int .i64 0] 3)).heap[w.heap.size]? = some (.cells #[.pointer (some ⟨b2, 0, none⟩)] 24 (0, 0)) := by
      have h := heap_alloc_new w (.cells #[.pointer (some ⟨b2, 0, none⟩)] 24)
      have h' := (Below.heap_alloc _ (.cells #[.slice none 0 0] 51) _ (blk_lt h)).trans h
      exact (Below.heap_alloc _ _ _ (blk_lt h')).trans h'
    exact ⟨e0, ⟨_, e1, ⟨rfl, .inl ⟨rfl, rfl⟩⟩⟩, e2⟩
  have D4 := D0.nu hk4
  have kw4 : Kp Nu w w4 := K3.andNu hk4
  have T1 := h1.nu kw4
  obtain ⟨cur, hcur, hrow⟩ := T1.cur hr
  have hrw : r < w.heap.size := own_lt h1.own hr
  have hlA : A.length ≤ 8192 := by have := h1.len; have := h1.lim1; omega
  have hlE : (E.length : Int) ≤ 8192 := by have := h2.len; have := h2.lim1; omega
  have SQ : SeqO Try.prog 40 #[.pointer (some ⟨Bn, 0, none⟩)] (fun x : Sg => #[enc x]) (fun k _ => k = r) (fun ys => ys = A) (fun pre => pre <+: A) A.length w4 :=
    SeqO.of_stops fun n => from_stops n Bn r 0 cap A cur hlA hrow _ hbn hcur
  have hb4 : Below w.heap.size w w4 := kw4.toBelow
  have hs4 : w.heap.size ≤ w4.heap.size := hb4.size
  have hbs : w.heap.size ≤ w.heap.size ∧ w.heap.size ≤ w.heap.size + 1 ∧ w.heap.size ≤ w.heap.size + 1 + 1 := by omega
  have H2 := hide h2
  generalize hB3 : w.heap.size = B3 at D4 hbs ⊢
  generalize hBT : B3 + 1 = BT at D4 hbs ⊢
  generalize hBP : BT + 1 = BP at D4 hbs ⊢
  clear AL D0 hk4 KA K3 T1 hcur hrow hbn kw4 h1 h2 hr
  gi_wp2_with fail
  refine range_o (gf := 40) rfl (enters_of Try.func40 (by kernel_rfl) rfl) SQ (Below.refl _ _) (fun _ => rfl)
    (fun pre V => Dm w V BP BT B3 b2 (dst E pre).1 (dst E pre).2 ∧ Below w.heap.size w V) (fun _ _ _ => False)
    (OwnFrom.and (Dm.own _ _ _) (ownFrom_below (Nat.le_refl _) hs4)) (fun _ _ _ _ _ hs _ _ => hs) ⟨D4, hb4⟩
    (fun x a' V => ∃ Bx, w.heap.size ≤ Bx ∧ V.heap[Bx]? = some (.cells #[.int .u64 x.lo, .int .u64 x.hi, .int .u8 x.h] 40 (0, 0)) ∧ a' = { tmps := #[.pointer (some ⟨b1, 0, none⟩), .pointer (some ⟨b2, 0, none⟩), undef, .pointer (some ⟨B3, 0, none⟩), .slice none 0 0, .int .i64 0, .pointer (some ⟨BT, 0, none⟩), .pointer (some ⟨BP, 0, none⟩), .pointer (some ⟨Bx, 0, none⟩), undef, .pointer (some ⟨b1, 0, none⟩), .bool true, .bool false, .bool false, .pointer (some ⟨b2, 0, none⟩), .bool true, .bool false, .bool false, .pointer (some ⟨b1, 0, none⟩), .func (.func 40) #[] #[.pointer (some ⟨Bn, 0, none⟩)], enc x, undef, undef, undef, undef, undef, undef, undef, undef, undef, undef, undef, undef, undef, undef, undef, undef, undef, undef, undef, undef, undef, undef, undef, undef, undef, undef, undef, undef, undef, undef, undef, undef, undef, undef, undef, undef, undef, undef, undef, undef, undef, undef, undef, undef, undef, undef, undef, undef, undef, undef], defers := [] })
    (fun x a' _ X Z row hs hg hr => by
      obtain ⟨Bx, h0, h1, h2⟩ := hs
      exact ⟨Bx, h0, own_cells (β := Unit) w4.heap.size Bx _ _ _ () X Z row h1 hg hr, h2⟩)
    ?assign1 ?body1 ?done1 (fun _ _ _ _ _ _ h _ => h.elim)
  case assign1 =>
    rintro l' pre x V K ⟨hLp, hB1⟩ hK
    simp only [enc]
    have kV := Kp.alloc V (.cells #[.int .u64 x.lo, .int .u64 x.hi, .int .u8 x.h] 40) Nu
    have HZ := hide (And.intro (hLp.nu kV) kV)
    clear hLp kV
    gi_wp2
    obtain ⟨f1, kV⟩ := HZ.out
    exact hK _ _ (kf_nu _ kV) (kc_nu kV) ⟨f1, hB1.alloc hB1.size _⟩ ⟨V.heap.size, hB1.size, heap_alloc_new V _, rfl⟩
  case body1 =>
    rintro l' pre x a' V hl' hq ⟨hD, hB1⟩ ⟨Bx, hxw, hX, rfl⟩ hlt
    have hsn := dst_snoc E pre x
    obtain ⟨Pt, hPt⟩ : ∃ Pt, (dst E (pre ++ [x])).1 = Pt := ⟨_, rfl⟩
    obtain ⟨Ct, hCt⟩ : ∃ Ct, (dst E (pre ++ [x])).2 = Ct := ⟨_, rfl⟩
    have HPC := hide (And.intro hPt hCt)
    rw [hsn] at hPt hCt
    have I0 : Hid ((dst E pre).1 + (dx x (E.drop (dst E pre).1)).2 = Pt ∧ (dst E pre).2 ++ (dx x (E.drop (dst E pre).1)).1 = Ct) := ⟨hPt, hCt⟩
    have HDf : Hid (Df w V V r w4.heap.size) := Df.refl hB1
    have hln := dst_len E _ pre rfl
    generalize (dst E pre).1 = p0 at *
    generalize (dst E pre).2 = C0 at *
    have HD0 := hide (And.intro hD hX)
    unfold enc
    clear hsn hPt hCt hD hX hl' hq SQ D4
    gi_wp2_with fail
    gi_loopw [9] (fun _ wr => ∃ (p : Nat) (C : List Cg), p = p ∧ Hid ((C.length ≤ pre.length + p ∧ p ≤ E.length) ∧ Dm w wr BP BT B3 b2 p C ∧ wr.heap[Bx]? = some (.cells #[.int .u64 x.lo, .int .u64 x.hi, .int .u8 x.h] 40 (0, 0)) ∧ Df w V wr r w4.heap.size ∧ p + (dx x (E.drop p)).2 = Pt ∧ C ++ (dx x (E.drop p)).1 = Ct)) (fun _ wr => E.length - plOf wr BP)
    case atStart => exact ⟨p0, C0, rfl, ⟨hln, HD0.out.1, HD0.out.2, HDf.out, I0.out.1, I0.out.2⟩⟩
    case round =>
      obtain ⟨p, C, hpp, hI⟩ := hrel
      clear hpp
      gi_wp2_with fail
      obtain ⟨hln2, hD, hX, hDf, hp1, hp2⟩ := hI.out
      have T2 := H2.out.nu (Kp.of_below hDf.be)
      obtain ⟨r2, cap2, ev2, _⟩ := T2.row
      have c1 := T2.c1
      rw [ev2] at c1
      have cp := cell1 hD.pl
      have cb := cell1 hD.bx
      clear hp1 hp2 hln
      refine wpIn_mono (Q := fun e a' w' => e = .normal ∧ w' = wr.drew ∧ a' = { tmps := #[.pointer (some ⟨b1, 0, none⟩), .pointer (some ⟨b2, 0, none⟩), undef, .pointer (some ⟨B3, 0, none⟩), .slice none 0 0, .int .i64 0, .pointer (some ⟨BT, 0, none⟩), .pointer (some ⟨BP, 0, none⟩), .pointer (some ⟨Bx, 0, none⟩), u9, .pointer (some ⟨b1, 0, none⟩), .bool true, .bool false, .bool false, .pointer (some ⟨b2, 0, none⟩), .bool true, .bool false, .bool false, .pointer (some ⟨b1, 0, none⟩), .func (.func 40) #[] #[.pointer (some ⟨Bn, 0, none⟩)], .agg #[.int .u64 x.lo, .int .u64 x.hi, .int .u8 x.h], .int .i64 (p : Int), .pointer (some ⟨b2, 0, none⟩), .pointer (some ⟨b2, 0, none⟩), .pointer (some ⟨b2, 1, none⟩), .slice (some ⟨r2, 0, none⟩) E.length cap2, .int .i64 E.length, .bool (decide (p < E.length)), u28, u29, u30, u31, u32, u33, u34, u35, u36, u37, u38, u39, u40, u41, u42, u43, u44, u45, u46, u47, u48, u49, u50, u51, u52, u53, u54, u55, u56, u57, u58, u59, u60, u61, u62, u63, u64, u65, u66, u67, u68, u69, undef], defers := [] }) ?reg7 ?rest7
      case reg7 =>
        clear hX hDf hD T2 HDf HD0 I0 HPC hI
        gi_region_with_o fail
        all_goals exact ⟨rfl, rfl, rfl⟩
      rintro e a' w' ⟨rfl, rfl, rfl⟩
      by_cases hp : p < E.length
      · obtain ⟨y, hy⟩ : ∃ y, E[p]? = some y := ⟨_, List.getElem?_eq_getElem (by omega)⟩
        obtain ⟨r', cap', e', y0, y1, y2⟩ := row_at T2.own hy
        rw [ev2] at e'
        cases e'
        have hr2 : r2 < wr.heap.size := own_lt T2.own (by rw [ev2]; rfl)
        have hs1 := blk_lt hD.pl
        have hs2 := blk_lt hD.bx
        have hs3 := blk_lt T2.blk
        clear hX hDf hD T2
        gi_wp2_with fail
        refine wpIn_mono (Q := fun e a' w' => e = .normal ∧ w' = wr.drew.drew.alloc (.cells #[.int .u64 y.lo, .int .u64 y.hi, .int .u8 y.h] 40) ∧ ∃ z35, a' = { tmps := #[.pointer (some ⟨b1, 0, none⟩), .pointer (some ⟨b2, 0, none⟩), undef, .pointer (some ⟨B3, 0, none⟩), .slice none 0 0, .int .i64 0, .pointer (some ⟨BT, 0, none⟩), .pointer (some ⟨BP, 0, none⟩), .pointer (some ⟨Bx, 0, none⟩), .pointer (some ⟨wr.heap.size, 0, none⟩), .pointer (some ⟨b1, 0, none⟩), .bool true, .bool false, .bool false, .pointer (some ⟨b2, 0, none⟩), .bool true, .bool false, .bool false, .pointer (some ⟨b1, 0, none⟩), .func (.func 40) #[] #[.pointer (some ⟨Bn, 0, none⟩)], .agg #[.int .u64 x.lo, .int .u64 x.hi, .int .u8 x.h], .int .i64 (p : Int), .pointer (some ⟨b2, 0, none⟩), .pointer (some ⟨b2, 0, none⟩), .pointer (some ⟨b2, 1, none⟩), .slice (some ⟨r2, 0, none⟩) E.length cap2, .int .i64 E.length, .bool true, u28, u29, .pointer (some ⟨b2, 0, none⟩), .pointer (some ⟨b2, 0, none⟩), .pointer (some ⟨b2, 1, none⟩), .slice (some ⟨r2, 0, none⟩) E.length cap2, .int .i64 (p : Int), z35, .agg #[.int .u64 y.lo, .int .u64 y.hi, .int .u8 y.h], u37, u38, u39, u40, u41, u42, u43, u44, u45, u46, u47, u48, u49, u50, u51, u52, u53, u54, u55, u56, u57, u58, u59, u60, u61, u62, u63, u64, u65, u66, u67, u68, u69, undef], defers := [] }) ?reg9 ?rest9
        case reg9 =>
          have hpI : (p : Int) < (E.length : Int) := by omega
          have hp0 : (0 : Int) ≤ (p : Int) := by omega
          clear HDf HD0 I0 HPC hI
          gi_region_with_o fail
          all_goals exact ⟨rfl, rfl, _, rfl⟩
        rintro e a' w' ⟨rfl, rfl, z35, rfl⟩
        obtain ⟨-, hD, hX, hDf, hp1, hp2⟩ := hI.out
        have K9 : Kp Nu wr (wr.drew.drew.alloc (.cells #[.int .u64 y.lo, .int .u64 y.hi, .int .u8 y.h] 40)) := (Kp.drew (Kp.drew (Kp.refl Nu wr))).andAlloc _
        have hX9 := (K9.block _ (blk_lt hX) (fun h => h)).trans hX
        have hY9 : (wr.drew.drew.alloc (.cells #[.int .u64 y.lo, .int .u64 y.hi, .int .u8 y.h] 40)).heap[wr.heap.size]? = some (.cells #[.int .u64 y.lo, .int .u64 y.hi, .int .u8 y.h] 40 (0, 0)) := heap_alloc_new wr.drew.drew _
        have hD9 := hD.nu K9
        have hDf9 := hDf.nu K9 hrw
        have hYw : w.heap.size ≤ wr.heap.size := hDf.be.size
        generalize wr.drew.drew.alloc (.cells #[.int .u64 y.lo, .int .u64 y.hi, .int .u8 y.h] 40) = W at *
        generalize wr.heap.size = By at *
        have hdr : E.drop p = y :: E.drop (p + 1) := by
          obtain ⟨hlt2, hy2⟩ := List.getElem?_eq_some_iff.1 hy
          rw [List.drop_eq_getElem_cons hlt2, hy2]
        rw [hdr] at hp1 hp2
        simp only [dx] at hp1 hp2
        obtain ⟨x0, x1, x2⟩ := cell3 hX9
        obtain ⟨q0, q1, q2⟩ := cell3 hY9
        have hD9' := hD9
        obtain ⟨dpl, ⟨u, dto, dow⟩, dbx⟩ := hD9
        obtain ⟨adu, cpu, hu⟩ := own_slice dow
        have cpl := cell1 dpl
        have cto := cell1 dto
        have fpl := free3 dpl 0
        have fto := free3 dto 0
        have hpw : plOf wr BP = p := plOf_at hD.pl
        have hpA : pre.length + p ≤ 20000 := by omega
        by_cases e1 : y.hi < x.lo
        · rw [if_pos e1] at hp1 hp2
          have HH := hide (And.intro hD9' (And.intro hX9 (And.intro hDf9 (And.intro hp1 (And.intro hp2 (And.intro hpw hln2))))))
          clear hD9' dpl dto dow dbx hDf9 hp1 hp2 hD hX hDf hI hX9 hY9 K9 HDf HD0 I0 hr2 y0 y1 y2 hs1 hs2 hs3 cto fto hpw hln2 hu hdr hpA
          gi_wp2_with fail
          obtain ⟨g1, g2, g3, g4, g5, g6, g7⟩ := HH.out
          obtain ⟨k1, k2, k3, k4⟩ := rd_end g1 g2 g3 (by omega) hrw
          exact ⟨⟨p + 1, C, trivial, ⟨⟨by omega, by omega⟩, k1, k2, k3, by omega, g5⟩⟩, by omega⟩
        · rw [if_neg e1] at hp1 hp2
          by_cases e3 : x.h = y.h
          · rw [if_pos e3] at hp1 hp2
            by_cases e2 : x.hi ≤ y.hi
            · rw [if_pos e2] at hp1 hp2
              have HH := hide (And.intro hD9' (And.intro hX9 (And.intro hDf9 (And.intro hp1 (And.intro hp2 (And.intro hpw hln2))))))
              clear hD9' dpl dto dow dbx hDf9 hp1 hp2 hD hX hDf hI hX9 hY9 K9 HDf HD0 I0 hr2 y0 y1 y2 hs1 hs2 hs3 cto fto hpw hln2 hu hdr hpA
              have e1' : x.lo ≤ y.hi := by omega
              gi_wp2_with fail
              obtain ⟨g1, g2, g3, g4, g5, g6, g7⟩ := HH.out
              obtain ⟨g8, g9⟩ := HPC.out
              refine ⟨g3.kf, g3.kc, ?_, by first | exact g3.be | exact hB3 ▸ g3.be⟩
              have g4' : p + 0 = Pt := g4
              have g5' : C ++ [] = Ct := g5
              rw [g8, g9, ← g4', ← g5', Nat.add_zero, List.append_nil]
              exact g1
            · rw [if_neg e2] at hp1 hp2
              have HH := hide (And.intro hD9' (And.intro hX9 (And.intro hDf9 (And.intro hp1 (And.intro hp2 (And.intro hpw hln2))))))
              clear hD9' dpl dto dow dbx hDf9 hp1 hp2 hD hX hDf hI hX9 hY9 K9 HDf HD0 I0 hr2 y0 y1 y2 hs1 hs2 hs3 cto fto hpw hln2 hu hdr hpA
              gi_wp2_with fail
              obtain ⟨g1, g2, g3, g4, g5, g6, g7⟩ := HH.out
              obtain ⟨k1, k2, k3, k4⟩ := rd_end g1 g2 g3 (by omega) hrw
              exact ⟨⟨p + 1, C, trivial, ⟨⟨by omega, by omega⟩, k1, k2, k3, by omega, g5⟩⟩, by omega⟩
          · rw [if_neg e3] at hp1 hp2
            have e1' : x.lo ≤ y.hi := by omega
            have e3' : (x.h != y.h) = true := by simp [e3]
            have n1 : By ≠ BT := fun e => by rw [e, dto] at hY9; cases hY9
            have n2 : Bx ≠ BT := fun e => by rw [e, dto] at hX9; cases hX9
            have n3 : BP ≠ BT := fun e => by rw [e, dto] at dpl; cases dpl
            have HB3 := hide dbx
            have KA := Kp.alloc W (.cells #[.int .u64 (max x.lo y.lo), .int .u64 (min x.hi y.hi), .int .u8 x.h, .int .u8 y.h] 55) Nu
            have HRo := hide (dow.alloc (.cells #[.int .u64 (max x.lo y.lo), .int .u64 (min x.hi y.hi), .int .u8 x.h, .int .u8 y.h] 55))
            have hWs : w.heap.size ≤ W.heap.size := hDf9.be.size
            have HH := hide (And.intro dpl (And.intro dto (And.intro dow (And.intro dbx (And.intro hX9 (And.intro hY9 (And.intro hDf9 (And.intro hp1 (And.intro hp2 (And.intro hpw (And.intro hln2 KA)))))))))))
            generalize hCL : C.length = CL at *
            have HCL := hide hCL
            subst hu
            clear hD9' dpl dto dow dbx hDf9 hp1 hp2 hD hX hDf hI hX9 hY9 K9 HDf HD0 I0 hr2 y0 y1 y2 hs1 hs2 hs3 hpw hdr KA hCL
            gi_wp2_with (first
              | (gi_at_builtin; refine wpListIn_append_own _ rfl _ _ 51 rfl w.heap.size 55 i0 (.agg #[.int .u64 0, .int .u64 0, .int .u8 0, .int .u8 0]) 4 24 Try.underlying51 hi0 hz0 hz1 hz2 rfl (by decide) _ _ _ rfl HRo.out ⟨W.heap.size, 0, none⟩ 1 1 [.int .u64 (max x.lo y.lo), .int .u64 (min x.hi y.hi), .int .u8 x.h, .int .u8 y.h] rfl rfl (cell_four_new _ _ _ _ _ _) (by simp [Value.oneCell']) (by unfold maxLen; omega) (by omega) (by simp; omega) ?_; intro v' w3 hown' hg3 hnil3; obtain ⟨ad3, cp3, ev3⟩ := own_slice hown'; have HO := hide hown'; have hkk : Kp (fun k => some k = (Value.slice adu CL cpu).ownBlock) W w3 := (HH.out.2.2.2.2.2.2.2.2.2.2.2.mono (fun _ _ h => h.elim)).trans (Kp.of_grown hg3) (fun _ _ h => h); have nu3 : ∀ {g : Nat} {c : Array Value} {t : TypeId}, W.heap[g]? = some (.cells c t (0, 0)) → t ≠ 55 → w3.heap[g]? = some (.cells c t (0, 0)) := (fun {g c t} e ht => (hkk.block g (blk_lt e) (fun hs => by (obtain ⟨_, c', e'⟩ := own_type55 HH.out.2.2.1 hs.symm; rw [e] at e'; cases e'; exact ht rfl))).trans e); have t1 := nu3 HH.out.1 (by decide); have t2 := nu3 HH.out.2.1 (by decide); have t3 := nu3 HH.out.2.2.2.2.1 (by decide); have t4 := nu3 HH.out.2.2.2.2.2.1 (by decide); have d1 := cell1 t1; have d2 := cell1 t2; have d3 := cell3 t3; have d4 := cell3 t4; obtain ⟨d30, d31, d32⟩ := d3; obtain ⟨d40, d41, d42⟩ := d4; have f1 := free3 t1 0; have f2 := free3 t2 0; have HT := hide (And.intro hkk (And.intro t2 t3)); subst ev3; clear hown' hg3 hnil3 t1 t2 t3 t4 nu3 hkk)
              | fail)
            · rename_i e2
              obtain ⟨g1, ga, gb, gc, gx, gy, g3, g4, g5, g6, g7, _⟩ := HH.out
              obtain ⟨k, t2, t3⟩ := HT.out
              have ho2 : w3.ownsRow w.heap.size 55 4 (.slice ad3 (CL + 1) cp3) (C ++ [(⟨max x.lo y.lo, min x.hi y.hi, x.h, y.h⟩ : Cg)]).length (cellsC (C ++ [(⟨max x.lo y.lo, min x.hi y.hi, x.h, y.h⟩ : Cg)])) := by
                rw [cellsC_append, List.length_append, HCL.out]; exact HO.out
              have hcl := HCL.out
              subst hcl
              obtain ⟨_, j1, j2⟩ := Dm.tell g1 ga gb gc k ho2
              have df := g3.step j2 (fun j _ hj => by
                rcases hj with hj | hj
                · obtain ⟨z1, z2, z3⟩ := own_type55 gb hj.symm
                  exact ⟨z1, _, _, z3⟩
                · subst hj
                  exact ⟨by omega, _, _, ga⟩) hrw
              obtain ⟨g8, g9⟩ := HPC.out
              rw [if_pos e2] at g4 g5
              have g4' : p + 0 = Pt := g4
              have g5' : C ++ [(⟨max x.lo y.lo, min x.hi y.hi, x.h, y.h⟩ : Cg)] = Ct := g5
              refine ⟨df.kf, df.kc, ?_, by first | exact df.be | exact hB3 ▸ df.be⟩
              rw [g8, g9, ← g4', ← g5', Nat.add_zero]
              exact j1
            · rename_i e2
              obtain ⟨g1, ga, gb, gc, gx, gy, g3, g4, g5, g6, g7, _⟩ := HH.out
              obtain ⟨k, t2, t3⟩ := HT.out
              have ho2 : w3.ownsRow w.heap.size 55 4 (.slice ad3 (CL + 1) cp3) (C ++ [(⟨max x.lo y.lo, min x.hi y.hi, x.h, y.h⟩ : Cg)]).length (cellsC (C ++ [(⟨max x.lo y.lo, min x.hi y.hi, x.h, y.h⟩ : Cg)])) := by
                rw [cellsC_append, List.length_append, HCL.out]; exact HO.out
              have hcl := HCL.out
              subst hcl
              obtain ⟨_, j1, j2⟩ := Dm.tell g1 ga gb gc k ho2
              have df := g3.step j2 (fun j _ hj => by
                rcases hj with hj | hj
                · obtain ⟨z1, z2, z3⟩ := own_type55 gb hj.symm
                  exact ⟨z1, _, _, z3⟩
                · subst hj
                  exact ⟨by omega, _, _, ga⟩) hrw
              rw [if_neg (by omega)] at g4 g5
              have g4' : p + ((dx x (E.drop (p + 1))).2 + 1) = Pt := g4
              have g5' : C ++ ([(⟨max x.lo y.lo, min x.hi y.hi, x.h, y.h⟩ : Cg)] ++ (dx x (E.drop (p + 1))).1) = Ct := g5
              rw [← List.append_assoc] at g5'
              obtain ⟨k1, k2, k3, k4⟩ := rd_end j1 ((Below.heap_setCell w3 ⟨BT, 0, none⟩ _ _ n2).trans t3) df (by omega) hrw
              have hlC : (C ++ [(⟨max x.lo y.lo, min x.hi y.hi, x.h, y.h⟩ : Cg)]).length = C.length + 1 := by simp
              exact ⟨⟨p + 1, _, trivial, ⟨⟨by omega, by omega⟩, k1, k2, k3, by omega, g5'⟩⟩, by omega⟩
      · have hdr : E.drop p = [] := List.drop_eq_nil_of_le (by omega)
        obtain ⟨-, -, -, -, hp1, hp2⟩ := hI.out
        rw [hdr] at hp1 hp2
        simp only [dx, List.append_nil, Nat.add_zero] at hp1 hp2
        have HH := hide (And.intro hD (And.intro hDf (And.intro hp1 hp2)))
        clear hX hDf hD T2 hp1 hp2 hdr
        gi_wp2_with fail
        obtain ⟨g1, g2, g3, g4⟩ := HH.out
        obtain ⟨g5, g6⟩ := HPC.out
        have kd : Kp Nu wr wr.drew := Kp.drew (Kp.refl Nu wr)
        have g7 := g2.nu kd hrw
        refine ⟨g7.kf, g7.kc, ?_, by first | exact g7.be | exact hB3 ▸ g7.be⟩
        rw [g5, g6, ← g3, ← g4]
        exact g1.nu kd
  case done1 =>
    rintro D ys V hD rfl ⟨hDm, hB1⟩ hK
    obtain ⟨dpl, ⟨u, b1, b2⟩, dbx⟩ := hDm
    have c1 := cell1 b1
    obtain ⟨adu, cpu, hu⟩ := own_slice b2
    have HF : Hid ((V.putObj D (.deferred none)).ownsRow w.heap.size 55 4 u (dst E ys).2.length (cellsC (dst E ys).2) ∧ Kp Nu w (V.putObj D (.deferred none))) := by
      refine ⟨own_keep b2 (fun g e => World.putObj_heap_other (fun e2 => ?_)), Kp.of_below (hB1.trans (belowK_b (w := w) (Nat.le_refl _) V D _ _ (Nat.le_trans hs4 hD) hK rfl rfl))⟩
      obtain ⟨_, c, e3⟩ := own_type55 b2 e
      subst e2
      rw [hK] at e3; cases e3
    subst hu
    clear dpl dbx b1 b2 SQ D4
    gi_wp2
    refine ⟨by simp, .inl ⟨_, _, rfl, run_takeDeferred hK, ?_⟩⟩
    refine ⟨.tuple #[.slice adu (dst E ys).2.length cpu, .int .i64 0], ?_, _, rfl, HF.out⟩
    simp [results, Try.results21, go_sem]
end Go.Proofs.Ytffcnonhhfhlhaa.Rg
