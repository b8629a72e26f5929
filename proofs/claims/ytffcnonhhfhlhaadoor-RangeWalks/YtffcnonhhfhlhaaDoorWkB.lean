import Derived.Test.YtffcnonhhfhlhaaDoorWkM
import Derived.Sort.CutIn
namespace Go.Proofs.YtffcnonhhfhlhaaDoor.Rg
open Go.RowKit Go.Shelf Go.Sort
open Go.Proofs.YtffcnonhhfhlhaaDoor.It
attribute [local go_sem] Oper.semAt_some
set_option linter.unusedVariables false
/-- at the end the marks are taken; cells and the blocks below stay -/
theorem leaves_all {F : Fence} {n : Nat} {fn : Func} {tmps : Array Value} {R : Ending → World → Prop} {B : Nat} : ∀ (Ls : List Nat) (V : World), Ls.Nodup → (∀ D ∈ Ls, B ≤ D ∧ V.heap[D]? = some (.deferred (some []))) →
    (∀ Z, (∀ (k : Nat) (c : Array Value) (t : TypeId) (m : Nat × Nat), V.heap[k]? = some (.cells c t m) → Z.heap[k]? = some (.cells c t m)) → Kp (fun k => B ≤ k) V Z → LeavesIn F n Tryd.prog fn tmps R [] .returning Z) → LeavesInM F n Tryd.prog fn tmps R (Ls.map (fun D => { target := .collected D, args := #[] })) .returning V
  | [], V, _, _, h => h V (fun _ _ _ _ e => e) (Kp.refl _ _)
  | D :: Ls, V, hn, hd, h => by
    obtain ⟨h1, h2⟩ := hd D (by simp)
    rw [List.nodup_cons] at hn
    refine ⟨by simp, .inl ⟨D, V.putObj D (.deferred none), rfl, run_takeDeferred h2, ?_⟩⟩
    refine leaves_all Ls _ hn.2 (fun D' hD' => ⟨(hd D' (by simp [hD'])).1, (World.putObj_heap_other (fun e => by subst e; exact hn.1 hD')).trans (hd D' (by simp [hD'])).2⟩) (fun Z hc hk => h Z ?_ ?_)
    · intro k c t m e
      exact hc k c t m ((World.putObj_heap_other (fun e2 => by subst e2; rw [h2] at e; cases e)).trans e)
    · have k0 : Kp (fun k => B ≤ k) V (V.putObj D (.deferred none)) := ⟨rfl, rfl, rfl, by simp, fun k hk hs => World.putObj_heap_other (fun e => by subst e; exact hs h1)⟩
      exact k0.trans hk (fun _ _ h => h)
theorem endq (w : World) (br : Nat) : EndQ w br (bodyPostM Fence.wide 4 Tryd.prog Tryd.f4 fun e w' => e = .returned (.bool true) ∧ Kp Nu w w') := by
  intro tmps Ls V h1 nd hd hr hk
  refine leaves_all Ls V nd hd (fun Z hc hk' => ?_)
  have z1 := cell1 (hc _ _ _ _ hr)
  have z2 : Kp Nu w Z := hk.trans hk' (fun i hi e => by have e : w.heap.size ≤ i := e; omega)
  refine ⟨.bool true, ?_, rfl, z2⟩
  have h2 : tmps[10]?.getD undef = .pointer (some ⟨br, 0, none⟩) := by simpa using h1
  simp [results, Tryd.results4, go_sem, h2, z1]
set_option maxRecDepth 100000 in
set_option maxHeartbeats 4000000 in
theorem walks_walk (w : World) (u : Value) (M : List Sg) (hM : Sgs w u M) (hlen : (M.length : Int) ≤ 5864062014634) (lim : Int) (s : Sp) (stop : Int) (th : Sp) (fs : SpB s) (ft : SpB th) (hp : PowB w.heap.size w) :
    Calls Tryd.prog 4 #[u, .int .i64 lim, .agg #[.int .i64 s.kind, .int .u64 s.lo, .int .u64 s.hi, .int .u8 s.h], .int .i64 stop, .agg #[.int .i64 th.kind, .int .u64 th.lo, .int .u64 th.hi, .int .u8 th.h]] w fun e w' => e = .returned (.bool true) ∧ Kp Nu w w' := by
  have mixed : Tryd.prog.follows .mixedOrders = true := by kernel_rfl
  have HS := hide (And.intro fs (And.intro ft (And.intro hp (And.intro hM hlen))))
  clear fs ft hp hM hlen
  refine (callsIn_wide (n := 4)).1 ?_
  refine callsIn_of_wp_marks Tryd.func4 rfl trivial ?_ rfl
  simp only [Tryd.ntmps4, List.size_toArray, List.length_cons, List.length_nil, Nat.reduceAdd, Nat.reduceSub, Array.replicate_succ, Array.replicate_zero, List.push_toArray, List.append_toArray, List.nil_append, List.cons_append]
  gi_wp2_with fail
  obtain ⟨x0, x1, k1⟩ := two_al w #[.int .i64 s.kind, .int .u64 s.lo, .int .u64 s.hi, .int .u8 s.h] #[.int .i64 stop] 36 3
  obtain ⟨x2, x3, k2⟩ := two_al ((w.alloc (.cells #[.int .i64 s.kind, .int .u64 s.lo, .int .u64 s.hi, .int .u8 s.h] 36)).alloc (.cells #[.int .i64 stop] 3)) #[.int .i64 th.kind, .int .u64 th.lo, .int .u64 th.hi, .int .u8 th.h] #[.bool false] 36 4
  simp only [World.size_alloc] at x2 x3
  have BX := Bx.mk ((k2.block _ (blk_lt x0) (fun h => h)).trans x0) ((k2.block _ (blk_lt x1) (fun h => h)).trans x1) x2 x3
  have k0 := k1.andNu k2
  clear x0 x1 x2 x3 k1 k2
  generalize ((((w.alloc (Obj.cells #[Value.int IntKind.i64 s.kind, Value.int IntKind.u64 s.lo, Value.int IntKind.u64 s.hi, Value.int IntKind.u8 s.h] 36)).alloc (Obj.cells #[Value.int IntKind.i64 stop] 3)).alloc (Obj.cells #[Value.int IntKind.i64 th.kind, Value.int IntKind.u64 th.lo, Value.int IntKind.u64 th.hi, Value.int IntKind.u8 th.h] 36)).alloc (Obj.cells #[Value.bool false] 4)) = w0 at *
  obtain ⟨br, hbr⟩ : ∃ br, w.heap.size + 1 + 1 + 1 = br := ⟨_, rfl⟩
  obtain ⟨bt, hbt⟩ : ∃ bt, w.heap.size + 1 + 1 = bt := ⟨_, rfl⟩
  obtain ⟨bp, hbp⟩ : ∃ bp, w.heap.size + 1 = bp := ⟨_, rfl⟩
  rw [hbr, hbt, hbp] at BX ⊢
  have HBR : Hid (w.heap.size ≤ br) := by show w.heap.size ≤ br; omega
  clear hbr hbt hbp
  obtain ⟨bs, hbs⟩ : ∃ bs, w.heap.size = bs := ⟨_, rfl⟩
  rw [show Bx w0 w.heap.size bp bt br s th stop = Bx w0 bs bp bt br s th stop by rw [hbs]] at BX
  rw [hbs]
  clear hbs
  have H0 := hide (And.intro BX k0)
  have LD := loaded_any w0 u M (HS.out.2.2.2.1.nu k0) HS.out.2.2.2.2 lim
  clear BX k0
  refine ⟨trivial, (callsIn_wide.2 LD).mono ?_⟩
  rintro e w1 ⟨p, L0, v, rfl, ⟨va, vn, vc, rfl⟩, hcase, hk1⟩
  have H1 := hide (And.intro (H0.out.1.nu hk1) (H0.out.2.andNu hk1))
  rcases hcase with rfl | ⟨b, vt, B, hB, rfl, hT, hL0, hown, hlt⟩
  · obtain ⟨y0, y1, ky⟩ := two_al w1 #[.pointer none] #[.int .i64 L0, .slice va vn vc] 27 29
    have c0 := cell1 y0
    have H2 := hide (And.intro (H1.out.1.nu ky) (H1.out.2.andNu ky))
    have fr := free3 H2.out.1.r 0
    have cr := cell1 H2.out.1.r
    clear LD hk1 y0 y1 ky
    gi_wp2
    refine ⟨.bool true, ?_, rfl, H2.out.2.andSet ⟨br, 0, none⟩ _ (.inl HBR.out)⟩
    have z := cell1 (show ((((w1.alloc (.cells #[.pointer none] 27)).alloc (.cells #[.int .i64 L0, .slice va vn vc] 29)).setCell ⟨br, 0, none⟩ (.bool true)).heap[br]? = some (.cells #[.bool true] 4 (0, 0))) by rw [set3 H2.out.1.r]; rfl)
    simp [results, Tryd.results4, go_sem, z]
  obtain rfl : lim = L0 := hL0.symm
  obtain ⟨L, eL⟩ : ∃ L, lays [] M = L := ⟨_, rfl⟩
  rw [eL] at hT hown
  clear eL
  obtain ⟨y0, y1, ky⟩ := two_al w1 #[.pointer (some ⟨b, 0, none⟩)] #[.int .i64 lim, .slice va vn vc] 27 29
  have c0 := cell1 y0
  obtain ⟨c1, c2⟩ := cell2' y1
  have RW := refWithin_all _ _ L lim (rs_of_own (own_keep hown (fun g e => ky.block g (own_lt hown e) (fun h => h))) hT.tab.ne) (by have := hT.len; have := hT.lim1; omega) s.lo s.hi
  have hTy := hT.nu ky
  have hoy : ((w1.alloc (.cells #[.pointer (some ⟨b, 0, none⟩)] 27)).alloc (.cells #[.int .i64 lim, .slice va vn vc] 29)).ownsRow w0.heap.size 26 3 (.slice va vn vc) L.length (cells L) := own_keep hown (fun g e => ky.block g (own_lt hown e) (fun h => h))
  have H2 := hide (And.intro (H1.out.1.nu ky) (And.intro (H1.out.2.andNu ky) (And.intro hTy (And.intro hoy (And.intro y0 (And.intro y1 hB))))))
  obtain ⟨s0, s1, s2, s3⟩ := cell4' H2.out.1.s
  clear LD hk1 y0 y1 ky hT hown hlt hB hTy hoy H1
  gi_wp2_with fail
  generalize ((w1.alloc (.cells #[.pointer (some ⟨b, 0, none⟩)] 27)).alloc (.cells #[.int .i64 lim, .slice va vn vc] 29)) = w2 at *
  refine ⟨trivial, (callsIn_wide.2 RW).mono ?_⟩
  rintro e w3 ⟨uw, rfl, how, hk3⟩
  have hz3 : w.heap.size ≤ w3.heap.size := Nat.le_trans H2.out.2.1.size hk3.size
  have HZ3 := hide hz3
  clear hz3
  obtain ⟨N, hN⟩ : ∃ N, (wiA s.lo s.hi L).length = N := ⟨_, rfl⟩
  obtain ⟨wa, wc, ew⟩ := own_slice how
  rw [hN] at ew
  subst ew
  have HN := hide hN
  clear hN
  obtain ⟨bT, hbT⟩ : ∃ bT, w1.heap.size = bT := ⟨_, rfl⟩
  obtain ⟨bR, hbR⟩ : ∃ bR, w1.heap.size + 1 = bR := ⟨_, rfl⟩
  have H2' := H2.out
  rw [hbT] at c0 H2'
  rw [hbT]
  rw [show bT + 1 = bR by rw [← hbT]; exact hbR] at H2' ⊢
  have k4 : Kp Nu w3 (w3.alloc (.cells #[.slice wa N wc] 22)) := Kp.alloc w3 _ Nu
  have k24 := hk3.andNu k4
  have y3 : (w3.alloc (.cells #[.slice wa N wc] 22)).heap[w3.heap.size]? = some (.cells #[.slice wa N wc] 22 (0, 0)) := heap_alloc_new w3 _
  have hT4 := H2'.2.2.1.nu k24
  have WI := within_any hT4 s.lo s.hi HS.out.1.1 HS.out.1.2.1
  have H3 := hide (And.intro H2' (And.intro k24 (And.intro y3 (And.intro how k4))))
  obtain ⟨s0', s1', s2', s3'⟩ := cell4' (H2'.1.nu k24).s
  have c0' := cell1 ((k24.block _ (blk_lt H2'.2.2.2.2.1) (fun h => h)).trans H2'.2.2.2.2.1)
  clear RW how hk3 k4 k24 y3 hT4 H2' H2 hbT hbR s0 s1 s2 s3 c0 c1 c2
  gi_wp2_with fail
  refine ⟨trivial, (callsIn_wide.2 WI).mono ?_⟩
  rintro e w5 ⟨Br, Bn, r, cap, rfl, z0, z1, z2, z3, hr, hk5⟩
  have SQ5 := sq_within (H3.out.1.2.2.1.nu H3.out.2.1) s.lo s.hi z0 z1 z2 z3 hr hk5
  generalize (#[.pointer (some ⟨(w3.alloc (.cells #[.slice wa N wc] 22)).heap.size, 0, none⟩), .pointer (some ⟨(w3.alloc (.cells #[.slice wa N wc] 22)).heap.size + 1, 0, none⟩), .pointer (some ⟨Br, 0, none⟩)] : Array Value) = lb at SQ5 ⊢
  have k6 : Kp Nu w5 (w5.alloc (.cells #[.func (.func 45) #[] lb] 39)) := Kp.alloc w5 _ Nu
  have y5 := heap_alloc_new w5 (.cells #[.func (.func 45) #[] lb] 39)
  have HZ5 : Hid (w.heap.size ≤ w5.heap.size) := by
    have h1 := HZ3.out
    have h2 := hk5.size
    rw [World.size_alloc] at h2
    exact hide (by omega)
  have HB6 : Hid (Wb w (w5.alloc (.cells #[.func (.func 45) #[] lb] 39)) bs bp bt br bT bR w3.heap.size w5.heap.size s th stop lim B b vt (.slice va vn vc) (.slice wa N wc) L (wiA s.lo s.hi L) 45 lb) := by
    obtain ⟨H2', k24, y3, how, k4⟩ := H3.out
    have k26 := (k24.andNu hk5).andNu k6
    have k46 := hk5.andNu k6
    have hl : (wiA s.lo s.hi L).length ≤ 8192 := by
      have h1 := wiA_len (lo := s.lo) (hi := s.hi) (L := L)
      have h2 := H2'.2.2.1.len
      have h3 := H2'.2.2.1.lim1
      omega
    refine hide ⟨H2'.1.nu k26, (k26.block _ (blk_lt H2'.2.2.2.2.1) (fun h => h)).trans H2'.2.2.2.2.1, (k26.block _ (blk_lt H2'.2.2.2.2.2.1) (fun h => h)).trans H2'.2.2.2.2.2.1, (k46.block _ (blk_lt y3) (fun h => h)).trans y3, y5, H2'.2.2.1.nu k26, ?_, ?_, SQ5.nu k6, (H2'.2.1.andNu k26).toBelow, Nat.le_trans H0.out.2.size H2'.2.2.2.2.2.2, hl⟩
    · refine own_lower (own_keep H2'.2.2.2.1 (fun g e => k26.block g (own_lt H2'.2.2.2.1 e) (fun h => h))) H0.out.2.size
    · refine own_lower (own_keep how (fun g e => (k4.andNu k46).block g (own_lt how e) (fun h => h))) H2'.2.1.size
  obtain ⟨s0, s1, s2, s3⟩ := cell4' HB6.out.bx.s
  clear WI z0 z1 z2 z3 hr hk5 k6 y5 H3 SQ5
  gi_upto_region 6 with fail
  rename_i K2 hK2 K1 hK1
  have HK2 := hide hK2
  clear hK2
  by_cases h11 : s.kind = 11
  · have b11 : (s.kind == 11) = true := by simpa using h11
    have HK11 := hide h11
    clear h11
    obtain ⟨r0, r1⟩ := cell2' HB6.out.xR
    have cw := cell1 HB6.out.xW
    have fw := free3 HB6.out.xW 0
    have f22 := Fy.set HB6.out.xW 0 (.slice va vn vc)
    have cT7 := cell1 (f22 _ _ _ _ (by decide) HB6.out.xT)
    have AL := all_any (f22.tb (by decide) (by decide) HB6.out.tb)
    have H7 := hide (And.intro f22 (set3 HB6.out.xW 0 (.slice va vn vc)))
    clear f22
    gi_wp2_with fail
    refine ⟨trivial, (callsIn_wide.2 AL).mono ?_⟩
    rintro e w8 ⟨Bn, r, cap, rfl, hBn, hr, k8⟩
    have xF8 := (k8.block _ (blk_lt (H7.out.1 _ _ _ _ (by decide) HB6.out.xF)) (fun h => h)).trans (H7.out.1 _ _ _ _ (by decide) HB6.out.xF)
    have cf8 := cell1 xF8
    have ff8 := free3 xF8 0
    have HB9 : Hid (Wb w (w8.setCell ⟨w5.heap.size, 0, none⟩ (.func (.func 73) #[] #[.pointer (some ⟨Bn, 0, none⟩)])) bs bp bt br bT bR w3.heap.size w5.heap.size s th stop lim B b vt (.slice va vn vc) (.slice va vn vc) L L 73 #[.pointer (some ⟨Bn, 0, none⟩)] ∧ L.length = vn) := by
      have hb := HB6.out
      have f39 := Fy.set xF8 0 (.func (.func 73) #[] #[.pointer (some ⟨Bn, 0, none⟩)])
      have up : ∀ {k : Nat} {c : Array Value} {t : TypeId}, t ≠ 22 → t ≠ 39 → (w5.alloc (.cells #[.func (.func 45) #[] lb] 39)).heap[k]? = some (.cells c t (0, 0)) → (w8.setCell ⟨w5.heap.size, 0, none⟩ (.func (.func 73) #[] #[.pointer (some ⟨Bn, 0, none⟩)])).heap[k]? = some (.cells c t (0, 0)) := fun h1 h2 h3 => by
        have h4 := H7.out.1 _ _ _ _ h1 h3
        exact f39 _ _ _ _ h2 ((k8.block _ (blk_lt h4) (fun h => h)).trans h4)
      have hov : ∀ {u : Value}, (w5.alloc (.cells #[.func (.func 45) #[] lb] 39)).ownsRow w.heap.size 26 3 u L.length (cells L) → (w8.setCell ⟨w5.heap.size, 0, none⟩ (.func (.func 73) #[] #[.pointer (some ⟨Bn, 0, none⟩)])).ownsRow w.heap.size 26 3 u L.length (cells L) := fun h => by
        have h4 := H7.out.1.own (by decide) h
        exact f39.own (by decide) (own_keep h4 (fun g e => k8.block g (own_lt h4 e) (fun h => h)))
      have tb9 := f39.tb (by decide) (by decide) ((H7.out.1.tb (by decide) (by decide) hb.tb).nu k8)
      have xW7 : ((w5.alloc (.cells #[.func (.func 45) #[] lb] 39)).setCell ⟨w3.heap.size, 0, none⟩ (.slice va vn vc)).heap[w3.heap.size]? = some (.cells #[.slice va vn vc] 22 (0, 0)) := H7.out.2
      have hx3 := f39 _ _ _ _ (by decide) hBn
      refine hide ⟨⟨⟨up (by decide) (by decide) hb.bx.s, up (by decide) (by decide) hb.bx.p, up (by decide) (by decide) hb.bx.t, up (by decide) (by decide) hb.bx.r⟩, up (by decide) (by decide) hb.xT, up (by decide) (by decide) hb.xR, f39 _ _ _ _ (by decide) ((k8.block _ (blk_lt xW7) (fun h => h)).trans xW7), by rw [set3 xF8]; rfl, tb9, hov hb.ov, hov hb.ov, sq_all tb9 hx3 hr, ?_, hb.low, ?_⟩, ?_⟩
      · exact ((((Kp.of_below hb.bel).andSet ⟨w3.heap.size, 0, none⟩ _ (.inl HZ3.out)).andNu k8).andSet ⟨w5.heap.size, 0, none⟩ _ (.inl HZ5.out)).toBelow
      · have := hb.tb.len; have := hb.tb.lim1; omega
      · obtain ⟨a, c, e⟩ := own_slice hb.ov
        cases e; rfl
    clear AL hBn hr k8 xF8 H7
    gi_wp2_with fail
    refine HK2.out _ _ ?_
    exact walks_tail HB9.out.1 HS.out.2.1 HB9.out.2 HS.out.2.2.1 HBR.out _ (endq w br)
  · have b11 : (s.kind == 11) = false := by simpa using h11
    clear h11
    gi_wp2_with fail
    refine HK2.out _ _ ?_
    exact walks_tail HB6.out HS.out.2.1 HN.out HS.out.2.2.1 HBR.out _ (endq w br)
end Go.Proofs.YtffcnonhhfhlhaaDoor.Rg
