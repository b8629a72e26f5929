import Derived.Test.YtchealdgncgjoaaLbE
import Derived.Test.YtchealdgncgjoaaQt
namespace Go.Proofs.Ytchealdgncgjoaa.StI
open Go.RowKit Go.Proofs.Ytchealdgncgjoaa.St Go.Shelf Go.Sort Go.Proofs.Ytchealdgncgjoaa.It
attribute [local go_sem] Oper.semAt_some
set_option linter.unusedVariables false
theorem La.more {X Z : World} {bx : List Nat} {b1 br bM bR mb rb B BA BB B1 B2 bt : Nat} {more lo hi : Int} {t : T (Int × Int)} {L : List (Int × Int)} (h : La X bx b1 br bM bR mb rb B BA BB B1 B2 more lo hi t L) (k : Cc X Z) (hs : X.heap.size < Z.heap.size) (hb : X.heap.size = bt) : La Z (bt :: bx) b1 br bM bR mb rb B BA BB B1 B2 more lo hi t L := by
  have z := h.cc k (by omega)
  obtain ⟨vk, vv, r, hk, hv⟩ := h.ro
  refine ⟨z.g, z.r, z.m, z.d, z.xA, z.xB, z.x1, z.x2, z.mp, ⟨vk, vv, k.rm r, fun g hg hm => ?_, fun g hg hm => ?_⟩, fun b hm => ?_, List.mem_cons_of_mem _ h.i1, List.mem_cons_of_mem _ h.i2, List.mem_cons_of_mem _ h.i3, z.lo⟩
  · rcases List.mem_cons.1 hm with e | hm
    · have := own_lt r.ok hg; omega
    · exact hk g hg hm
  · rcases List.mem_cons.1 hm with e | hm
    · have := own_lt r.ov hg; omega
    · exact hv g hg hm
  · rcases List.mem_cons.1 hm with e | hm
    · omega
    · have := h.bl b hm; omega
theorem LJ.own {w : World} {bx : List Nat} {b1 br bM bR mb rb B BA BB B1 B2 bt M C : Nat} {more lo hi : Int} {Ls : List Nat} (hC : w.heap.size ≤ C) (hD : ∀ D ∈ Ls, D < C) : OwnFrom C (LJ w bx b1 br bM bR mb rb B BA BB B1 B2 more lo hi bt M Ls) := fun pre X Z row h hg hr => by
  obtain ⟨t, told, h1, h2, h3, h4, h5, h6⟩ := h
  exact ⟨t, told, h1.cc (Cc.grown hg hr) hg.size, Cc.grown hg hr _ _ _ _ h2, h3, h4, ownFrom_below (β := Unit) (Nat.le_refl _) hC () X Z row h5 hg hr, fun D hd => own_block (hD D hd) () X Z row (h6 D hd) hg hr⟩
theorem wi_k {W : World} {B n : Nat} {v : Value} {L : List (Int × Int)} (h : W.ownsRow B 3 1 v n (kv L)) (hn : L.length = n) : Wi W v (L.map Prod.fst) := by
  obtain ⟨ad, cap, e⟩ := own_slice h
  refine ⟨ad, cap, by rw [e]; simp [hn], fun i s hi => ?_⟩
  obtain ⟨r, cap', e', hc⟩ := rowI_at (i := i) (u := .int .i64 s) h (by simp [kv, hn]) (by simp [kv] at hi ⊢; exact hi)
  rw [e] at e'
  cases e'
  exact ⟨r, 0, rfl, by simpa using hc⟩
theorem wi_v {W : World} {B n : Nat} {v : Value} {L : List (Int × Int)} (h : W.ownsRow B 3 1 v n (vvs L)) (hn : L.length = n) : Wi W v (L.map Prod.snd) := by
  obtain ⟨ad, cap, e⟩ := own_slice h
  refine ⟨ad, cap, by rw [e]; simp [hn], fun i s hi => ?_⟩
  obtain ⟨r, cap', e', hc⟩ := rowI_at (i := i) (u := .int .i64 s) h (by simp [vvs, hn]) (by simp [vvs] at hi ⊢; exact hi)
  rw [e] at e'
  cases e'
  exact ⟨r, 0, rfl, by simpa using hc⟩
set_option maxRecDepth 100000 in
set_option maxHeartbeats 6000000 in
theorem storeLate_walk (w : World) (v0 v1 : Value) (S O : List Int) (lo hi more gone : Int) (hS : Wi w v0 S) (hO : Wi w v1 O) (hl0 : S.length ≤ 17592186043904) (hl1 : O.length ≤ 17592186043904) :
    Calls Try.prog 12 #[v0, v1, .int .i64 lo, .int .i64 hi, .int .i64 more, .int .i64 gone] w fun e w' => e = .returned (.bool true) ∧ Kp Nu w w' := by
  have mixed : Try.prog.follows .mixedOrders = true := by kernel_rfl
  have HW := hide (And.intro hS (And.intro hO (And.intro hl0 hl1)))
  clear hS hO hl0 hl1
  refine (callsIn_wide (n := 4)).1 ?_
  refine callsIn_of_wp_marks Try.func12 rfl trivial ?_ rfl
  simp only [Try.ntmps12, List.size_toArray, List.length_cons, List.length_nil, Nat.reduceAdd, Nat.reduceSub, Array.replicate_succ, Array.replicate_zero, List.push_toArray, List.append_toArray, List.nil_append, List.cons_append]
  gi_wp2_with fail
  have k0 : Kp Nu w ((w.alloc (.cells #[.int .i64 more] 3)).alloc (.cells #[.bool false] 4)) := (Kp.alloc w _ Nu).andAlloc _
  have x0 : ((w.alloc (.cells #[.int .i64 more] 3)).alloc (.cells #[.bool false] 4)).heap[w.heap.size]? = some (.cells #[.int .i64 more] 3 (0, 0)) := (Below.heap_alloc _ _ _ (by simp)).trans (heap_alloc_new w _)
  have x1 : ((w.alloc (.cells #[.int .i64 more] 3)).alloc (.cells #[.bool false] 4)).heap[w.heap.size + 1]? = some (.cells #[.bool false] 4 (0, 0)) := by have := heap_alloc_new (w.alloc (.cells #[.int .i64 more] 3)) (.cells #[.bool false] 4); simpa using this
  have xs : ((w.alloc (.cells #[.int .i64 more] 3)).alloc (.cells #[.bool false] 4)).heap.size = w.heap.size + 1 + 1 := by simp
  generalize (w.alloc (.cells #[.int .i64 more] 3)).alloc (.cells #[.bool false] 4) = w0 at *
  refine ⟨trivial, (callsIn_wide.2 (filled_any w0 v0 v1 S O (HW.out.1.nu k0) (HW.out.2.1.nu k0) HW.out.2.2.1 HW.out.2.2.2)).mono ?_⟩
  rintro e w1 ⟨mb, rb, t, rfl, hmb, hrb, hm1, ⟨vk, vv, hr1⟩, hsz, k1⟩
  have k2 : Kp Nu w1 ((w1.alloc (.cells #[.pointer (some ⟨mb, 0, none⟩)] 22)).alloc (.cells #[.pointer (some ⟨rb, 0, none⟩)] 48)) := (Kp.alloc w1 _ Nu).andAlloc _
  have z0 : ((w1.alloc (.cells #[.pointer (some ⟨mb, 0, none⟩)] 22)).alloc (.cells #[.pointer (some ⟨rb, 0, none⟩)] 48)).heap[w1.heap.size]? = some (.cells #[.pointer (some ⟨mb, 0, none⟩)] 22 (0, 0)) := (Below.heap_alloc _ _ _ (by simp)).trans (heap_alloc_new w1 _)
  have z1 : ((w1.alloc (.cells #[.pointer (some ⟨mb, 0, none⟩)] 22)).alloc (.cells #[.pointer (some ⟨rb, 0, none⟩)] 48)).heap[w1.heap.size + 1]? = some (.cells #[.pointer (some ⟨rb, 0, none⟩)] 48 (0, 0)) := by have := heap_alloc_new (w1.alloc (.cells #[.pointer (some ⟨mb, 0, none⟩)] 22)) (.cells #[.pointer (some ⟨rb, 0, none⟩)] 48); simpa using this
  have c0 := cell1 z0
  have HSZ := hide (And.intro hsz HW.out.2.2.1)
  have HX := hide (And.intro k0 (And.intro x0 (And.intro x1 (And.intro xs (And.intro hmb (And.intro hrb (And.intro hm1 (And.intro hr1 (And.intro k1 (And.intro k2 (And.intro z0 z1)))))))))))
  clear k0 x0 x1 xs hmb hrb hm1 hr1 k1 k2 z0 z1 hsz HW
  gi_wp2_with fail
  generalize (w1.alloc (.cells #[.pointer (some ⟨mb, 0, none⟩)] 22)).alloc (.cells #[.pointer (some ⟨rb, 0, none⟩)] 48) = w2 at *
  refine ⟨trivial, (callsIn_wide.2 (all_any w2 (some ⟨mb, 0, none⟩))).mono ?_⟩
  rintro e w3 ⟨rfl, hA, k3⟩
  have c0' : w3.cell? ⟨w1.heap.size, 0, none⟩ = some (.pointer (some ⟨mb, 0, none⟩)) := cell1 ((k3.block _ (blk_lt HX.out.2.2.2.2.2.2.2.2.2.2.1) (fun h => h)).trans HX.out.2.2.2.2.2.2.2.2.2.2.1)
  have HA := hide (And.intro hA k3)
  clear hA k3 c0
  gi_wp2_with fail
  refine ⟨trivial, (callsIn_wide.2 (between_any w3 (some ⟨mb, 0, none⟩) lo hi)).mono ?_⟩
  rintro e w4 ⟨B1, B2, rfl, hb, hb1, hb2, hB1, hB2, k4⟩
  have nf : ∀ W : World, (binOp .eql 27 (.func (.func 82) #[] #[.pointer (some ⟨w2.heap.size, 0, none⟩)]) .nilFunc).run Try.prog W = .ok (.bool false) W := fun W => by rfl
  have nf2 : ∀ W : World, (binOp .eql 27 (.func (.func 86) #[] #[.pointer (some ⟨w3.heap.size, 0, none⟩), .pointer (some ⟨B1, 0, none⟩), .pointer (some ⟨B2, 0, none⟩)]) .nilFunc).run Try.prog W = .ok (.bool false) W := fun W => by rfl
  have HL4 : Hid (La w4 [w.heap.size, B1, B2] w.heap.size (w.heap.size + 1) w1.heap.size (w1.heap.size + 1) mb rb w0.heap.size w2.heap.size w3.heap.size B1 B2 more lo hi t t.xs ∧ Below w.heap.size w w4 ∧ w.heap.size ≤ w0.heap.size ∧ w.heap.size ≤ mb ∧ w.heap.size ≤ rb) := hide (by
    obtain ⟨k0, x0, x1, xs, hmb, hrb, hm1, hr1, k1, k2, z0, z1⟩ := HX.out
    obtain ⟨hA, k3⟩ := HA.out
    have s1 := k1.size; have s2 := k2.size; have s3 := k3.size; have s4 := k4.size
    have q4 := ((k1.andNu k2).andNu k3).andNu k4
    have q3 := (k2.andNu k3).andNu k4
    have q2 := k3.andNu k4
    refine ⟨⟨(q4.block _ (blk_lt x0) (fun h => h)).trans x0, (q4.block _ (blk_lt x1) (fun h => h)).trans x1, (q2.block _ (blk_lt z0) (fun h => h)).trans z0, (q2.block _ (blk_lt z1) (fun h => h)).trans z1, (k4.block _ (blk_lt hA) (fun h => h)).trans hA, hb, hb1, hb2, hm1.nu q3, ⟨vk, vv, hr1.nu q3, fun g hg hm => ?_, fun g hg hm => ?_⟩, fun b hbx => ?_, by simp, by simp, by simp, by omega⟩, (k0.andNu q4).toBelow, by omega, by omega, by omega⟩
    · have h1 := own_low hr1.ok hg; have h2 := own_lt hr1.ok hg
      simp at hm; rcases hm with h | h | h <;> omega
    · have h1 := own_low hr1.ov hg; have h2 := own_lt hr1.ov hg
      simp at hm; rcases hm with h | h | h <;> omega
    · have h0 := blk_lt x0
      have h1 := blk_lt hb1; have h2 := blk_lt hb2
      simp at hbx; rcases hbx with rfl | rfl | rfl <;> omega)
  clear HX HA hb hb1 hb2 hB1 hB2 k4 c0'
  obtain ⟨bR, ebR⟩ : ∃ b, w1.heap.size + 1 = b := ⟨_, rfl⟩
  rw [ebR] at HL4 ⊢
  obtain ⟨bM, ebM⟩ : ∃ b, w1.heap.size = b := ⟨_, rfl⟩
  rw [ebM] at HL4 ⊢
  obtain ⟨br, ebr⟩ : ∃ b, w.heap.size + 1 = b := ⟨_, rfl⟩
  rw [ebr] at HL4 ⊢
  obtain ⟨BA, eBA⟩ : ∃ b, w2.heap.size = b := ⟨_, rfl⟩
  rw [eBA] at HL4 nf ⊢
  obtain ⟨BB, eBB⟩ : ∃ b, w3.heap.size = b := ⟨_, rfl⟩
  rw [eBB] at HL4 nf2 ⊢
  obtain ⟨B, eB⟩ : ∃ b, w0.heap.size = b := ⟨_, rfl⟩
  rw [eB] at HL4
  obtain ⟨b1, eb1⟩ : ∃ b, w.heap.size = b := ⟨_, rfl⟩
  obtain ⟨bx, ebx⟩ : ∃ bx, [b1, B1, B2] = bx := ⟨_, rfl⟩
  have HL : Hid (La w4 bx b1 br bM bR mb rb B BA BB B1 B2 more lo hi t t.xs ∧ Below w.heap.size w w4 ∧ w.heap.size ≤ B ∧ w.heap.size ≤ mb ∧ w.heap.size ≤ rb ∧ w.heap.size ≤ b1 ∧ w.heap.size ≤ br) := hide ⟨by rw [← ebx, ← eb1]; exact HL4.out.1, HL4.out.2.1, HL4.out.2.2.1, HL4.out.2.2.2.1, HL4.out.2.2.2.2, by omega, by omega⟩
  have HBX := hide ebx
  rw [eb1]
  clear HL4 ebR ebM ebr eBA eBB eB eb1 ebx
  have cM := cell1 HL.out.1.m
  have cG := cell1 HL.out.1.g
  have P1 := put_any HL.out.1.mp more 7 (by have := HSZ.out; omega)
  gi_wp2_with fail
  clear nf nf2
  refine ⟨trivial, (callsIn_wide.2 P1).mono ?_⟩
  rintro e W1 ⟨rfl, m1, k1⟩
  obtain ⟨vk0, vv0, r0, hk0, hv0⟩ := HL.out.1.ro
  have S1 := HL.out.1.put m1 k1
  have r1 := r0.keepM HL.out.1.mp k1
  have P2 := rput_TN r1 HL.out.1.mp.srt S1.lo more 7 (by rw [T.xs_length]; have := HSZ.out; omega)
  have cR := cell1 S1.d
  have cG := cell1 S1.g
  have H1 := hide (And.intro S1 (And.intro r1 k1))
  have H0 := hide (And.intro r0 (And.intro hk0 hv0))
  clear P1 m1 k1 S1 r1 r0 hk0 hv0 cM
  gi_wp2_with fail
  refine ⟨trivial, (callsIn_wide.2 P2).mono ?_⟩
  rintro e W2 ⟨rfl, z2, k2⟩
  have S2 := H1.out.1.rput H1.out.2.1 H0.out.2.1 H0.out.2.2 z2 k2
  have B2' := pair_put HL.out.1 H0.out.1 H0.out.2.2 HL.out.2.2.1 HL.out.2.2.2.1 HL.out.2.2.2.2.1 H1.out.2.2 k2 HL.out.2.1 (Ls := []) (fun D hD => by cases hD)
  have D1 := del_any S2.mp gone (by rw [put_sz]; have := HSZ.out; split <;> omega)
  have cM := cell1 S2.m
  have H2 := hide (And.intro S2 B2'.1)
  clear P2 z2 k2 S2 B2' cR H1 H0
  gi_wp2_with fail
  refine ⟨trivial, (callsIn_wide.2 D1).mono ?_⟩
  rintro e W3 ⟨rfl, m3, k3⟩
  obtain ⟨vk2, vv2, r2, hk2, hv2⟩ := H2.out.1.ro
  have S3 := H2.out.1.put m3 k3
  have r3 := r2.keepM H2.out.1.mp k3
  have D2 := rdel_TN r3 H2.out.1.mp.srt S3.lo gone (by rw [T.xs_length, put_sz]; have := HSZ.out; split <;> omega)
  have cR := cell1 S3.d
  have H3 := hide (And.intro S3 (And.intro r3 (And.intro k3 (And.intro r2 (And.intro hk2 hv2)))))
  clear D1 m3 k3 S3 r3 r2 hk2 hv2 cM cG
  gi_wp2_with fail
  refine ⟨trivial, (callsIn_wide.2 D2).mono ?_⟩
  rintro e W4 ⟨rfl, z4, k4⟩
  have S4 := H3.out.1.rput H3.out.2.1 H3.out.2.2.2.2.1 H3.out.2.2.2.2.2 z4 k4
  have B4 := pair_put H2.out.1 H3.out.2.2.2.1 H3.out.2.2.2.2.2 HL.out.2.2.1 HL.out.2.2.2.1 HL.out.2.2.2.2.1 H3.out.2.2.1 k4 H2.out.2 (Ls := []) (fun D hD => by cases hD)
  have HI0 : Hid (∃ t, La W4 bx b1 br bM bR mb rb B BA BB B1 B2 more lo hi t t.xs ∧ t.sz ≤ S.length + 1 + 0 ∧ Below w.heap.size w W4 ∧ ([] : List Nat).Nodup ∧ ∀ D ∈ ([] : List Nat), w.heap.size ≤ D ∧ W4.heap[D]? = some (.deferred (some []))) := hide ⟨_, S4, by rw [del_sz, put_sz]; have := HSZ.out; split <;> split <;> omega, B4.1, List.nodup_nil, fun D hD => by cases hD⟩
  have HC : Hid (w.heap.size ≤ B ∧ w.heap.size ≤ mb ∧ w.heap.size ≤ rb ∧ w.heap.size ≤ b1 ∧ w.heap.size ≤ br ∧ S.length ≤ 17592186043904) := hide ⟨HL.out.2.2.1, HL.out.2.2.2.1, HL.out.2.2.2.2.1, HL.out.2.2.2.2.2.1, HL.out.2.2.2.2.2.2, HSZ.out.2⟩
  clear D2 z4 k4 S4 B4 cR H2 H3 HL HSZ
  gi_wp2_with fail
  refine wpIn_loop (LI w bx b1 br bM bR mb rb B BA BB B1 B2 more lo hi (S.length + 1)) liM (LI.of 0 [] (by omega) (by rfl) HI0.out) ?_
  rintro a V ⟨rd, Ls, f, hrd, rfl, hR⟩
  clear HI0
  by_cases hlt : rd < 2
  · obtain ⟨t, hS, hsz, hbel, hnd, hLs⟩ := hR.out
    have hltI : (rd : Int) < 2 := by omega
    have hld : decide ((rd : Int) < 2) = true := by simpa using hltI
    have cR := cell1 hS.d
    obtain ⟨vk0, vv0, r0, hk0, hv0⟩ := hS.ro
    have hl0 : t.xs.length ≤ 17592186043950 := by rw [T.xs_length]; have := HC.out.2.2.2.2.2; omega
    have RB := rbetween_anyN r0 order_0 lo hi (by omega)
    obtain ⟨L, hL⟩ : ∃ L, t.xs.filter (inB cmpI lo hi) = L := ⟨_, rfl⟩
    rw [hL] at RB
    have hLl : L.length ≤ 17592186043950 := by have h1 : L.length ≤ t.xs.length := by rw [← hL]; exact List.length_filter_le _ _
                                               omega
    have HR := hide (And.intro hS (And.intro hsz (And.intro hbel (And.intro hnd (And.intro hLs (And.intro r0 (And.intro hl0 (And.intro hL hLl))))))))
    have HLT := hide hlt
    clear hR hS hsz hbel hnd hLs r0 hk0 hv0 hlt hl0 hL hLl
    gi_wp2_with fail
    refine ⟨trivial, (callsIn_wide.2 RB).mono ?_⟩
    rintro e X1 ⟨vk, vv, rfl, ht2, k1⟩
    have hok := ht2.ok
    have hov := ht2.ov
    rw [kv_len] at hok
    rw [vv_len] at hov
    obtain ⟨adk, capk, ek⟩ := own_slice hok
    obtain ⟨adv, capv, ev⟩ := own_slice hov
    obtain ⟨N, hN⟩ : ∃ N, L.length = N := ⟨_, rfl⟩
    rw [hN] at ek ev
    subst ek ev
    have k2 : Kp Nu X1 ((X1.alloc (.cells #[.slice adk N capk] 47)).alloc (.cells #[.slice adv N capv] 47)) := (Kp.alloc X1 _ Nu).andAlloc _
    have z0 : ((X1.alloc (.cells #[.slice adk N capk] 47)).alloc (.cells #[.slice adv N capv] 47)).heap[X1.heap.size]? = some (.cells #[.slice adk N capk] 47 (0, 0)) := (Below.heap_alloc _ _ _ (by simp)).trans (heap_alloc_new X1 _)
    have z1 : ((X1.alloc (.cells #[.slice adk N capk] 47)).alloc (.cells #[.slice adv N capv] 47)).heap[X1.heap.size + 1]? = some (.cells #[.slice adv N capv] 47 (0, 0)) := by have := heap_alloc_new (X1.alloc (.cells #[.slice adk N capk] 47)) (.cells #[.slice adv N capv] 47); simpa using this
    have zs : ((X1.alloc (.cells #[.slice adk N capk] 47)).alloc (.cells #[.slice adv N capv] 47)).heap.size = X1.heap.size + 1 + 1 := by simp
    have H2 := hide (And.intro hok (And.intro hov (And.intro k1 (And.intro hN (And.intro k2 (And.intro z0 (And.intro z1 zs)))))))
    clear ht2 k1 hok hov hN k2 z0 z1 zs RB cR
    have nf : ∀ W : World, (binOp .eql 27 (.func (.func 86) #[] #[.pointer (some ⟨BB, 0, none⟩), .pointer (some ⟨B1, 0, none⟩), .pointer (some ⟨B2, 0, none⟩)]) .nilFunc).run Try.prog W = .ok (.bool false) W := fun W => by rfl
    have nf2 : ∀ W : World, (binOp .eql 27 (.func (.func 82) #[] #[.pointer (some ⟨BA, 0, none⟩)]) .nilFunc).run Try.prog W = .ok (.bool false) W := fun W => by rfl
    gi_wp2_with fail
    generalize (X1.alloc (.cells #[.slice adk N capk] 47)).alloc (.cells #[.slice adv N capv] 47) = w6 at *
    have k4 : Kp Nu w6 (w6.alloc (.cells #[.int .i64 0] 3)) := Kp.alloc w6 _ Nu
    have x4 : (w6.alloc (.cells #[.int .i64 0] 3)).heap[w6.heap.size]? = some (.cells #[.int .i64 0] 3 (0, 0)) := heap_alloc_new w6 _
    obtain ⟨bi, ebi⟩ : ∃ b, w6.heap.size = b := ⟨_, rfl⟩
    have e3 : X1.heap.size + 1 + 1 = bi := by have := H2.out.2.2.2.2.2.2.2; omega
    rw [e3]
    rw [ebi] at x4
    generalize w6.alloc (.cells #[.int .i64 0] 3) = w7 at *
    obtain ⟨b19, e19⟩ : ∃ b, X1.heap.size + 1 = b := ⟨_, rfl⟩
    obtain ⟨b18, e18⟩ : ∃ b, X1.heap.size = b := ⟨_, rfl⟩
    have H6 : Hid (La w6 bx b1 br bM bR mb rb B BA BB B1 B2 more lo hi t t.xs ∧ Below w.heap.size w w6 ∧ (∀ D ∈ Ls, w6.heap[D]? = some (.deferred (some []))) ∧ w6.heap[b18]? = some (.cells #[.slice adk N capk] 47 (0, 0)) ∧ w6.heap[b19]? = some (.cells #[.slice adv N capv] 47 (0, 0)) ∧ w6.ownsRow V.heap.size 3 1 (.slice adk N capk) L.length (kv L) ∧ w6.ownsRow V.heap.size 3 1 (.slice adv N capv) L.length (vvs L) ∧ L.length = N ∧ w6.heap.size ≤ bi ∧ w.heap.size ≤ bi) := hide (by
      obtain ⟨hok, hov, k1, hN, k2, z0, z1, zs⟩ := H2.out
      obtain ⟨hS, hsz, hbel, hnd, hLs, _⟩ := HR.out
      have q := k1.andNu k2
      have hb6 := ((Kp.of_below hbel).andNu q)
      refine ⟨hS.cc (Cc.nu q) q.size, hb6.toBelow, fun D hD => (q.block D (blk_lt (hLs D hD).2) (fun h => h)).trans (hLs D hD).2, by rw [← e18]; exact z0, by rw [← e19]; exact z1, (Cc.nu k2).own hok, (Cc.nu k2).own hov, hN, by omega, by have := hb6.size; omega⟩)
    rw [e19, e18]
    have S7 := H6.out.1.cc (Cc.nu k4) k4.size
    have SQ := between_q S7.mp S7.xB S7.x1 S7.x2 (by have := HR.out.2.2.2.2.2.2.1; rw [T.xs_length] at this; omega)
    rw [seg_filter S7.mp.srt lo hi, HR.out.2.2.2.2.2.2.2.1] at SQ
    have HJ0 : Hid (Jc w w6 bi Ls [] w7) := hide ⟨⟨Cc.nu k4, by simpa using x4, ((Kp.of_below H6.out.2.1).andNu k4).toBelow⟩, fun D hD => (k4.block D (blk_lt (H6.out.2.2.1 D hD)) (fun h => h)).trans (H6.out.2.2.1 D hD)⟩
    have HS7 : Hid (w.heap.size ≤ w7.heap.size ∧ ∀ D ∈ Ls, D < w7.heap.size) := hide ⟨HJ0.out.1.2.2.size, fun D hD => blk_lt (HJ0.out.2 D hD)⟩
    have HNL : Hid (Ls.Nodup ∧ (∀ D ∈ Ls, w.heap.size ≤ D) ∧ t.sz ≤ S.length + 1 + rd ∧ L.length ≤ 17592186043950 ∧ t.xs.length ≤ 17592186043950) := hide ⟨HR.out.2.2.2.1, fun D hD => (HR.out.2.2.2.2.1 D hD).1, HR.out.2.1, HR.out.2.2.2.2.2.2.2.2, HR.out.2.2.2.2.2.2.1⟩
    clear k4 x4 S7 HR H2 ebi e3 e19 e18 hltI hld nf
    refine range_q (gf := 86) rfl (enters_of Try.func86 (by kernel_rfl) rfl) SQ (Below.refl _ _) (fun _ => rfl)
      (Jc w w6 bi Ls) (fun _ _ _ => False)
      (Jc.own HS7.out.1 HS7.out.2) (fun c pre X Z row h hg hr => h) HJ0.out
      (fun x a' V' => Fr3 br b18 b19 bi x a') (fun x a' _ X Z row h hg hr => h)
      ?as0 ?bo ?dn ?st
    case as0 =>
      rintro l' pre x V' R hI hR
      have HI := hide hI
      clear hI SQ
      gi_wp2
      exact hR _ _ (kf_nu _ (Kp.refl _ _)) (kc_nu (Kp.refl _ _)) HI.out (Fr3.of (by rfl))
    case bo =>
      rintro l' pre x a' V' hl' hq hJ ⟨g, rfl⟩ hp
      obtain ⟨h1, h2, h3, h4, h5, h6, h7, h8, h9, h10⟩ := H6.out
      exact late_b3 h9 h10 h1.mp.lt h4 h5 h6 h7 h8 (by have := HNL.out.2.2.2.1; omega) hp hJ _
    case st =>
      rintro D c pre V' hD hpre h hK'
      exact h.elim
    case dn =>
      rintro D ys V' hD rfl hJ hK'
      have HJ := hide (And.intro hJ (And.intro hD hK'))
      clear hJ hD hK' SQ HJ0
      gi_wp2_with fail
      have k8 : Kp Nu V' (V'.alloc (.cells #[.int .i64 0] 3)) := Kp.alloc V' _ Nu
      have x8 : (V'.alloc (.cells #[.int .i64 0] 3)).heap[V'.heap.size]? = some (.cells #[.int .i64 0] 3 (0, 0)) := heap_alloc_new V' _
      obtain ⟨bj, ebj⟩ : ∃ b, V'.heap.size = b := ⟨_, rfl⟩
      rw [ebj] at x8 ⊢
      generalize V'.alloc (.cells #[.int .i64 0] 3) = w8 at *
      have H8 : Hid (La V' bx b1 br bM bR mb rb B BA BB B1 B2 more lo hi t t.xs ∧ Below w.heap.size w V' ∧ (∀ D' ∈ D :: Ls, w.heap.size ≤ D' ∧ V'.heap[D']? = some (.deferred (some []))) ∧ (D :: Ls).Nodup ∧ V'.heap.size ≤ bj ∧ w.heap.size ≤ bj ∧ V'.heap[bi]? = some (.cells #[.int .i64 (ys.length : Int)] 3 (0, 0)) ∧ V'.heap[b18]? = some (.cells #[.slice adk N capk] 47 (0, 0)) ∧ ys.length = N) := hide (by
        obtain ⟨hJ, hD, hK⟩ := HJ.out
        have hsV := hJ.1.2.2.size
        obtain ⟨h1, h2, h3, h4, h5, h6, h7, h8, h9, h10⟩ := H6.out
        have hcs : w6.heap.size ≤ V'.heap.size := by have := blk_lt hJ.1.2.1; omega
        refine ⟨h1.cc hJ.1.1 hcs, hJ.1.2.2, fun D' hD' => ?_, List.nodup_cons.2 ⟨fun hm => by have := HS7.out.2 D hm; omega, HNL.out.1⟩, by omega, by omega, hJ.1.2.1, hJ.1.1 _ _ _ _ h4, h8⟩
        rcases List.mem_cons.1 hD' with rfl | hD'
        · exact ⟨by have := HS7.out.1; omega, hK⟩
        · exact ⟨HNL.out.2.1 D' hD', hJ.2 D' hD'⟩)
      have S8 := H8.out.1.cc (Cc.nu k8) k8.size
      have SQ := all_q S8.mp S8.xA (by have := HNL.out.2.2.2.2; rw [T.xs_length] at this; omega)
      have HJ1 : Hid (Jc w V' bj (D :: Ls) [] w8) := hide ⟨⟨Cc.nu k8, by simpa using x8, ((Kp.of_below H8.out.2.1).andNu k8).toBelow⟩, fun D' hD' => (k8.block D' (blk_lt (H8.out.2.2.1 D' hD').2) (fun h => h)).trans (H8.out.2.2.1 D' hD').2⟩
      have HS8 : Hid (w.heap.size ≤ w8.heap.size ∧ ∀ D' ∈ D :: Ls, D' < w8.heap.size) := hide ⟨HJ1.out.1.2.2.size, fun D' hD' => blk_lt (HJ1.out.2 D' hD')⟩
      clear k8 x8 S8 HJ H6 HS7 ebj nf2
      refine range_q (gf := 82) rfl (enters_of Try.func82 (by kernel_rfl) rfl) SQ (Below.refl _ _) (fun _ => rfl)
        (Jc w V' bj (D :: Ls)) (fun _ _ _ => False)
        (Jc.own HS8.out.1 HS8.out.2) (fun c pre X Z row h hg hr => h) HJ1.out
        (fun x a' V' => Fr5 br bR bj x a') (fun x a' _ X Z row h hg hr => h)
        ?as0 ?bo ?dn ?st
      case as0 =>
        rintro l' pre x V'' R hI hR
        have HI := hide hI
        clear hI SQ
        gi_wp2
        exact hR _ _ (kf_nu _ (Kp.refl _ _)) (kc_nu (Kp.refl _ _)) HI.out (Fr5.of (by rfl))
      case bo =>
        rintro l' pre x a' V'' hl' hq hJ ⟨g, rfl⟩ hp
        obtain ⟨h1, h2, h3, h4, h5, h6, h7, h8⟩ := H8.out
        obtain ⟨vk, vv, r, _, _⟩ := h1.ro
        exact late_b5 h5 h6 h1.mp.lt h1.d r rfl HNL.out.2.2.2.2 hp hJ _
      case st =>
        rintro D c pre V' hD hpre h hK'
        exact h.elim
      case dn =>
        rintro D2 ys2 V2 hD2 hys2 hJ hK'
        subst hys2
        have HJ := hide (And.intro hJ (And.intro hD2 hK'))
        have H9 : Hid (La V2 bx b1 br bM bR mb rb B BA BB B1 B2 more lo hi t t.xs ∧ Below w.heap.size w V2 ∧ (∀ D' ∈ D2 :: D :: Ls, w.heap.size ≤ D' ∧ V2.heap[D']? = some (.deferred (some []))) ∧ (D2 :: D :: Ls).Nodup) := hide (by
          obtain ⟨h1, h2, h3, h4, h5, h6, h7, h8⟩ := H8.out
          have hcs : V'.heap.size ≤ V2.heap.size := by have := blk_lt hJ.1.2.1; omega
          refine ⟨h1.cc hJ.1.1 hcs, hJ.1.2.2, fun D' hD' => ?_, List.nodup_cons.2 ⟨fun hm => by have := HS8.out.2 D2 hm; omega, h4⟩⟩
          rcases List.mem_cons.1 hD' with rfl | hD'
          · exact ⟨by have := HS8.out.1; omega, hK'⟩
          · exact ⟨(h3 D' hD').1, hJ.2 D' hD'⟩)
        have ci := cell1 (hJ.1.1 _ _ _ _ H8.out.2.2.2.2.2.2.1)
        have cj := cell1 hJ.1.2.1
        have ck := cell1 (hJ.1.1 _ _ _ _ H8.out.2.2.2.2.2.2.2.1)
        rw [H8.out.2.2.2.2.2.2.2.2] at ci
        clear hJ hD2 hK' SQ HJ1 HJ
        have cR := cell1 H9.out.1.d
        have cG := cell1 H9.out.1.g
        obtain ⟨vk, vv, r9, hk9, hv9⟩ := H9.out.1.ro
        obtain ⟨adm, capm, em⟩ := own_slice r9.ok
        obtain ⟨_, d1, _⟩ := cell3 r9.blk
        have eql : t.xs.length = t.sz := T.xs_length t
        rw [eql] at cj em
        rw [em] at d1
        have hb1 : ((N : Int) == (N : Int)) = true := by simp
        have hb2 : ((t.sz : Int) == (t.sz : Int)) = true := by simp
        gi_wp2_with fail
        gi_quiet (fail)
        obtain ⟨V3, eV3⟩ : ∃ V3, V2.drewN nq = V3 := ⟨_, rfl⟩
        have kq : Kp Nu V2 V3 := by rw [← eV3]; exact kp_dn V2 nq
        rw [eV3]
        have H10 : Hid (La V3 bx b1 br bM bR mb rb B BA BB B1 B2 more lo hi t t.xs ∧ Below w.heap.size w V3 ∧ (∀ D' ∈ D2 :: D :: Ls, w.heap.size ≤ D' ∧ V3.heap[D']? = some (.deferred (some []))) ∧ (D2 :: D :: Ls).Nodup) := hide ⟨H9.out.1.cc (Cc.nu kq) kq.size, ((Kp.of_below H9.out.2.1).andNu kq).toBelow, fun D' hD' => ⟨(H9.out.2.2.1 D' hD').1, (kq.block D' (blk_lt (H9.out.2.2.1 D' hD').2) (fun h => h)).trans (H9.out.2.2.1 D' hD').2⟩, H9.out.2.2.2⟩
        clear ci cj ck cR cG r9 hk9 hv9 em d1 eql H9 H8 kq eV3 hb1 hb2
        have cM := cell1 H10.out.1.m
        have cG := cell1 H10.out.1.g
        have HZ : Hid (t.sz ≤ 17592186043950 ∧ t.sz ≤ S.length + 1 + rd) := hide ⟨by have := HNL.out.2.2.2.2; rw [T.xs_length] at this; exact this, HNL.out.2.2.1⟩
        have P1 := put_any H10.out.1.mp (wrap64 (more + 1)) 8 (by have := HZ.out.1; omega)
        gi_wp2_with fail
        refine ⟨trivial, (callsIn_wide.2 P1).mono ?_⟩
        rintro e W1 ⟨rfl, m1, k1⟩
        obtain ⟨vk0, vv0, r0, hk0, hv0⟩ := H10.out.1.ro
        have S1 := H10.out.1.put m1 k1
        have r1 := r0.keepM H10.out.1.mp k1
        have P2 := rput_TN r1 H10.out.1.mp.srt S1.lo (wrap64 (more + 1)) 8 (by rw [T.xs_length]; have := HZ.out.1; omega)
        have cR := cell1 S1.d
        have cG := cell1 S1.g
        have H1 := hide (And.intro S1 (And.intro r1 k1))
        have H0 := hide (And.intro r0 (And.intro hk0 hv0))
        clear P1 m1 k1 S1 r1 r0 hk0 hv0 cM
        gi_wp2_with fail
        refine ⟨trivial, (callsIn_wide.2 P2).mono ?_⟩
        rintro e W2 ⟨rfl, z2, k2⟩
        have S2 := H1.out.1.rput H1.out.2.1 H0.out.2.1 H0.out.2.2 z2 k2
        have B2' := pair_put H10.out.1 H0.out.1 H0.out.2.2 HC.out.1 HC.out.2.1 HC.out.2.2.1 H1.out.2.2 k2 H10.out.2.1 (Ls := D2 :: D :: Ls) (fun D' hD' => (H10.out.2.2.1 D' hD').2)
        have HN : Hid (∃ t, La W2 bx b1 br bM bR mb rb B BA BB B1 B2 more lo hi t t.xs ∧ t.sz ≤ S.length + 1 + (rd + 1) ∧ Below w.heap.size w W2 ∧ (D2 :: D :: Ls).Nodup ∧ ∀ D' ∈ D2 :: D :: Ls, w.heap.size ≤ D' ∧ W2.heap[D']? = some (.deferred (some []))) := hide ⟨_, S2, by rw [put_sz]; have := HZ.out.2; split <;> omega, B2'.1, H10.out.2.2.2, fun D' hD' => ⟨(H10.out.2.2.1 D' hD').1, B2'.2 D' hD'⟩⟩
        have wr : wrap64 ((rd : Int) + 1) = (rd : Int) + 1 := by have := HLT.out; unfold wrap64; omega
        clear P2 z2 k2 S2 B2' cR cG H1 H0 H10
        gi_wp2_with fail
        refine ⟨LI.of (rd + 1) (D2 :: D :: Ls) (by have := HLT.out; omega) (by rfl) HN.out, ?_⟩
        exact mea2 HLT.out

  · obtain ⟨t, hS, hsz, hbel, hnd, hLs⟩ := hR.out
    have hrI : ¬ (rd : Int) < 2 := by omega
    have hrd' : decide ((rd : Int) < 2) = false := by simpa using hrI
    have kA : Kp Nu V (V.alloc (.cells #[.int .i64 0] 3)) := Kp.alloc V _ Nu
    have xA : (V.alloc (.cells #[.int .i64 0] 3)).heap[V.heap.size]? = some (.cells #[.int .i64 0] 3 (0, 0)) := heap_alloc_new V _
    have szA : (V.alloc (.cells #[.int .i64 0] 3)).heap.size = V.heap.size + 1 := by simp
    have nf : ∀ W : World, (binOp .eql 27 (.func (.func 82) #[] #[.pointer (some ⟨BA, 0, none⟩)]) .nilFunc).run Try.prog W = .ok (.bool false) W := fun W => by rfl
    have HR := hide (And.intro hS (And.intro hsz (And.intro hbel (And.intro hnd (And.intro hLs (And.intro kA (And.intro xA szA)))))))
    have HRD := hide hrd
    clear hR hS hsz hbel hnd hLs kA xA szA hlt hrd
    gi_wp2_with fail
    obtain ⟨bt, ebt⟩ : ∃ b, V.heap.size = b := ⟨_, rfl⟩
    rw [ebt]
    generalize V.alloc (.cells #[.int .i64 0] 3) = w5 at *
    clear nf hrI hrd'
    have S5 : La w5 (bt :: bx) b1 br bM bR mb rb B BA BB B1 B2 more lo hi t t.xs := HR.out.1.more (Cc.nu HR.out.2.2.2.2.2.1) (by have := HR.out.2.2.2.2.2.2.2; omega) ebt
    have hszt : t.sz ≤ 17592186043940 := by have h1 := HR.out.2.1; have h2 := HC.out.2.2.2.2.2; have h3 := HRD.out; omega
    have SQ := all_l S5.mp S5.xA (by omega)
    have HJ0 : Hid (LJ w bx b1 br bM bR mb rb B BA BB B1 B2 more lo hi bt (S.length + 3) Ls [] w5) := hide ⟨t, 0, S5, by rw [← ebt]; exact HR.out.2.2.2.2.2.2.1, by simp, by have h1 := HR.out.2.1; have h3 := HRD.out; simp; omega, ((Kp.of_below HR.out.2.2.1).andNu HR.out.2.2.2.2.2.1).toBelow, fun D hD => (HR.out.2.2.2.2.2.1.block D (blk_lt (HR.out.2.2.2.2.1 D hD).2) (fun h => h)).trans (HR.out.2.2.2.2.1 D hD).2⟩
    have HS5 : Hid (w.heap.size ≤ w5.heap.size ∧ (∀ D ∈ Ls, D < w5.heap.size) ∧ w.heap.size ≤ bt ∧ bt ≠ b1 ∧ bt ≠ B1 ∧ bt ≠ B2 ∧ Ls.Nodup ∧ (∀ D ∈ Ls, w.heap.size ≤ D) ∧ t.xs.length ≤ 17592186043940 ∧ S.length + 3 ≤ 17592186043950) := hide (by
      obtain ⟨hS, hsz, hbel, hnd, hLs, kA, xA, szA⟩ := HR.out
      have hb := hbel.size
      have n1 := hS.bl _ hS.i1; have n2 := hS.bl _ hS.i2; have n3 := hS.bl _ hS.i3
      exact ⟨by omega, fun D hD => by have := blk_lt (hLs D hD).2; omega, by omega, by omega, by omega, by omega, hnd, fun D hD => (hLs D hD).1, by rw [T.xs_length]; exact hszt, by have := HC.out.2.2.2.2.2; omega⟩)
    clear S5 hszt HR HRD ebt
    refine range_l (gf := 82) rfl (enters_of Try.func82 (by kernel_rfl) rfl) SQ (Below.refl _ _) (fun _ => rfl)
      (LJ w bx b1 br bM bR mb rb B BA BB B1 B2 more lo hi bt (S.length + 3) Ls) (fun _ _ _ => False)
      (LJ.own HS5.out.1 HS5.out.2.1) (fun c pre X Z row h hg hr => h) HJ0.out
      (fun pre W1 h => by obtain ⟨t2, told, h1, h2, h3, h4, _⟩ := h; exact ⟨t2, h1.mp, by have := HS5.out.2.2.2.2.2.2.2.2.2; omega⟩)
      (fun pre x W1 h hp hg => by obtain ⟨t2, told, h1, h2, h3, h4⟩ := h; exact ⟨t2, told, h1, h2, by simp; omega, h4⟩)
      (fun x a' V' => Fr7 b1 br bM bR bt x a') (fun x a' _ X Z row h hg hr => h)
      ?as0 ?bo ?dn ?st
    case as0 =>
      rintro l' pre x V' R hI hv hR
      have HI := hide hI
      clear hI hv SQ
      gi_wp2
      exact hR _ _ (kf_nu _ (Kp.refl _ _)) (kc_nu (Kp.refl _ _)) HI.out (Fr7.of (by rfl))
    case bo =>
      rintro l' pre x a' V' hl' hq hJ ⟨g, rfl⟩ hp
      obtain ⟨h1, h2, h3, n1, n2, n3, _, _, h4, h5⟩ := HS5.out
      exact late_body HC.out.1 h3 HC.out.2.1 HC.out.2.2.1 h5 (by have := hp.length_le; simp at this; omega) n1 n2 n3 hJ _
    case st =>
      rintro D c pre V' hD hpre h hK'
      exact h.elim
    case dn =>
      rintro D ys V2 hD hys hJ hK'
      obtain ⟨t2, told, h1, h2, h3, h4, h5, h6⟩ := hJ
      have hN2 : t2.sz ≤ 17592186043960 := by have := HS5.out.2.2.2.2.2.2.2.2.2; omega
      have cM := cell1 h1.m
      have CO := collect59 h1.mp (by omega)
      have H2 : Hid (La V2 (bt :: bx) b1 br bM bR mb rb B BA BB B1 B2 more lo hi t2 t2.xs ∧ Below w.heap.size w V2 ∧ (∀ D' ∈ D :: Ls, w.heap.size ≤ D' ∧ V2.heap[D']? = some (.deferred (some []))) ∧ (D :: Ls).Nodup ∧ t2.sz ≤ 17592186043960) := hide (by
        refine ⟨h1, h5, fun D' hD' => ?_, List.nodup_cons.2 ⟨fun hm => by have := HS5.out.2.1 D hm; omega, HS5.out.2.2.2.2.2.2.1⟩, hN2⟩
        rcases List.mem_cons.1 hD' with rfl | hD'
        · exact ⟨by have := HS5.out.1; omega, hK'⟩
        · exact ⟨HS5.out.2.2.2.2.2.2.2.1 D' hD', h6 D' hD'⟩)
      clear h1 h2 h3 h4 h5 h6 hK' hD hys SQ HJ0 hN2
      gi_wp2_with fail
      refine ⟨trivial, (callsIn_wide.2 CO).mono ?_⟩
      rintro e X1 ⟨gk, gv, rfl, hok, hov, k1⟩
      have S1 := H2.out.1.cc (Cc.nu k1) k1.size
      clear CO cM
      obtain ⟨vk, vv, r1, _, _⟩ := S1.ro
      have hxl : t2.xs.length = t2.sz := T.xs_length t2
      obtain ⟨adk, capk, ek⟩ := own_slice r1.ok
      obtain ⟨adv, capv, ev⟩ := own_slice r1.ov
      have wk1 := wi_k hok hxl
      have wv1 := wi_v hov hxl
      have wk2 := wi_k r1.ok rfl
      have wv2 := wi_v r1.ov rfl
      rw [ek] at wk2
      rw [ev] at wv2
      have hN2 := H2.out.2.2.2.2
      have hlk : (t2.xs.map Prod.fst).length ≤ 17592186044000 := by rw [List.length_map, hxl]; omega
      have hlv : (t2.xs.map Prod.snd).length ≤ 17592186044000 := by rw [List.length_map, hxl]; omega
      rw [hxl] at ek ev wk2 wv2
      have LA := fun W (k : Kp Nu X1 W) => len_any (S1.mp.nu k)
      obtain ⟨N, eN⟩ : ∃ N, t2.sz = N := ⟨_, rfl⟩
      rw [eN] at ek ev wk1 wk2 wv1 wv2 LA ⊢
      have SK : ∀ n, Calls Try.prog 44 #[.slice (some ⟨gk, 0, none⟩) N N, .slice adk N capk] (X1.drewN n) fun e w' => e = .returned (.bool true) ∧ ∃ m, w' = (X1.drewN n).drewN m := fun n => same44 (X1.drewN n) _ _ _ (wk1.nu (kp_dn X1 n)) (wk2.nu (kp_dn X1 n)) hlk
      have SV : ∀ n, Calls Try.prog 44 #[.slice (some ⟨gv, 0, none⟩) N N, .slice adv N capv] (X1.drewN n) fun e w' => e = .returned (.bool true) ∧ ∃ m, w' = (X1.drewN n).drewN m := fun n => same44 (X1.drewN n) _ _ _ (wv1.nu (kp_dn X1 n)) (wv2.nu (kp_dn X1 n)) hlv
      have SL : ∀ n, Calls Try.prog 21 #[.pointer (some ⟨mb, 0, none⟩)] (X1.drewN n) fun e w' => e = .returned (.int .i64 (N : Int)) ∧ w' = X1.drewN n := fun n => LA _ (kp_dn X1 n)
      have FA : ∀ W, Kp Nu X1 W → W.cell? ⟨bM, 0, none⟩ = some (.pointer (some ⟨mb, 0, none⟩)) ∧ W.cell? ⟨bR, 0, none⟩ = some (.pointer (some ⟨rb, 0, none⟩)) ∧ W.cell? ⟨rb, 1, none⟩ = some (.slice adk N capk) ∧ W.cell? ⟨rb, 2, none⟩ = some (.slice adv N capv) ∧ W.frozen? ⟨br, 0, none⟩ = false ∧ W.cell? ⟨br, 0, none⟩ = some (.bool false) := fun W k => by
        have z := S1.cc (Cc.nu k) k.size
        have z3 := (k.block _ (blk_lt r1.blk) (fun h => h)).trans r1.blk
        obtain ⟨_, d1, d2⟩ := cell3 z3
        rw [ek] at d1
        rw [ev] at d2
        exact ⟨cell1 z.m, cell1 z.d, d1, d2, free3 z.r 0, cell1 z.r⟩
      have HE : Hid (∀ W, Kp Nu X1 W → (∀ D' ∈ D :: Ls, w.heap.size ≤ D' ∧ (W.setCell ⟨br, 0, none⟩ (.bool true)).heap[D']? = some (.deferred (some []))) ∧ ∀ Z, Cc (W.setCell ⟨br, 0, none⟩ (.bool true)) Z → Kp (fun k => w.heap.size ≤ k) (W.setCell ⟨br, 0, none⟩ (.bool true)) Z → Z.cell? ⟨br, 0, none⟩ = some (.bool true) ∧ Kp Nu w Z) := hide (fun W k => by
        have z := S1.cc (Cc.nu k) k.size
        have kk := k1.andNu k
        refine ⟨fun D' hD' => ?_, fun Z hc hk => ⟨cell1 (hc _ _ _ _ (by rw [set3 z.r]; rfl)), ?_⟩⟩
        · obtain ⟨g1, g2⟩ := H2.out.2.2.1 D' hD'
          have g3 := (kk.block D' (blk_lt g2) (fun h => h)).trans g2
          exact ⟨g1, (Below.heap_setCell _ ⟨br, 0, none⟩ _ D' (fun e => by have e : D' = br := e; rw [e, z.r] at g3; cases g3)).trans g3⟩
        · exact ((((Kp.of_below H2.out.2.1).andNu kk)).andSet ⟨br, 0, none⟩ (.bool true) (.inl HC.out.2.2.2.2.1)).trans hk (fun i hi e => by have e : w.heap.size ≤ i := e; omega))
      have HND := hide H2.out.2.2.2.1
      obtain ⟨f1, f2, f3, f4, f5, f6⟩ := FA X1 (Kp.refl Nu X1)
      have HF := hide FA
      have b2 : ((N : Int) == (N : Int)) = true := by simp
      clear wk1 wk2 wv1 wv2 hlk hlv LA FA r1 S1 H2 hok hov k1 ek ev eN hxl hN2 HS5 HC f5 f6
      gi_wp2_with fail
      refine Qr.quiet_tail 24 (by kernel_rfl) mixed (by kernel_rfl) ?_
      simp only [List.take_succ_cons, List.take_zero, List.drop_succ_cons, List.drop_zero]
      iterate 5 (gi_big_quiet_step (fail))
      refine BigFrame.wpQuietIn_want (fun _ _ _ _ => trivial) rfl ?_
      intro K hK
      gi_big_quiet_op
      gi_big_quiet_call (exact CallsIn.quiet_of (callsIn_wide.2 (SK _)))
      iterate 6 (gi_big_quiet_step (fail))
      refine BigFrame.wpQuietIn_want (fun _ _ _ _ => trivial) rfl ?_
      intro K hK
      gi_big_quiet_op
      gi_big_quiet_call (exact CallsIn.quiet_of (callsIn_wide.2 (SV _)))
      iterate 3 (gi_big_quiet_step (fail))
      refine BigFrame.wpQuietIn_want (fun _ _ _ _ => trivial) rfl ?_
      intro K hK
      gi_big_quiet_op
      gi_big_quiet_call (exact CallsIn.quiet_of_same (callsIn_wide.2 (SL _)))
      iterate 7 (gi_big_quiet_step (fail))
      refine wpQuietIn_nil ?_
      rintro _ ⟨nq, rfl⟩
      obtain ⟨_, _, _, _, f5, f6⟩ := HF.out (X1.drewN nq) (kp_dn X1 nq)
      obtain ⟨g1, g2⟩ := HE.out (X1.drewN nq) (kp_dn X1 nq)
      generalize X1.drewN nq = X2 at *
      gi_wp2_with fail
      refine leaves_all (D :: Ls) _ HND.out g1 (fun Z hc hk => ?_)
      obtain ⟨z1, z2⟩ := g2 Z hc hk
      refine ⟨.bool true, ?_, rfl, z2⟩
      simp [results, Try.results12, go_sem, z1]
end Go.Proofs.Ytchealdgncgjoaa.StI
