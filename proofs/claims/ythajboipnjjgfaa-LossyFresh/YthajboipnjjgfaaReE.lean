import Derived.Test.YthajboipnjjgfaaReD
namespace Go.Proofs.Ythajboipnjjgfaa.Ly
open Go.RowKit Go.Maps
set_option linter.unusedVariables false

section
variable {B p : Nat} {w w' : World} {there : Bool} {room : Int} {bs : Nat → Bool} {v : Value} {c : Ct} {H : List Hg}

set_option maxHeartbeats 1000000 in
theorem refDel_bar (h : Rn B w p true room bs v c H) (hH : (H.length : Int) ≤ 1599289640400) (i j : Nat) (keep : Bool) {g : Hg} (hj : (pls 0 H)[i]? = some j) (hg : H[j]? = some g) (hbar : bs (g.f.toNat * 256 + g.t.toNat) = true) : Calls Try.prog 70 #[.pointer (some ⟨p, 0, none⟩), .int .i64 (i : Int), .bool keep] w fun e w' => e = .returned (.tuple #[.agg #[.int .i64 0, .int .i64 0, .slice none 0 0, .bool false], .int .i64 53]) ∧ Kp Nu w w' := by
  have K1 := Kp.alloc w (.cells #[.int .i64 0, .int .i64 0, .slice none 0 0, .bool false] 120) Nu
  have AT := at_ok (h.nu K1) hH i j hj
  have hltN : j < H.length := (List.getElem?_eq_some_iff.1 hg).1
  have hlt : (j : Int) < (H.length : Int) := by omega
  have hj0 : (0 : Int) ≤ (j : Int) := by omega
  have HG := hide hg
  have HH := hide h
  have hD := h.dat g (List.mem_of_getElem? hg)
  obtain ⟨k0, cap0, hgd⟩ := hD.slice
  have f0 : 0 ≤ g.f := hD.f0
  have f1 : g.f < 256 := hD.f1
  have t0 : 0 ≤ g.t := hD.t0
  have t1 : g.t < 256 := hD.t1
  have HGD : Hid (g.d = .slice (some ⟨k0, 0, none⟩) g.ys.length cap0) := hgd
  have HB := hide hbar
  have HPW := hide h.lt
  clear hj hg h hgd hD hbar
  go_enter Try.func70, Try.ntmps70
  go_wp2_with fail
  refine AT.mono ?_; rintro e w2 ⟨rfl, hk⟩
  have kk := K1.andNu hk
  have hR := HH.out.nu kk
  have c2 := hR.c2
  obtain ⟨r, cap, hv, y0, y1, y2, y3⟩ := hrow_at hR.own HG.out
  rw [hv] at c2
  have hgd : g.d = .slice (some ⟨k0, 0, none⟩) g.ys.length cap0 := HGD.out
  rw [hgd] at y2
  have hR3 := hR.nu (Kp.alloc w2 (.cells #[.int .i64 g.f, .int .i64 g.t, .slice (some ⟨k0, 0, none⟩) g.ys.length cap0, .bool g.gone] 120) Nu)
  have cb := hR3.cb (bidx f0 f1 t0 t1)
  rw [HB.out, ← Nat.add_assoc] at cb
  have HBX := hide (new_at w _ hk)
  have HK2 := hide kk
  have HS2 : Hid (w.heap.size < w2.heap.size) := blk_lt HBX.out
  have HRV : Hid (v.ownBlock = some r) := by rw [hv]; rfl
  have HV := hide hv
  have HRL : Hid (r < w.heap.size) := own_lt HH.out.own HRV.out
  clear hk AT K1 hR hv hgd hR3 kk
  obtain ⟨M, hM⟩ : ∃ M, H.length = M := ⟨_, rfl⟩
  have HM := hide hM
  obtain ⟨M2, hM2⟩ : ∃ M2, g.ys.length = M2 := ⟨_, rfl⟩
  have HM2 := hide hM2
  rw [hM] at c2 hlt
  rw [hM2] at y2 cb
  clear hM hM2
  go_wp2_with fail
  go_quiet (fail)
  obtain ⟨w3, hw3⟩ : ∃ w3, w3 = ((w2.alloc (.cells #[.int .i64 g.f, .int .i64 g.t, .slice (some ⟨k0, 0, none⟩) M2 cap0, .bool g.gone] 120)).drewN nq) := ⟨_, rfl⟩
  rw [← hw3]
  have K3 : Kp Nu w2 w3 := by rw [hw3]; exact (Kp.alloc w2 _ Nu).andNu (kp_drewN _ _)
  have hR4 : Rn B w3 p true room bs v c H := (HH.out.nu HK2.out).nu K3
  have bX : w3.heap[w.heap.size]? = some (.cells #[.int .i64 0, .int .i64 0, .slice none 0 0, .bool false] 120 (0, 0)) := (K3.block _ (blk_lt HBX.out) (fun h => h)).trans HBX.out
  have bY : w3.heap[w2.heap.size]? = some (.cells #[.int .i64 g.f, .int .i64 g.t, .slice (some ⟨k0, 0, none⟩) M2 cap0, .bool g.gone] 120 (0, 0)) := by rw [hw3]; exact heap_alloc_new w2 _
  have HK3 : Hid (Kp Nu w w3) := HK2.out.andNu K3
  clear hw3 K3 cb c2 y0 y1 y2 y3
  have hc2 := hR4.c2
  rw [HV.out, HM.out] at hc2
  obtain ⟨x0, x1, x2, x3⟩ := cell4 bX
  obtain ⟨z0, z1, z2, z3⟩ := cell4 bY
  have q0 := free3 bX 0
  have q1 := free3 bX 1
  have q2 := free3 bX 2
  have q3 := free3 bX 3
  have n1 : p ≠ w.heap.size := by have := HPW.out; omega
  have n2 : p ≠ w2.heap.size := by have := HPW.out; have := HS2.out; omega
  have n3 : w2.heap.size ≠ w.heap.size := by have := HS2.out; omega
  have n4 : r ≠ w.heap.size := by have := HRL.out; omega
  have n5 : r ≠ w2.heap.size := by have := HRL.out; have := HS2.out; omega
  have HR4 := hide hR4
  have HBXX := hide bX
  clear hR4 hc2 bX bY
  go_wp2
  refine bodyPost_ret (v := .tuple #[.agg #[.int .i64 0, .int .i64 0, .slice none 0 0, .bool false], .int .i64 53]) (by simp [results, Try.results70, go_sem, x0, x1, x2, x3]) rfl ⟨rfl, ?_⟩
  exact kp4 HK3.out (.inl (Nat.le_refl _)) _ _ _ _

set_option maxHeartbeats 1000000 in
theorem refDel_keep (h : Rn B w p true room bs v c H) (hH : (H.length : Int) ≤ 1599289640400) (hc : Far c) (i j : Nat) {g : Hg} (hj : (pls 0 H)[i]? = some j) (hg : H[j]? = some g) (hbar : bs (g.f.toNat * 256 + g.t.toNat) = false) : Calls Try.prog 70 #[.pointer (some ⟨p, 0, none⟩), .int .i64 (i : Int), .bool true] w fun e w' => e = .returned (.tuple #[.agg #[.int .i64 g.f, .int .i64 g.t, g.d, .bool g.gone], .int .i64 0]) ∧ Rn B w' p true room bs v { c with d := c.d + 1, c := c.c + 1 } H ∧ Fq p v w w' v := by
  have hd0 := hc.d0
  have hd1 : c.d ≤ 4611686018427387000 := hc.d1
  have hc0 := hc.c0
  have hc1 : c.c ≤ 4611686018427387000 := hc.c1
  clear hc
  have K1 := Kp.alloc w (.cells #[.int .i64 0, .int .i64 0, .slice none 0 0, .bool false] 120) Nu
  have AT := at_ok (h.nu K1) hH i j hj
  have hltN : j < H.length := (List.getElem?_eq_some_iff.1 hg).1
  have hlt : (j : Int) < (H.length : Int) := by omega
  have hj0 : (0 : Int) ≤ (j : Int) := by omega
  have HG := hide hg
  have HH := hide h
  have hD := h.dat g (List.mem_of_getElem? hg)
  obtain ⟨k0, cap0, hgd⟩ := hD.slice
  have f0 : 0 ≤ g.f := hD.f0
  have f1 : g.f < 256 := hD.f1
  have t0 : 0 ≤ g.t := hD.t0
  have t1 : g.t < 256 := hD.t1
  have HGD : Hid (g.d = .slice (some ⟨k0, 0, none⟩) g.ys.length cap0) := hgd
  have HB := hide hbar
  have HPW := hide h.lt
  clear hj hg h hgd hD hbar
  go_enter Try.func70, Try.ntmps70
  go_wp2_with fail
  refine AT.mono ?_; rintro e w2 ⟨rfl, hk⟩
  have kk := K1.andNu hk
  have hR := HH.out.nu kk
  have c2 := hR.c2
  obtain ⟨r, cap, hv, y0, y1, y2, y3⟩ := hrow_at hR.own HG.out
  rw [hv] at c2
  have hgd : g.d = .slice (some ⟨k0, 0, none⟩) g.ys.length cap0 := HGD.out
  rw [hgd] at y2
  have hR3 := hR.nu (Kp.alloc w2 (.cells #[.int .i64 g.f, .int .i64 g.t, .slice (some ⟨k0, 0, none⟩) g.ys.length cap0, .bool g.gone] 120) Nu)
  have cb := hR3.cb (bidx f0 f1 t0 t1)
  rw [HB.out, ← Nat.add_assoc] at cb
  have HBX := hide (new_at w _ hk)
  have HK2 := hide kk
  have HS2 : Hid (w.heap.size < w2.heap.size) := blk_lt HBX.out
  have HRV : Hid (v.ownBlock = some r) := by rw [hv]; rfl
  have HV := hide hv
  have HRL : Hid (r < w.heap.size) := own_lt HH.out.own HRV.out
  clear hk AT K1 hR hv hgd hR3 kk
  obtain ⟨M, hM⟩ : ∃ M, H.length = M := ⟨_, rfl⟩
  have HM := hide hM
  obtain ⟨M2, hM2⟩ : ∃ M2, g.ys.length = M2 := ⟨_, rfl⟩
  have HM2 := hide hM2
  rw [hM] at c2 hlt
  rw [hM2] at y2 cb
  clear hM hM2
  go_wp2_with fail
  go_quiet (fail)
  obtain ⟨w3, hw3⟩ : ∃ w3, w3 = ((w2.alloc (.cells #[.int .i64 g.f, .int .i64 g.t, .slice (some ⟨k0, 0, none⟩) M2 cap0, .bool g.gone] 120)).drewN nq) := ⟨_, rfl⟩
  rw [← hw3]
  have K3 : Kp Nu w2 w3 := by rw [hw3]; exact (Kp.alloc w2 _ Nu).andNu (kp_drewN _ _)
  have hR4 : Rn B w3 p true room bs v c H := (HH.out.nu HK2.out).nu K3
  have bX : w3.heap[w.heap.size]? = some (.cells #[.int .i64 0, .int .i64 0, .slice none 0 0, .bool false] 120 (0, 0)) := (K3.block _ (blk_lt HBX.out) (fun h => h)).trans HBX.out
  have bY : w3.heap[w2.heap.size]? = some (.cells #[.int .i64 g.f, .int .i64 g.t, .slice (some ⟨k0, 0, none⟩) M2 cap0, .bool g.gone] 120 (0, 0)) := by rw [hw3]; exact heap_alloc_new w2 _
  have HK3 : Hid (Kp Nu w w3) := HK2.out.andNu K3
  clear hw3 K3 cb c2 y0 y1 y2 y3
  have hc2 := hR4.c2
  rw [HV.out, HM.out] at hc2
  obtain ⟨x0, x1, x2, x3⟩ := cell4 bX
  obtain ⟨z0, z1, z2, z3⟩ := cell4 bY
  have q0 := free3 bX 0
  have q1 := free3 bX 1
  have q2 := free3 bX 2
  have q3 := free3 bX 3
  have n1 : p ≠ w.heap.size := by have := HPW.out; omega
  have n2 : p ≠ w2.heap.size := by have := HPW.out; have := HS2.out; omega
  have n3 : w2.heap.size ≠ w.heap.size := by have := HS2.out; omega
  have n4 : r ≠ w.heap.size := by have := HRL.out; omega
  have n5 : r ≠ w2.heap.size := by have := HRL.out; have := HS2.out; omega
  have HR4 := hide hR4
  have HBXX := hide bX
  have e2 : w3.cell? ⟨p, 65541, none⟩ = some (.int .i64 c.d) := hR4.cc (j := 2) rfl
  have e3 : w3.cell? ⟨p, 65542, none⟩ = some (.int .i64 c.c) := hR4.cc (j := 3) rfl
  have f2 := hR4.free 65541
  have f3 := hR4.free 65542
  clear hR4 hc2 bX bY
  go_wp2
  refine bodyPost_ret (v := .tuple #[.agg #[.int .i64 g.f, .int .i64 g.t, .slice (some ⟨k0, 0, none⟩) M2 cap0, .bool g.gone], .int .i64 0]) (by simp [results, Try.results70, go_sem, x0, x1, x2, x3]) rfl ⟨by rw [HGD.out, HM2.out], ?_⟩
  have R1 := (HR4.out.set 65541 (.int .i64 (c.d + 1)) (fun cur hc => hc.setC (j := 2) (c' := { c with d := c.d + 1 }) (by omega) rfl)).set 65542 (.int .i64 (c.c + 1)) (fun cur hc => hc.setC (j := 3) (c' := { c with d := c.d + 1, c := c.c + 1 }) (by omega) rfl)
  have KK := ((Kp.refl (fq p v) w3).andSet ⟨p, 65541, none⟩ (.int .i64 (c.d + 1)) (.inr (.inl rfl))).andSet ⟨p, 65542, none⟩ (.int .i64 (c.c + 1)) (.inr (.inl rfl))
  have hX : ((w3.setCell ⟨p, 65541, none⟩ (.int .i64 (c.d + 1))).setCell ⟨p, 65542, none⟩ (.int .i64 (c.c + 1))).heap[w.heap.size]? = some (.cells #[.int .i64 0, .int .i64 0, .slice none 0 0, .bool false] 120 (0, 0)) := by
    rw [KK.block _ (blk_lt HBXX.out) ?_]
    · exact HBXX.out
    · rintro (e | e)
      · exact n1 e.symm
      · rw [HRV.out] at e; exact n4 (Option.some.inj e).symm
  refine ⟨R1.box hX (by rw [HRV.out]; exact fun e => n4 (Option.some.inj e)) (kp4 (S := fun i => i = w.heap.size) (Kp.refl _ _) (.inr rfl) _ _ _ _), ⟨?_, .inl rfl⟩⟩
  exact kp4 ((HK3.out.mono (fun _ _ h => h.elim)).trans KK (fun _ _ e => e)) (.inl (Nat.le_refl _)) _ _ _ _

set_option maxHeartbeats 1000000 in
theorem refDel_take (h : Rn B w p true room bs v c H) (hH : (H.length : Int) ≤ 1599289640400) (hc : Far c) (i j : Nat) {g : Hg} (hj : (pls 0 H)[i]? = some j) (hg : H[j]? = some g) (hbar : bs (g.f.toNat * 256 + g.t.toNat) = false) : Calls Try.prog 70 #[.pointer (some ⟨p, 0, none⟩), .int .i64 (i : Int), .bool false] w fun e w' => e = .returned (.tuple #[.agg #[.int .i64 g.f, .int .i64 g.t, g.d, .bool g.gone], .int .i64 0]) ∧ Rn B w' p true room bs v { c with d := c.d + 1 } (goneAt H j) ∧ Fq p v w w' v := by
  have hd0 := hc.d0
  have hd1 : c.d ≤ 4611686018427387000 := hc.d1
  clear hc
  have K1 := Kp.alloc w (.cells #[.int .i64 0, .int .i64 0, .slice none 0 0, .bool false] 120) Nu
  have AT := at_ok (h.nu K1) hH i j hj
  have hltN : j < H.length := (List.getElem?_eq_some_iff.1 hg).1
  have hlt : (j : Int) < (H.length : Int) := by omega
  have hj0 : (0 : Int) ≤ (j : Int) := by omega
  have HG := hide hg
  have HH := hide h
  have hD := h.dat g (List.mem_of_getElem? hg)
  obtain ⟨k0, cap0, hgd⟩ := hD.slice
  have f0 : 0 ≤ g.f := hD.f0
  have f1 : g.f < 256 := hD.f1
  have t0 : 0 ≤ g.t := hD.t0
  have t1 : g.t < 256 := hD.t1
  have HGD : Hid (g.d = .slice (some ⟨k0, 0, none⟩) g.ys.length cap0) := hgd
  have HB := hide hbar
  have HPW := hide h.lt
  clear hj hg h hgd hD hbar
  go_enter Try.func70, Try.ntmps70
  go_wp2_with fail
  refine AT.mono ?_; rintro e w2 ⟨rfl, hk⟩
  have kk := K1.andNu hk
  have hR := HH.out.nu kk
  have c2 := hR.c2
  obtain ⟨r, cap, hv, y0, y1, y2, y3⟩ := hrow_at hR.own HG.out
  rw [hv] at c2
  have hgd : g.d = .slice (some ⟨k0, 0, none⟩) g.ys.length cap0 := HGD.out
  rw [hgd] at y2
  have hR3 := hR.nu (Kp.alloc w2 (.cells #[.int .i64 g.f, .int .i64 g.t, .slice (some ⟨k0, 0, none⟩) g.ys.length cap0, .bool g.gone] 120) Nu)
  have cb := hR3.cb (bidx f0 f1 t0 t1)
  rw [HB.out, ← Nat.add_assoc] at cb
  have HBX := hide (new_at w _ hk)
  have HK2 := hide kk
  have HS2 : Hid (w.heap.size < w2.heap.size) := blk_lt HBX.out
  have HRV : Hid (v.ownBlock = some r) := by rw [hv]; rfl
  have HV := hide hv
  have HRL : Hid (r < w.heap.size) := own_lt HH.out.own HRV.out
  clear hk AT K1 hR hv hgd hR3 kk
  obtain ⟨M, hM⟩ : ∃ M, H.length = M := ⟨_, rfl⟩
  have HM := hide hM
  obtain ⟨M2, hM2⟩ : ∃ M2, g.ys.length = M2 := ⟨_, rfl⟩
  have HM2 := hide hM2
  rw [hM] at c2 hlt
  rw [hM2] at y2 cb
  clear hM hM2
  go_wp2_with fail
  go_quiet (fail)
  obtain ⟨w3, hw3⟩ : ∃ w3, w3 = ((w2.alloc (.cells #[.int .i64 g.f, .int .i64 g.t, .slice (some ⟨k0, 0, none⟩) M2 cap0, .bool g.gone] 120)).drewN nq) := ⟨_, rfl⟩
  rw [← hw3]
  have K3 : Kp Nu w2 w3 := by rw [hw3]; exact (Kp.alloc w2 _ Nu).andNu (kp_drewN _ _)
  have hR4 : Rn B w3 p true room bs v c H := (HH.out.nu HK2.out).nu K3
  have bX : w3.heap[w.heap.size]? = some (.cells #[.int .i64 0, .int .i64 0, .slice none 0 0, .bool false] 120 (0, 0)) := (K3.block _ (blk_lt HBX.out) (fun h => h)).trans HBX.out
  have bY : w3.heap[w2.heap.size]? = some (.cells #[.int .i64 g.f, .int .i64 g.t, .slice (some ⟨k0, 0, none⟩) M2 cap0, .bool g.gone] 120 (0, 0)) := by rw [hw3]; exact heap_alloc_new w2 _
  have HK3 : Hid (Kp Nu w w3) := HK2.out.andNu K3
  clear hw3 K3 cb c2 y0 y1 y2 y3
  have hc2 := hR4.c2
  rw [HV.out, HM.out] at hc2
  obtain ⟨x0, x1, x2, x3⟩ := cell4 bX
  obtain ⟨z0, z1, z2, z3⟩ := cell4 bY
  have q0 := free3 bX 0
  have q1 := free3 bX 1
  have q2 := free3 bX 2
  have q3 := free3 bX 3
  have n1 : p ≠ w.heap.size := by have := HPW.out; omega
  have n2 : p ≠ w2.heap.size := by have := HPW.out; have := HS2.out; omega
  have n3 : w2.heap.size ≠ w.heap.size := by have := HS2.out; omega
  have n4 : r ≠ w.heap.size := by have := HRL.out; omega
  have n5 : r ≠ w2.heap.size := by have := HRL.out; have := HS2.out; omega
  have HR4 := hide hR4
  have HBXX := hide bX
  have e2 : w3.cell? ⟨p, 65541, none⟩ = some (.int .i64 c.d) := hR4.cc (j := 2) rfl
  have f2 := hR4.free 65541
  have R0 := hR4.set 65541 (.int .i64 (c.d + 1)) (fun cur hc => hc.setC (j := 2) (c' := { c with d := c.d + 1 }) (by omega) rfl)
  have c2' := R0.c2
  rw [HV.out, HM.out] at c2'
  obtain ⟨r', cap', hv', _, _, _, y3'⟩ := hrow_at R0.own HG.out
  rw [HV.out] at hv'
  simp only [Value.slice.injEq, Option.some.injEq, Addr.mk.injEq, and_true] at hv'
  obtain ⟨hr', _⟩ := hv'
  subst hr'
  obtain ⟨R1, k1, fr⟩ := R0.mark hltN HV.out
  have HR1 := hide R1
  have Hk1 := hide k1
  clear hR4 hc2 bX bY R0 R1 k1
  go_wp2
  refine bodyPost_ret (v := .tuple #[.agg #[.int .i64 g.f, .int .i64 g.t, .slice (some ⟨k0, 0, none⟩) M2 cap0, .bool g.gone], .int .i64 0]) (by simp [results, Try.results70, go_sem, x0, x1, x2, x3]) rfl ⟨by rw [HGD.out, HM2.out], ?_⟩
  have KK := ((Kp.refl (fq p v) w3).andSet ⟨p, 65541, none⟩ (.int .i64 (c.d + 1)) (.inr (.inl rfl))).trans Hk1.out (fun _ _ e => e)
  have hX : ((w3.setCell ⟨p, 65541, none⟩ (.int .i64 (c.d + 1))).setCell ⟨r, j * 4 + 3, none⟩ (.bool true)).heap[w.heap.size]? = some (.cells #[.int .i64 0, .int .i64 0, .slice none 0 0, .bool false] 120 (0, 0)) := by
    rw [KK.block _ (blk_lt HBXX.out) ?_]
    · exact HBXX.out
    · rintro (e | e)
      · exact n1 e.symm
      · rw [HRV.out] at e; exact n4 (Option.some.inj e).symm
  refine ⟨HR1.out.box hX (by rw [HRV.out]; exact fun e => n4 (Option.some.inj e)) (kp4 (S := fun i => i = w.heap.size) (Kp.refl _ _) (.inr rfl) _ _ _ _), ⟨?_, .inl rfl⟩⟩
  exact kp4 ((HK3.out.mono (fun _ _ h => h.elim)).trans KK (fun _ _ e => e)) (.inl (Nat.le_refl _)) _ _ _ _
end
end Go.Proofs.Ythajboipnjjgfaa.Ly
