import Derived.Test.YthajboipnjjgfaaReE
namespace Go.Proofs.Ythajboipnjjgfaa.Ly
open Go.RowKit Go.Maps
set_option linter.unusedVariables false

theorem info120 : (Try.prog.info? 120).map (fun i => (i.zero, i.size, i.bytes)) = some (some (.agg #[.int .i64 0, .int .i64 0, .slice none 0 0, .bool false]), 4, 48) := by kernel_rfl
theorem cell_four_new (w : World) (x y z u : Value) (t : TypeId) : ∀ j q, [x, y, z, u][j]? = some q → (w.alloc (.cells #[x, y, z, u] t)).cell? ((⟨w.heap.size, 0, none⟩ : Addr).add j) = some q := by
  intro j q hj
  have h := cell4 (heap_alloc_new w (.cells #[x, y, z, u] t))
  match j, hj with
  | 0, hj => simp at hj; subst hj; exact h.1
  | 1, hj => simp at hj; subst hj; exact h.2.1
  | 2, hj => simp at hj; subst hj; exact h.2.2.1
  | 3, hj => simp at hj; subst hj; exact h.2.2.2


/-- one more entry -/
theorem Rn.push {B p : Nat} {wr w4 : World} {there : Bool} {room : Int} {bs : Nat → Bool} {v v' : Value} {c : Ct} {H : List Hg} {o : Obj} {f t : Int} {d' : Value} {ys : List Int} (hR : Rn B wr p there room bs v c H) (f0 : 0 ≤ f) (f1 : f < 256) (t0 : 0 ≤ t) (t1 : t < 256) (y0 : 0 < ys.length) (y1 : ys.length ≤ 1024)
    (hd : wr.ownsRow B 5 1 d' ys.length (cs ys)) (hg : (wr.alloc o).grownBy w4 v.ownBlock) (hl : v'.ownBlock = v.ownBlock ∨ v'.ownBlock = some (wr.alloc o).heap.size) (ho : w4.ownsRow B 120 4 v' (H.length + 1) (hcells H ++ [.int .i64 f, .int .i64 t, d', .bool false])) :
    w4.cell? ⟨p, 2, none⟩ = some v ∧ w4.frozen? ⟨p, 2, none⟩ = false ∧ Rn B (w4.setCell ⟨p, 2, none⟩ v') p there room bs v' c (H ++ [⟨f, t, d', ys, false⟩]) ∧ Fq p v wr (w4.setCell ⟨p, 2, none⟩ v') v' := by
  have k4 : Kp (fun i => some i = v.ownBlock) wr w4 := (Kp.alloc wr o (fun i => some i = v.ownBlock)).trans (Kp.of_grown hg) (fun i hi e => e)
  obtain ⟨cur, hb, hc⟩ := hR.blk
  have hb4 : w4.heap[p]? = some (.cells cur 117 (0, 0)) := (k4.block p (blk_lt hb) (fun e => hR.ne_own e.symm rfl)).trans hb
  have kf : Kp (fq p v) wr (w4.setCell ⟨p, 2, none⟩ v') := (k4.mono (fun i _ e => .inr e)).andSet ⟨p, 2, none⟩ v' (.inr (.inl rfl))
  have by5 : ∀ (i : Nat) (cu : Array Value), wr.heap[i]? = some (.cells cu 5 (0, 0)) → (w4.setCell ⟨p, 2, none⟩ v').heap[i]? = wr.heap[i]? := fun i cu hi => kf.block i (blk_lt hi) (hR.byte hi)
  have hne : ∀ g, v'.ownBlock = some g → g ≠ p := fun g hg' => by
    obtain ⟨cu, hcu⟩ := own_obj ho hg'
    rintro rfl
    rw [hb4] at hcu; cases hcu
  refine ⟨by simp [World.cell?, hb4, hc.c2], free3 hb4 2, ⟨⟨_, set3 hb4 2 v', hc.set2 v'⟩, ?_, ?_, hR.hb⟩, ⟨kf, ?_⟩⟩
  · have : (H ++ [(⟨f, t, d', ys, false⟩ : Hg)]).length = H.length + 1 := by simp
    rw [this, hcells_append]
    exact own_keep ho (fun g hg' => (Kp.setCell w4 ⟨p, 2, none⟩ v').block g (own_lt ho hg') (hne g hg'))
  · intro g hg'
    rcases List.mem_append.1 hg' with hg' | hg'
    · exact (hR.dat g hg').keep by5
    · obtain rfl := List.mem_singleton.1 hg'
      exact (⟨hd, y0, y1, f0, f1, t0, t1⟩ : Dg wr B ⟨f, t, d', ys⟩).keep by5
  · rcases hl with e | e
    · exact .inl e
    · exact .inr ⟨_, by simp, e⟩

section
variable {B p : Nat} {w w' : World} {there : Bool} {room : Int} {bs : Nat → Bool} {v : Value} {c : Ct} {H : List Hg}

theorem enter_no (h : Rn B w p false room bs v c H) (f t : Int) (d : Value) (inj : Bool) (ad : Option Addr) (n cap : Nat) (hd : d = .slice ad n cap) : Calls Try.prog 68 #[.pointer (some ⟨p, 0, none⟩), .int .i64 f, .int .i64 t, d, .bool inj] w fun e w' => e = .returned (.int .i64 1) ∧ w' = w := by
  have c0 := h.c0
  subst hd
  go_enter Try.func68, Try.ntmps68
  go_wp2
  go_ret
  exact ⟨rfl, rfl⟩

theorem enter_src0 (h : Rn B w p true room bs v c H) (f t : Int) (d : Value) (ad : Option Addr) (n cap : Nat) (hd : d = .slice ad n cap) (hf : f ≥ 33) : Calls Try.prog 68 #[.pointer (some ⟨p, 0, none⟩), .int .i64 f, .int .i64 t, d, .bool false] w fun e w' => e = .returned (.int .i64 55) ∧ w' = w := by
  have c0 := h.c0
  subst hd
  go_enter Try.func68, Try.ntmps68
  go_wp2
  go_ret
  exact ⟨rfl, rfl⟩
theorem enter_long0 (h : Rn B w p true room bs v c H) (f t : Int) (d : Value) (ad : Option Addr) (n cap : Nat) (hd : d = .slice ad n cap) (hf : ¬ f ≥ 33) (hn : n = 0 ∨ 1024 < n) : Calls Try.prog 68 #[.pointer (some ⟨p, 0, none⟩), .int .i64 f, .int .i64 t, d, .bool false] w fun e w' => e = .returned (.int .i64 51) ∧ w' = w := by
  have c0 := h.c0
  subst hd
  by_cases h0 : n = 0
  · subst h0
    go_enter Try.func68, Try.ntmps68
    go_wp2
    go_ret
    exact ⟨rfl, rfl⟩
  · have h1 : ((n : Int) == 0) = false := by simp; omega
    have h2 : (n : Int) > 1024 := by omega
    clear hn h0
    go_enter Try.func68, Try.ntmps68
    go_wp2
    go_ret
    exact ⟨rfl, rfl⟩
set_option maxHeartbeats 400000 in
theorem enter_bar0 (h : Rn B w p true room bs v c H) (hc : Far c) (f t : Int) (f0 : 0 ≤ f) (f1 : f < 256) (t0 : 0 ≤ t) (t1 : t < 256) (d : Value) (ad : Option Addr) (n cap : Nat) (hd : d = .slice ad n cap) (hf : ¬ f ≥ 33) (hn0 : 0 < n) (hn1 : n ≤ 1024) (hbar : bs (f.toNat * 256 + t.toNat) = true) : Calls Try.prog 68 #[.pointer (some ⟨p, 0, none⟩), .int .i64 f, .int .i64 t, d, .bool false] w fun e w' => e = .returned (.int .i64 53) ∧ Rn B w' p true room bs v { c with b := c.b + 1 } H ∧ Fq p v w w' v := by
  have c0 := h.c0
  have cb := h.cb (bidx f0 f1 t0 t1)
  rw [hbar, ← Nat.add_assoc] at cb
  have e6 : w.cell? ⟨p, 65545, none⟩ = some (.int .i64 c.b) := h.cc (j := 6) rfl
  have f6 := h.free 65545
  have hb0 := hc.b0
  have hb1 : c.b ≤ 4611686018427387000 := hc.b1
  have HX : Hid (Rn B (w.setCell ⟨p, 65545, none⟩ (.int .i64 (c.b + 1))) p true room bs v { c with b := c.b + 1 } H) := h.set 65545 (.int .i64 (c.b + 1)) (fun cur hc => hc.setC (j := 6) (by omega) rfl)
  have h1 : ((n : Int) == 0) = false := by simp; omega
  have h2 : ¬ (n : Int) > 1024 := by omega
  subst hd
  clear hbar hn0 hn1 hc h
  go_enter Try.func68, Try.ntmps68
  go_wp2
  go_ret
  exact ⟨rfl, HX.out, (Fq.refl p v w).set _ _⟩

theorem enter_src1 (h : Rn B w p true room bs v c H) (f t : Int) (d : Value) (ad : Option Addr) (n cap : Nat) (hd : d = .slice ad n cap) (hf : ¬ f ≥ 33) : Calls Try.prog 68 #[.pointer (some ⟨p, 0, none⟩), .int .i64 f, .int .i64 t, d, .bool true] w fun e w' => e = .returned (.int .i64 55) ∧ w' = w := by
  have c0 := h.c0
  subst hd
  go_enter Try.func68, Try.ntmps68
  go_wp2
  go_ret
  exact ⟨rfl, rfl⟩
theorem enter_long1 (h : Rn B w p true room bs v c H) (f t : Int) (d : Value) (ad : Option Addr) (n cap : Nat) (hd : d = .slice ad n cap) (hf : f ≥ 33) (hn : n = 0 ∨ 1024 < n) : Calls Try.prog 68 #[.pointer (some ⟨p, 0, none⟩), .int .i64 f, .int .i64 t, d, .bool true] w fun e w' => e = .returned (.int .i64 51) ∧ w' = w := by
  have c0 := h.c0
  subst hd
  by_cases h0 : n = 0
  · subst h0
    go_enter Try.func68, Try.ntmps68
    go_wp2
    go_ret
    exact ⟨rfl, rfl⟩
  · have h1 : ((n : Int) == 0) = false := by simp; omega
    have h2 : (n : Int) > 1024 := by omega
    clear hn h0
    go_enter Try.func68, Try.ntmps68
    go_wp2
    go_ret
    exact ⟨rfl, rfl⟩
set_option maxHeartbeats 400000 in
theorem enter_bar1 (h : Rn B w p true room bs v c H) (hc : Far c) (f t : Int) (f0 : 0 ≤ f) (f1 : f < 256) (t0 : 0 ≤ t) (t1 : t < 256) (d : Value) (ad : Option Addr) (n cap : Nat) (hd : d = .slice ad n cap) (hf : f ≥ 33) (hn0 : 0 < n) (hn1 : n ≤ 1024) (hbar : bs (f.toNat * 256 + t.toNat) = true) : Calls Try.prog 68 #[.pointer (some ⟨p, 0, none⟩), .int .i64 f, .int .i64 t, d, .bool true] w fun e w' => e = .returned (.int .i64 53) ∧ Rn B w' p true room bs v { c with b := c.b + 1 } H ∧ Fq p v w w' v := by
  have c0 := h.c0
  have cb := h.cb (bidx f0 f1 t0 t1)
  rw [hbar, ← Nat.add_assoc] at cb
  have e6 : w.cell? ⟨p, 65545, none⟩ = some (.int .i64 c.b) := h.cc (j := 6) rfl
  have f6 := h.free 65545
  have hb0 := hc.b0
  have hb1 : c.b ≤ 4611686018427387000 := hc.b1
  have HX : Hid (Rn B (w.setCell ⟨p, 65545, none⟩ (.int .i64 (c.b + 1))) p true room bs v { c with b := c.b + 1 } H) := h.set 65545 (.int .i64 (c.b + 1)) (fun cur hc => hc.setC (j := 6) (by omega) rfl)
  have h1 : ((n : Int) == 0) = false := by simp; omega
  have h2 : ¬ (n : Int) > 1024 := by omega
  subst hd
  clear hbar hn0 hn1 hc h
  go_enter Try.func68, Try.ntmps68
  go_wp2
  go_ret
  exact ⟨rfl, HX.out, (Fq.refl p v w).set _ _⟩

set_option maxRecDepth 100000 in
set_option maxHeartbeats 1000000 in
theorem enter_full0 (h : Rn B w p true room bs v c H) (hH : (H.length : Int) ≤ 1599289640400) (hc : Far c) (f t : Int) (f0 : 0 ≤ f) (f1 : f < 256) (t0 : 0 ≤ t) (t1 : t < 256) (d : Value) (ad : Option Addr) (n cap : Nat) (hd : d = .slice ad n cap) (hf : ¬ f ≥ 33) (hn0 : 0 < n) (hn1 : n ≤ 1024) (hbar : bs (f.toNat * 256 + t.toNat) = false) (hfull : room ≤ ((pls 0 H).length : Int)) : Calls Try.prog 68 #[.pointer (some ⟨p, 0, none⟩), .int .i64 f, .int .i64 t, d, .bool false] w fun e w' => e = .returned (.int .i64 52) ∧ Rn B w' p true room bs v { c with l := c.l + 1 } H ∧ Fq p v w w' v := by
  have mixed : Try.prog.follows .mixedOrders = true := by kernel_rfl
  have c0 := h.c0
  have c1 := h.c1
  have cb := h.cb (bidx f0 f1 t0 t1)
  rw [hbar, ← Nat.add_assoc] at cb
  have PL : ∀ W, Kp Nu w W → Calls Try.prog 84 #[.pointer (some ⟨p, 0, none⟩)] W fun e w' => ∃ ad' cap', e = .returned (.slice ad' (pls 0 H).length cap') ∧ Kp Nu w w' := fun W k => (places_any (h.nu k) hH).mono (by
    rintro e w' ⟨u, rfl, ho, hk⟩
    obtain ⟨ad', cap', rfl⟩ := own_slice ho
    exact ⟨ad', cap', rfl, k.andNu hk⟩)
  have HS : ∀ W, Kp Nu w W → W.cell? ⟨p, 1, none⟩ = some (.int .i64 room) := fun W k => (h.nu k).c1
  have HH := hide h
  have KA := Kp.refl Nu w
  have h1 : ((n : Int) == 0) = false := by simp; omega
  have h2 : ¬ (n : Int) > 1024 := by omega
  have h3 : ((pls 0 H).length : Int) ≥ room := by omega
  have hb0 := hc.l0
  have hb1 : c.l ≤ 4611686018427387000 := hc.l1
  subst hd
  generalize hM : (pls 0 H).length = M at *
  clear hbar hc h hfull hH hM
  go_enter Try.func68, Try.ntmps68
  go_wp2_with fail
  go_region_held3 (fun W => W.cell? ⟨p, 1, none⟩ = some (.int .i64 room)) (first | (refine HS _ ?_; repeat (first | assumption | exact Kp.refl _ _ | apply Kp.andAlloc | apply Kp.drew))) (first | (go_at_call 84; refine (PL _ ?_).mono ?_; (repeat (first | assumption | exact Kp.refl _ _ | apply Kp.andAlloc | apply Kp.drew)); rintro e w2 ⟨ad', cap', rfl, hk2⟩))
  clear PL HS KA c0 c1 cb
  have hR := HH.out.nu hk2
  have e5 : w2.cell? ⟨p, 65544, none⟩ = some (.int .i64 c.l) := hR.cc (j := 5) rfl
  have f5 := hR.free 65544
  have HX : Hid (Rn B (w2.setCell ⟨p, 65544, none⟩ (.int .i64 (c.l + 1))) p true room bs v { c with l := c.l + 1 } H) := hR.set 65544 (.int .i64 (c.l + 1)) (fun cur hc => hc.setC (j := 5) (by omega) rfl)
  have HK := hide hk2
  clear hR hk2
  go_wp2
  go_ret
  exact ⟨rfl, HX.out, (Fq.of_nu HK.out).set _ _⟩

set_option maxRecDepth 100000 in
set_option maxHeartbeats 1000000 in
theorem enter_full1 (h : Rn B w p true room bs v c H) (hH : (H.length : Int) ≤ 1599289640400) (hc : Far c) (f t : Int) (f0 : 0 ≤ f) (f1 : f < 256) (t0 : 0 ≤ t) (t1 : t < 256) (d : Value) (ad : Option Addr) (n cap : Nat) (hd : d = .slice ad n cap) (hf : f ≥ 33) (hn0 : 0 < n) (hn1 : n ≤ 1024) (hbar : bs (f.toNat * 256 + t.toNat) = false) (hfull : room ≤ ((pls 0 H).length : Int)) : Calls Try.prog 68 #[.pointer (some ⟨p, 0, none⟩), .int .i64 f, .int .i64 t, d, .bool true] w fun e w' => e = .returned (.int .i64 52) ∧ Rn B w' p true room bs v { c with l := c.l + 1 } H ∧ Fq p v w w' v := by
  have mixed : Try.prog.follows .mixedOrders = true := by kernel_rfl
  have c0 := h.c0
  have c1 := h.c1
  have cb := h.cb (bidx f0 f1 t0 t1)
  rw [hbar, ← Nat.add_assoc] at cb
  have PL : ∀ W, Kp Nu w W → Calls Try.prog 84 #[.pointer (some ⟨p, 0, none⟩)] W fun e w' => ∃ ad' cap', e = .returned (.slice ad' (pls 0 H).length cap') ∧ Kp Nu w w' := fun W k => (places_any (h.nu k) hH).mono (by
    rintro e w' ⟨u, rfl, ho, hk⟩
    obtain ⟨ad', cap', rfl⟩ := own_slice ho
    exact ⟨ad', cap', rfl, k.andNu hk⟩)
  have HS : ∀ W, Kp Nu w W → W.cell? ⟨p, 1, none⟩ = some (.int .i64 room) := fun W k => (h.nu k).c1
  have HH := hide h
  have KA := Kp.refl Nu w
  have h1 : ((n : Int) == 0) = false := by simp; omega
  have h2 : ¬ (n : Int) > 1024 := by omega
  have h3 : ((pls 0 H).length : Int) ≥ room := by omega
  have hb0 := hc.l0
  have hb1 : c.l ≤ 4611686018427387000 := hc.l1
  subst hd
  generalize hM : (pls 0 H).length = M at *
  clear hbar hc h hfull hH hM
  go_enter Try.func68, Try.ntmps68
  go_wp2_with fail
  go_region_held3 (fun W => W.cell? ⟨p, 1, none⟩ = some (.int .i64 room)) (first | (refine HS _ ?_; repeat (first | assumption | exact Kp.refl _ _ | apply Kp.andAlloc | apply Kp.drew))) (first | (go_at_call 84; refine (PL _ ?_).mono ?_; (repeat (first | assumption | exact Kp.refl _ _ | apply Kp.andAlloc | apply Kp.drew)); rintro e w2 ⟨ad', cap', rfl, hk2⟩))
  clear PL HS KA c0 c1 cb
  have hR := HH.out.nu hk2
  have e5 : w2.cell? ⟨p, 65544, none⟩ = some (.int .i64 c.l) := hR.cc (j := 5) rfl
  have f5 := hR.free 65544
  have HX : Hid (Rn B (w2.setCell ⟨p, 65544, none⟩ (.int .i64 (c.l + 1))) p true room bs v { c with l := c.l + 1 } H) := hR.set 65544 (.int .i64 (c.l + 1)) (fun cur hc => hc.setC (j := 5) (by omega) rfl)
  have HK := hide hk2
  clear hR hk2
  go_wp2
  go_ret
  exact ⟨rfl, HX.out, (Fq.of_nu HK.out).set _ _⟩
end
end Go.Proofs.Ythajboipnjjgfaa.Ly
