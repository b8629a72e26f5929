import Derived.Test.YthajboipnjjgfaaFrG
namespace Go.Proofs.Ythajboipnjjgfaa.Ly
open Go.RowKit Go.Maps
set_option linter.unusedVariables false

/-- the datagrams' bytes lie in blocks of their own -/
def Apt (L : List Gm) : Prop := L.Pairwise (fun x y => ∀ g, x.d.ownBlock = some g → y.d.ownBlock ≠ some g)
theorem Apt.add {L : List Gm} {x : Gm} {N : Nat} (h : Apt L) (ho : ∀ y ∈ L, ∀ q, y.d.ownBlock = some q → q < N) (hx : ∀ q, x.d.ownBlock = some q → N ≤ q) : Apt (L ++ [x]) := by
  refine List.pairwise_append.2 ⟨h, List.pairwise_singleton _ _, ?_⟩
  intro y hy z hz g hg e
  simp only [List.mem_singleton] at hz
  subst hz
  have h1 := ho y hy g hg
  have h2 := hx g e
  omega

/-- one more datagram in a row that is filled -/
theorem told_stepX {w2 : World} {T B k M : Nat} {cu : List Value} {L' L : List Gm} {g : Gm} {d' : Value} (hT : w2.heap[T]? = some (.cells cu.toArray 38 (0, 0))) (hl : cu.length = M * 3) (hk : k < M) (h : cu.take (k * 3) = cells L') (hn : L'.length = k) (ht : Told w2 B L' (L.take k)) (hg : L[k]? = some g)
    (hd : Dg w2 B { g with d := d' }) :
    ∃ cu' : List Value, (((w2.setCell ⟨T, k * 3, none⟩ (.int .u8 g.f)).setCell ⟨T, k * 3 + 1, none⟩ (.int .u8 g.t)).setCell ⟨T, k * 3 + 2, none⟩ d').heap[T]? = some (.cells cu'.toArray 38 (0, 0)) ∧ cu'.length = M * 3 ∧ ∃ L'', L'' = L' ++ [{ g with d := d' }] ∧ L''.length = k + 1 ∧ cu'.take ((k + 1) * 3) = cells L'' ∧
      Told (((w2.setCell ⟨T, k * 3, none⟩ (.int .u8 g.f)).setCell ⟨T, k * 3 + 1, none⟩ (.int .u8 g.t)).setCell ⟨T, k * 3 + 2, none⟩ d') B L'' (L.take (k + 1)) := by
  have kk : Kp (fun i => i = T) w2 (((w2.setCell ⟨T, k * 3, none⟩ (.int .u8 g.f)).setCell ⟨T, k * 3 + 1, none⟩ (.int .u8 g.t)).setCell ⟨T, k * 3 + 2, none⟩ d') := by
    have k0 := Kp.refl (fun i => i = T) w2
    have k1 := k0.andSet ⟨T, k * 3, none⟩ (.int .u8 g.f) (.inr rfl)
    have k2 := k1.andSet ⟨T, k * 3 + 1, none⟩ (.int .u8 g.t) (.inr rfl)
    exact k2.andSet ⟨T, k * 3 + 2, none⟩ d' (.inr rfl)
  have byte : ∀ (i : Nat) (cur : Array Value), w2.heap[i]? = some (.cells cur 5 (0, 0)) → _ = w2.heap[i]? := fun i cur hi => kk.block i (blk_lt hi) (fun e => by subst e; rw [hT] at hi; cases hi)
  refine ⟨_, set_list (set_list (set_list hT _ _) _ _) _ _, by simp [hl], L' ++ [{ g with d := d' }], rfl, by simp [hn], ?_, ?_⟩
  · rw [set3_take hl hk h, cells_append]; rfl
  · refine Told.keep (w := w2) ⟨?_, ?_⟩ byte
    · intro x hx
      rcases List.mem_append.1 hx with hx | hx
      · exact ht.dat x hx
      · simp at hx; subst hx; exact hd
    · rw [List.take_add_one, hg, List.map_append, List.map_append, ht.same]
      rfl

section
variable {B b bm nb : Nat} {w w' : World} {room : Int} {D : DataW Unit} {v : Value} {c : Ct} {L : List Gm}
set_option maxRecDepth 100000 in
set_option maxHeartbeats 1000000 in
theorem list_apart (h : Nt B w b bm nb room D v c L) : Calls Try.prog 22 #[.pointer (some ⟨b, 0, none⟩)] w fun e w' => ∃ u, e = .returned u ∧ (∃ L', w'.ownsRow w.heap.size 38 3 u L'.length (cells L') ∧ Told w' w.heap.size L' L ∧ Apt L') ∧ Kp Nu w w' := by
  obtain ⟨i0, hi, hz0, hz1, hz2⟩ := info_parts info38
  have MA := made_any h
  obtain ⟨ad, cap, hvl⟩ := own_slice h.own
  have c1 := h.c1
  rw [hvl] at c1
  have HH := hide h
  have hM4 : L.length ≤ 4096 := by have := h.len; have := h.r1; omega
  obtain ⟨M, hM⟩ : ∃ M, L.length = M := ⟨_, rfl⟩
  have HM := hide hM
  rw [hM] at c1 hM4 hvl
  have HV := hide hvl
  have A1 : Hid (i0.bytes * M ≤ 281474976710656) := by show _ ≤ _; rw [hz2]; omega
  have A2 : Hid (M ≤ maxLen) := by show _ ≤ _; unfold maxLen; omega
  have HM4 := hide hM4
  clear h hM hvl hM4
  go_enter Try.func22, Try.ntmps22
  go_wp2_with fail
  refine MA.mono ?_; rintro e w' ⟨rfl, rfl⟩
  go_wp2_with (at_make; refine wpList_make_full _ rfl _ _ 34 rfl w'.heap.size 38 i0 _ 3 Try.underlying34 hi hz0 hz1 .i64 .i64 _ _ M rfl rfl (by omega) (by omega) A1.out A2.out (Nat.le_refl _) ?_; intro w1 hown hgrow; obtain ⟨cur, HG, HCl, _⟩ := made_row hown; have hk1 : Kp Nu w' w1 := (Kp.of_grown hgrow).mono (fun _ _ e => by cases e); have c1b := (HH.out.nu hk1).c1; rw [HV.out] at c1b; clear hown hgrow)
  go_loopw [20] (fun i wr => ∃ (k : Nat) (cu : List Value), k ≤ M ∧ i = .int .i64 (k : Int) ∧ Hid (wr.heap[w'.heap.size]? = some (.cells cu.toArray 38 (0, 0))) ∧ Hid (cu.length = M * 3 ∧ ∃ L', Apt L' ∧ L'.length = k ∧ cu.take (k * 3) = cells L' ∧ Told wr w'.heap.size L' (L.take k)) ∧ Kp Nu w' wr) (fun i _ => M - (intOf i).toNat)
  case atStart => exact ⟨0, cur, by omega, rfl, HG, ⟨HCl, [], List.Pairwise.nil, rfl, by simp [cells], ⟨by simp, by simp⟩⟩, hk1⟩
  case round =>
    obtain ⟨k, cu, hk, rfl, hT, hI, hkp⟩ := hrel
    clear hk1 c1b HG HCl c1 MA
    by_cases hlt : k < M
    · have hkL : k < L.length := by rw [HM.out]; exact hlt
      obtain ⟨g, hg⟩ : ∃ g, L[k]? = some g := ⟨_, List.getElem?_eq_getElem hkL⟩
      have hN := HH.out.nu hkp
      obtain ⟨r, cap', hv', e0, e1, e2⟩ := row_at hN.own hg
      rw [HV.out] at hv'
      simp only [Value.slice.injEq] at hv'
      obtain ⟨hv1, hv2, hv3⟩ := hv'
      clear hv2 hv3
      subst hv1
      have hD := hN.dat g (List.mem_of_getElem? hg)
      obtain ⟨k0, cap0, hgd⟩ := hD.slice
      have CO := fun W (k : Kp Nu wr W) => copied_any W g.f g.t g.d g.ys (Rd.of_own (hD.nu k).own) hD.le hD.pos
      have HD := hide hD
      have HG := hide hg
      rw [hgd] at e2 CO
      have hltI : (k : Int) < (M : Int) := by omega
      have hk0 : (0 : Int) ≤ (k : Int) := by omega
      have hk4 : (k : Int) < 4096 := by have := HM4.out; omega
      clear hg hD hN hkL
      generalize hNN : g.ys.length = N at *
      go_wp2_with fail
      refine (CO _ ((Kp.refl Nu wr).andAlloc _)).mono ?_; rintro e w2 ⟨a2, n2, cap2, rfl, ho, hk2⟩
      have k2 : Kp Nu wr w2 := ((Kp.refl Nu wr).andAlloc _).andNu hk2
      have hT2 : w2.heap[w'.heap.size]? = some (.cells cu.toArray 38 (0, 0)) := (k2.block _ (blk_lt hT.out) (fun h => h)).trans hT.out
      have hcl := hI.out.1
      obtain ⟨u0, t0⟩ := cell_list hT2 (o := k * 3) (by omega)
      obtain ⟨u1, t1⟩ := cell_list hT2 (o := k * 3 + 1) (by omega)
      obtain ⟨u2, t2⟩ := cell_list hT2 (o := k * 3 + 2) (by omega)
      have f0 := free3 hT2 (k * 3)
      have f1 := free3 hT2 (k * 3 + 1)
      have f2 := free3 hT2 (k * 3 + 2)
      have HST : Hid (∃ cu' : List Value, (((w2.setCell ⟨w'.heap.size, k * 3, none⟩ (.int .u8 g.f)).setCell ⟨w'.heap.size, k * 3 + 1, none⟩ (.int .u8 g.t)).setCell ⟨w'.heap.size, k * 3 + 2, none⟩ (.slice (some a2) n2 cap2)).heap[w'.heap.size]? = some (.cells cu'.toArray 38 (0, 0)) ∧ cu'.length = M * 3 ∧ ∃ L'', Apt L'' ∧ L''.length = k + 1 ∧ cu'.take ((k + 1) * 3) = cells L'' ∧
          Told (((w2.setCell ⟨w'.heap.size, k * 3, none⟩ (.int .u8 g.f)).setCell ⟨w'.heap.size, k * 3 + 1, none⟩ (.int .u8 g.t)).setCell ⟨w'.heap.size, k * 3 + 2, none⟩ (.slice (some a2) n2 cap2)) w'.heap.size L'' (L.take (k + 1))) := by
        obtain ⟨_, L', hap, hn, htk, hTd⟩ := hI.out
        have hap2 : Apt (L' ++ [{ g with d := .slice (some a2) n2 cap2 }]) := hap.add (fun y hy q hq => own_lt (hTd.dat y hy).own hq) (fun q hq => by
          have h1 := (ho.lt q hq).1
          simp at h1
          omega)
        have hDG : Dg w2 w'.heap.size { g with d := .slice (some a2) n2 cap2 } := by
          have hD := HD.out
          refine ⟨?_, hD.pos, hD.le, hD.f0, hD.f1, hD.t0, hD.t1⟩
          have hsz := hkp.size
          show w2.ownsRow _ 5 1 _ g.ys.length _
          rw [hNN]
          exact own_base ho (by simp; omega)
        obtain ⟨cu', r1, r2, L'', r3, r4, r5, r6⟩ := told_stepX hT2 hcl hlt htk hn (hTd.keep (fun i cur hi => k2.block i (blk_lt hi) (fun h => h))) HG.out hDG
        exact ⟨cu', r1, r2, L'', by rw [r3]; exact hap2, r4, r5, r6⟩
      have HKK := hide (((hkp.andNu k2).andSet ⟨w'.heap.size, k * 3, none⟩ (.int .u8 g.f) (.inl (Nat.le_refl _))).andSet ⟨w'.heap.size, k * 3 + 1, none⟩ (.int .u8 g.t) (.inl (Nat.le_refl _)) |>.andSet ⟨w'.heap.size, k * 3 + 2, none⟩ (.slice (some a2) n2 cap2) (.inl (Nat.le_refl _)))
      clear hcl hI hT hT2 CO k2 hk2 ho
      go_wp2
      obtain ⟨cu', h1, h2, h3⟩ := HST.out
      exact ⟨⟨k + 1, cu', by omega, by go_num, h1, ⟨h2, h3⟩, HKK.out⟩, by simp [intOf]; omega⟩
    · have hge : ¬ (k : Int) < (M : Int) := by omega
      obtain rfl : k = M := by omega
      obtain ⟨hcl, L', hap, hn, htk, hTd⟩ := hI.out
      have HO : Hid (wr.ownsRow w'.heap.size 38 3 (.slice (some ⟨w'.heap.size, 0, none⟩) k k) L'.length (cells L')) := by
        refine ⟨by rw [cells_length], .inr ⟨_, _, _, by rw [hn], Nat.le_refl _, hT.out, by omega, A2.out, by simpa using hcl, ?_⟩⟩
        rw [hn]
        simpa using htk
      have HTd : Hid (Told wr w'.heap.size L' L) := by
        rwa [List.take_of_length_le (by rw [HM.out]; omega)] at hTd
      clear hTd htk hcl hI hT
      go_wp2
      go_ret
      exact ⟨_, rfl, ⟨L', HO.out, HTd.out, hap⟩, hkp⟩
end
end Go.Proofs.Ythajboipnjjgfaa.Ly
namespace Go.Proofs.Ythajboipnjjgfaa.Ly
open Go.RowKit Go.Maps
set_option linter.unusedVariables false
section
variable {B b bm nb : Nat} {w w' : World} {room : Int} {D : DataW Unit} {v : Value} {c : Ct} {L : List Gm}

set_option maxHeartbeats 1000000 in
theorem takeIn_okX (h : Nt B w b bm nb room D v c L) (f t : Int) (f0 : 0 ≤ f) (f1 : f < 256) (t0 : 0 ≤ t) (t1 : t < 256) (d : Value) (ys : List Int) (hr : Rd w d ys) (hy0 : 0 < ys.length) (hy : ys.length ≤ 1024) (hbar : bar D f t = false) (hroom : (L.length : Int) < room) :
    Calls Try.prog 42 #[.pointer (some ⟨b, 0, none⟩), .agg #[.int .u8 f, .int .u8 t, d]] w fun e w' => e = .returned (.int .i64 0) ∧ ∃ v' d', Nt B w' b bm nb room D v' c (L ++ [⟨f, t, d', ys⟩]) ∧ Kp (fp b bm v) w w' ∧ (v'.ownBlock = v.ownBlock ∨ ∃ g, w.heap.size ≤ g ∧ v'.ownBlock = some g) ∧ ∀ q, d'.ownBlock = some q → w.heap.size ≤ q := by
  obtain ⟨ad, cap, hd⟩ := hr.slice
  have h1 : ¬ (ys.length : Int) < 1 := by omega
  have h2 : ¬ (ys.length : Int) > 1024 := by omega
  have K1 := Kp.alloc w (.cells #[.int .u8 f, .int .u8 t, d] 38) Nu
  have BA := bars_any (h.nu K1) f t f0 f1 t0 t1 d ad _ cap hd
  rw [hbar] at BA
  have CO := fun W (k : Kp Nu w W) => copied_any W f t d ys (hr.nu k) hy hy0
  subst hd
  obtain ⟨adl, capl, hvl⟩ := own_slice h.own
  have mixed : Try.prog.follows .mixedOrders = true := by kernel_rfl
  have HH := hide h
  obtain ⟨M, hM⟩ : ∃ M, L.length = M := ⟨_, rfl⟩
  have HM := hide hM
  have hlt : ¬ (M : Int) ≥ room := by omega
  rw [hM] at hvl
  have HV := hide hvl
  have HSS : ∀ W, Kp Nu w W → W.cell? ⟨b, 0, none⟩ = some (.int .i64 room) ∧ W.cell? ⟨b, 1, none⟩ = some (.slice adl M capl) ∧ W.frozen? ⟨b, 1, none⟩ = false := fun W k => ⟨(h.nu k).c0, by rw [← hvl]; exact (h.nu k).c1, free3 (h.nu k).blk 1⟩
  have PO := fun W (k : Kp Nu w W) a' n' cap' B' (hB : w.heap.size ≤ B') (ho : W.ownsRow B' 5 1 (.slice (some a') n' cap') ys.length (cs ys)) => push_ok h k f0 f1 t0 t1 (d' := .slice (some a') n' cap') ⟨_, _, _, rfl⟩ hB ho hy0 hy hroom
  rw [hvl] at PO
  rw [hvl]
  generalize ys.length = N at *
  clear hy hy0 hr h hM hvl hroom
  go_enter Try.func42, Try.ntmps42
  go_wp2_with fail
  refine BA.mono ?_; rintro e w2 ⟨rfl, hk2⟩
  have kk := K1.andNu hk2
  obtain ⟨s0, s1, s2⟩ := HSS _ kk
  have hbx := new_at w _ hk2
  obtain ⟨x0, x1, x2⟩ := cell3 hbx
  have kd := kk.drew.drew
  clear BA
  go_wp2_with fail
  go_region
  go_wp2_with fail
  go_region_law (first
    | (obtain ⟨v', w4, ⟨ad4, n4, cap4, e4⟩, hrun, z1, z2, hH⟩ := HP3.out; subst e4; refine step_append_row rfl (.tmp 50) (.tmp 53) 34 34 rfl _ _ rfl rfl _ w4 hrun ?_)
    | (go_simp; go_at_call 46; refine (CO _ kd).mono ?_; rintro e w3 ⟨a3, n3, cap3, rfl, ho3, hk3⟩; obtain ⟨y0, y1, y2⟩ := HSS _ (kd.andNu hk3); have y1a := (HSS _ ((kd.andNu hk3).andAlloc (.cells #[.int .u8 f, .int .u8 t, .slice (some a3) n3 cap3] 38))).2.1; have HP3 := hide (PO w3 (kd.andNu hk3) a3 n3 cap3 _ (show w.heap.size ≤ w2.heap.size from kk.size) ho3); have HFR : Hid (∀ q, (Value.slice (some a3) n3 cap3).ownBlock = some q → w.heap.size ≤ q) := (fun q hq => Nat.le_trans (show w.heap.size ≤ w2.heap.size from kk.size) (ho3.lt q hq).1)))
  all_goals go_wp2
  all_goals go_ret
  all_goals exact ⟨rfl, _, _, hH.out.1, hH.out.2.1, hH.out.2.2, HFR.out⟩

set_option maxHeartbeats 400000 in
theorem send_fresh (h : Nt B w b bm nb room D v c L) (f t : Int) (f0 : 0 ≤ f) (hf : f < 33) (t0 : 0 ≤ t) (t1 : t < 256) (d : Value) (ys : List Int) (hr : Rd w d ys) (hc : Far c) (y0 : 0 < ys.length) (y1 : ys.length ≤ 1024) (hbar : bar D f t = false) (hroom : (L.length : Int) < room) :
    Calls Try.prog 16 #[.pointer (some ⟨b, 0, none⟩), .int .u8 f, .int .u8 t, d] w fun e w' => e = .returned (.int .i64 0) ∧ ∃ v' d', Nt B w' b bm nb room D v' { c with s := c.s + 1 } (L ++ [⟨f, t, d', ys⟩]) ∧ Fr b bm v w w' v' ∧ ∀ q, d'.ownBlock = some q → w.heap.size ≤ q := by
  obtain ⟨ad, cap, hd⟩ := hr.slice
  have MA := made_any h
  have OU := outside_any f w
  rw [show decide (33 ≤ f) = false from decide_eq_false (by omega)] at OU
  have TI := fun W (k : Kp Nu w W) => takeIn_okX (h.nu k) f t f0 (by omega) t0 t1 d ys (hr.nu k) y0 y1 hbar hroom
  have KA := Kp.refl Nu w
  have hs0 := hc.s0
  have hs1 : c.s ≤ 4611686018427387000 := hc.s1
  subst hd
  go_enter Try.func16, Try.ntmps16
  go_wp2_with fail
  refine MA.mono ?_; rintro e w' ⟨rfl, rfl⟩
  go_wp2_with fail
  refine OU.mono ?_; rintro e w' ⟨rfl, rfl⟩
  go_wp2_with fail
  refine (TI _ KA).mono ?_; rintro e w2 ⟨rfl, v', d', hN, hk, hlie, hfr⟩
  have hF2 : Fr b bm v w' w2 v' := ⟨hk, hlie⟩
  have HFR := hide hfr
  clear TI MA OU hk hlie hfr
  have c3 := hN.c3
  have f3 := free3 hN.blk 3
  go_wp2
  go_ret
  exact ⟨rfl, v', d', hN.set 3 _ rfl, hF2.set _ _, HFR.out⟩
end

/-- a network keeps, where blocks turn that are neither its own nor those of its datagrams -/
theorem Nt.keepX {B b bm nb : Nat} {w w' : World} {room : Int} {D : DataW Unit} {v : Value} {c : Ct} {L : List Gm} {S : Nat → Prop} (h : Nt B w b bm nb room D v c L) (k : Kp S w w') (hS : ∀ i, i < w.heap.size → S i → ¬ fp b bm v i ∧ ∀ g ∈ L, g.d.ownBlock ≠ some i) : Nt B w' b bm nb room D v c L := by
  refine ⟨(k.block b (blk_lt h.blk) (fun e => (hS b (blk_lt h.blk) e).1 (.inl rfl))).trans h.blk, ?_, own_keep h.own (fun g hg => k.block g (own_lt h.own hg) (fun e => (hS g (own_lt h.own hg) e).1 (.inr (.inr hg.symm)))), ?_, h.hb, h.hm, h.r0, h.r1, h.len⟩
  · have hbm : w'.heap[bm]? = w.heap[bm]? := k.block bm h.map.lt (fun e => (hS bm h.map.lt e).1 (.inr (.inl rfl)))
    obtain ⟨es, clock, hb, r⟩ := h.map
    exact ⟨es, clock, hbm.trans hb, r⟩
  · intro g hg
    have hd := h.dat g hg
    exact ⟨own_keep hd.own (fun i hi => k.block i (own_lt hd.own hi) (fun e => (hS i (own_lt hd.own hi) e).2 g hg hi)), hd.pos, hd.le, hd.f0, hd.f1, hd.t0, hd.t1⟩
end Go.Proofs.Ythajboipnjjgfaa.Ly
namespace Go.Proofs.Ythajboipnjjgfaa.Ly
open Go.RowKit Go.Maps
set_option linter.unusedVariables false

/-- two rows of bytes that grow, of what the list says -/
structure Ft (w wt : World) (k : Nat) (fs ts : List Int) (vf vt : Value) : Prop where
  kp : Kp Nu w wt
  f : wt.ownsRow w.heap.size 28 1 vf k (cs (fs.take k))
  t : wt.ownsRow w.heap.size 28 1 vt k (cs (ts.take k))
  ap : ∀ g, vf.ownBlock = some g → vt.ownBlock ≠ some g
theorem Ft.start (w : World) (fs ts : List Int) : Ft w w 0 fs ts (.slice none 0 0) (.slice none 0 0) :=
  ⟨Kp.refl _ _, World.ownsRow_nil w _ _ _, World.ownsRow_nil w _ _ _, fun g h => by cases h⟩
theorem cs_take_succ {xs : List Int} {k : Nat} {x : Int} (h : xs[k]? = some x) : cs (xs.take k) ++ [.int .u8 x] = cs (xs.take (k + 1)) := by
  rw [List.take_add_one, h]
  simp [cs]

/-- the rows of datagrams written over -/
structure Wo (w wt : World) (r q k : Nat) (lv : Value) : Prop where
  kp : Kp (fun i => i = r) w wt
  own : ∃ xs, wt.ownsRow 0 38 3 lv q xs ∧ ∀ j, j < k → xs[j * 3]? = some (.int .u8 77)
  lie : ∀ g, lv.ownBlock = some g → g = r ∨ w.heap.size ≤ g
theorem Wo.set {w wt : World} {r q k cap : Nat} (h : Wo w wt r q k (.slice (some ⟨r, 0, none⟩) q cap)) (hk : k < q) (y z : Value) :
    Wo w (((wt.setCell ⟨r, k * 3, none⟩ (.int .u8 77)).setCell ⟨r, k * 3 + 1, none⟩ y).setCell ⟨r, k * 3 + 2, none⟩ z) r q (k + 1) (.slice (some ⟨r, 0, none⟩) q cap) := by
  obtain ⟨xs, ho, hx⟩ := h.own
  have hlen : xs.length = q * 3 := ho.1
  have k1 := h.kp.andSet ⟨r, k * 3, none⟩ (.int .u8 77) (.inr rfl)
  have k2 := k1.andSet ⟨r, k * 3 + 1, none⟩ y (.inr rfl)
  have k3 := k2.andSet ⟨r, k * 3 + 2, none⟩ z (.inr rfl)
  refine ⟨k3, ⟨_, (((ho.stored (k * 3) _).1.stored (k * 3 + 1) y).1.stored (k * 3 + 2) z).1, ?_⟩, h.lie⟩
  intro j hj
  rw [List.getElem?_set_ne (by omega), List.getElem?_set_ne (by omega)]
  by_cases e : j = k
  · subst e
    rw [List.getElem?_set_self (by omega)]
  · rw [List.getElem?_set_ne (by omega)]
    exact hx j (by omega)
theorem Wo.at {w wt : World} {r q k cap : Nat} (h : Wo w wt r q k (.slice (some ⟨r, 0, none⟩) q cap)) {o : Nat} (ho : o < q * 3) : (∃ x, wt.cell? ⟨r, o, none⟩ = some x) ∧ wt.frozen? ⟨r, o, none⟩ = false := by
  obtain ⟨xs, hO, hx⟩ := h.own
  have hlen : xs.length = q * 3 := hO.1
  refine ⟨⟨xs[o]'(by omega), ?_⟩, hO.frozenAt o⟩
  have := hO.cells (g := r) rfl o (xs[o]'(by omega)) (List.getElem?_eq_getElem (by omega))
  rwa [Addr.add_lit, Nat.zero_add] at this
end Go.Proofs.Ythajboipnjjgfaa.Ly
namespace Go.Proofs.Ythajboipnjjgfaa.Ly
open Go.RowKit Go.Maps
set_option linter.unusedVariables false

theorem info28 : (Try.prog.info? 28).map (fun i => (i.zero, i.size, i.bytes)) = some (some (.int .u8 0), 1, 1) := by kernel_rfl

theorem row0_at {w : World} {B e size n o : Nat} {v x : Value} {xs : List Value} (h : w.ownsRow B e size v n xs) (hn : 0 < n) (hx : xs[o]? = some x) : ∃ r cap, v = .slice (some ⟨r, 0, none⟩) n cap ∧ w.cell? ⟨r, o, none⟩ = some x := by
  rcases h.2 with ⟨_, h0⟩ | ⟨r, cap, cur, e, _⟩
  · omega
  · subst e
    have := h.cells (g := r) rfl o x hx
    rw [Addr.add_lit, Nat.zero_add] at this
    exact ⟨r, cap, rfl, this⟩
theorem cs_at {w : World} {B e n k : Nat} {v : Value} {ys : List Int} {x : Int} (h : w.ownsRow B e 1 v n (cs ys)) (hk : k < n) (hx : ys[k]? = some x) : ∃ r cap, v = .slice (some ⟨r, 0, none⟩) n cap ∧ w.cell? ⟨r, k, none⟩ = some (.int .u8 x) :=
  row0_at h (by omega) (by simp [cs, hx])

set_option maxRecDepth 100000 in
set_option maxHeartbeats 1000000 in
theorem listFresh_any {w : World} {Bl B2 r cl N : Nat} {u2 ud : Value} {L2 : List Gm} {xs : List Value} {ys : List Int} {g0 : Gm} (hl : w.ownsRow Bl 38 3 (.slice (some ⟨r, 0, none⟩) N cl) N xs) (h2 : w.ownsRow B2 38 3 u2 L2.length (cells L2)) (hN : L2.length = N) (hN0 : 0 < N) (hN1 : N ≤ 4096) (hap : u2.ownBlock ≠ some r)
    (hd : ∀ g ∈ L2, Dg w B2 g) (hlast : L2[N - 1]? = some g0) (hy : g0.ys = ys) (hrd : ∀ W, Kp (fun i => i = r) w W → Rd W ud ys) :
    Calls Try.prog 28 #[.slice (some ⟨r, 0, none⟩) N cl, u2, ud] w fun e w' => e = .returned (.bool true) ∧ Kp (fun i => i = r) w w' := by
  obtain ⟨i28, hi28, hza, hzb, hzc⟩ := info_parts info28
  obtain ⟨i38, hi38, hz0, hz1, hz2⟩ := info_parts info38
  obtain ⟨ad2, cap2, hu2⟩ := own_slice h2
  obtain ⟨adu, capu, hud⟩ := (hrd w (Kp.refl _ _)).slice
  have HH := hide (And.intro hl (And.intro h2 (And.intro hN (And.intro hd (And.intro hlast (And.intro hy (And.intro hrd hap)))))))
  rw [hN] at hu2
  have HU2 := hide hu2
  have HUD := hide hud
  rw [hu2, hud]
  generalize ys.length = NY at *
  clear hl h2 hN hd hlast hy hrd hap hu2 hud
  have HF0 : Hid (Ft w w 0 (L2.map Gm.f) (L2.map Gm.t) (.slice none 0 0) (.slice none 0 0)) := Ft.start w _ _
  go_enter Try.func28, Try.ntmps28
  go_wp2_with fail
  go_loopw [8, 9, 10] (fun f t i wt => ∃ (k : Nat) (af : Option Addr) (cf : Nat) (at_ : Option Addr) (ct : Nat), k ≤ N ∧ i = .int .i64 (k : Int) ∧ f = .slice af k cf ∧ t = .slice at_ k ct ∧ Hid (Ft w wt k (L2.map Gm.f) (L2.map Gm.t) (.slice af k cf) (.slice at_ k ct))) (fun _ _ i _ => N - (intOf i).toNat)
  case atStart => exact ⟨0, _, _, _, _, by omega, rfl, rfl, rfl, HF0⟩
  case round =>
    obtain ⟨k, af, cf, at_, ct, hk, rfl, rfl, rfl, hI⟩ := hrel
    clear HF0
    by_cases hlt : k < N
    · have hltI : (k : Int) < (N : Int) := by omega
      have hk0 : (0 : Int) ≤ (k : Int) := by omega
      obtain ⟨hl, h2, hN, hd, hlast, hy, hrd, hap⟩ := HH.out
      obtain ⟨g, hg⟩ : ∃ g, L2[k]? = some g := ⟨_, List.getElem?_eq_getElem (by omega)⟩
      have HS : ∀ W, Kp Nu w W → ∃ r2, ad2 = some ⟨r2, 0, none⟩ ∧ W.cell? ⟨r2, k * 3, none⟩ = some (.int .u8 g.f) ∧ W.cell? ⟨r2, k * 3 + 1, none⟩ = some (.int .u8 g.t) := fun W q => by
        obtain ⟨r2, c2, e, x0, x1, x2⟩ := row_at (own_keep h2 (w' := W) (fun i hi => q.block i (own_lt h2 hi) (fun h => h))) hg
        rw [HU2.out] at e
        simp only [Value.slice.injEq] at e
        exact ⟨r2, e.1, x0, x1⟩
      obtain ⟨r2, rfl, x0, x1⟩ := HS wr hI.out.kp
      have HS2 : ∀ W, Kp Nu w W → W.cell? ⟨r2, k * 3 + 1, none⟩ = some (.int .u8 g.t) := fun W q => by
        obtain ⟨r3, e, _, y1⟩ := HS W q
        simp only [Option.some.injEq, Addr.mk.injEq, and_true] at e
        subst e
        exact y1
      have HGF : Hid ((L2.map Gm.f)[k]? = some g.f ∧ (L2.map Gm.t)[k]? = some g.t) := ⟨by rw [List.getElem?_map, hg]; rfl, by rw [List.getElem?_map, hg]; rfl⟩
      clear hl h2 hN hd hlast hy hrd hap hg HS
      go_wp2_with (first
        | (at_builtin
           refine wpList_append_own_at _ rfl (.tmp 22) (.tmp 28) 89 rfl w.heap.size 28 i28 (.int .u8 0) 1 1 Try.underlying89 hi28 hza hzb hzc rfl (by decide) _ _ _ rfl (hI.out.f.alloc _) ⟨wr.heap.size, 0, none⟩ 1 1 [.int .u8 g.f] rfl rfl (cell_one_new _ _ _) (by simp [Value.oneCell']) (by unfold maxLen; omega) (by omega) (by have := hI.out.kp.size; simp; omega) ?_
           intro vf w4 ho hg hnil hat
           have kq : Kp Nu w w4 := (hI.out.kp.andAlloc _).trans (Kp.of_grown hg) (fun i hi e => by have := (hI.out.f.lt i e.symm).1; omega)
           have hot : w4.ownsRow w.heap.size 28 1 (.slice at_ k ct) k (cs ((L2.map Gm.t).take k)) := own_keep (hI.out.t.alloc (.cells #[.int .u8 g.f] 28)) (fun q hq => hg.block q (own_lt (hI.out.t.alloc (.cells #[.int .u8 g.f] 28)) hq) (fun e => hI.out.ap q e.symm hq))
           have hap4 : ∀ q, vf.ownBlock = some q → (Value.slice at_ k ct).ownBlock ≠ some q := fun q hq e => by
             rcases hat with h | h
             · rw [h] at hq; exact hI.out.ap q hq e
             · rw [h] at hq
               cases hq
               have := own_lt hI.out.t e
               simp at this
               omega
           rw [cs_take_succ HGF.out.1] at ho
           obtain ⟨af1, cf1, ev⟩ := own_slice ho
           subst ev
           have x2 := HS2 w4 kq
           have HQ := hide (And.intro kq (And.intro ho (And.intro hot hap4)))
           clear ho hg hnil hat kq hot hap4 hI)
        | (at_builtin
           refine wpList_append_own_at _ rfl (.tmp 30) (.tmp 36) 89 rfl w.heap.size 28 i28 (.int .u8 0) 1 1 Try.underlying89 hi28 hza hzb hzc rfl (by decide) _ _ _ rfl (HQ.out.2.2.1.alloc _) ⟨w4.heap.size, 0, none⟩ 1 1 [.int .u8 g.t] rfl rfl (cell_one_new _ _ _) (by simp [Value.oneCell']) (by unfold maxLen; omega) (by omega) (by have := HQ.out.1.size; simp; omega) ?_
           intro vt w5 ho hg hnil hat
           have kq : Kp Nu w w5 := (HQ.out.1.andAlloc _).trans (Kp.of_grown hg) (fun i hi e => by have := (HQ.out.2.2.1.lt i e.symm).1; omega)
           rw [cs_take_succ HGF.out.2] at ho
           have hof : w5.ownsRow w.heap.size 28 1 (.slice af1 (k + 1) cf1) (k + 1) (cs ((L2.map Gm.f).take (k + 1))) := own_keep (HQ.out.2.1.alloc (.cells #[.int .u8 g.t] 28)) (fun q hq => hg.block q (own_lt (HQ.out.2.1.alloc (.cells #[.int .u8 g.t] 28)) hq) (fun e => HQ.out.2.2.2 q hq e.symm))
           have hap5 : ∀ q, (Value.slice af1 (k + 1) cf1).ownBlock = some q → vt.ownBlock ≠ some q := fun q hq e => by
             rcases hat with h | h
             · rw [h] at e; exact HQ.out.2.2.2 q hq e
             · rw [h] at e
               cases e
               have := own_lt HQ.out.2.1 hq
               simp at this
               omega
           obtain ⟨at1, ct1, ev⟩ := own_slice ho
           subst ev
           have HR : Hid (Ft w w5 (k + 1) (L2.map Gm.f) (L2.map Gm.t) (.slice af1 (k + 1) cf1) (.slice at1 (k + 1) ct1)) := ⟨kq, hof, ho, hap5⟩
           clear ho hg hnil hat kq hof hap5 HQ)
        | go_in)
      exact ⟨⟨k + 1, _, _, _, _, by omega, by go_num, rfl, rfl, HR⟩, by simp [intOf]; omega⟩
    · obtain rfl : k = N := by omega
      have hge : ¬ (k : Int) < (k : Int) := by omega
      rename World => w1
      have HW0 : Hid (Wo w1 w1 r k 0 (.slice (some ⟨r, 0, none⟩) k cl)) := ⟨Kp.refl _ _, ⟨xs, own_base (own_keep HH.out.1 (fun i hi => hI.out.kp.block i (own_lt HH.out.1 hi) (fun h => h))) (Nat.zero_le _), fun j hj => by omega⟩, fun g hg => by cases hg; exact .inl rfl⟩
      go_wp2_with fail
      go_loopw [11] (fun i wt => ∃ (j : Nat), j ≤ k ∧ i = .int .i64 (j : Int) ∧ Hid (Wo w1 wt r k j (.slice (some ⟨r, 0, none⟩) k cl))) (fun i _ => k - (intOf i).toNat)
      case atStart => exact ⟨0, by omega, rfl, HW0⟩
      case round =>
        obtain ⟨j, hj, rfl, hJ⟩ := hrel
        clear HW0
        by_cases hlt2 : j < k
        · have hltI : (j : Int) < (k : Int) := by omega
          have hj0 : (0 : Int) ≤ (j : Int) := by omega
          obtain ⟨⟨v0, x0⟩, f0⟩ := hJ.out.at (o := j * 3) (by omega)
          obtain ⟨⟨v1, x1⟩, f1⟩ := hJ.out.at (o := j * 3 + 1) (by omega)
          obtain ⟨⟨v2, x2⟩, f2⟩ := hJ.out.at (o := j * 3 + 2) (by omega)
          have HS := fun y z => hide (hJ.out.set hlt2 y z)
          clear hJ
          go_wp2
          exact ⟨⟨j + 1, by omega, by go_num, HS _ _⟩, by simp [intOf]; omega⟩
        · obtain rfl : j = k := by omega
          go_wp2_with fail
          go_loopw [12, 13] (fun l i wt => ∃ (p : Nat) (ad : Option Addr) (cp : Nat), p ≤ 80 ∧ i = .int .i64 (p : Int) ∧ l = .slice ad (j + p) cp ∧ Hid (Wo w1 wt r (j + p) j (.slice ad (j + p) cp))) (fun _ i _ => 80 - (intOf i).toNat)
          case atStart => exact ⟨0, _, _, by omega, rfl, rfl, hJ⟩
          case round =>
            obtain ⟨p, ad, cp, hp, rfl, rfl, hL⟩ := hrel
            clear hJ
            by_cases hlt3 : p < 80
            · have hltI : (p : Int) < 80 := by omega
              go_wp2_with (first
                | (at_builtin
                   obtain ⟨zs, hzs, hz7⟩ := hL.out.own
                   refine wpList_append_own_at _ rfl (.tmp 55) (.tmp 57) 34 rfl 0 38 i38 (.agg #[.int .u8 0, .int .u8 0, .slice none 0 0]) 3 32 Try.underlying34 hi38 hz0 hz1 hz2 rfl (by decide) _ _ _ rfl (hzs.alloc _) ⟨wr.heap.size, 0, none⟩ 1 1 [.int .u8 78, .int .u8 0, .slice none 0 0] rfl rfl ?_ ?_ ?_ ?_ ?_ ?_
                   · exact newAt _ _ _ _ rfl
                   · first | (simp [Value.oneCell']; done) | (intro u hu; simp only [List.mem_cons, List.not_mem_nil, or_false] at hu; rcases hu with rfl | rfl | rfl <;> rfl)
                   · first | (unfold maxLen; omega)
                   · first | omega
                   · first | exact Nat.zero_le _
                   intro v' w7 ho hg hnil hat
                   have HL1 : Hid (Wo w1 w7 r (j + p + 1) j v') := by
                     refine ⟨(hL.out.kp.andAlloc _).trans (Kp.of_grown hg) (fun i hi e => ?_), ⟨_, ho, fun t ht => ?_⟩, fun g hgv => ?_⟩
                     · first | (rcases hL.out.lie i e.symm with e | e
                                · exact e
                                · omega)
                     · first | (rw [List.getElem?_append_left (by have := hzs.1; omega)]
                                exact hz7 t ht)
                     · first | (rcases hat with e | e
                                · rw [e] at hgv; exact hL.out.lie g hgv
                                · rw [e] at hgv; cases hgv; exact .inr ((hL.out.kp.andAlloc _).size))
                   obtain ⟨ad1, cp1, ev⟩ := own_slice ho
                   subst ev
                   clear hzs hz7 ho hg hnil hat hL)
                | go_in)
              exact ⟨⟨p + 1, ad1, cp1, by omega, by go_num, rfl, HL1⟩, by simp [intOf]; omega⟩
            · obtain rfl : p = 80 := by omega
              have hge3 : ¬ ((80 : Nat) : Int) < 80 := by omega
              rename World => w2
              obtain ⟨hl, h2, hN, hd, hlast, hy, hrd, hap⟩ := HH.out
              have hr0 : r < w.heap.size := own_lt hl rfl
              have kR : Kp (fun i => i = r) w w2 := (hI.out.kp.mono (fun _ _ h => h.elim)).trans hL.out.kp (fun _ _ e => e)
              have h2' : w2.ownsRow B2 38 3 u2 L2.length (cells L2) := own_keep h2 (fun i hi => kR.block i (own_lt h2 hi) (fun e => hap (by rw [← e]; exact hi)))
              have hf' : w2.ownsRow w.heap.size 28 1 (.slice af j cf) j (cs ((L2.map Gm.f).take j)) := own_keep hI.out.f (fun i hi => hL.out.kp.block i (own_lt hI.out.f hi) (fun e => by have := (hI.out.f.lt i hi).1; omega))
              have ht' : w2.ownsRow w.heap.size 28 1 (.slice at_ j ct) j (cs ((L2.map Gm.t).take j)) := own_keep hI.out.t (fun i hi => hL.out.kp.block i (own_lt hI.out.t hi) (fun e => by have := (hI.out.t.lt i hi).1; omega))
              have hd' : ∀ g ∈ L2, Dg w2 B2 g := fun g hg => (hd g hg).keep (fun i cur hi => kR.block i (blk_lt hi) (fun e => by
                obtain ⟨c0, hc0⟩ := own_obj hl (g := r) rfl
                rw [e, hc0] at hi
                cases hi))
              have hrd' := hrd w2 kR
              obtain ⟨zs, hzs, hz7⟩ := hL.out.own
              have HX := hide (And.intro kR (And.intro h2' (And.intro hf' (And.intro ht' (And.intro hd' (And.intro hrd' (And.intro hN (And.intro hlast (And.intro hy (And.intro hzs hz7))))))))))
              clear hl h2 hN hd hlast hy hrd hap hr0 kR h2' hf' ht' hd' hrd' hzs hz7 hL hI HH
              go_wp2_with fail
              go_loopw [14] (fun i wt => ∃ (q n : Nat), q ≤ j ∧ i = .int .i64 (q : Int) ∧ wt = w2.drewN n) (fun i _ => j - (intOf i).toNat)
              case atStart => exact ⟨0, 0, by omega, rfl, rfl⟩
              case round =>
                obtain ⟨q, n, hq, rfl, rfl⟩ := hrel
                obtain ⟨kR, h2', hf', ht', hd', hrd', hN, hlast, hy, hzs, hz7⟩ := HX.out
                by_cases hlt4 : q < j
                · have hltI : (q : Int) < (j : Int) := by omega
                  have hltJ : (q : Int) < (j : Int) + 80 := by omega
                  have hq0 : (0 : Int) ≤ (q : Int) := by omega
                  obtain ⟨g, hg⟩ : ∃ g, L2[q]? = some g := ⟨_, List.getElem?_eq_getElem (by rw [hN]; exact hlt4)⟩
                  obtain ⟨r2, c2, e, x0, x1, x2⟩ := row_at h2' hg
                  rw [HU2.out] at e
                  simp only [Value.slice.injEq] at e
                  obtain ⟨rfl, e2, e3⟩ := e
                  clear e2 e3
                  have hD := hd' g (List.mem_of_getElem? hg)
                  obtain ⟨kd, cd, ed⟩ := hD.slice
                  rw [ed] at x2
                  have hpos : ((g.ys.length : Int) == 0) = false := by have := hD.pos; rw [beq_eq_false_iff_ne]; omega
                  generalize g.ys.length = ND at *
                  obtain ⟨rf, kf, ef, y0⟩ := cs_at hf' (x := g.f) (k := q) hlt4 (by rw [List.getElem?_take, if_pos hlt4, List.getElem?_map, hg]; rfl)
                  obtain ⟨rt, kt, et, y1⟩ := cs_at ht' (x := g.t) (k := q) hlt4 (by rw [List.getElem?_take, if_pos hlt4, List.getElem?_map, hg]; rfl)
                  obtain ⟨rl, kl, el, y2⟩ := row0_at hzs (o := q * 3) (x := .int .u8 77) (by omega) (hz7 q hlt4)
                  simp only [Value.slice.injEq] at ef et el
                  obtain ⟨rfl, ef2, ef3⟩ := ef
                  obtain ⟨rfl, et2, et3⟩ := et
                  obtain ⟨rfl, el2, el3⟩ := el
                  clear ef2 ef3 et2 et3 el2 el3 kR h2' hf' ht' hd' hrd' hN hlast hy hzs hz7 hg hD ed
                  have hff : (g.f != g.f) = false := by simp
                  have htt : (g.t != g.t) = false := by simp
                  generalize g.f = gf at *
                  generalize g.t = gt at *
                  go_wp2_with fail
                  go_quiet (fail)
                  go_wp2
                  exact ⟨⟨q + 1, n + nq, by omega, by go_num, rfl⟩, by simp [intOf]; omega⟩
                · obtain rfl : q = j := by omega
                  have hge4 : ¬ (q : Int) < (q : Int) := by omega
                  obtain ⟨r2, c2, e, x0, x1, x2⟩ := row_at h2' hlast
                  rw [HU2.out] at e
                  simp only [Value.slice.injEq] at e
                  obtain ⟨rfl, e2, e3⟩ := e
                  clear e2 e3 x0 x1
                  have hD := hd' g0 (List.mem_of_getElem? hlast)
                  obtain ⟨kd, cd, ed⟩ := hD.slice
                  have SA := same_any ((Rd.of_own hD.own).nu (kp_drewN w2 n)) (hrd'.nu (kp_drewN w2 n)) (by have := hD.le; omega)
                  rw [show decide (g0.ys = ys) = true from decide_eq_true hy, HUD.out, ed] at SA
                  rw [ed] at x2
                  have HKR := hide kR
                  have hq1 : (0 : Int) ≤ (q : Int) - 1 := by omega
                  have hq2 : (q : Int) - 1 < (q : Int) := by omega
                  have hcast : ((q : Int) - 1).toNat = q - 1 := by omega
                  have heq : (((q + 80 : Nat) : Int) == (q : Int) + 80) = true := by simp
                  generalize g0.ys.length = NG at *
                  clear kR h2' hf' ht' hd' hrd' hN hlast hy hzs hz7 hD ed HX
                  go_wp2_with fail
                  refine SA.mono ?_; rintro e w9 ⟨rfl, hk9⟩
                  have HK9 := hide (HKR.out.trans ((kp_drewN w2 n).andNu hk9) (fun _ _ h => h.elim))
                  clear SA hk9
                  go_wp2
                  go_ret
                  exact ⟨rfl, HK9.out⟩
end Go.Proofs.Ythajboipnjjgfaa.Ly
namespace Go.Proofs.Ythajboipnjjgfaa.Ly
open Go.RowKit Go.Maps
set_option linter.unusedVariables false

/-- the slices of an entry -/
def Hh.vals (h : Hh) : List Value := [h.l, h.g1, h.g2, h.g3, h.g9]
/-- no slice of the book lies in the block q -/
def Off (H : List Hh) (q : Nat) : Prop := ∀ h ∈ H, ∀ x ∈ h.vals, x.ownBlock ≠ some q
/-- the book: its row, and all that it holds is marked -/
structure Bq (w : World) (B : Nat) (vb : Value) (H : List Hh) : Prop where
  own : w.ownsRow B 47 6 vb H.length (hcs H)
  all : ∀ h ∈ H, Hm w B h

theorem Hm.keep {w w' : World} {B : Nat} {h : Hh} (q : Hm w B h) (hk : ∀ x ∈ h.vals, ∀ g, x.ownBlock = some g → w'.heap[g]? = w.heap[g]?) : Hm w' B h :=
  ⟨q.l.keep (hk _ (by simp [Hh.vals])), q.g1.keep (hk _ (by simp [Hh.vals])), q.g2.keep (hk _ (by simp [Hh.vals])), q.g3.keep (hk _ (by simp [Hh.vals])), q.g9.keep (hk _ (by simp [Hh.vals])), q.pos, q.le⟩
theorem Hm.lt {w : World} {B : Nat} {h : Hh} (q : Hm w B h) {x : Value} (hx : x ∈ h.vals) {g : Nat} (hg : x.ownBlock = some g) : g < w.heap.size ∧ ∃ cur, w.heap[g]? = some (.cells cur 5 (0, 0)) := by
  simp only [Hh.vals, List.mem_cons, List.not_mem_nil, or_false] at hx
  rcases hx with rfl | rfl | rfl | rfl | rfl
  · exact ⟨own_lt q.l hg, own_obj q.l hg⟩
  · exact ⟨own_lt q.g1 hg, own_obj q.g1 hg⟩
  · exact ⟨own_lt q.g2 hg, own_obj q.g2 hg⟩
  · exact ⟨own_lt q.g3 hg, own_obj q.g3 hg⟩
  · exact ⟨own_lt q.g9 hg, own_obj q.g9 hg⟩
/-- a block that is not there yet is no block of the book -/
theorem Bq.off_new {w : World} {B : Nat} {vb : Value} {H : List Hh} (h : Bq w B vb H) {q : Nat} (hq : w.heap.size ≤ q) : Off H q := fun e he x hx hg => by
  have := ((h.all e he).lt hx hg).1
  omega
theorem Bq.keep {w w' : World} {B : Nat} {vb : Value} {H : List Hh} {S : Nat → Prop} (h : Bq w B vb H) (k : Kp S w w') (hS : ∀ i, i < w.heap.size → S i → vb.ownBlock ≠ some i ∧ Off H i) : Bq w' B vb H :=
  ⟨own_keep h.own (fun g hg => k.block g (own_lt h.own hg) (fun e => (hS g (own_lt h.own hg) e).1 hg)), fun e he => (h.all e he).keep (fun x hx g hg => k.block g ((h.all e he).lt hx hg).1 (fun s => (hS g ((h.all e he).lt hx hg).1 s).2 e he x hx hg))⟩
theorem Bq.nu {w w' : World} {B : Nat} {vb : Value} {H : List Hh} (h : Bq w B vb H) (k : Kp Nu w w') : Bq w' B vb H := h.keep k (fun _ _ s => s.elim)
/-- a row of bytes that is none of the book's is marked -/
theorem Bq.held {w w' : World} {B gb : Nat} {vb : Value} {H : List Hh} {cur : Array Value} (h : Bq w B vb H) (k : Kp (fun i => i = gb) w w') (hc : w.heap[gb]? = some (.cells cur 5 (0, 0))) (ho : Off H gb) : Bq w' B vb H :=
  h.keep k (fun i _ e => by
    subst e
    refine ⟨fun e => ?_, ho⟩
    obtain ⟨c, hc'⟩ := own_obj h.own e
    rw [hc] at hc'
    cases hc')
theorem Off.add {H : List Hh} {q gb N : Nat} {e : Hh} (h : Off H q) (hl : ∀ x ∈ e.vals, ∀ g, x.ownBlock = some g → g = gb ∨ N ≤ g) (h1 : q ≠ gb) (h2 : q < N) : Off (H ++ [e]) q := by
  intro x hx y hy hg
  rcases List.mem_append.1 hx with hx | hx
  · exact h x hx y hy hg
  · simp only [List.mem_singleton] at hx
    subst hx
    rcases hl y hy q hg with e | e
    · exact h1 e
    · omega
/-- the network, where the book's slices are none of its datagrams' -/
theorem Nt.held {B Bh b bm nb gb : Nat} {w w' : World} {room : Int} {D : DataW Unit} {v : Value} {c : Ct} {L : List Gm} {cur : Array Value} (h : Nt B w b bm nb room D v c L) (k : Kp (fun i => i = gb) w w') (hc : w.heap[gb]? = some (.cells cur 5 (0, 0))) (hL : ∀ g ∈ L, g.d.ownBlock ≠ some gb) : Nt B w' b bm nb room D v c L :=
  h.keepX k (fun i _ e => by subst e; exact ⟨h.byte hc, hL⟩)
theorem info47 : (Try.prog.info? 47).map (fun i => (i.zero, i.size, i.bytes)) = some (some (.agg #[.slice none 0 0, .slice none 0 0, .slice none 0 0, .slice none 0 0, .slice none 0 0, .int .u8 0]), 6, 128) := by kernel_rfl
/-- one more entry in the book -/
theorem Bq.push {W w' : World} {B : Nat} {vb v' : Value} {H : List Hh} {e : Hh} (h : Bq W B vb H) (he : Hm W B e) (ho : w'.ownsRow B 47 6 v' (H.length + 1) (hcs H ++ e.cells)) (hg : W.grownBy w' vb.ownBlock) : Bq w' B v' (H ++ [e]) := by
  have key : ∀ x, Hm W B x → Hm w' B x := fun x hx => hx.keep (fun y hy g hgy => by
    obtain ⟨h1, cur, h2⟩ := hx.lt hy hgy
    refine hg.block g h1 (fun e => ?_)
    obtain ⟨c, hc⟩ := own_obj h.own e.symm
    rw [h2] at hc
    cases hc)
  refine ⟨?_, fun x hx => ?_⟩
  · rw [hcs_append, List.length_append]
    simpa [hcs] using ho
  · rcases List.mem_append.1 hx with hx | hx
    · exact key x (h.all x hx)
    · simp only [List.mem_singleton] at hx
      subst hx
      exact key _ he
end Go.Proofs.Ythajboipnjjgfaa.Ly
