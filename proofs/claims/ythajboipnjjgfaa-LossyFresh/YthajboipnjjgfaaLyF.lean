import Derived.Test.YthajboipnjjgfaaLyE
import Derived.Deep.RegionLaw
namespace Go.Proofs.Ythajboipnjjgfaa.Ly
open Go.RowKit Go.Maps
set_option linter.unusedVariables false

/-- an append of one datagram -/
theorem app38 {w : World} {B : Nat} {v : Value} {L : List Gm} (own : w.ownsRow B 38 3 v L.length (cells L)) (g : Gm) (hg : ∃ ad n cap, g.d = .slice ad n cap) (x : Nat) (hx : w.heap[x]? = some (.cells #[.int .u8 g.f, .int .u8 g.t, g.d] 38 (0, 0))) (hL : L.length ≤ 4096) (hB : B ≤ w.heap.size) (ty : TypeId) :
    ∃ v' w', (Builtin.append_ #[34, 34] ty #[v, .slice (some ⟨x, 0, none⟩) 1 1]).run Try.prog w = .ok v' w' ∧ w'.ownsRow B 38 3 v' (L ++ [g]).length (cells (L ++ [g])) ∧ w.grownBy w' v.ownBlock ∧ (v'.ownBlock = v.ownBlock ∨ v'.ownBlock = some w.heap.size) := by
  obtain ⟨i0, hi, hz0, hz1, hz2⟩ := info_parts info38
  obtain ⟨ad, n, cap, hgd⟩ := hg
  obtain ⟨v', w', h1, h2, h3, _, h5⟩ := run_append_own_at (P := Try.prog) w B 34 ty 38 i0 _ 3 32 Try.underlying34 hi hz0 hz1 hz2 rfl (by decide) v L.length (cells L) own ⟨x, 0, none⟩ 1 1 g.cells rfl (by
    intro j u hj
    rw [Addr.add_lit]
    simp only [World.cell?, hx]
    simpa [Gm.cells] using hj) (by
    intro u hu
    simp only [Gm.cells, List.mem_cons, List.not_mem_nil, or_false] at hu
    rcases hu with rfl | rfl | rfl
    · rfl
    · rfl
    · rw [hgd]; rfl) (by unfold maxLen; omega) (by omega) hB
  refine ⟨v', w', h1, ?_, h3, h5⟩
  rw [cells_append, List.length_append]
  simpa [cells] using h2

section
variable {B b bm nb : Nat} {w w' : World} {room : Int} {D : DataW Unit} {v : Value} {c : Ct} {L : List Gm}

theorem takeIn_full (h : Nt B w b bm nb room D v c L) (f t : Int) (f0 : 0 ≤ f) (f1 : f < 256) (t0 : 0 ≤ t) (t1 : t < 256) (d : Value) (ys : List Int) (hr : Rd w d ys) (hy0 : 0 < ys.length) (hy : ys.length ≤ 1024) (hbar : bar D f t = false) (hfull : room ≤ (L.length : Int)) (hc0 : 0 ≤ c.l) (hc1 : c.l < 4611686018427387904) :
    Calls Try.prog 42 #[.pointer (some ⟨b, 0, none⟩), .agg #[.int .u8 f, .int .u8 t, d]] w fun e w' => e = .returned (.int .i64 52) ∧ Nt B w' b bm nb room D v { c with l := c.l + 1 } L ∧ Kp (fp b bm v) w w' := by
  obtain ⟨ad, cap, hd⟩ := hr.slice
  have h1 : ¬ (ys.length : Int) < 1 := by omega
  have h2 : ¬ (ys.length : Int) > 1024 := by omega
  have K1 := Kp.alloc w (.cells #[.int .u8 f, .int .u8 t, d] 38) Nu
  have BA := bars_any (h.nu K1) f t f0 f1 t0 t1 d ad _ cap hd
  rw [hbar] at BA
  subst hd
  obtain ⟨adl, capl, hvl⟩ := own_slice h.own
  subst hvl
  have mixed : Try.prog.follows .mixedOrders = true := by kernel_rfl
  generalize ys.length = N at *
  clear hy hy0 hr
  go_enter Try.func42, Try.ntmps42
  go_wp2_with fail
  refine BA.mono ?_; rintro e w2 ⟨rfl, hk2⟩
  have h3 := h.nu (K1.andNu hk2)
  have c0 := h3.c0
  have c1 := h3.c1
  have c8 := h3.c8
  have f8 := free3 h3.blk 8
  have kk := K1.andNu hk2
  have HL := hide h3
  clear BA hk2 K1 h h3
  generalize hM : L.length = M at c1
  rw [hM] at hfull
  have hge : (M : Int) ≥ room := hfull
  go_wp2
  go_region
  go_wp2
  go_ret
  subst hM
  refine ⟨rfl, HL.out.drew.set 8 _ rfl, fp_set (kk.drew.mono (fun _ _ h => h.elim)) _ _⟩

/-- the list has grown: the network behind the store of its new slice -/
theorem Nt.push {W : World} (h : Nt B w b bm nb room D v c L) {S : Nat → Prop} (k : Kp S w W) (hS : ∀ i, S i → some i = v.ownBlock) {v' : Value} {L' : List Gm} (own : W.ownsRow B 38 3 v' L'.length (cells L')) (hat : v'.ownBlock = v.ownBlock ∨ ∃ g, w.heap.size ≤ g ∧ v'.ownBlock = some g)
    (hd : ∀ g ∈ L', Dg W B g) (hl : (L'.length : Int) ≤ room) : Nt B (W.setCell ⟨b, 1, none⟩ v') b bm nb room D v' c L' := by
  have hbm : W.heap[bm]? = w.heap[bm]? := k.block bm h.map.lt (fun e => (h.ne_own (hS _ e).symm).2 rfl)
  have hbb : W.heap[b]? = w.heap[b]? := k.block b (blk_lt h.blk) (fun e => (h.ne_own (hS _ e).symm).1 rfl)
  have hb2 := hbb.trans h.blk
  have hmap : W.ownsMap Try.prog 86 unitElem bm nb D := by
    obtain ⟨es, clock, hb, r⟩ := h.map
    exact ⟨es, clock, hbm.trans hb, r⟩
  have ks : Kp (fun k => k = b) W (W.setCell ⟨b, 1, none⟩ v') := Kp.setCell W ⟨b, 1, none⟩ v'
  refine ⟨by rw [set3 hb2]; rfl, hmap.setCell h.ne_bm v', own_keep own (fun g hg => ks.block g (own_lt own hg) ?_), fun g hg => (hd g hg).keep (fun i cur hi => ks.block i (blk_lt hi) (fun e => ?_)), h.hb, h.hm, h.r0, h.r1, hl⟩
  · rintro rfl
    obtain ⟨cur, hc⟩ := own_obj own hg
    rw [hb2] at hc; cases hc
  · subst e
    rw [hb2] at hi; cases hi

theorem push_ok {w3 : World} (h : Nt B w b bm nb room D v c L) (k : Kp Nu w w3) {f t : Int} (f0 : 0 ≤ f) (f1 : f < 256) (t0 : 0 ≤ t) (t1 : t < 256) {d' : Value} {ys : List Int} (hs : ∃ a n cap, d' = .slice (some a) n cap) {B' : Nat} (hB : w.heap.size ≤ B') (ho : w3.ownsRow B' 5 1 d' ys.length (cs ys)) (hy0 : 0 < ys.length) (hy : ys.length ≤ 1024) (hroom : (L.length : Int) < room) :
    ∃ v' w4, (∃ ad n cap, v' = .slice ad n cap) ∧ (Builtin.append_ #[34, 34] 34 #[v, .slice (some ⟨w3.heap.size, 0, none⟩) 1 1]).run Try.prog (w3.alloc (.cells #[.int .u8 f, .int .u8 t, d'] 38)) = .ok v' w4 ∧ w4.cell? ⟨b, 1, none⟩ = some v ∧ w4.frozen? ⟨b, 1, none⟩ = false ∧
      Hid (Nt B (w4.setCell ⟨b, 1, none⟩ v') b bm nb room D v' c (L ++ [⟨f, t, d', ys⟩]) ∧ Kp (fp b bm v) w (w4.setCell ⟨b, 1, none⟩ v') ∧ (v'.ownBlock = v.ownBlock ∨ ∃ g, w.heap.size ≤ g ∧ v'.ownBlock = some g)) := by
  have ka : Kp Nu w (w3.alloc (.cells #[.int .u8 f, .int .u8 t, d'] 38)) := k.andAlloc _
  have hBw : B ≤ w.heap.size := Nat.le_trans h.hb (Nat.le_of_lt (blk_lt h.blk))
  have hl := h.len
  have hr1 := h.r1
  have hd' : ∃ ad n cap, d' = .slice ad n cap := by obtain ⟨a, n, cap, e⟩ := hs; exact ⟨_, n, cap, e⟩
  obtain ⟨v', w4, hrun, own', hg, hat⟩ := app38 (h.nu ka).own ⟨f, t, d', ys⟩ hd' w3.heap.size (heap_alloc_new w3 _) (by omega) (by have := ka.size; omega) 34
  have kg := Kp.of_grown hg
  have k4 : Kp (fun k => some k = v.ownBlock) w w4 := (ka.mono (fun _ _ h => h.elim)).trans kg (fun _ _ e => e)
  have hlie : v'.ownBlock = v.ownBlock ∨ ∃ g, w.heap.size ≤ g ∧ v'.ownBlock = some g := hat.imp id (fun e => ⟨_, ka.size, e⟩)
  have hbb : w4.heap[b]? = w.heap[b]? := k4.block b (blk_lt h.blk) (fun e => (h.ne_own e.symm).1 rfl)
  have byte : ∀ (i : Nat) (cur : Array Value), (w3.alloc (.cells #[.int .u8 f, .int .u8 t, d'] 38)).heap[i]? = some (.cells cur 5 (0, 0)) → w4.heap[i]? = (w3.alloc (.cells #[.int .u8 f, .int .u8 t, d'] 38)).heap[i]? := fun i cur hi => kg.block i (blk_lt hi) (fun e => (h.nu ka).byte hi (.inr (.inr e)))
  refine ⟨v', w4, (by obtain ⟨ad, cap, e⟩ := own_slice own'; exact ⟨_, _, _, e⟩), hrun, ?_, free3 (hbb.trans h.blk) 1, ?_, fp_set (k4.mono (fun _ _ e => .inr (.inr e))) _ _, hlie⟩
  · simp [World.cell?, hbb, h.blk, nblk]
  · refine h.push k4 (fun _ e => e) own' hlie ?_ (by rw [List.length_append]; simp; omega)
    intro g hgm
    rcases List.mem_append.1 hgm with hgm | hgm
    · exact ((h.nu ka).dat g hgm).keep byte
    · simp at hgm
      subst hgm
      refine Dg.keep (w := w3.alloc (.cells #[.int .u8 f, .int .u8 t, d'] 38)) ⟨own_base (own_keep ho (fun g hg => Below.heap_alloc w3 _ g (own_lt ho hg))) (by omega), hy0, hy, f0, f1, t0, t1⟩ byte

set_option maxHeartbeats 1000000 in
theorem takeIn_ok (h : Nt B w b bm nb room D v c L) (f t : Int) (f0 : 0 ≤ f) (f1 : f < 256) (t0 : 0 ≤ t) (t1 : t < 256) (d : Value) (ys : List Int) (hr : Rd w d ys) (hy0 : 0 < ys.length) (hy : ys.length ≤ 1024) (hbar : bar D f t = false) (hroom : (L.length : Int) < room) :
    Calls Try.prog 42 #[.pointer (some ⟨b, 0, none⟩), .agg #[.int .u8 f, .int .u8 t, d]] w fun e w' => e = .returned (.int .i64 0) ∧ ∃ v' d', Nt B w' b bm nb room D v' c (L ++ [⟨f, t, d', ys⟩]) ∧ Kp (fp b bm v) w w' ∧ (v'.ownBlock = v.ownBlock ∨ ∃ g, w.heap.size ≤ g ∧ v'.ownBlock = some g) := by
  obtain ⟨ad, cap, hd⟩ := hr.slice
  have h1 : ¬ (ys.length : Int) < 1 := by omega
  have h2 : ¬ (ys.length : Int) > 1024 := by omega
  have K1 := Kp.alloc w (.cells #[.int .u8 f, .int .u8 t, d] 38) Nu
  have BA := bars_any (h.nu K1) f t f0 f1 t0 t1 d ad _ cap hd
  rw [hbar] at BA
  have CO := fun W (k : Kp Nu w W) => copied_any W f t d ys (hr.nu k) hy hy0
  subst hd
  obtain ⟨adl, capl, hvl⟩ := own_slice h.own
  have mixed : Try.prog.follows .mixedOrders = true := by kernel_rfl
  have HH := hide h
  obtain ⟨M, hM⟩ : ∃ M, L.length = M := ⟨_, rfl⟩
  have HM := hide hM
  have hlt : ¬ (M : Int) ≥ room := by omega
  rw [hM] at hvl
  have HV := hide hvl
  have HSS : ∀ W, Kp Nu w W → W.cell? ⟨b, 0, none⟩ = some (.int .i64 room) ∧ W.cell? ⟨b, 1, none⟩ = some (.slice adl M capl) ∧ W.frozen? ⟨b, 1, none⟩ = false := fun W k => ⟨(h.nu k).c0, by rw [← hvl]; exact (h.nu k).c1, free3 (h.nu k).blk 1⟩
  have PO := fun W (k : Kp Nu w W) a' n' cap' B' (hB : w.heap.size ≤ B') (ho : W.ownsRow B' 5 1 (.slice (some a') n' cap') ys.length (cs ys)) => push_ok h k f0 f1 t0 t1 (d' := .slice (some a') n' cap') ⟨_, _, _, rfl⟩ hB ho hy0 hy hroom
  rw [hvl] at PO
  rw [hvl]
  generalize ys.length = N at *
  clear hy hy0 hr h hM hvl hroom
  go_enter Try.func42, Try.ntmps42
  go_wp2_with fail
  refine BA.mono ?_; rintro e w2 ⟨rfl, hk2⟩
  have kk := K1.andNu hk2
  obtain ⟨s0, s1, s2⟩ := HSS _ kk
  have hbx := new_at w _ hk2
  obtain ⟨x0, x1, x2⟩ := cell3 hbx
  have kd := kk.drew.drew
  clear BA
  go_wp2_with fail
  go_region
  go_wp2_with fail
  go_region_law (first
    | (obtain ⟨v', w4, ⟨ad4, n4, cap4, e4⟩, hrun, z1, z2, hH⟩ := HP3.out; subst e4; refine step_append_row rfl (.tmp 50) (.tmp 53) 34 34 rfl _ _ rfl rfl _ w4 hrun ?_)
    | (go_simp; go_at_call 46; refine (CO _ kd).mono ?_; rintro e w3 ⟨a3, n3, cap3, rfl, ho3, hk3⟩; obtain ⟨y0, y1, y2⟩ := HSS _ (kd.andNu hk3); have y1a := (HSS _ ((kd.andNu hk3).andAlloc (.cells #[.int .u8 f, .int .u8 t, .slice (some a3) n3 cap3] 38))).2.1; have HP3 := hide (PO w3 (kd.andNu hk3) a3 n3 cap3 _ (show w.heap.size ≤ w2.heap.size from kk.size) ho3)))
  all_goals go_wp2
  all_goals go_ret
  all_goals exact ⟨rfl, _, _, hH.out.1, hH.out.2.1, hH.out.2.2⟩
end
end Go.Proofs.Ythajboipnjjgfaa.Ly
