import Derived.Test.YtbhdhoeaogbfbaaEnD
import Derived.Deep.MidRow
import Derived.Laws.Rows
import Derived.Deep.RegionHeld3
namespace Go.Proofs.Ytbhdhoeaogbfbaa.Xo
open Go.RowKit
set_option linter.unusedVariables false
section
variable {B eb pb : Nat} {w w' : World} {me qn wn : Int} {ps : List Pr}
theorem cellAt {w : World} {b : Nat} {c : Array Value} {ty : TypeId} {v : Value} (h : w.heap[b]? = some (.cells c ty (0, 0))) (i : Nat) (hi : c[i]? = some v) : w.cell? ⟨b, i, none⟩ = some v := by simp [World.cell?, h, hi]
theorem own_base {w : World} {base base' e size n : Nat} {v : Value} {l : List Value} (h : w.ownsRow base e size v n l) (hb : base' ≤ base) : w.ownsRow base' e size v n l := by
  refine ⟨h.1, ?_⟩
  rcases h.2 with h | ⟨g, cap, cur, h1, h2, h3⟩
  · exact .inl h
  · exact .inr ⟨g, cap, cur, h1, Nat.le_trans hb h2, h3⟩
def ov (c : Array Value) : Nat → List Value → Array Value
  | _, [] => c
  | o, v :: r => ov (c.setIfInBounds o v) (o + 1) r
theorem setCells_heap {b : Nat} {ty : TypeId} : ∀ (vs : List Value) (o : Nat) (w : World) (c : Array Value), w.heap[b]? = some (.cells c ty (0, 0)) → (w.setCells b o vs).heap[b]? = some (.cells (ov c o vs) ty (0, 0))
  | [], o, w, c, h => h
  | v :: r, o, w, c, h => setCells_heap r (o + 1) _ _ (set3 h o v)
theorem kp_setCells {b : Nat} : ∀ (vs : List Value) (o : Nat) (w : World), Kp (fun i => i = b) w (w.setCells b o vs)
  | [], o, w => Kp.refl _ _
  | v :: r, o, w => (Kp.setCell w ⟨b, o, none⟩ v).trans (kp_setCells r (o + 1) _) (fun _ _ e => e)
theorem there_of {w : World} {b : Nat} {c : Array Value} {ty : TypeId} (h : w.heap[b]? = some (.cells c ty (0, 0))) (o n : Nat) (hn : o + n ≤ c.size) : w.there b o n := fun j hj => by
  refine ⟨?_, free3 h _⟩
  simp [World.cell?, h]; omega
theorem ov_eq : ∀ (vs zs pre : List Value), zs.length = vs.length → ov (pre ++ zs).toArray pre.length vs = (pre ++ vs).toArray
  | [], [], pre, _ => by simp [ov]
  | [], z :: zs, pre, h => by simp at h
  | v :: vs, [], pre, h => by simp at h
  | v :: vs, z :: zs, pre, h => by
    have ih := ov_eq vs zs (pre ++ [v]) (by simpa using h)
    unfold ov
    rw [List.setIfInBounds_toArray, List.set_append_right _ _ (Nat.le_refl _), Nat.sub_self, List.set_cons_zero]
    simpa using ih
theorem setCells_all {b : Nat} {ty : TypeId} (w : World) (zs vs : List Value) (h : w.heap[b]? = some (.cells zs.toArray ty (0, 0))) (hl : zs.length = vs.length) : (w.setCells b 0 vs).heap[b]? = some (.cells vs.toArray ty (0, 0)) := by
  have := setCells_heap vs 0 w _ h
  rw [this]
  exact congrArg (fun c => some (Obj.cells c ty (0, 0))) (ov_eq vs zs [] hl)
theorem info59 : (Try.prog.info? 59).map (·.size) = some 18 := by kernel_rfl
set_option maxRecDepth 100000 in
set_option maxHeartbeats 1000000 in
theorem data_any (a o : Nat) (t : Int) (place : Nat) (w : World) (ac sq : Int) (r cap n : Nat) (c1 : w.cell? ⟨a, o + 1, none⟩ = some (.int .u64 ac)) (c2 : w.cell? ⟨a, o + 2, none⟩ = some (.slice (some ⟨r, 0, none⟩) n cap)) (hp : place < n)
    (u : Value) (ys : List Int) (cu : w.cell? ⟨r, place, none⟩ = some u) (hu : Rd w u ys) (hy0 : 0 < ys.length) (hy : ys.length ≤ 3072) (hsq : IntKind.u64.wrap (IntKind.u64.wrap (ac + 1) + IntKind.u64.wrap (place : Int)) = sq) :
    Calls Try.prog 85 #[.pointer (some ⟨a, o, none⟩), .int .u8 t, .int .i64 (place : Int)] w fun e w' => ∃ d, e = .returned (.agg #[.int .u8 t, .int .u8 10, .int .u64 sq, .int .u64 0, .int .u64 0, .slice none 0 0, .slice none 0 0, .bool false, .int .u8 0, .int .u8 0, .int .u8 0, .int .u32 0, .int .u32 0, .int .u64 0, .int .u8 0, .slice none 0 0, .slice none 0 0, d]) ∧ w'.ownsRow w.heap.size 5 1 d ys.length (cs ys) ∧ Kp Nu w w' := by
  have CL := fun W (k : Kp Nu w W) => clone_any W u ys (hu.nu k) hy hy0
  have b1 : ∀ x, (w.alloc x).cell? ⟨a, o + 1, none⟩ = some (.int .u64 ac) := fun x => (World.cell?_of_block (Below.heap_alloc w x _ (World.block_lt_of_cell? w _ c1))).trans c1
  have b2 : ∀ x, (w.alloc x).cell? ⟨a, o + 2, none⟩ = some (.slice (some ⟨r, 0, none⟩) n cap) := fun x => (World.cell?_of_block (Below.heap_alloc w x _ (World.block_lt_of_cell? w _ c2))).trans c2
  have b3 : ∀ x, (w.alloc x).cell? ⟨r, place, none⟩ = some u := fun x => (World.cell?_of_block (Below.heap_alloc w x _ (World.block_lt_of_cell? w _ cu))).trans cu
  clear c1 c2 cu
  have hpI : (place : Int) < (n : Int) := by omega
  have hp0 : (0 : Int) ≤ (place : Int) := by omega
  have HU := hide hu
  obtain ⟨ad, cpu, hue⟩ := hu.slice
  subst hue
  generalize ys.length = N at *
  clear hu hy hy0
  go_enter Try.func85, Try.ntmps85
  go_wp2_with (go_at_call 82; refine (CL _ ((Kp.refl _ w).andAlloc _)).mono ?_; rintro e w2 ⟨d, rfl, ho, hk2⟩; have hbx := hide (new_at w _ hk2); obtain ⟨add, cpd, hd⟩ := own_slice ho; have HO := hide ho; have HK2 := hide hk2; subst hd; clear ho hk2; have x0 := cellAt hbx.out 0 (by rfl); have f0 := free3 hbx.out 0; have x1 := cellAt hbx.out 1 (by rfl); have f1 := free3 hbx.out 1; have x2 := cellAt hbx.out 2 (by rfl); have f2 := free3 hbx.out 2; have x3 := cellAt hbx.out 3 (by rfl); have f3 := free3 hbx.out 3; have x4 := cellAt hbx.out 4 (by rfl); have f4 := free3 hbx.out 4; have x5 := cellAt hbx.out 5 (by rfl); have f5 := free3 hbx.out 5; have x6 := cellAt hbx.out 6 (by rfl); have f6 := free3 hbx.out 6; have x7 := cellAt hbx.out 7 (by rfl); have f7 := free3 hbx.out 7; have x8 := cellAt hbx.out 8 (by rfl); have f8 := free3 hbx.out 8; have x9 := cellAt hbx.out 9 (by rfl); have f9 := free3 hbx.out 9; have x10 := cellAt hbx.out 10 (by rfl); have f10 := free3 hbx.out 10; have x11 := cellAt hbx.out 11 (by rfl); have f11 := free3 hbx.out 11; have x12 := cellAt hbx.out 12 (by rfl); have f12 := free3 hbx.out 12; have x13 := cellAt hbx.out 13 (by rfl); have f13 := free3 hbx.out 13; have x14 := cellAt hbx.out 14 (by rfl); have f14 := free3 hbx.out 14; have x15 := cellAt hbx.out 15 (by rfl); have f15 := free3 hbx.out 15; have x16 := cellAt hbx.out 16 (by rfl); have f16 := free3 hbx.out 16; have x17 := cellAt hbx.out 17 (by rfl); have f17 := free3 hbx.out 17)
  clear x0 f0 x1 f1 x2 f2 x3 f3 x4 f4 x5 f5 x6 f6 x7 f7 x8 f8 x9 f9 x10 f10 x11 f11 x12 f12 x13 f13 x14 f14 x15 f15 x16 f16 x17 f17 b1 b2 b3 CL
  have hW := setCells_all w2 _ [.int .u8 t, .int .u8 10, .int .u64 sq, .int .u64 0, .int .u64 0, .slice none 0 0, .slice none 0 0, .bool false, .int .u8 0, .int .u8 0, .int .u8 0, .int .u32 0, .int .u32 0, .int .u64 0, .int .u8 0, .slice none 0 0, .slice none 0 0, .slice add N cpd] hbx.out rfl
  have kk := kp_setCells (b := w.heap.size) [.int .u8 t, .int .u8 10, .int .u64 sq, .int .u64 0, .int .u64 0, .slice none 0 0, .slice none 0 0, .bool false, .int .u8 0, .int .u8 0, .int .u8 0, .int .u32 0, .int .u32 0, .int .u64 0, .int .u8 0, .slice none 0 0, .slice none 0 0, .slice add N cpd] 0 w2
  generalize hWd : w2.setCells w.heap.size 0 [.int .u8 t, .int .u8 10, .int .u64 sq, .int .u64 0, .int .u64 0, .slice none 0 0, .slice none 0 0, .bool false, .int .u8 0, .int .u8 0, .int .u8 0, .int .u32 0, .int .u32 0, .int .u64 0, .int .u8 0, .slice none 0 0, .slice none 0 0, .slice add N cpd] = W at hW kk
  change bodyPost _ _ _ _ _ (w2.setCells w.heap.size 0 [.int .u8 t, .int .u8 10, .int .u64 sq, .int .u64 0, .int .u64 0, .slice none 0 0, .slice none 0 0, .bool false, .int .u8 0, .int .u8 0, .int .u8 0, .int .u32 0, .int .u32 0, .int .u64 0, .int .u8 0, .slice none 0 0, .slice none 0 0, .slice add N cpd])
  rw [hWd]
  refine bodyPost_ret (results_cell_row rfl _ W w.heap.size 59 _ _ _ rfl hW Try.underlying59 rfl info59) rfl ?_
  have ho := HO.out
  have hk2 := HK2.out
  refine ⟨_, rfl, own_base (own_keep ho (fun g hg => kk.block g (own_lt ho hg) (fun e => ?_))) (by simp), ?_⟩
  · have e : g = w.heap.size := e
    rcases ho.2 with ⟨h1, _⟩ | ⟨g', cap', cur, e', hB, _⟩
    · cases h1; cases hg
    · rw [e'] at hg
      simp [Value.ownBlock] at hg
      simp at hB
      omega
  · exact (((Kp.refl Nu w).andAlloc _).andNu hk2).trans kk (fun i hi e => by have e : i = w.heap.size := e; omega)
end
end Go.Proofs.Ytbhdhoeaogbfbaa.Xo
namespace Go.Proofs.Ytbhdhoeaogbfbaa.Xo
open Go.RowKit
set_option linter.unusedVariables false
section
variable {B eb pb : Nat} {w w' : World} {me qn wn : Int} {ps : List Pr}
set_option maxHeartbeats 1000000 in
theorem tellOut (tb : Nat) (ts : List Pr) (ht : Row w tb 66 ts) (hp : Row w pb 123 ps) (k : Nat) (p z : Pr) (hk : ps[k]? = some p) (hz : ts[k]? = some z) (hq : ∃ ad cap, p.q = .slice ad 0 cap) : Calls Try.prog 51 #[.pointer (some ⟨pb, k * 6, none⟩), .pointer (some ⟨tb, k * 6, none⟩)] w fun e w' => e = .returned (.tuple #[]) ∧ ∃ g, Row w' tb 66 (ts.set k ⟨p.sent, p.acked, .slice (some ⟨g, 0, none⟩) 0 0, [], p.mask, z.dlv, z.e⟩) ∧ Kp (fun i => i = tb) w w' := by
  obtain ⟨ad, cap, hq⟩ := hq
  have CP := copies_new ad cap
  have ne : tb ≠ pb := hp.ne ht (by decide)
  have HT := hide ht
  have HS : ∀ W, Kp (fun i => i = tb) w W → W.cell? ⟨pb, k * 6, none⟩ = some (.int .u64 p.sent) ∧ W.cell? ⟨pb, k * 6 + 1, none⟩ = some (.int .u64 p.acked) ∧ W.cell? ⟨pb, k * 6 + 2, none⟩ = some (.slice ad 0 cap) ∧ W.cell? ⟨pb, k * 6 + 3, none⟩ = some (.int .u64 p.mask) := fun W kw => by
    obtain ⟨c0, c1, c2, c3, c4, c5⟩ := (hp.keep (kw.block _ (blk_lt hp) (fun e => ne (Eq.symm e)))).at hk
    rw [hq] at c2
    exact ⟨c0, c1, c2, c3⟩
  have CT := fun W (kw : Kp Nu w W) => (ht.keep (kw.block _ (blk_lt ht) (fun h => h))).at hz
  have CF := fun W (kw : Kp Nu w W) (o : Nat) => (ht.keep (kw.block _ (blk_lt ht) (fun h => h))).free o
  have CW : ∀ W, Kp Nu w W → Calls Try.prog 79 #[.slice ad 0 cap] W fun e w' => ∃ g, e = .returned (.slice (some ⟨g, 0, none⟩) 0 0) ∧ Hid (Kp Nu w w') ∧ Kp (fun i => i = tb) w w' := fun W kw => (CP W).mono (by rintro e w' ⟨g, rfl, h1, h2, h3⟩; exact ⟨g, rfl, kw.andNu h3, (kw.andNu h3).mono (fun _ _ e => e.elim)⟩)
  clear ht hp CP
  go_enter Try.func51, Try.ntmps51
  go_wp2_with fail
  go_region_held3 (fun W => W.cell? ⟨pb, k * 6, none⟩ = some (.int .u64 p.sent) ∧ W.cell? ⟨pb, k * 6 + 1, none⟩ = some (.int .u64 p.acked) ∧ W.cell? ⟨pb, k * 6 + 2, none⟩ = some (.slice ad 0 cap) ∧ W.cell? ⟨pb, k * 6 + 3, none⟩ = some (.int .u64 p.mask)) (first | (refine HS _ ?_; repeat (first | assumption | exact Kp.refl _ _ | apply Kp.drew | apply Kp.put))) (first | (go_at_call 79; refine (CW _ ?_).mono ?_; (repeat (first | assumption | exact Kp.refl _ _ | apply Kp.drew)); rintro e w3 ⟨g, rfl, hg3, hk3⟩; obtain ⟨t0, t1, t2, t3, t4, t5⟩ := CT w3 hg3.out; have f0 := CF w3 hg3.out (k * 6); have f1 := CF w3 hg3.out (k * 6 + 1); have f2 := CF w3 hg3.out (k * 6 + 2); have f3 := CF w3 hg3.out (k * 6 + 3)))
  go_wp2
  refine bodyPost_end (v := .tuple #[]) (by simp [results, Try.results51, go_sem]) rfl ?_
  refine ⟨rfl, g, (HT.out.keep (hg3.out.block _ (blk_lt HT.out) (fun h => h))).put4 hz p.sent p.acked (.slice (some ⟨g, 0, none⟩) 0 0) [] p.mask, ?_⟩
  exact hk3.put.put.put.put

set_option maxHeartbeats 1000000 in
theorem tellIn (tb : Nat) (ts : List Pr) (ht : Row w tb 66 ts) (hp : Row w pb 123 ps) (k : Nat) (p z : Pr) (hk : ps[k]? = some p) (hz : ts[k]? = some z) (hq : ∃ ad cap, p.e = .slice ad 0 cap) : Calls Try.prog 52 #[.pointer (some ⟨pb, k * 6 + 4, none⟩), .pointer (some ⟨tb, k * 6, none⟩)] w fun e w' => e = .returned (.tuple #[]) ∧ ∃ g, Row w' tb 66 (ts.set k ⟨z.sent, z.acked, z.q, z.qs, z.mask, p.dlv, .slice (some ⟨g, 0, none⟩) 0 0⟩) ∧ Kp (fun i => i = tb) w w' := by
  obtain ⟨ad, cap, hq⟩ := hq
  have CP := frames_new ad cap
  have ne : tb ≠ pb := hp.ne ht (by decide)
  have HT := hide ht
  have HS : ∀ W, Kp (fun i => i = tb) w W → W.cell? ⟨pb, k * 6 + 4, none⟩ = some (.int .u64 p.dlv) ∧ W.cell? ⟨pb, k * 6 + 5, none⟩ = some (.slice ad 0 cap) := fun W kw => by
    obtain ⟨c0, c1, c2, c3, c4, c5⟩ := (hp.keep (kw.block _ (blk_lt hp) (fun e => ne (Eq.symm e)))).at hk
    rw [hq] at c5
    exact ⟨c4, c5⟩
  have CT := fun W (kw : Kp Nu w W) => (ht.keep (kw.block _ (blk_lt ht) (fun h => h))).at hz
  have CF := fun W (kw : Kp Nu w W) (o : Nat) => (ht.keep (kw.block _ (blk_lt ht) (fun h => h))).free o
  have CW : ∀ W, Kp Nu w W → Calls Try.prog 80 #[.slice ad 0 cap] W fun e w' => ∃ g, e = .returned (.slice (some ⟨g, 0, none⟩) 0 0) ∧ Hid (Kp Nu w w') ∧ Kp (fun i => i = tb) w w' := fun W kw => (CP W).mono (by rintro e w' ⟨g, rfl, h1, h2, h3⟩; exact ⟨g, rfl, kw.andNu h3, (kw.andNu h3).mono (fun _ _ e => e.elim)⟩)
  clear ht hp CP
  go_enter Try.func52, Try.ntmps52
  go_wp2_with fail
  go_region_held3 (fun W => W.cell? ⟨pb, k * 6 + 4, none⟩ = some (.int .u64 p.dlv) ∧ W.cell? ⟨pb, k * 6 + 5, none⟩ = some (.slice ad 0 cap)) (first | (refine HS _ ?_; repeat (first | assumption | exact Kp.refl _ _ | apply Kp.drew | apply Kp.put))) (first | (go_at_call 80; refine (CW _ ?_).mono ?_; (repeat (first | assumption | exact Kp.refl _ _ | apply Kp.drew)); rintro e w3 ⟨g, rfl, hg3, hk3⟩; obtain ⟨t0, t1, t2, t3, t4, t5⟩ := CT w3 hg3.out; have f0 := CF w3 hg3.out (k * 6 + 4); have f1 := CF w3 hg3.out (k * 6 + 5)))
  go_wp2
  refine bodyPost_end (v := .tuple #[]) (by simp [results, Try.results52, go_sem]) rfl ?_
  refine ⟨rfl, g, (HT.out.keep (hg3.out.block _ (blk_lt HT.out) (fun h => h))).put2 hz p.dlv (.slice (some ⟨g, 0, none⟩) 0 0), ?_⟩
  exact hk3.put.put
end
end Go.Proofs.Ytbhdhoeaogbfbaa.Xo
