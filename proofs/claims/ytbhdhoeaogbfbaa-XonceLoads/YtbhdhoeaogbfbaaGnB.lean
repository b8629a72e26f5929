import Derived.Test.YtbhdhoeaogbfbaaEnG
import Derived.Test.YtbhdhoeaogbfbaaEnE
import Derived.Deep.RegionHeld3
namespace Go.Proofs.Ytbhdhoeaogbfbaa.Xo
open Go.RowKit
set_option linter.unusedVariables false
/-- payloads that can be read, a cell each -/
def Rp (w : World) (r off : Nat) (vs : List (Value × List Int)) : Prop := ∀ (i : Nat) (x : Value × List Int), vs[i]? = some x → w.cell? ⟨r, off + i, none⟩ = some x.1 ∧ Rd w x.1 x.2 ∧ 0 < x.2.length ∧ x.2.length ≤ 3072
theorem Rp.nu {w w' : World} {r off : Nat} {vs : List (Value × List Int)} (h : Rp w r off vs) (k : Kp Nu w w') : Rp w' r off vs := fun i x hi => by
  obtain ⟨h1, h2, h3⟩ := h i x hi
  exact ⟨(World.cell?_of_block (k.block _ (World.block_lt_of_cell? w _ h1) (fun h => h))).trans h1, h2.nu k, h3⟩
theorem made_rep (n : Nat) : madeCells #[.slice none 0 0] n = (List.replicate n (Value.slice none 0 0)).toArray := by
  apply Array.ext'
  apply List.ext_getElem?
  intro i
  by_cases hi : i < n
  · simp only [madeCells, Array.toList_map, List.getElem?_map, Array.toList_range, List.getElem?_range hi, Option.map_some, List.getElem?_replicate, if_pos hi]
    have : i % (#[Value.slice none 0 0] : Array Value).size = 0 := Nat.mod_one i
    rw [this]
    rfl
  · rw [List.getElem?_eq_none (by rw [Array.length_toList, size_madeCells]; omega), List.getElem?_eq_none (by simp; omega)]
theorem mk_pays (w : World) (n : Nat) (hn : n ≤ 16) : (Instr.makeSlice 41 (.int .i64 (n : Int)) (.int .i64 (n : Int))).run Try.prog w = .ok (.slice (some ⟨w.heap.size, 0, none⟩) n n) (w.alloc (.cells (List.replicate n (Value.slice none 0 0)).toArray 45)) := by
  obtain ⟨i0, hi, hz0, hz1, hz2⟩ := info_parts info45
  have := run_make (P := Try.prog) w 41 45 i0 _ Try.underlying41 hi hz0 .i64 .i64 (n : Int) (n : Int) (by omega) (by omega) (by rw [hz2]; omega) (by omega)
  rw [hz1] at this
  simp only [Int.toNat_natCast, Nat.mul_one] at this
  rw [this]
  exact congrArg (fun c => Result.ok (Value.slice (some ⟨w.heap.size, 0, none⟩) n n) (w.alloc (.cells c 45))) (made_rep n)
/-- behind some rounds of copies -/
structure Cy (w0 wr : World) (g : Nat) (vs : List (Value × List Int)) (ds : List Value) (k : Nat) : Prop where
  kp : Kp Nu w0 wr
  hg : w0.heap.size ≤ g
  row : wr.heap[g]? = some (.cells (ds ++ List.replicate (vs.length - k) (Value.slice none 0 0)).toArray 45 (0, 0))
  len : ds.length = k
  own : ∀ (i : Nat) (d : Value) (x : Value × List Int), ds[i]? = some d → vs[i]? = some x → wr.ownsRow w0.heap.size 5 1 d x.2.length (cs x.2)
theorem Cy.step {w0 wr w2 : World} {g : Nat} {vs : List (Value × List Int)} {ds : List Value} {k : Nat} (h : Cy w0 wr g vs ds k) (hlt : k < vs.length) (k2 : Kp Nu wr w2) {d : Value} {x : Value × List Int} (hx : vs[k]? = some x) (ho : w2.ownsRow wr.heap.size 5 1 d x.2.length (cs x.2)) :
    Cy w0 (w2.setCell ⟨g, k, none⟩ d) g vs (ds ++ [d]) (k + 1) := by
  have hl := h.len
  have hrow2 := (k2.block g (blk_lt h.row) (fun h => h)).trans h.row
  have kp : Kp (fun i => i = g) w2 (w2.setCell ⟨g, k, none⟩ d) := (Kp.refl _ _).put
  have byt : ∀ (i : Nat) (cur : Array Value), w2.heap[i]? = some (.cells cur 5 (0, 0)) → (w2.setCell ⟨g, k, none⟩ d).heap[i]? = w2.heap[i]? := fun i cur hc => kp.block i (blk_lt hc) (fun e => by
    have e : i = g := e
    rw [e, hrow2] at hc
    cases hc)
  refine ⟨(h.kp.andNu k2).trans kp (fun i hi e => by have e : i = g := e; have := h.hg; omega), h.hg, ?_, by simp [hl], ?_⟩
  · rw [set3 hrow2, List.setIfInBounds_toArray]
    have : (ds ++ List.replicate (vs.length - k) (Value.slice none 0 0)).set k d = (ds ++ [d]) ++ List.replicate (vs.length - (k + 1)) (Value.slice none 0 0) := by
      rw [List.set_append_right _ _ (by omega), show k - ds.length = 0 by omega, show vs.length - k = (vs.length - (k + 1)) + 1 by omega, List.replicate_succ, List.set_cons_zero]
      simp
    rw [this]
  · intro i d' x' hi hi'
    rcases Nat.lt_or_ge i ds.length with hl' | hl'
    · rw [List.getElem?_append_left hl'] at hi
      have o := h.own i d' x' hi hi'
      refine own_keep o (fun q hq => ?_)
      obtain ⟨cur, hc⟩ := own_obj o hq
      have e2 := k2.block q (blk_lt hc) (fun h => h)
      exact (byt q cur (e2.trans hc)).trans e2
    · have hi2 : i = ds.length := by
        have := (List.getElem?_eq_some_iff.1 hi).1
        simp at this; omega
      subst hi2
      rw [List.getElem?_append_right (Nat.le_refl _)] at hi
      simp at hi
      subst hi
      rw [hl, hx] at hi'
      cases hi'
      exact own_base (own_keep ho (fun q hq => by obtain ⟨cur, hc⟩ := own_obj ho hq; exact byt q cur hc)) (by have := h.kp.size; omega)
set_option maxHeartbeats 1000000 in
theorem copies_any (w : World) (r off cap : Nat) (vs : List (Value × List Int)) (n : Nat) (hn : vs.length = n) (hn16 : n ≤ 16) (h : Rp w r off vs) : Calls Try.prog 79 #[.slice (some ⟨r, off, none⟩) n cap] w fun e w' => ∃ g ds, e = .returned (.slice (some ⟨g, 0, none⟩) n n) ∧ Cy w w' g vs ds n := by
  have MK := fun W => mk_pays W n hn16
  have HN := hide (And.intro hn hn16)
  have HR := hide h
  clear hn hn16 h
  go_enter Try.func79, Try.ntmps79
  go_wp2_with (simp only [MK])
  go_loopw [11] (fun i wr => ∃ (k : Nat) (ds : List Value), k ≤ n ∧ i = .int .i64 (k : Int) ∧ Hid (Cy w wr w.heap.size vs ds k)) (fun i _ => n - (intOf i).toNat)
  case atStart =>
    refine ⟨0, [], by omega, rfl, ⟨(Kp.refl _ _).andAlloc _, Nat.le_refl _, ?_, rfl, fun i d x hd => by simp at hd⟩⟩
    have := heap_alloc_new w (.cells (List.replicate n (Value.slice none 0 0)).toArray 45)
    simpa [HN.out.1] using this
  case round =>
    obtain ⟨k, ds, hkn, rfl, HI⟩ := hrel
    by_cases hlt : k < n
    · have hkv : k < vs.length := by rw [HN.out.1]; exact hlt
      obtain ⟨x, hx⟩ : ∃ x, vs[k]? = some x := ⟨vs[k], List.getElem?_eq_getElem hkv⟩
      have hI := HI.out
      obtain ⟨c1, hrd, hy0, hy⟩ := (HR.out.nu hI.kp) k x hx
      have CL := fun W (kW : Kp Nu wr W) => clone_any W x.1 x.2 (hrd.nu kW) hy hy0
      have hltI : (k : Int) < (n : Int) := by omega
      have hk0 : (0 : Int) ≤ (k : Int) := by omega
      have CG : ∀ W, Kp Nu wr W → W.cell? ⟨w.heap.size, k, none⟩ = some (.slice none 0 0) ∧ W.frozen? ⟨w.heap.size, k, none⟩ = false := fun W kW => by
        have hb := (kW.block _ (blk_lt hI.row) (fun h => h)).trans hI.row
        have hl := hI.len
        refine ⟨cellAt hb k ?_, free3 hb k⟩
        rw [List.getElem?_toArray, List.getElem?_append_right (by omega), List.getElem?_replicate, if_pos (by omega)]
      have hwk : Hid (wrap64 ((k : Int) + 1) = ((k + 1 : Nat) : Int)) := by have := HN.out.2; exact wrap_small (by omega) (by omega)
      obtain ⟨adx, cpx, ex⟩ := hrd.slice
      rw [ex] at c1 CL
      generalize hL : x.2.length = N at *
      clear hI hrd hy0 hy ex hkv
      go_wp2_with (go_at_call 82; refine (CL _ (Kp.refl _ _)).mono ?_; rintro e w2 ⟨d, rfl, ho, hk2⟩; obtain ⟨ad, cpd, ed⟩ := own_slice ho; have HZ := hide (Cy.step HI.out (by rw [HN.out.1]; exact hlt) hk2 hx (by rw [hL]; exact ho)); subst ed; obtain ⟨z1, z2⟩ := CG w2 hk2; clear ho hk2 CL CG)
      exact ⟨⟨k + 1, _, hlt, by rw [hwk.out], HZ⟩, lt_m _ hwk.out hlt⟩
    · obtain rfl : k = n := by omega
      clear hlt
      go_wp2
      go_ret
      exact ⟨_, ds, rfl, HI.out⟩
end Go.Proofs.Ytbhdhoeaogbfbaa.Xo
namespace Go.Proofs.Ytbhdhoeaogbfbaa.Xo
open Go.RowKit
set_option linter.unusedVariables false
/-- a frame: its number, its payload's slice, the payload -/
structure Fm where
  seq : Int
  v : Value
  ys : List Int
def Fm.cells (f : Fm) : List Value := [.int .u64 f.seq, f.v]
def ff (L : List Fm) : List Value := L.flatMap Fm.cells
theorem ff_length : ∀ L : List Fm, (ff L).length = L.length * 2
  | [] => rfl
  | s :: L => by
    have := ff_length L
    simp only [ff, List.flatMap_cons, List.length_append] at this ⊢
    simp [Fm.cells, this]; omega
theorem ff_append (A B : List Fm) : ff (A ++ B) = ff A ++ ff B := by simp [ff]
theorem ff_at : ∀ (l : List Fm) (k : Nat) (x : Fm), l[k]? = some x → ∀ j, j < 2 → (ff l)[k * 2 + j]? = (x.cells)[j]?
  | [], k, x, h, j, _ => by simp at h
  | a :: l, 0, x, h, j, hj => by
    simp at h; subst h
    simp only [ff, List.flatMap_cons, Nat.zero_mul, Nat.zero_add]
    rw [List.getElem?_append_left (by simp [Fm.cells]; omega)]
  | a :: l, k + 1, x, h, j, hj => by
    have ih := ff_at l k x (by simpa using h) j hj
    simp only [ff, List.flatMap_cons]
    rw [List.getElem?_append_right (by simp [Fm.cells]; omega)]
    have : (k + 1) * 2 + j - (Fm.cells a).length = k * 2 + j := by simp [Fm.cells]; omega
    rw [this]; exact ih
theorem ff_set : ∀ (l : List Fm) (k : Nat) (x y : Fm) (j : Nat) (u : Value), l[k]? = some x → j < 2 → x.cells.set j u = y.cells → (ff l).set (k * 2 + j) u = ff (l.set k y)
  | [], k, x, y, j, u, h, _, _ => by simp at h
  | a :: l, 0, x, y, j, u, h, hj, e => by
    simp at h; subst h
    simp only [ff, List.flatMap_cons, Nat.zero_mul, Nat.zero_add, List.set_cons_zero]
    rw [List.set_append_left _ _ (by simp [Fm.cells]; omega), e]
  | a :: l, k + 1, x, y, j, u, h, hj, e => by
    have ih := ff_set l k x y j u (by simpa using h) hj e
    simp only [ff, List.flatMap_cons, List.set_cons_succ] at ih ⊢
    rw [List.set_append_right _ _ (by simp [Fm.cells]; omega)]
    have : (k + 1) * 2 + j - (Fm.cells a).length = k * 2 + j := by simp [Fm.cells]; omega
    rw [this, ih]
/-- frames that can be read -/
def Rf (w : World) (r off : Nat) (es : List Fm) : Prop := ∀ (i : Nat) (x : Fm), es[i]? = some x → w.cell? ⟨r, off + i * 2, none⟩ = some (.int .u64 x.seq) ∧ w.cell? ⟨r, off + i * 2 + 1, none⟩ = some x.v ∧ Rd w x.v x.ys ∧ 0 < x.ys.length ∧ x.ys.length ≤ 3072
theorem Rf.nu {w w' : World} {r off : Nat} {es : List Fm} (h : Rf w r off es) (k : Kp Nu w w') : Rf w' r off es := fun i x hi => by
  obtain ⟨h1, h2, h3, h4⟩ := h i x hi
  exact ⟨(World.cell?_of_block (k.block _ (World.block_lt_of_cell? w _ h1) (fun h => h))).trans h1, (World.cell?_of_block (k.block _ (World.block_lt_of_cell? w _ h2) (fun h => h))).trans h2, h3.nu k, h4⟩
def Fm0 : Fm := ⟨0, .slice none 0 0, []⟩
theorem made_ff (n : Nat) : madeCells #[.int .u64 0, .slice none 0 0] (n * 2) = (ff (List.replicate n Fm0)).toArray := by
  apply Array.ext'
  apply List.ext_getElem?
  intro i
  by_cases hi : i < n * 2
  · have h1 := ff_at (List.replicate n Fm0) (i / 2) Fm0 (by rw [List.getElem?_replicate, if_pos (by omega)]) (i % 2) (by omega)
    rw [show i / 2 * 2 + i % 2 = i by omega] at h1
    rw [h1]
    have h6 : i % 2 < 2 := Nat.mod_lt _ (by omega)
    simp only [madeCells, Array.toList_map, List.getElem?_map, Array.toList_range, List.getElem?_range hi, Option.map_some, Fm.cells, Fm0]
    generalize i % 2 = j at *
    rcases j with _ | _ | j <;> first | rfl | omega
  · rw [List.getElem?_eq_none (by rw [Array.length_toList, size_madeCells]; omega), List.getElem?_eq_none (by show (ff _).length ≤ i; rw [ff_length]; simp; omega)]
theorem mk_frames (w : World) (n : Nat) (hn : n ≤ 16) : (Instr.makeSlice 64 (.int .i64 (n : Int)) (.int .i64 (n : Int))).run Try.prog w = .ok (.slice (some ⟨w.heap.size, 0, none⟩) n n) (w.alloc (.cells (ff (List.replicate n Fm0)).toArray 133)) := by
  obtain ⟨i0, hi, hz0, hz1, hz2⟩ := info_parts info133
  have := run_make (P := Try.prog) w 64 133 i0 _ Try.underlying64 hi hz0 .i64 .i64 (n : Int) (n : Int) (by omega) (by omega) (by rw [hz2]; omega) (by omega)
  rw [hz1] at this
  simp only [Int.toNat_natCast] at this
  rw [this]
  exact congrArg (fun c => Result.ok (Value.slice (some ⟨w.heap.size, 0, none⟩) n n) (w.alloc (.cells c 133))) (made_ff n)
/-- behind some rounds of copiedFrames -/
structure Cf (w0 wr : World) (g : Nat) (es ds : List Fm) (k : Nat) : Prop where
  kp : Kp Nu w0 wr
  hg : w0.heap.size ≤ g
  row : wr.heap[g]? = some (.cells (ff (ds ++ List.replicate (es.length - k) Fm0)).toArray 133 (0, 0))
  len : ds.length = k
  own : ∀ (i : Nat) (d x : Fm), ds[i]? = some d → es[i]? = some x → d.seq = x.seq ∧ d.ys = x.ys ∧ wr.ownsRow w0.heap.size 5 1 d.v x.ys.length (cs x.ys)
theorem Cf.step {w0 wr w2 w3 : World} {g : Nat} {es ds : List Fm} {k : Nat} (h : Cf w0 wr g es ds k) (hlt : k < es.length) (k2 : Kp Nu wr w2) {d : Value} {x : Fm} (hx : es[k]? = some x) (ho : w2.ownsRow wr.heap.size 5 1 d x.ys.length (cs x.ys))
    (hw3 : w3 = (w2.setCell ⟨g, k * 2, none⟩ (.int .u64 x.seq)).setCell ⟨g, k * 2 + 1, none⟩ d) : Cf w0 w3 g es (ds ++ [⟨x.seq, d, x.ys⟩]) (k + 1) := by
  have hl := h.len
  have hrow2 := (k2.block g (blk_lt h.row) (fun h => h)).trans h.row
  have kp : Kp (fun i => i = g) w2 w3 := by rw [hw3]; exact (Kp.refl _ _).put.put
  have byt : ∀ (i : Nat) (cur : Array Value), w2.heap[i]? = some (.cells cur 5 (0, 0)) → w3.heap[i]? = w2.heap[i]? := fun i cur hc => kp.block i (blk_lt hc) (fun e => by
    have e : i = g := e
    rw [e, hrow2] at hc
    simp only [Option.some.injEq, Obj.cells.injEq] at hc
    exact absurd hc.2.1 (by decide))
  have hz : (ds ++ List.replicate (es.length - k) Fm0)[k]? = some Fm0 := by rw [List.getElem?_append_right (by omega), List.getElem?_replicate, if_pos (by omega)]
  refine ⟨(h.kp.andNu k2).trans kp (fun i hi e => by have e : i = g := e; have := h.hg; omega), h.hg, ?_, by simp [hl], ?_⟩
  · rw [hw3, set3 (set3 hrow2 _ _), List.setIfInBounds_toArray, List.setIfInBounds_toArray]
    have e1 := ff_set _ k Fm0 ⟨x.seq, .slice none 0 0, x.ys⟩ 0 (.int .u64 x.seq) hz (by omega) rfl
    rw [Nat.add_zero] at e1
    have hz2 : ((ds ++ List.replicate (es.length - k) Fm0).set k ⟨x.seq, .slice none 0 0, x.ys⟩)[k]? = some ⟨x.seq, .slice none 0 0, x.ys⟩ := by rw [List.getElem?_set_self (List.getElem?_eq_some_iff.1 hz).1]
    have e2 := ff_set _ k _ ⟨x.seq, d, x.ys⟩ 1 d hz2 (by omega) rfl
    rw [e1, e2, List.set_set]
    have : (ds ++ List.replicate (es.length - k) Fm0).set k ⟨x.seq, d, x.ys⟩ = (ds ++ [⟨x.seq, d, x.ys⟩]) ++ List.replicate (es.length - (k + 1)) Fm0 := by
      rw [List.set_append_right _ _ (by omega), show k - ds.length = 0 by omega, show es.length - k = (es.length - (k + 1)) + 1 by omega, List.replicate_succ, List.set_cons_zero]
      simp
    rw [this]
  · intro i d' x' hi hi'
    rcases Nat.lt_or_ge i ds.length with hl' | hl'
    · rw [List.getElem?_append_left hl'] at hi
      obtain ⟨o1, o2, o⟩ := h.own i d' x' hi hi'
      refine ⟨o1, o2, own_keep o (fun q hq => ?_)⟩
      obtain ⟨cur, hc⟩ := own_obj o hq
      have e2 := k2.block q (blk_lt hc) (fun h => h)
      exact (byt q cur (e2.trans hc)).trans e2
    · have hi2 : i = ds.length := by
        have := (List.getElem?_eq_some_iff.1 hi).1
        simp at this; omega
      subst hi2
      rw [List.getElem?_append_right (Nat.le_refl _)] at hi
      simp at hi
      subst hi
      rw [hl, hx] at hi'
      cases hi'
      exact ⟨rfl, rfl, own_base (own_keep ho (fun q hq => by obtain ⟨cur, hc⟩ := own_obj ho hq; exact byt q cur hc)) (by have := h.kp.size; omega)⟩
set_option maxHeartbeats 1000000 in
theorem copiedFrames_any (w : World) (r off cap : Nat) (es : List Fm) (n : Nat) (hn : es.length = n) (hn16 : n ≤ 16) (h : Rf w r off es) : Calls Try.prog 80 #[.slice (some ⟨r, off, none⟩) n cap] w fun e w' => ∃ g ds, e = .returned (.slice (some ⟨g, 0, none⟩) n n) ∧ Cf w w' g es ds n := by
  have MK := fun W => mk_frames W n hn16
  have HN := hide (And.intro hn hn16)
  have HR := hide h
  clear hn hn16 h
  go_enter Try.func80, Try.ntmps80
  go_wp2_with (simp only [MK])
  go_loopw [11] (fun i wr => ∃ (k : Nat) (ds : List Fm), k ≤ n ∧ i = .int .i64 (k : Int) ∧ Hid (Cf w wr w.heap.size es ds k)) (fun i _ => n - (intOf i).toNat)
  case atStart =>
    refine ⟨0, [], by omega, rfl, ⟨(Kp.refl _ _).andAlloc _, Nat.le_refl _, ?_, rfl, fun i d x hd => by simp at hd⟩⟩
    have := heap_alloc_new w (.cells (ff (List.replicate n Fm0)).toArray 133)
    simpa [HN.out.1] using this
  case round =>
    obtain ⟨k, ds, hkn, rfl, HI⟩ := hrel
    by_cases hlt : k < n
    · have hkv : k < es.length := by rw [HN.out.1]; exact hlt
      obtain ⟨x, hx⟩ : ∃ x, es[k]? = some x := ⟨es[k], List.getElem?_eq_getElem hkv⟩
      have hI := HI.out
      obtain ⟨c1, c2, hrd, hy0, hy⟩ := (HR.out.nu hI.kp) k x hx
      have CL := fun W (kW : Kp Nu wr W) => clone_any W x.v x.ys (hrd.nu kW) hy hy0
      have hltI : (k : Int) < (n : Int) := by omega
      have hk0 : (0 : Int) ≤ (k : Int) := by omega
      have CG : ∀ W, Kp Nu wr W → W.cell? ⟨w.heap.size, k * 2, none⟩ = some (.int .u64 0) ∧ W.cell? ⟨w.heap.size, k * 2 + 1, none⟩ = some (.slice none 0 0) ∧ W.frozen? ⟨w.heap.size, k * 2, none⟩ = false ∧ W.frozen? ⟨w.heap.size, k * 2 + 1, none⟩ = false := fun W kW => by
        have hb := (kW.block _ (blk_lt hI.row) (fun h => h)).trans hI.row
        have hl := hI.len
        have hz : (ds ++ List.replicate (es.length - k) Fm0)[k]? = some Fm0 := by rw [List.getElem?_append_right (by omega), List.getElem?_replicate, if_pos (by omega)]
        exact ⟨cellAt hb _ (by rw [List.getElem?_toArray]; exact ff_at _ k Fm0 hz 0 (by omega)), cellAt hb _ (by rw [List.getElem?_toArray]; exact ff_at _ k Fm0 hz 1 (by omega)), free3 hb _, free3 hb _⟩
      have hwk : Hid (wrap64 ((k : Int) + 1) = ((k + 1 : Nat) : Int)) := by have := HN.out.2; exact wrap_small (by omega) (by omega)
      obtain ⟨adx, cpx, ex⟩ := hrd.slice
      rw [ex] at c2 CL
      generalize hL : x.ys.length = N at *
      have hbx := heap_alloc_new wr (.cells #[.int .u64 x.seq, .slice adx N cpx] 133)
      have hgl : w.heap.size < wr.heap.size := blk_lt hI.row
      have HS : ∀ W, Kp (fun i => i = w.heap.size) (wr.alloc (.cells #[.int .u64 x.seq, .slice adx N cpx] 133)) W → W.cell? ⟨wr.heap.size, 0, none⟩ = some (.int .u64 x.seq) ∧ W.cell? ⟨wr.heap.size, 1, none⟩ = some (.slice adx N cpx) := fun W kW => by
        have hb := (kW.block _ (blk_lt hbx) (fun e => by have e : wr.heap.size = w.heap.size := e; omega)).trans hbx
        exact ⟨cellAt hb 0 rfl, cellAt hb 1 rfl⟩
      have CW : ∀ W, Kp Nu (wr.alloc (.cells #[.int .u64 x.seq, .slice adx N cpx] 133)) W → Calls Try.prog 82 #[.slice adx N cpx] W fun e w' => ∃ a c, e = .returned (.slice a N c) ∧ Hid (w'.ownsRow wr.heap.size 5 1 (.slice a N c) N (cs x.ys) ∧ Kp Nu wr w') ∧ Kp (fun i => i = w.heap.size) (wr.alloc (.cells #[.int .u64 x.seq, .slice adx N cpx] 133)) w' := fun W kW => by
        have kw := ((Kp.refl Nu wr).andAlloc _).andNu kW
        refine (CL W kw).mono ?_
        rintro e w' ⟨d, rfl, ho, hk⟩
        obtain ⟨a, c, rfl⟩ := own_slice ho
        exact ⟨a, c, rfl, ⟨own_base ho kw.size, kw.andNu hk⟩, (kW.andNu hk).mono (fun _ _ e => e.elim)⟩
      clear hI hrd hy0 hy ex hkv hbx hgl CL
      go_wp2_with fail
      go_region_held3 (fun W => W.cell? ⟨wr.heap.size, 0, none⟩ = some (.int .u64 x.seq) ∧ W.cell? ⟨wr.heap.size, 1, none⟩ = some (.slice adx N cpx)) (first | (refine HS _ ?_; repeat (first | assumption | exact Kp.refl _ _ | apply Kp.drew | apply Kp.put))) (first | (go_at_call 82; refine (CW _ ?_).mono ?_; (repeat (first | assumption | exact Kp.refl _ _ | apply Kp.drew)); rintro e w3 ⟨a3, c3, rfl, H3, hk3⟩; obtain ⟨z0, z1, f0, f1⟩ := CG w3 H3.out.2))
      have HZ := hide (Cf.step HI.out (by rw [HN.out.1]; exact hlt) H3.out.2 hx (by rw [hL]; exact H3.out.1) rfl)
      clear HS CW CG H3 hk3 z0 z1 f0 f1
      go_wp2
      exact ⟨⟨k + 1, _, hlt, by rw [hwk.out], HZ⟩, lt_m _ hwk.out hlt⟩
    · obtain rfl : k = n := by omega
      clear hlt
      go_wp2
      go_ret
      exact ⟨_, ds, rfl, HI.out⟩
end Go.Proofs.Ytbhdhoeaogbfbaa.Xo
