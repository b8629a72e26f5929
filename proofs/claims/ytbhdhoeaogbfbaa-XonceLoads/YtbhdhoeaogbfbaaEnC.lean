import Derived.Test.YtbhdhoeaogbfbaaEnB
import Derived.Deep.RegionHeld3
namespace Go.Proofs.Ytbhdhoeaogbfbaa.Xo
open Go.RowKit
set_option linter.unusedVariables false
section
variable {B eb pb : Nat} {w w' : World} {me qn wn : Int} {ps : List Pr}

set_option maxHeartbeats 400000 in
theorem contains_zero (a : Option Addr) (ca : Nat) (f : Value) (w : World) : Calls Try.prog 87 #[.slice a 0 ca, f] w fun e w' => e = .returned (.bool false) ∧ Kp Nu w w' := by
  have IZ := index_zero a ca f w
  go_enter Try.func87, Try.ntmps87
  go_wp2_with (go_at_call 105; refine IZ.mono ?_; rintro e w1 ⟨rfl, hk1⟩)
  go_ret
  exact ⟨rfl, hk1⟩

theorem copies_new (a : Option Addr) (ca : Nat) (w : World) : Calls Try.prog 79 #[.slice a 0 ca] w fun e w' => ∃ g, e = .returned (.slice (some ⟨g, 0, none⟩) 0 0) ∧ w.heap.size ≤ g ∧ w'.heap[g]? = some (.cells #[] 45 (0, 0)) ∧ Kp Nu w w' :=
  (copies_zero a ca w).mono (by rintro e w' ⟨rfl, rfl⟩; exact ⟨_, rfl, Nat.le_refl _, heap_alloc_new _ _, (Kp.refl _ _).andAlloc _⟩)
theorem frames_new (a : Option Addr) (ca : Nat) (w : World) : Calls Try.prog 80 #[.slice a 0 ca] w fun e w' => ∃ g, e = .returned (.slice (some ⟨g, 0, none⟩) 0 0) ∧ w.heap.size ≤ g ∧ w'.heap[g]? = some (.cells #[] 133 (0, 0)) ∧ Kp Nu w w' :=
  (frames_zero a ca w).mono (by rintro e w' ⟨rfl, rfl⟩; exact ⟨_, rfl, Nat.le_refl _, heap_alloc_new _ _, (Kp.refl _ _).andAlloc _⟩)

def Pr0 : Pr := ⟨0, 0, .slice none 0 0, [], 0, 0, .slice none 0 0⟩
theorem made_flat (n : Nat) : madeCells #[.int .u64 0, .int .u64 0, .slice none 0 0, .int .u64 0, .int .u64 0, .slice none 0 0] (n * 6) = (flat (List.replicate n Pr0)).toArray := by
  apply Array.ext'
  apply List.ext_getElem?
  intro i
  by_cases hi : i < n * 6
  · have h1 := flat_at (List.replicate n Pr0) (i / 6) Pr0 (by rw [List.getElem?_replicate, if_pos (by omega)]) (i % 6) (by omega)
    rw [show i / 6 * 6 + i % 6 = i by omega] at h1
    rw [h1]
    have h6 : i % 6 < 6 := Nat.mod_lt _ (by omega)
    simp only [madeCells, Array.toList_map, List.getElem?_map, Array.toList_range, List.getElem?_range hi, Option.map_some, Pr.cells, Pr0]
    generalize i % 6 = j at *
    rcases j with _ | _ | _ | _ | _ | _ | j <;> first | rfl | omega
  · rw [List.getElem?_eq_none (by rw [Array.length_toList, size_madeCells]; omega), List.getElem?_eq_none (by show (flat _).length ≤ i; rw [flat_length]; simp; omega)]

theorem mk_peers (w : World) (n : Nat) (hn : n ≤ 16) : (Instr.makeSlice 115 (.int .i64 (n : Int)) (.int .i64 (n : Int))).run Try.prog w = .ok (.slice (some ⟨w.heap.size, 0, none⟩) n n) (w.alloc (.cells (flat (List.replicate n Pr0)).toArray 123)) := by
  obtain ⟨i0, hi, hz0, hz1, hz2⟩ := info_parts info123
  have := run_make (P := Try.prog) w 115 123 i0 _ Try.underlying115 hi hz0 .i64 .i64 (n : Int) (n : Int) (by omega) (by omega) (by rw [hz2]; omega) (by omega)
  rw [hz1] at this
  simp only [Int.toNat_natCast] at this
  rw [this]
  exact congrArg (fun c => Result.ok (Value.slice (some ⟨w.heap.size, 0, none⟩) n n) (w.alloc (.cells c 123))) (made_flat n)
theorem mk_told (w : World) (n : Nat) (hn : n ≤ 16) : (Instr.makeSlice 22 (.int .i64 (n : Int)) (.int .i64 (n : Int))).run Try.prog w = .ok (.slice (some ⟨w.heap.size, 0, none⟩) n n) (w.alloc (.cells (flat (List.replicate n Pr0)).toArray 66)) := by
  obtain ⟨i0, hi, hz0, hz1, hz2⟩ := info_parts info66
  have := run_make (P := Try.prog) w 22 66 i0 _ Try.underlying22 hi hz0 .i64 .i64 (n : Int) (n : Int) (by omega) (by omega) (by rw [hz2]; omega) (by omega)
  rw [hz1] at this
  simp only [Int.toNat_natCast] at this
  rw [this]
  exact congrArg (fun c => Result.ok (Value.slice (some ⟨w.heap.size, 0, none⟩) n n) (w.alloc (.cells c 66))) (made_flat n)

set_option maxHeartbeats 1000000 in
theorem new_any (n : Nat) (hn0 : 1 ≤ n) (hn : n ≤ 16) (wn : Int) (h1 : 1 ≤ wn) (h2 : wn ≤ 16) (w : World) : Calls Try.prog 22 #[.int .u8 0, .int .i64 (n : Int), .int .i64 16, .int .i64 wn] w fun e w' => ∃ eb pb, e = .returned (.tuple #[.pointer (some ⟨eb, 0, none⟩), .int .i64 0]) ∧ w.heap.size ≤ eb ∧ w.heap.size ≤ pb ∧ w'.heap[eb]? = some (.cells #[.int .u8 0, .int .i64 16, .int .i64 wn, .slice (some ⟨pb, 0, none⟩) n n] 117 (0, 0)) ∧ Row w' pb 123 (List.replicate n Pr0) ∧ Kp Nu w w' := by
  have MK := fun W => mk_peers W n hn
  have a1 : ¬ (n : Int) < 1 := by omega
  have a2 : ¬ (n : Int) > 16 := by omega
  have a3 : ¬ (0 : Int) ≥ (n : Int) := by omega
  have a4 : ¬ wn < 1 := by omega
  have a5 : ¬ wn > 16 := by omega
  clear hn0 hn h1 h2
  go_enter Try.func22, Try.ntmps22
  go_wp2_with (simp only [MK])
  refine bodyPost_ret (v := .tuple #[.pointer (some ⟨w.heap.size + 1, 0, none⟩), .int .i64 0]) (by simp [results, Try.results22, go_sem]) rfl ?_
  refine ⟨_, rfl, Nat.le_succ _, _, Nat.le_refl _, ?_, ?_, ((Kp.refl _ _).andAlloc _).andAlloc _⟩
  · have := heap_alloc_new (w.alloc (.cells (flat (List.replicate n Pr0)).toArray 123)) (.cells #[.int .u8 0, .int .i64 16, .int .i64 wn, .slice (some ⟨w.heap.size, 0, none⟩) n n] 117)
    simpa using this
  · exact (Below.heap_alloc _ _ _ (by simp)).trans (heap_alloc_new _ _)

theorem set_self {ps : List Pr} {k : Nat} {p : Pr} (hk : ps[k]? = some p) (y : Pr) : (ps.set k y)[k]? = some y := by
  rw [List.getElem?_set_self (List.getElem?_eq_some_iff.1 hk).1]
theorem Row.put4 {w : World} {b : Nat} {ty : TypeId} {ps : List Pr} (h : Row w b ty ps) {k : Nat} {p : Pr} (hk : ps[k]? = some p) (s a : Int) (q : Value) (qs : List (Value × List Int)) (m : Int) :
    Row ((((w.setCell ⟨b, k * 6, none⟩ (.int .u64 s)).setCell ⟨b, k * 6 + 1, none⟩ (.int .u64 a)).setCell ⟨b, k * 6 + 2, none⟩ q).setCell ⟨b, k * 6 + 3, none⟩ (.int .u64 m)) b ty (ps.set k ⟨s, a, q, qs, m, p.dlv, p.e⟩) := by
  have h1 := h.set hk 0 (by omega) (.int .u64 s) ⟨s, p.acked, p.q, qs, p.mask, p.dlv, p.e⟩ rfl
  have h2 := h1.set (set_self hk _) 1 (by omega) (.int .u64 a) ⟨s, a, p.q, qs, p.mask, p.dlv, p.e⟩ rfl
  have h3 := h2.set (set_self (set_self hk _) _) 2 (by omega) q ⟨s, a, q, qs, p.mask, p.dlv, p.e⟩ rfl
  have h4 := h3.set (set_self (set_self (set_self hk _) _) _) 3 (by omega) (.int .u64 m) ⟨s, a, q, qs, m, p.dlv, p.e⟩ rfl
  simpa only [List.set_set, Nat.add_zero] using h4
theorem Row.put2 {w : World} {b : Nat} {ty : TypeId} {ps : List Pr} (h : Row w b ty ps) {k : Nat} {p : Pr} (hk : ps[k]? = some p) (d : Int) (e : Value) :
    Row ((w.setCell ⟨b, k * 6 + 4, none⟩ (.int .u64 d)).setCell ⟨b, k * 6 + 5, none⟩ e) b ty (ps.set k ⟨p.sent, p.acked, p.q, p.qs, p.mask, d, e⟩) := by
  have h1 := h.set hk 4 (by omega) (.int .u64 d) ⟨p.sent, p.acked, p.q, p.qs, p.mask, d, p.e⟩ rfl
  have h2 := h1.set (set_self hk _) 5 (by omega) e ⟨p.sent, p.acked, p.q, p.qs, p.mask, d, e⟩ rfl
  simpa only [List.set_set] using h2
theorem Kp.put {pb : Nat} {a w : World} {o : Nat} {u : Value} (h : Kp (fun i => i = pb) a w) : Kp (fun i => i = pb) a (w.setCell ⟨pb, o, none⟩ u) := h.andSet _ _ (.inr rfl)
theorem new_at (w : World) (o : Obj) {W : World} (k : Kp Nu (w.alloc o) W) : W.heap[w.heap.size]? = some o := (k.block _ (by simp) (fun h => h)).trans (heap_alloc_new w o)
theorem cell6 {w : World} {b : Nat} {x y z u v t : Value} {ty : TypeId} (h : w.heap[b]? = some (.cells #[x, y, z, u, v, t] ty (0, 0))) :
    w.cell? ⟨b, 0, none⟩ = some x ∧ w.cell? ⟨b, 1, none⟩ = some y ∧ w.cell? ⟨b, 2, none⟩ = some z ∧ w.cell? ⟨b, 3, none⟩ = some u ∧ w.cell? ⟨b, 4, none⟩ = some v ∧ w.cell? ⟨b, 5, none⟩ = some t := by
  refine ⟨?_, ?_, ?_, ?_, ?_, ?_⟩ <;> simp [World.cell?, h]

set_option maxHeartbeats 1000000 in
theorem loadOut (h : Row w pb 123 ps) (k : Nat) (p : Pr) (hk : ps[k]? = some p) (a : Int) (e0 : IntKind.u64.wrap (a - a) = 0) : Calls Try.prog 63 #[.pointer (some ⟨pb, k * 6, none⟩), .agg #[.int .u64 a, .int .u64 a, .slice none 0 0, .int .u64 0, .int .u64 0, .slice none 0 0], .int .i64 16] w fun e w' => e = .returned (.bool true) ∧ ∃ g, w.heap.size ≤ g ∧ w'.heap[g]? = some (.cells #[] 45 (0, 0)) ∧ Row w' pb 123 (ps.set k ⟨a, a, .slice (some ⟨g, 0, none⟩) 0 0, [], 0, p.dlv, p.e⟩) ∧ Kp (fun i => i = pb) w w' := by
  have CZ := contains_zero none 0
  have CP := copies_new none 0
  have WZ := within_zero
  have ea : ¬ a > a := by omega
  have HH := hide h
  have CE := fun W (k : Kp Nu (w.alloc (.cells #[.int .u64 a, .int .u64 a, .slice none 0 0, .int .u64 0, .int .u64 0, .slice none 0 0] 66)) W) => cell6 (new_at w _ k)
  have CP2 := fun W (k' : Kp Nu w W) => (h.keep (k'.block _ (blk_lt h) (fun h => h))).at hk
  have CF := fun W (k' : Kp Nu w W) (o : Nat) => (h.keep (k'.block _ (blk_lt h) (fun h => h))).free o
  clear h
  go_enter Try.func63, Try.ntmps63
  go_wp2_with (first | (go_at_call 86; refine (WZ _ _).mono ?_; rintro e w1 ⟨rfl, hw1⟩; obtain rfl := hw1.symm) | (go_at_call 87; refine (CZ _ _).mono ?_; rintro e w2 ⟨rfl, hk2⟩; obtain ⟨x0, x1, x2, x3, x4, x5⟩ := CE w2 hk2))
  have KK := hide ((Kp.alloc w (.cells #[.int .u64 a, .int .u64 a, .slice none 0 0, .int .u64 0, .int .u64 0, .slice none 0 0] 66) Nu).andNu hk2)
  have K2 := hide hk2
  have HS : ∀ W, Kp (fun i => i = pb) w2 W → W.cell? ⟨w.heap.size, 0, none⟩ = some (.int .u64 a) ∧ W.cell? ⟨w.heap.size, 1, none⟩ = some (.int .u64 a) ∧ W.cell? ⟨w.heap.size, 2, none⟩ = some (.slice none 0 0) ∧ W.cell? ⟨w.heap.size, 3, none⟩ = some (.int .u64 0) := fun W kw => by
    have hE := CE w2 K2.out
    have hne : w.heap.size ≠ pb := by have := blk_lt HH.out; omega
    have hlt : w.heap.size < w2.heap.size := by have := K2.out.size; simp at this; omega
    have hc : ∀ o, W.cell? ⟨w.heap.size, o, none⟩ = w2.cell? ⟨w.heap.size, o, none⟩ := fun o => World.cell?_of_block (kw.block _ hlt (fun e => hne e))
    exact ⟨(hc _).trans hE.1, (hc _).trans hE.2.1, (hc _).trans hE.2.2.1, (hc _).trans hE.2.2.2.1⟩
  have CW : ∀ W, Kp Nu w2 W → Calls Try.prog 79 #[.slice none 0 0] W fun e w' => ∃ g, e = .returned (.slice (some ⟨g, 0, none⟩) 0 0) ∧ Hid (w2.heap.size ≤ g ∧ w'.heap[g]? = some (.cells #[] 45 (0, 0)) ∧ Kp Nu w2 w') ∧ Kp (fun i => i = pb) w2 w' := fun W kw => (CP W).mono (by rintro e w' ⟨g, rfl, h1, h2, h3⟩; exact ⟨g, rfl, ⟨Nat.le_trans kw.size h1, h2, kw.andNu h3⟩, (kw.andNu h3).mono (fun _ _ e => e.elim)⟩)
  clear x0 x1 x2 x3 x4 x5 hk2 CE WZ CZ CP
  go_region_held3 (fun W => W.cell? ⟨w.heap.size, 0, none⟩ = some (.int .u64 a) ∧ W.cell? ⟨w.heap.size, 1, none⟩ = some (.int .u64 a) ∧ W.cell? ⟨w.heap.size, 2, none⟩ = some (.slice none 0 0) ∧ W.cell? ⟨w.heap.size, 3, none⟩ = some (.int .u64 0)) (first | (refine HS _ ?_; repeat (first | assumption | exact Kp.refl _ _ | apply Kp.andAlloc | apply Kp.drew | apply Kp.put))) (first | (go_at_call 79; refine (CW _ ?_).mono ?_; (repeat (first | assumption | exact Kp.refl _ _ | apply Kp.andAlloc | apply Kp.drew)); rintro e w3 ⟨g, rfl, hg3, hk3⟩; obtain ⟨z0, z1, z2, z3, z4, z5⟩ := CP2 w3 (KK.out.andNu hg3.out.2.2); have f0 := CF w3 (KK.out.andNu hg3.out.2.2) (k * 6); have f1 := CF w3 (KK.out.andNu hg3.out.2.2) (k * 6 + 1); have f2 := CF w3 (KK.out.andNu hg3.out.2.2) (k * 6 + 2); have f3 := CF w3 (KK.out.andNu hg3.out.2.2) (k * 6 + 3)))
  go_wp2
  go_ret
  obtain ⟨hg, hb, hn⟩ := hg3.out
  have k3 := KK.out.andNu hn
  have hr := (HH.out.keep (k3.block _ (blk_lt HH.out) (fun h => h))).put4 hk a a (.slice (some ⟨g, 0, none⟩) 0 0) [] 0
  have hne : g ≠ pb := by have := blk_lt HH.out; have := KK.out.size; omega
  have kp : Kp (fun i => i = pb) w3 ((((w3.setCell ⟨pb, k * 6, none⟩ (.int .u64 a)).setCell ⟨pb, k * 6 + 1, none⟩ (.int .u64 a)).setCell ⟨pb, k * 6 + 2, none⟩ (.slice (some ⟨g, 0, none⟩) 0 0)).setCell ⟨pb, k * 6 + 3, none⟩ (.int .u64 0)) := (Kp.refl _ _).put.put.put.put
  refine ⟨rfl, g, Nat.le_trans KK.out.size hg, (kp.block _ (blk_lt hb) (fun e => hne e)).trans hb, hr, (k3.mono (fun _ _ e => e.elim)).trans kp (fun _ _ e => e)⟩

end
end Go.Proofs.Ytbhdhoeaogbfbaa.Xo
