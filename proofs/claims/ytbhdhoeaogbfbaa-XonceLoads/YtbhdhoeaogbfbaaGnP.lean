import Derived.Test.YtbhdhoeaogbfbaaGnO
import Derived.Test.YtbhdhoeaogbfbaaEnP
namespace Go.Proofs.Ytbhdhoeaogbfbaa.Xo
open Go.RowKit
set_option linter.unusedVariables false
/-- payloads at a slice, of a length that may be -/
def Lp (w : World) (v : Value) (qs : List (Value × List Int)) : Prop := (∃ ad cap, v = .slice ad 0 cap ∧ qs = []) ∨ ∃ r off cap, v = .slice (some ⟨r, off, none⟩) qs.length cap ∧ Rp w r off qs
theorem Lp.slice {w : World} {v : Value} {qs : List (Value × List Int)} (h : Lp w v qs) : ∃ ad cap, v = .slice ad qs.length cap := by
  rcases h with ⟨ad, cap, rfl, rfl⟩ | ⟨r, off, cap, rfl, _⟩
  · exact ⟨ad, cap, rfl⟩
  · exact ⟨_, cap, rfl⟩
theorem Lp.nu {w w' : World} {v : Value} {qs : List (Value × List Int)} (h : Lp w v qs) (k : Kp Nu w w') : Lp w' v qs := by
  rcases h with h | ⟨r, off, cap, e, h⟩
  · exact .inl h
  · exact .inr ⟨r, off, cap, e, h.nu k⟩
theorem lists_eq (w : World) (u v : Value) (vs us : List (Value × List Int)) (hn16 : vs.length ≤ 16) (h : Lp w u vs) (h2 : Lp w v us) (he : vs.map Prod.snd = us.map Prod.snd) : Calls Try.prog 77 #[u, v] w fun e w' => e = .returned (.bool true) ∧ Kp Nu w w' := by
  have hl : us.length = vs.length := by have := congrArg List.length he; simpa using this.symm
  have hz : ∀ ad cap bd cbp, u = .slice ad 0 cap → v = .slice bd 0 cbp → Calls Try.prog 77 #[u, v] w fun e w' => e = .returned (.bool true) ∧ Kp Nu w w' := fun ad cap bd cbp e1 e2 => by
    rw [e1, e2]
    exact (lists_zero ad bd cap cbp w).mono (by rintro e w' ⟨rfl, rfl⟩; exact ⟨rfl, Kp.refl _ _⟩)
  rcases h with ⟨ad, cap, e1, e2⟩ | ⟨r, off, cap, e1, h⟩
  · obtain ⟨bd, cbp, e3⟩ := h2.slice
    rw [hl, e2] at e3
    exact hz _ _ _ _ e1 e3
  · rcases h2 with ⟨bd, cbp, e3, e4⟩ | ⟨r2, off2, cap2, e3, h2⟩
    · rw [e4] at hl
      rw [← hl] at e1
      exact hz _ _ _ _ e1 e3
    · rw [e1, e3, hl]
      refine lists_true w r off cap r2 off2 cap2 vs us vs.length rfl hl hn16 h h2 (fun i x y hx hy => ?_)
      have h3 : (vs.map Prod.snd)[i]? = (us.map Prod.snd)[i]? := by rw [he]
      rw [List.getElem?_map, List.getElem?_map, hx, hy] at h3
      simpa using h3
theorem frames_eq (w : World) (u v : Value) (vs us : List Fm) (hn16 : vs.length ≤ 16) (h : Lf w u vs) (h2 : Lf w v us) (he : vs.map (fun f => (f.seq, f.ys)) = us.map (fun f => (f.seq, f.ys))) : Calls Try.prog 78 #[u, v] w fun e w' => e = .returned (.bool true) ∧ Kp Nu w w' := by
  have hl : us.length = vs.length := by have := congrArg List.length he; simpa using this.symm
  have hz : ∀ ad cap bd cbp, u = .slice ad 0 cap → v = .slice bd 0 cbp → Calls Try.prog 78 #[u, v] w fun e w' => e = .returned (.bool true) ∧ Kp Nu w w' := fun ad cap bd cbp e1 e2 => by
    rw [e1, e2]
    exact (frames_zero2 ad bd cap cbp w).mono (by rintro e w' ⟨rfl, rfl⟩; exact ⟨rfl, Kp.refl _ _⟩)
  rcases h with ⟨ad, cap, e1, e2⟩ | ⟨r, off, cap, e1, h⟩
  · obtain ⟨bd, cbp, e3⟩ := h2.slice
    rw [hl, e2] at e3
    exact hz _ _ _ _ e1 e3
  · rcases h2 with ⟨bd, cbp, e3, e4⟩ | ⟨r2, off2, cap2, e3, h2⟩
    · rw [e4] at hl
      rw [← hl] at e1
      exact hz _ _ _ _ e1 e3
    · rw [e1, e3, hl]
      refine frames_true w r off cap r2 off2 cap2 vs us vs.length rfl hl hn16 h h2 (fun i x y hx hy => ?_)
      have h3 : (vs.map (fun f => (f.seq, f.ys)))[i]? = (us.map (fun f => (f.seq, f.ys)))[i]? := by rw [he]
      rw [List.getElem?_map, List.getElem?_map, hx, hy] at h3
      simpa using h3
set_option maxRecDepth 100000 in
set_option maxHeartbeats 1000000 in
theorem peers_eq (s a m d : Int) (q1 q2 e1 e2 : Value) (vs us : List (Value × List Int)) (fs gs : List Fm) (w : World) (hv : Lp w q1 vs) (hu : Lp w q2 us) (hf : Lf w e1 fs) (hg : Lf w e2 gs) (hn : vs.length ≤ 16) (hm : fs.length ≤ 16) (h1 : vs.map Prod.snd = us.map Prod.snd) (h2 : fs.map (fun f => (f.seq, f.ys)) = gs.map (fun f => (f.seq, f.ys))) :
    Calls Try.prog 49 #[.agg #[.int .u64 s, .int .u64 a, q1, .int .u64 m, .int .u64 d, e1], .agg #[.int .u64 s, .int .u64 a, q2, .int .u64 m, .int .u64 d, e2]] w fun e w' => e = .returned (.bool true) ∧ Kp Nu w w' := by
  have LZ := fun W (kW : Kp Nu w W) => lists_eq W q1 q2 vs us hn (hv.nu kW) (hu.nu kW) h1
  have FZ := fun W (kW : Kp Nu w W) => frames_eq W e1 e2 fs gs hm (hf.nu kW) (hg.nu kW) h2
  obtain ⟨a1, b1, x1⟩ := hv.slice
  obtain ⟨a2, b2, x2⟩ := hu.slice
  obtain ⟨a3, b3, x3⟩ := hf.slice
  obtain ⟨a4, b4, x4⟩ := hg.slice
  generalize vs.length = n1 at *
  generalize us.length = n2 at *
  generalize fs.length = n3 at *
  generalize gs.length = n4 at *
  subst x1 x2 x3 x4
  have hs : (s == s) = true := by simp
  have ha : (a == a) = true := by simp
  have hmm : (m == m) = true := by simp
  have hd : (d == d) = true := by simp
  have CX : ∀ W, Kp Nu ((w.alloc (.cells #[.int .u64 s, .int .u64 a, .slice a1 n1 b1, .int .u64 m, .int .u64 d, .slice a3 n3 b3] 66)).alloc (.cells #[.int .u64 s, .int .u64 a, .slice a2 n2 b2, .int .u64 m, .int .u64 d, .slice a4 n4 b4] 66)) W → W.cell? ⟨w.heap.size, 5, none⟩ = some (.slice a3 n3 b3) ∧ W.cell? ⟨w.heap.size + 1, 5, none⟩ = some (.slice a4 n4 b4) := fun W kW => by
    have hA : ((w.alloc (.cells #[.int .u64 s, .int .u64 a, .slice a1 n1 b1, .int .u64 m, .int .u64 d, .slice a3 n3 b3] 66)).alloc (.cells #[.int .u64 s, .int .u64 a, .slice a2 n2 b2, .int .u64 m, .int .u64 d, .slice a4 n4 b4] 66)).heap[w.heap.size]? = some (.cells #[.int .u64 s, .int .u64 a, .slice a1 n1 b1, .int .u64 m, .int .u64 d, .slice a3 n3 b3] 66 (0, 0)) := (Below.heap_alloc _ _ _ (by simp)).trans (heap_alloc_new w _)
    have hB := heap_alloc_new (w.alloc (.cells #[.int .u64 s, .int .u64 a, .slice a1 n1 b1, .int .u64 m, .int .u64 d, .slice a3 n3 b3] 66)) (.cells #[.int .u64 s, .int .u64 a, .slice a2 n2 b2, .int .u64 m, .int .u64 d, .slice a4 n4 b4] 66)
    have e0 : (w.alloc (.cells #[.int .u64 s, .int .u64 a, .slice a1 n1 b1, .int .u64 m, .int .u64 d, .slice a3 n3 b3] 66)).heap.size = w.heap.size + 1 := by simp
    rw [e0] at hB
    exact ⟨(cell6 ((kW.block _ (blk_lt hA) (fun h => h)).trans hA)).2.2.2.2.2, (cell6 ((kW.block _ (blk_lt hB) (fun h => h)).trans hB)).2.2.2.2.2⟩
  clear hv hu hf hg h1 h2 hn hm
  go_enter Try.func49, Try.ntmps49
  go_wp2_with (first | (go_at_call 77; refine (LZ _ (((Kp.refl _ w).andAlloc _).andAlloc _)).mono ?_; rintro e w1 ⟨rfl, hk1⟩; obtain ⟨y1, y2⟩ := CX w1 hk1) | (go_at_call 78; refine (FZ _ ((((Kp.refl _ w).andAlloc _).andAlloc _).andNu hk1)).mono ?_; rintro e w2 ⟨rfl, hk2⟩))
  go_ret
  exact ⟨rfl, ((((Kp.refl _ w).andAlloc _).andAlloc _).andNu hk1).andNu hk2⟩
end Go.Proofs.Ytbhdhoeaogbfbaa.Xo
