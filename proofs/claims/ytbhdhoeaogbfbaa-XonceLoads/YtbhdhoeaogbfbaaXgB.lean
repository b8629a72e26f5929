import Derived.Test.YtbhdhoeaogbfbaaXgA
import Derived.Test.YtbhdhoeaogbfbaaEnP
namespace Go.Proofs.Ytbhdhoeaogbfbaa.Xo
open Go.RowKit
set_option linter.unusedVariables false
set_option maxHeartbeats 1000000 in
theorem lists_gen (w : World) (ra oa ca rb ob cb : Nat) (vs us : List (Value × List Int)) (n : Nat) (hn : vs.length = n) (hn2 : us.length = n) (hn16 : n ≤ 140737488355000) (hb : ∀ x ∈ vs, x.2.length ≤ 140737488355328) (h : Rl w ra oa vs) (h2 : Rl w rb ob us) (he : ∀ (i : Nat) (x y : Value × List Int), vs[i]? = some x → us[i]? = some y → x.2 = y.2) : Calls Try.prog 77 #[.slice (some ⟨ra, oa, none⟩) n ca, .slice (some ⟨rb, ob, none⟩) n cb] w fun e w' => e = .returned (.bool true) ∧ Kp Nu w w' := by
  have hnn : ((n : Int) != (n : Int)) = false := by simp
  have HN := hide (And.intro hn (And.intro hn2 hn16))
  have HR := hide (And.intro h (And.intro h2 he))
  have HBD := hide hb
  clear hb hn hn2 hn16 h h2 he
  go_enter Try.func77, Try.ntmps77
  go_wp2
  go_loopw [5] (fun i wr => ∃ k : Nat, k ≤ n ∧ i = .int .i64 (k : Int) ∧ Hid (Kp Nu w wr)) (fun i _ => n - (intOf i).toNat)
  case atStart => exact ⟨0, by omega, rfl, Kp.refl _ _⟩
  case round =>
    obtain ⟨k, hkn, rfl, HK⟩ := hrel
    by_cases hlt : k < n
    · obtain ⟨x, hx⟩ : ∃ x, vs[k]? = some x := ⟨vs[k]'(by rw [HN.out.1]; exact hlt), List.getElem?_eq_getElem _⟩
      obtain ⟨y, hy⟩ : ∃ y, us[k]? = some y := ⟨us[k]'(by rw [HN.out.2.1]; exact hlt), List.getElem?_eq_getElem _⟩
      have exy := HR.out.2.2 k x y hx hy
      have HS : ∀ W, Kp Nu wr W → W.cell? ⟨ra, oa + k, none⟩ = some x.1 ∧ W.cell? ⟨rb, ob + k, none⟩ = some y.1 := fun W kW => ⟨((HR.out.1.nu (HK.out.andNu kW)) k x hx).1, ((HR.out.2.1.nu (HK.out.andNu kW)) k y hy).1⟩
      have SA : ∀ W, Kp Nu wr W → Calls Try.prog 24 #[x.1, y.1] W fun e w' => e = .returned (.bool true) ∧ Kp Nu wr w' := fun W kW => by
        obtain ⟨_, r1⟩ := (HR.out.1.nu (HK.out.andNu kW)) k x hx
        obtain ⟨_, r2⟩ := (HR.out.2.1.nu (HK.out.andNu kW)) k y hy
        refine (same_any r1 r2 (HBD.out x (List.mem_of_getElem? hx))).mono ?_
        rintro e w' ⟨rfl, hk⟩
        exact ⟨by simp [exy], kW.andNu hk⟩
      have hltI : (k : Int) < (n : Int) := by omega
      have hk0 : (0 : Int) ≤ (k : Int) := by omega
      have hwk : Hid (wrap64 ((k : Int) + 1) = ((k + 1 : Nat) : Int)) := by have := HN.out.2.2; show wrap64 _ = _; unfold wrap64; omega
      obtain ⟨a1, n1, c1, e1⟩ : ∃ a n c, x.1 = .slice a n c := by
        obtain ⟨_, r1⟩ := HR.out.1 k x hx
        obtain ⟨a, c, e⟩ := r1.slice
        exact ⟨_, _, _, e⟩
      obtain ⟨a2, n2, c2, e2⟩ : ∃ a n c, y.1 = .slice a n c := by
        obtain ⟨_, r1⟩ := HR.out.2.1 k y hy
        obtain ⟨a, c, e⟩ := r1.slice
        exact ⟨_, _, _, e⟩
      rw [e1, e2] at HS SA
      clear exy e1 e2
      go_wp2_with fail
      go_region_held3 (fun W => W.cell? ⟨ra, oa + k, none⟩ = some (.slice a1 n1 c1) ∧ W.cell? ⟨rb, ob + k, none⟩ = some (.slice a2 n2 c2)) (first | (refine HS _ ?_; repeat (first | assumption | exact Kp.refl _ _ | apply Kp.drew))) (first | (go_at_call 24; refine (SA _ ?_).mono ?_; (repeat (first | assumption | exact Kp.refl _ _ | apply Kp.drew)); rintro e w3 ⟨rfl, hk3⟩))
      have HK3 := hide (HK.out.andNu hk3)
      clear HS SA hk3
      go_wp2
      exact ⟨⟨k + 1, hlt, by rw [hwk.out], HK3⟩, lt_m _ hwk.out hlt⟩
    · obtain rfl : k = n := by omega
      clear hlt
      go_wp2
      go_ret
      exact ⟨rfl, HK.out⟩
set_option maxHeartbeats 2000000 in
theorem frames_gen (w : World) (ra oa ca rb ob cb : Nat) (vs us : List Fm) (n : Nat) (hn : vs.length = n) (hn2 : us.length = n) (hn16 : n ≤ 140737488355000) (hb : ∀ x ∈ vs, x.ys.length ≤ 140737488355328) (h : Rfl w ra oa vs) (h2 : Rfl w rb ob us) (he : ∀ (i : Nat) (x y : Fm), vs[i]? = some x → us[i]? = some y → x.seq = y.seq ∧ x.ys = y.ys) : Calls Try.prog 78 #[.slice (some ⟨ra, oa, none⟩) n ca, .slice (some ⟨rb, ob, none⟩) n cb] w fun e w' => e = .returned (.bool true) ∧ Kp Nu w w' := by
  have hnn : ((n : Int) != (n : Int)) = false := by simp
  have HN := hide (And.intro hn (And.intro hn2 hn16))
  have HR := hide (And.intro h (And.intro h2 he))
  have HBD := hide hb
  clear hb hn hn2 hn16 h h2 he
  go_enter Try.func78, Try.ntmps78
  go_wp2
  go_loopw [5] (fun i wr => ∃ k : Nat, k ≤ n ∧ i = .int .i64 (k : Int) ∧ Hid (Kp Nu w wr)) (fun i _ => n - (intOf i).toNat)
  case atStart => exact ⟨0, by omega, rfl, Kp.refl _ _⟩
  case round =>
    obtain ⟨k, hkn, rfl, HK⟩ := hrel
    by_cases hlt : k < n
    · obtain ⟨x, hx⟩ : ∃ x, vs[k]? = some x := ⟨vs[k]'(by rw [HN.out.1]; exact hlt), List.getElem?_eq_getElem _⟩
      obtain ⟨y, hy⟩ : ∃ y, us[k]? = some y := ⟨us[k]'(by rw [HN.out.2.1]; exact hlt), List.getElem?_eq_getElem _⟩
      obtain ⟨exq, exy⟩ := HR.out.2.2 k x y hx hy
      have hqq : (x.seq != x.seq) = false := by simp
      have HS : ∀ W, Kp Nu wr W → W.cell? ⟨ra, oa + k * 2, none⟩ = some (.int .u64 x.seq) ∧ W.cell? ⟨ra, oa + k * 2 + 1, none⟩ = some x.v ∧ W.cell? ⟨rb, ob + k * 2, none⟩ = some (.int .u64 x.seq) ∧ W.cell? ⟨rb, ob + k * 2 + 1, none⟩ = some y.v := fun W kW => by
        obtain ⟨p1, p2, _⟩ := (HR.out.1.nu (HK.out.andNu kW)) k x hx
        obtain ⟨q1, q2, _⟩ := (HR.out.2.1.nu (HK.out.andNu kW)) k y hy
        rw [← exq] at q1
        exact ⟨p1, p2, q1, q2⟩
      have SA : ∀ W, Kp Nu wr W → Calls Try.prog 24 #[x.v, y.v] W fun e w' => e = .returned (.bool true) ∧ Kp Nu wr w' := fun W kW => by
        obtain ⟨_, _, r1⟩ := (HR.out.1.nu (HK.out.andNu kW)) k x hx
        obtain ⟨_, _, r2⟩ := (HR.out.2.1.nu (HK.out.andNu kW)) k y hy
        refine (same_any r1 r2 (HBD.out x (List.mem_of_getElem? hx))).mono ?_
        rintro e w' ⟨rfl, hk⟩
        exact ⟨by simp [exy], kW.andNu hk⟩
      have hltI : (k : Int) < (n : Int) := by omega
      have hk0 : (0 : Int) ≤ (k : Int) := by omega
      have hwk : Hid (wrap64 ((k : Int) + 1) = ((k + 1 : Nat) : Int)) := by have := HN.out.2.2; show wrap64 _ = _; unfold wrap64; omega
      obtain ⟨a1, n1, c1, e1⟩ : ∃ a n c, x.v = .slice a n c := by
        obtain ⟨_, _, r1⟩ := HR.out.1 k x hx
        obtain ⟨a, c, e⟩ := r1.slice
        exact ⟨_, _, _, e⟩
      obtain ⟨a2, n2, c2, e2⟩ : ∃ a n c, y.v = .slice a n c := by
        obtain ⟨_, _, r1⟩ := HR.out.2.1 k y hy
        obtain ⟨a, c, e⟩ := r1.slice
        exact ⟨_, _, _, e⟩
      rw [e1, e2] at HS SA
      clear exy e1 e2 exq
      go_wp2_with fail
      go_region_held3 (fun W => W.cell? ⟨ra, oa + k * 2, none⟩ = some (.int .u64 x.seq) ∧ W.cell? ⟨ra, oa + k * 2 + 1, none⟩ = some (.slice a1 n1 c1) ∧ W.cell? ⟨rb, ob + k * 2, none⟩ = some (.int .u64 x.seq) ∧ W.cell? ⟨rb, ob + k * 2 + 1, none⟩ = some (.slice a2 n2 c2)) (first | (refine HS _ ?_; repeat (first | assumption | exact Kp.refl _ _ | apply Kp.drew))) (first | (go_at_call 24; refine (SA _ ?_).mono ?_; (repeat (first | assumption | exact Kp.refl _ _ | apply Kp.drew)); rintro e w3 ⟨rfl, hk3⟩))
      have HK3 := hide (HK.out.andNu hk3)
      clear HS SA hk3
      go_wp2
      exact ⟨⟨k + 1, hlt, by rw [hwk.out], HK3⟩, lt_m _ hwk.out hlt⟩
    · obtain rfl : k = n := by omega
      clear hlt
      go_wp2
      go_ret
      exact ⟨rfl, HK.out⟩
set_option maxHeartbeats 1000000 in
theorem lists_qe (w : World) (u v : Value) (vs us : List (Value × List Int)) (hn16 : vs.length ≤ 140737488355000) (hb : ∀ x ∈ vs, x.2.length ≤ 140737488355328) (h : Lq w u vs) (h2 : Lq w v us) (he : vs.map Prod.snd = us.map Prod.snd) : Calls Try.prog 77 #[u, v] w fun e w' => e = .returned (.bool true) ∧ Kp Nu w w' := by
  have hl : us.length = vs.length := by have := congrArg List.length he; simpa using this.symm
  have hz : ∀ ad cap bd cbp, u = .slice ad 0 cap → v = .slice bd 0 cbp → Calls Try.prog 77 #[u, v] w fun e w' => e = .returned (.bool true) ∧ Kp Nu w w' := fun ad cap bd cbp e1 e2 => by
    rw [e1, e2]
    exact (lists_zero ad bd cap cbp w).mono (by rintro e w' ⟨rfl, rfl⟩; exact ⟨rfl, Kp.refl _ _⟩)
  rcases h with ⟨ad, cap, e1, e2⟩ | ⟨r, off, cap, e1, h⟩
  · obtain ⟨bd, cbp, e3⟩ := h2.slice
    rw [hl, e2] at e3
    exact hz _ _ _ _ e1 e3
  · rcases h2 with ⟨bd, cbp, e3, e4⟩ | ⟨r2, off2, cap2, e3, h2⟩
    · rw [e4] at hl
      rw [← hl] at e1
      exact hz _ _ _ _ e1 e3
    · rw [e1, e3, hl]
      refine lists_gen w r off cap r2 off2 cap2 vs us vs.length rfl hl hn16 hb h h2 (fun i x y hx hy => ?_)
      have h3 : (vs.map Prod.snd)[i]? = (us.map Prod.snd)[i]? := by rw [he]
      rw [List.getElem?_map, List.getElem?_map, hx, hy] at h3
      simpa using h3
theorem frames_qe (w : World) (u v : Value) (vs us : List Fm) (hn16 : vs.length ≤ 140737488355000) (hb : ∀ x ∈ vs, x.ys.length ≤ 140737488355328) (h : Le w u vs) (h2 : Le w v us) (he : vs.map (fun f => (f.seq, f.ys)) = us.map (fun f => (f.seq, f.ys))) : Calls Try.prog 78 #[u, v] w fun e w' => e = .returned (.bool true) ∧ Kp Nu w w' := by
  have hl : us.length = vs.length := by have := congrArg List.length he; simpa using this.symm
  have hz : ∀ ad cap bd cbp, u = .slice ad 0 cap → v = .slice bd 0 cbp → Calls Try.prog 78 #[u, v] w fun e w' => e = .returned (.bool true) ∧ Kp Nu w w' := fun ad cap bd cbp e1 e2 => by
    rw [e1, e2]
    exact (frames_zero2 ad bd cap cbp w).mono (by rintro e w' ⟨rfl, rfl⟩; exact ⟨rfl, Kp.refl _ _⟩)
  rcases h with ⟨ad, cap, e1, e2⟩ | ⟨r, off, cap, e1, h⟩
  · obtain ⟨bd, cbp, e3⟩ := h2.slice
    rw [hl, e2] at e3
    exact hz _ _ _ _ e1 e3
  · rcases h2 with ⟨bd, cbp, e3, e4⟩ | ⟨r2, off2, cap2, e3, h2⟩
    · rw [e4] at hl
      rw [← hl] at e1
      exact hz _ _ _ _ e1 e3
    · rw [e1, e3, hl]
      refine frames_gen w r off cap r2 off2 cap2 vs us vs.length rfl hl hn16 hb h h2 (fun i x y hx hy => ?_)
      have h3 : (vs.map (fun f => (f.seq, f.ys)))[i]? = (us.map (fun f => (f.seq, f.ys)))[i]? := by rw [he]
      rw [List.getElem?_map, List.getElem?_map, hx, hy] at h3
      simpa using h3
set_option maxRecDepth 100000 in
set_option maxHeartbeats 1000000 in
theorem peers_qe (s a m d : Int) (q1 q2 e1 e2 : Value) (vs us : List (Value × List Int)) (fs gs : List Fm) (w : World) (hv : Lq w q1 vs) (hu : Lq w q2 us) (hf : Le w e1 fs) (hg : Le w e2 gs) (hn : vs.length ≤ 140737488355000) (hm : fs.length ≤ 140737488355000) (hbv : ∀ x ∈ vs, x.2.length ≤ 140737488355328) (hbf : ∀ x ∈ fs, x.ys.length ≤ 140737488355328) (h1 : vs.map Prod.snd = us.map Prod.snd) (h2 : fs.map (fun f => (f.seq, f.ys)) = gs.map (fun f => (f.seq, f.ys))) :
    Calls Try.prog 49 #[.agg #[.int .u64 s, .int .u64 a, q1, .int .u64 m, .int .u64 d, e1], .agg #[.int .u64 s, .int .u64 a, q2, .int .u64 m, .int .u64 d, e2]] w fun e w' => e = .returned (.bool true) ∧ Kp Nu w w' := by
  have LZ := fun W (kW : Kp Nu w W) => lists_qe W q1 q2 vs us hn hbv (hv.nu kW) (hu.nu kW) h1
  have FZ := fun W (kW : Kp Nu w W) => frames_qe W e1 e2 fs gs hm hbf (hf.nu kW) (hg.nu kW) h2
  obtain ⟨a1, b1, x1⟩ := hv.slice
  obtain ⟨a2, b2, x2⟩ := hu.slice
  obtain ⟨a3, b3, x3⟩ := hf.slice
  obtain ⟨a4, b4, x4⟩ := hg.slice
  generalize vs.length = n1 at *
  generalize us.length = n2 at *
  generalize fs.length = n3 at *
  generalize gs.length = n4 at *
  subst x1 x2 x3 x4
  have hs : (s == s) = true := by simp
  have ha : (a == a) = true := by simp
  have hmm : (m == m) = true := by simp
  have hd : (d == d) = true := by simp
  have CX : ∀ W, Kp Nu ((w.alloc (.cells #[.int .u64 s, .int .u64 a, .slice a1 n1 b1, .int .u64 m, .int .u64 d, .slice a3 n3 b3] 66)).alloc (.cells #[.int .u64 s, .int .u64 a, .slice a2 n2 b2, .int .u64 m, .int .u64 d, .slice a4 n4 b4] 66)) W → W.cell? ⟨w.heap.size, 5, none⟩ = some (.slice a3 n3 b3) ∧ W.cell? ⟨w.heap.size + 1, 5, none⟩ = some (.slice a4 n4 b4) := fun W kW => by
    have hA : ((w.alloc (.cells #[.int .u64 s, .int .u64 a, .slice a1 n1 b1, .int .u64 m, .int .u64 d, .slice a3 n3 b3] 66)).alloc (.cells #[.int .u64 s, .int .u64 a, .slice a2 n2 b2, .int .u64 m, .int .u64 d, .slice a4 n4 b4] 66)).heap[w.heap.size]? = some (.cells #[.int .u64 s, .int .u64 a, .slice a1 n1 b1, .int .u64 m, .int .u64 d, .slice a3 n3 b3] 66 (0, 0)) := (Below.heap_alloc _ _ _ (by simp)).trans (heap_alloc_new w _)
    have hB := heap_alloc_new (w.alloc (.cells #[.int .u64 s, .int .u64 a, .slice a1 n1 b1, .int .u64 m, .int .u64 d, .slice a3 n3 b3] 66)) (.cells #[.int .u64 s, .int .u64 a, .slice a2 n2 b2, .int .u64 m, .int .u64 d, .slice a4 n4 b4] 66)
    have e0 : (w.alloc (.cells #[.int .u64 s, .int .u64 a, .slice a1 n1 b1, .int .u64 m, .int .u64 d, .slice a3 n3 b3] 66)).heap.size = w.heap.size + 1 := by simp
    rw [e0] at hB
    exact ⟨(cell6 ((kW.block _ (blk_lt hA) (fun h => h)).trans hA)).2.2.2.2.2, (cell6 ((kW.block _ (blk_lt hB) (fun h => h)).trans hB)).2.2.2.2.2⟩
  clear hv hu hf hg h1 h2 hn hm hbv hbf
  go_enter Try.func49, Try.ntmps49
  go_wp2_with (first | (go_at_call 77; refine (LZ _ (((Kp.refl _ w).andAlloc _).andAlloc _)).mono ?_; rintro e w1 ⟨rfl, hk1⟩; obtain ⟨y1, y2⟩ := CX w1 hk1) | (go_at_call 78; refine (FZ _ ((((Kp.refl _ w).andAlloc _).andAlloc _).andNu hk1)).mono ?_; rintro e w2 ⟨rfl, hk2⟩))
  go_ret
  exact ⟨rfl, ((((Kp.refl _ w).andAlloc _).andAlloc _).andNu hk1).andNu hk2⟩

/-- the six cells of a state in a list -/
theorem Wi.six {w : World} {v : Value} {I : List Px} (h : Wi w v I) {i : Nat} {x : Px} (hx : I[i]? = some x) : ∃ b off cap, v = .slice (some ⟨b, off, none⟩) I.length cap ∧ w.cell? ⟨b, off + i * 6, none⟩ = some (.int .u64 x.p.sent) ∧ w.cell? ⟨b, off + i * 6 + 1, none⟩ = some (.int .u64 x.p.acked) ∧ w.cell? ⟨b, off + i * 6 + 2, none⟩ = some x.p.q ∧ w.cell? ⟨b, off + i * 6 + 3, none⟩ = some (.int .u64 x.p.mask) ∧ w.cell? ⟨b, off + i * 6 + 4, none⟩ = some (.int .u64 x.p.dlv) ∧ w.cell? ⟨b, off + i * 6 + 5, none⟩ = some x.p.e ∧ In1 w x := by
  obtain ⟨ad, cap, e, h⟩ := h
  obtain ⟨b, off, e1, c, hi⟩ := h i x hx
  subst e1
  exact ⟨b, off, cap, e, c 0 (by omega), c 1 (by omega), c 2 (by omega), c 3 (by omega), c 4 (by omega), c 5 (by omega), hi⟩
set_option maxRecDepth 100000 in
set_option maxHeartbeats 4000000 in
theorem states_gen (w : World) (v u : Value) (I J : List Px) (hI : Wi w v I) (hJ : Wi w u J) (he : I.map Px.ab = J.map Px.ab) (hb : ∀ x ∈ I, Bd x) (hl : I.length ≤ 1759218604441) : Calls Try.prog 19 #[.agg #[v], .agg #[u]] w fun e w' => e = .returned (.bool true) ∧ Kp Nu w w' := by
  have hlen : J.length = I.length := by have := congrArg List.length he; simpa using this.symm
  obtain ⟨aI, cI, eI⟩ := hI.slice
  obtain ⟨aJ, cJ, eJ⟩ := hJ.slice
  subst eI eJ
  rw [hlen] at hJ ⊢
  obtain ⟨n, en⟩ : ∃ n, I.length = n := ⟨_, rfl⟩
  rw [en] at hI hJ ⊢
  have hnn : ((n : Int) != (n : Int)) = false := by simp
  have HW := hide (And.intro hI hJ)
  have HN := hide (And.intro en (And.intro (hlen.trans en) (And.intro hl (And.intro hb he))))
  have CX : ∀ W, Kp Nu ((w.alloc (.cells #[.slice aI n cI] 24)).alloc (.cells #[.slice aJ n cJ] 24)) W → W.cell? ⟨w.heap.size, 0, none⟩ = some (.slice aI n cI) ∧ W.cell? ⟨w.heap.size + 1, 0, none⟩ = some (.slice aJ n cJ) := fun W kW => by
    have hA : ((w.alloc (.cells #[.slice aI n cI] 24)).alloc (.cells #[.slice aJ n cJ] 24)).heap[w.heap.size]? = some (.cells #[.slice aI n cI] 24 (0, 0)) := (Below.heap_alloc _ _ _ (by simp)).trans (heap_alloc_new w _)
    have hB : ((w.alloc (.cells #[.slice aI n cI] 24)).alloc (.cells #[.slice aJ n cJ] 24)).heap[w.heap.size + 1]? = some (.cells #[.slice aJ n cJ] 24 (0, 0)) := by
      have h0 := heap_alloc_new (w.alloc (.cells #[.slice aI n cI] 24)) (.cells #[.slice aJ n cJ] 24)
      have e0 : (w.alloc (.cells #[.slice aI n cI] 24)).heap.size = w.heap.size + 1 := by simp
      rwa [e0] at h0
    exact ⟨cell1 ((kW.block _ (blk_lt hA) (fun h => h)).trans hA), cell1 ((kW.block _ (blk_lt hB) (fun h => h)).trans hB)⟩
  have K2 : Kp Nu w ((w.alloc (.cells #[.slice aI n cI] 24)).alloc (.cells #[.slice aJ n cJ] 24)) := ((Kp.refl Nu w).andAlloc _).andAlloc _
  have HK2 := hide K2
  clear hI hJ he hb hl hlen en K2
  go_enter Try.func19, Try.ntmps19
  obtain ⟨z0, z1⟩ := CX _ (Kp.refl _ _)
  go_wp2
  go_loopw [5] (fun i wr => ∃ k : Nat, k ≤ n ∧ i = .int .i64 (k : Int) ∧ Hid (Kp Nu ((w.alloc (.cells #[.slice aI n cI] 24)).alloc (.cells #[.slice aJ n cJ] 24)) wr)) (fun i _ => n - (intOf i).toNat)
  case atStart => exact ⟨0, by omega, rfl, Kp.refl _ _⟩
  case round =>
    clear z0 z1
    obtain ⟨k, hkn, rfl, HK⟩ := hrel
    obtain ⟨x0, x1⟩ := CX wr HK.out
    by_cases hlt : k < n
    · obtain ⟨t, ht⟩ : ∃ t, I[k]? = some t := ⟨_, List.getElem?_eq_getElem (by rw [HN.out.1]; exact hlt)⟩
      obtain ⟨y, hy⟩ : ∃ y, J[k]? = some y := ⟨_, List.getElem?_eq_getElem (by rw [HN.out.2.1]; exact hlt)⟩
      have hab : t.ab = y.ab := by
        have h3 : (I.map Px.ab)[k]? = (J.map Px.ab)[k]? := by rw [HN.out.2.2.2.2]
        rw [List.getElem?_map, List.getElem?_map, ht, hy] at h3
        exact Option.some.inj h3
      have hbd := HN.out.2.2.2.1 t (List.mem_of_getElem? ht)
      have kw := HK2.out.andNu HK.out
      obtain ⟨ba, oa, _, E1, z0, z1, z2, z3, z4, z5, it⟩ := (HW.out.1.nu kw).six ht
      obtain ⟨bb, ob, _, E2, z6, z7, z8, z9, zA, zB, iy⟩ := (HW.out.2.nu kw).six hy
      have e1 := (Value.slice.inj E1).1
      have e2 := (Value.slice.inj E2).1
      clear E1 E2 z0 z1 z2 z3 z4 z5 z6 z7 z8 z9 zA zB
      subst e1 e2
      have h1 : t.p.sent = y.p.sent := congrArg Ab.sent hab
      have h2 : t.p.acked = y.p.acked := congrArg Ab.acked hab
      have h3 : t.p.mask = y.p.mask := congrArg Ab.mask hab
      have h4 : t.p.dlv = y.p.dlv := congrArg Ab.dlv hab
      have h5 : t.p.qs.map Prod.snd = y.p.qs.map Prod.snd := congrArg Ab.q hab
      have h6 : t.es.map (fun f => (f.seq, f.ys)) = y.es.map (fun f => (f.seq, f.ys)) := congrArg Ab.e hab
      obtain ⟨a1, b1, f1⟩ := it.1.slice
      obtain ⟨a2, b2, f2⟩ := it.2.slice
      obtain ⟨a3, b3, f3⟩ := iy.1.slice
      obtain ⟨a4, b4, f4⟩ := iy.2.slice
      have PW : ∀ W, Kp Nu wr W → Calls Try.prog 49 #[.agg #[.int .u64 t.p.sent, .int .u64 t.p.acked, t.p.q, .int .u64 t.p.mask, .int .u64 t.p.dlv, t.p.e], .agg #[.int .u64 t.p.sent, .int .u64 t.p.acked, y.p.q, .int .u64 t.p.mask, .int .u64 t.p.dlv, y.p.e]] W fun e w' => e = .returned (.bool true) ∧ Kp Nu wr w' := fun W kW => (peers_qe t.p.sent t.p.acked t.p.mask t.p.dlv t.p.q y.p.q t.p.e y.p.e t.p.qs y.p.qs t.es y.es W (it.1.nu kW) (iy.1.nu kW) (it.2.nu kW) (iy.2.nu kW) (by have := hbd.1; omega) (by have := hbd.2.2.1; omega) (fun x hx => by have := hbd.2.1 x hx; omega) (fun x hx => by have := hbd.2.2.2.1 x hx; omega) h5 h6).mono (by rintro e w' ⟨rfl, hk⟩; exact ⟨rfl, kW.andNu hk⟩)
      rw [f1, f2, f3, f4] at PW
      generalize t.p.qs.length = l1 at *
      generalize t.es.length = l2 at *
      generalize y.p.qs.length = l3 at *
      generalize y.es.length = l4 at *
      have HS : ∀ W, Kp Nu wr W → W.cell? ⟨w.heap.size, 0, none⟩ = some (.slice (some ⟨ba, oa, none⟩) n cI) ∧ W.cell? ⟨w.heap.size + 1, 0, none⟩ = some (.slice (some ⟨bb, ob, none⟩) n cJ) ∧ W.cell? ⟨ba, oa + k * 6, none⟩ = some (.int .u64 t.p.sent) ∧ W.cell? ⟨ba, oa + k * 6 + 1, none⟩ = some (.int .u64 t.p.acked) ∧ W.cell? ⟨ba, oa + k * 6 + 2, none⟩ = some (.slice a1 l1 b1) ∧ W.cell? ⟨ba, oa + k * 6 + 3, none⟩ = some (.int .u64 t.p.mask) ∧ W.cell? ⟨ba, oa + k * 6 + 4, none⟩ = some (.int .u64 t.p.dlv) ∧ W.cell? ⟨ba, oa + k * 6 + 5, none⟩ = some (.slice a2 l2 b2) ∧ W.cell? ⟨bb, ob + k * 6, none⟩ = some (.int .u64 t.p.sent) ∧ W.cell? ⟨bb, ob + k * 6 + 1, none⟩ = some (.int .u64 t.p.acked) ∧ W.cell? ⟨bb, ob + k * 6 + 2, none⟩ = some (.slice a3 l3 b3) ∧ W.cell? ⟨bb, ob + k * 6 + 3, none⟩ = some (.int .u64 t.p.mask) ∧ W.cell? ⟨bb, ob + k * 6 + 4, none⟩ = some (.int .u64 t.p.dlv) ∧ W.cell? ⟨bb, ob + k * 6 + 5, none⟩ = some (.slice a4 l4 b4) := fun W kW => by
        obtain ⟨_, _, _, E1, q0, q1, q2, q3, q4, q5, _⟩ := (HW.out.1.nu (kw.andNu kW)).six ht
        obtain ⟨_, _, _, E2, r0, r1, r2, r3, r4, r5, _⟩ := (HW.out.2.nu (kw.andNu kW)).six hy
        have e1 := (Value.slice.inj E1).1
        have e2 := (Value.slice.inj E2).1
        cases e1; cases e2
        obtain ⟨y0, y1⟩ := CX W (HK.out.andNu kW)
        rw [f1] at q2
        rw [f2] at q5
        rw [← h1] at r0
        rw [← h2] at r1
        rw [f3] at r2
        rw [← h3] at r3
        rw [← h4] at r4
        rw [f4] at r5
        exact ⟨y0, y1, q0, q1, q2, q3, q4, q5, r0, r1, r2, r3, r4, r5⟩
      have hltI : (k : Int) < (n : Int) := by omega
      have hk0 : (0 : Int) ≤ (k : Int) := by omega
      have hwk : Hid (wrap64 ((k : Int) + 1) = ((k + 1 : Nat) : Int)) := by have := HN.out.1; have := HN.out.2.2.1; show wrap64 _ = _; unfold wrap64; omega
      clear kw h1 h2 h3 h4 h5 h6 f1 f2 f3 f4 it iy hab hbd ht hy hkn
      go_wp2_with fail
      go_region_held3 (fun W => W.cell? ⟨w.heap.size, 0, none⟩ = some (.slice (some ⟨ba, oa, none⟩) n cI) ∧ W.cell? ⟨w.heap.size + 1, 0, none⟩ = some (.slice (some ⟨bb, ob, none⟩) n cJ) ∧ W.cell? ⟨ba, oa + k * 6, none⟩ = some (.int .u64 t.p.sent) ∧ W.cell? ⟨ba, oa + k * 6 + 1, none⟩ = some (.int .u64 t.p.acked) ∧ W.cell? ⟨ba, oa + k * 6 + 2, none⟩ = some (.slice a1 l1 b1) ∧ W.cell? ⟨ba, oa + k * 6 + 3, none⟩ = some (.int .u64 t.p.mask) ∧ W.cell? ⟨ba, oa + k * 6 + 4, none⟩ = some (.int .u64 t.p.dlv) ∧ W.cell? ⟨ba, oa + k * 6 + 5, none⟩ = some (.slice a2 l2 b2) ∧ W.cell? ⟨bb, ob + k * 6, none⟩ = some (.int .u64 t.p.sent) ∧ W.cell? ⟨bb, ob + k * 6 + 1, none⟩ = some (.int .u64 t.p.acked) ∧ W.cell? ⟨bb, ob + k * 6 + 2, none⟩ = some (.slice a3 l3 b3) ∧ W.cell? ⟨bb, ob + k * 6 + 3, none⟩ = some (.int .u64 t.p.mask) ∧ W.cell? ⟨bb, ob + k * 6 + 4, none⟩ = some (.int .u64 t.p.dlv) ∧ W.cell? ⟨bb, ob + k * 6 + 5, none⟩ = some (.slice a4 l4 b4)) (first | (refine HS _ ?_; repeat (first | assumption | exact Kp.refl _ _ | apply Kp.drew))) (first | (go_at_call 49; refine (PW _ ?_).mono ?_; (repeat (first | assumption | exact Kp.refl _ _ | apply Kp.drew)); rintro e w3 ⟨rfl, hk3⟩))
      have HK3 := hide (HK.out.andNu hk3)
      clear HS PW hk3
      go_wp2
      exact ⟨⟨k + 1, hlt, by rw [hwk.out], HK3⟩, lt_m _ hwk.out hlt⟩
    · obtain rfl : k = n := by omega
      clear hlt
      go_wp2
      go_ret
      exact ⟨rfl, HK2.out.andNu HK.out⟩
end Go.Proofs.Ytbhdhoeaogbfbaa.Xo
