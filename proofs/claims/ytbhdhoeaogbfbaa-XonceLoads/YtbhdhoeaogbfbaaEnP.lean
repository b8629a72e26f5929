import Derived.Test.YtbhdhoeaogbfbaaEnH
namespace Go.Proofs.Ytbhdhoeaogbfbaa.Xo
open Go.RowKit
set_option linter.unusedVariables false
section
variable {B eb pb : Nat} {w w' : World} {me qn wn : Int} {ps : List Pr}
set_option maxHeartbeats 400000 in
theorem lists_zero (a b : Option Addr) (ca cb : Nat) (w : World) : Calls Try.prog 77 #[.slice a 0 ca, .slice b 0 cb] w fun e w' => e = .returned (.bool true) ∧ w' = w := by
  go_enter Try.func77, Try.ntmps77
  go_wp2
  go_loopw [5] (fun i wr => i = .int .i64 0 ∧ wr = w) (fun _ _ => 0)
  case atStart => exact ⟨rfl, rfl⟩
  case round =>
    obtain ⟨rfl, rfl⟩ := hrel
    go_wp2
    go_ret
    exact ⟨rfl, rfl⟩
set_option maxHeartbeats 400000 in
theorem frames_zero2 (a b : Option Addr) (ca cb : Nat) (w : World) : Calls Try.prog 78 #[.slice a 0 ca, .slice b 0 cb] w fun e w' => e = .returned (.bool true) ∧ w' = w := by
  go_enter Try.func78, Try.ntmps78
  go_wp2
  go_loopw [5] (fun i wr => i = .int .i64 0 ∧ wr = w) (fun _ _ => 0)
  case atStart => exact ⟨rfl, rfl⟩
  case round =>
    obtain ⟨rfl, rfl⟩ := hrel
    go_wp2
    go_ret
    exact ⟨rfl, rfl⟩
set_option maxHeartbeats 1000000 in
theorem room_ok (h : En B w eb pb me qn wn ps) (t : Nat) (p : Pr) (hk : ps[t]? = some p) (hs : (t : Int) ≠ me) (R : Int) (hR : min (qn - p.qs.length) (18446744073709551615 - p.sent) = R) (hmq : (p.qs.length : Int) ≤ qn) : Calls Try.prog 31 #[.pointer (some ⟨eb, 0, none⟩), .int .u8 (t : Int)] w fun e w' => e = .returned (.int .i64 R) ∧ Kp Nu w w' := by
  have hl : t < ps.length := (List.getElem?_eq_some_iff.1 hk).1
  have hpw := h.pw t p hk
  have MA := made_any h
  have PE := peer_any h t hl hs
  obtain ⟨ad, cap, hqs⟩ := hpw.slice
  have c1 := h.c1
  have RO := fun W (kW : Kp Nu w W) => room_any pb (t * 6) qn ad p.qs.length cap p.sent R W ((h.nu kW).row.at hk).1 (by rw [← hqs]; exact ((h.nu kW).row.at hk).2.2.1) (wrap_small (by omega) (by have := h.q1; omega)) (by have := h.q1; rw [IntKind.wrap_u64]; omega) (by have := hpw.s1; have := hpw.a0; have := hpw.nums; rw [IntKind.wrap_u64]; omega) hR (by have := h.q1; have := hpw.s1; exact wrap_small (by omega) (by omega))
  clear h hpw hqs hl hs hR hmq
  go_enter Try.func31, Try.ntmps31
  go_wp2_with (first | (go_at_call 50; refine MA.mono ?_; rintro e w1 ⟨rfl, hw1⟩; obtain rfl := hw1.symm; clear MA) | (go_at_call 53; refine PE.mono ?_; rintro e w2 ⟨rfl, hw2⟩; obtain rfl := hw2.symm; clear PE))
  go_region_law (first | (go_simp; go_at_call 65; refine (RO _ ?_).mono ?_; (repeat (first | assumption | exact Kp.refl _ _ | apply Kp.drew)); rintro e w4 ⟨rfl, hk4⟩))
  all_goals go_wp2
  all_goals go_ret
  all_goals exact ⟨rfl, ((Kp.refl Nu w).drew).andNu hk4⟩
set_option maxRecDepth 100000 in
set_option maxHeartbeats 1000000 in
theorem peers_true (s a m d : Int) (q1 q2 e1 e2 : Option Addr) (c1 c2 c3 c4 : Nat) (w : World) : Calls Try.prog 49 #[.agg #[.int .u64 s, .int .u64 a, .slice q1 0 c1, .int .u64 m, .int .u64 d, .slice e1 0 c3], .agg #[.int .u64 s, .int .u64 a, .slice q2 0 c2, .int .u64 m, .int .u64 d, .slice e2 0 c4]] w fun e w' => e = .returned (.bool true) ∧ Kp Nu w w' := by
  have LZ := fun W => lists_zero q1 q2 c1 c2 W
  have FZ := fun W => frames_zero2 e1 e2 c3 c4 W
  have hs : (s == s) = true := by simp
  have ha : (a == a) = true := by simp
  have hm : (m == m) = true := by simp
  have hd : (d == d) = true := by simp
  go_enter Try.func49, Try.ntmps49
  go_wp2_with (first | (go_at_call 77; refine (LZ _).mono ?_; rintro e w1 ⟨rfl, hw1⟩; obtain rfl := hw1.symm) | (go_at_call 78; refine (FZ _).mono ?_; rintro e w2 ⟨rfl, hw2⟩; obtain rfl := hw2.symm))
  go_ret
  exact ⟨rfl, ((Kp.refl _ _).andAlloc _).andAlloc _⟩

/-- two told peers are the same -/
def Eqv (t u : Pr) : Prop := t.sent = u.sent ∧ t.acked = u.acked ∧ t.mask = u.mask ∧ t.dlv = u.dlv ∧ (∃ ad cap, t.q = .slice ad 0 cap) ∧ (∃ ad cap, t.e = .slice ad 0 cap) ∧ (∃ ad cap, u.q = .slice ad 0 cap) ∧ ∃ ad cap, u.e = .slice ad 0 cap
set_option maxHeartbeats 2000000 in
theorem states_true (ta tb n : Nat) (ts us : List Pr) (h1 : Row w ta 66 ts) (h2 : Row w tb 66 us) (hn1 : ts.length = n) (hn2 : us.length = n) (hn : n ≤ 16) (he : ∀ (i : Nat) (t u : Pr), ts[i]? = some t → us[i]? = some u → Eqv t u) : Calls Try.prog 19 #[.agg #[.slice (some ⟨ta, 0, none⟩) n n], .agg #[.slice (some ⟨tb, 0, none⟩) n n]] w fun e w' => e = .returned (.bool true) ∧ Kp Nu w w' := by
  have hnn : ((n : Int) != (n : Int)) = false := by simp
  have HR1 := hide (fun W (k : Kp Nu w W) => h1.keep (k.block _ (blk_lt h1) (fun h => h)))
  have HR2 := hide (fun W (k : Kp Nu w W) => h2.keep (k.block _ (blk_lt h2) (fun h => h)))
  have HE := hide he
  have HN := hide (And.intro hn1 (And.intro hn2 hn))
  have hA : ((w.alloc (.cells #[.slice (some ⟨ta, 0, none⟩) n n] 24)).alloc (.cells #[.slice (some ⟨tb, 0, none⟩) n n] 24)).heap[w.heap.size]? = some (.cells #[.slice (some ⟨ta, 0, none⟩) n n] 24 (0, 0)) := (Below.heap_alloc _ _ _ (by simp)).trans (heap_alloc_new w _)
  have hB : ((w.alloc (.cells #[.slice (some ⟨ta, 0, none⟩) n n] 24)).alloc (.cells #[.slice (some ⟨tb, 0, none⟩) n n] 24)).heap[w.heap.size + 1]? = some (.cells #[.slice (some ⟨tb, 0, none⟩) n n] 24 (0, 0)) := by
    have h0 := heap_alloc_new (w.alloc (.cells #[.slice (some ⟨ta, 0, none⟩) n n] 24)) (.cells #[.slice (some ⟨tb, 0, none⟩) n n] 24)
    have e0 : (w.alloc (.cells #[.slice (some ⟨ta, 0, none⟩) n n] 24)).heap.size = w.heap.size + 1 := by simp
    rwa [e0] at h0
  have CX : ∀ W, Kp Nu ((w.alloc (.cells #[.slice (some ⟨ta, 0, none⟩) n n] 24)).alloc (.cells #[.slice (some ⟨tb, 0, none⟩) n n] 24)) W → W.cell? ⟨w.heap.size, 0, none⟩ = some (.slice (some ⟨ta, 0, none⟩) n n) ∧ W.cell? ⟨w.heap.size + 1, 0, none⟩ = some (.slice (some ⟨tb, 0, none⟩) n n) := fun W kW => ⟨cell1 ((kW.block _ (blk_lt hA) (fun h => h)).trans hA), cell1 ((kW.block _ (blk_lt hB) (fun h => h)).trans hB)⟩
  clear h1 h2 hn1 hn2 hn he hA hB
  go_enter Try.func19, Try.ntmps19
  go_wp2
  go_loopw [5] (fun i wr => ∃ k : Nat, k ≤ n ∧ i = .int .i64 (k : Int) ∧ Hid (Kp Nu ((w.alloc (.cells #[.slice (some ⟨ta, 0, none⟩) n n] 24)).alloc (.cells #[.slice (some ⟨tb, 0, none⟩) n n] 24)) wr)) (fun i _ => n - (intOf i).toNat)
  case atStart => exact ⟨0, by omega, rfl, Kp.refl _ _⟩
  case round =>
    obtain ⟨k, hkn, rfl, HK⟩ := hrel
    obtain ⟨x0, x1⟩ := CX wr HK.out
    by_cases hlt : k < n
    · have hl1 : k < ts.length := by rw [HN.out.1]; exact hlt
      have hl2 : k < us.length := by rw [HN.out.2.1]; exact hlt
      obtain ⟨t, ht⟩ : ∃ t, ts[k]? = some t := ⟨ts[k], List.getElem?_eq_getElem hl1⟩
      obtain ⟨u, hu⟩ : ∃ u, us[k]? = some u := ⟨us[k], List.getElem?_eq_getElem hl2⟩
      have kw := (((Kp.refl Nu w).andAlloc (.cells #[.slice (some ⟨ta, 0, none⟩) n n] 24)).andAlloc (.cells #[.slice (some ⟨tb, 0, none⟩) n n] 24)).andNu HK.out
      obtain ⟨e1, e2, e3, e4, ⟨a1, b1, e5⟩, ⟨a2, b2, e6⟩, ⟨a3, b3, e7⟩, a4, b4, e8⟩ := HE.out k t u ht hu
      have HS : ∀ W, Kp Nu wr W → W.cell? ⟨w.heap.size, 0, none⟩ = some (.slice (some ⟨ta, 0, none⟩) n n) ∧ W.cell? ⟨w.heap.size + 1, 0, none⟩ = some (.slice (some ⟨tb, 0, none⟩) n n) ∧ W.cell? ⟨ta, k * 6, none⟩ = some (.int .u64 t.sent) ∧ W.cell? ⟨ta, k * 6 + 1, none⟩ = some (.int .u64 t.acked) ∧ W.cell? ⟨ta, k * 6 + 2, none⟩ = some (.slice a1 0 b1) ∧ W.cell? ⟨ta, k * 6 + 3, none⟩ = some (.int .u64 t.mask) ∧ W.cell? ⟨ta, k * 6 + 4, none⟩ = some (.int .u64 t.dlv) ∧ W.cell? ⟨ta, k * 6 + 5, none⟩ = some (.slice a2 0 b2) ∧ W.cell? ⟨tb, k * 6, none⟩ = some (.int .u64 t.sent) ∧ W.cell? ⟨tb, k * 6 + 1, none⟩ = some (.int .u64 t.acked) ∧ W.cell? ⟨tb, k * 6 + 2, none⟩ = some (.slice a3 0 b3) ∧ W.cell? ⟨tb, k * 6 + 3, none⟩ = some (.int .u64 t.mask) ∧ W.cell? ⟨tb, k * 6 + 4, none⟩ = some (.int .u64 t.dlv) ∧ W.cell? ⟨tb, k * 6 + 5, none⟩ = some (.slice a4 0 b4) := fun W kW => by
        obtain ⟨q0, q1, q2, q3, q4, q5⟩ := (HR1.out W (kw.andNu kW)).at ht
        obtain ⟨r0, r1, r2, r3, r4, r5⟩ := (HR2.out W (kw.andNu kW)).at hu
        obtain ⟨y0, y1⟩ := CX W (HK.out.andNu kW)
        rw [e5] at q2
        rw [e6] at q5
        rw [← e1] at r0
        rw [← e2] at r1
        rw [e7] at r2
        rw [← e3] at r3
        rw [← e4] at r4
        rw [e8] at r5
        exact ⟨y0, y1, q0, q1, q2, q3, q4, q5, r0, r1, r2, r3, r4, r5⟩
      have PW : ∀ W, Kp Nu wr W → Calls Try.prog 49 #[.agg #[.int .u64 t.sent, .int .u64 t.acked, .slice a1 0 b1, .int .u64 t.mask, .int .u64 t.dlv, .slice a2 0 b2], .agg #[.int .u64 t.sent, .int .u64 t.acked, .slice a3 0 b3, .int .u64 t.mask, .int .u64 t.dlv, .slice a4 0 b4]] W fun e w' => e = .returned (.bool true) ∧ Kp Nu wr w' := fun W kW => (peers_true t.sent t.acked t.mask t.dlv a1 a3 a2 a4 b1 b3 b2 b4 W).mono (by rintro e w' ⟨rfl, hk⟩; exact ⟨rfl, kW.andNu hk⟩)
      have hltI : (k : Int) < (n : Int) := by omega
      have hk0 : (0 : Int) ≤ (k : Int) := by omega
      have hwk : Hid (wrap64 ((k : Int) + 1) = ((k + 1 : Nat) : Int)) := by have := HN.out.2.2; exact wrap_small (by omega) (by omega)
      clear kw e1 e2 e3 e4 e5 e6 e7 e8
      go_wp2_with fail
      go_region_held3 (fun W => W.cell? ⟨w.heap.size, 0, none⟩ = some (.slice (some ⟨ta, 0, none⟩) n n) ∧ W.cell? ⟨w.heap.size + 1, 0, none⟩ = some (.slice (some ⟨tb, 0, none⟩) n n) ∧ W.cell? ⟨ta, k * 6, none⟩ = some (.int .u64 t.sent) ∧ W.cell? ⟨ta, k * 6 + 1, none⟩ = some (.int .u64 t.acked) ∧ W.cell? ⟨ta, k * 6 + 2, none⟩ = some (.slice a1 0 b1) ∧ W.cell? ⟨ta, k * 6 + 3, none⟩ = some (.int .u64 t.mask) ∧ W.cell? ⟨ta, k * 6 + 4, none⟩ = some (.int .u64 t.dlv) ∧ W.cell? ⟨ta, k * 6 + 5, none⟩ = some (.slice a2 0 b2) ∧ W.cell? ⟨tb, k * 6, none⟩ = some (.int .u64 t.sent) ∧ W.cell? ⟨tb, k * 6 + 1, none⟩ = some (.int .u64 t.acked) ∧ W.cell? ⟨tb, k * 6 + 2, none⟩ = some (.slice a3 0 b3) ∧ W.cell? ⟨tb, k * 6 + 3, none⟩ = some (.int .u64 t.mask) ∧ W.cell? ⟨tb, k * 6 + 4, none⟩ = some (.int .u64 t.dlv) ∧ W.cell? ⟨tb, k * 6 + 5, none⟩ = some (.slice a4 0 b4)) (first | (refine HS _ ?_; repeat (first | assumption | exact Kp.refl _ _ | apply Kp.drew))) (first | (go_at_call 49; refine (PW _ ?_).mono ?_; (repeat (first | assumption | exact Kp.refl _ _ | apply Kp.drew)); rintro e w3 ⟨rfl, hk3⟩))
      have HK3 := hide (HK.out.andNu hk3)
      clear HS PW hk3
      go_wp2
      exact ⟨⟨k + 1, hlt, by rw [hwk.out], HK3⟩, lt_m _ hwk.out hlt⟩
    · obtain rfl : k = n := by omega
      clear hlt
      go_wp2
      go_ret
      exact ⟨rfl, (((Kp.refl Nu w).andAlloc (.cells #[.slice (some ⟨ta, 0, none⟩) k k] 24)).andAlloc (.cells #[.slice (some ⟨tb, 0, none⟩) k k] 24)).andNu HK.out⟩
end
end Go.Proofs.Ytbhdhoeaogbfbaa.Xo
