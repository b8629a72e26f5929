import Derived.Test.YthajboipnjjgfaaLyQ
namespace Go.Proofs.Ythajboipnjjgfaa.Ly
open Go.RowKit Go.Maps
set_option linter.unusedVariables false

section
variable {B b bm nb : Nat} {w w' : World} {room : Int} {D : DataW Unit} {v : Value} {c : Ct} {L : List Gm}

set_option maxRecDepth 100000 in
set_option maxHeartbeats 1000000 in
theorem deliver_take (h : Nt B w b bm nb room D v c L) (p : Nat) {g : Gm} (hp : L[p]? = some g) (hbar : bar D g.f g.t = false) (hc : Far c) : Calls Try.prog 25 #[.pointer (some ⟨b, 0, none⟩), .int .i64 (p : Int), .bool false] w fun e w' => ∃ a n cap, e = .returned (.tuple #[.agg #[.int .u8 g.f, .int .u8 g.t, .slice (some a) n cap], .int .i64 0]) ∧ Out w' w.heap.size g a n cap ∧ ∃ v', Nt B w' b bm nb room D v' { c with d := c.d + 1 } (cut L p) ∧ Fr b bm v w w' v' := by
  have K1 := Kp.alloc w (.cells #[.int .u8 0, .int .u8 0, .slice none 0 0] 38) Nu
  have LO := look_ok (h.nu K1) p hp
  have hD := h.dat g (List.mem_of_getElem? hp)
  have BA := fun W (k : Kp Nu w W) (a : Addr) (n cap : Nat) => bars_any (h.nu k) g.f g.t hD.f0 hD.f1 hD.t0 hD.t1 (.slice (some a) n cap) (some a) n cap rfl
  rw [hbar] at BA
  have HH := hide h
  have hd0 := hc.d0
  have hd1 : c.d ≤ 4611686018427387000 := hc.d1
  have hpL : p < L.length := (List.getElem?_eq_some_iff.1 hp).1
  obtain ⟨K, hK⟩ : ∃ K, L.length = K + 1 := ⟨L.length - 1, by omega⟩
  have hrow := h.own
  rcases hrow.2 with ⟨_, h0⟩ | ⟨r, cap, cur, hv, hBr, hgr, h1, h2, h3, h4⟩
  · omega
  rw [hK] at hv h1 h4
  have hK4 : (K : Int) < 4096 := by have := h.len; have := h.r1; omega
  have hpK : p ≤ K := by omega
  have hp0 : (0 : Int) ≤ (p : Int) := by omega
  have hp4 : (p : Int) < 4096 := by omega
  have hsl : ∀ g ∈ L, ∃ ad n cap, g.d = .slice ad n cap := fun g hg => by
    obtain ⟨k0, cp, e⟩ := (h.dat g hg).slice
    exact ⟨_, _, _, e⟩
  have HDE : Hid (∀ W, W.heap[r]? = w.heap[r]? → Calls Try.prog 49 #[.slice (some ⟨r, 0, none⟩) (K + 1) cap, .int .i64 (p : Int), .int .i64 ((p : Int) + 1)] W fun e w' => e = .returned (.slice (some ⟨r, 0, none⟩) K cap) ∧ ∃ cu' : List Value, w'.heap[r]? = some (.cells cu'.toArray 38 (0, 0)) ∧ cu'.length = cap * 3 ∧ cu'.take (K * 3) = cells (cut L p) ∧ Kp (fun k => k = r) W w') := fun W hW =>
    delete_any (cu := cur.toList) (by rw [hW]; simpa using hgr) (by simpa using h3) hK h1 h4 hpK hK4 hsl
  have hrb : r ≠ b := (h.ne_own (g := r) (by rw [hv]; rfl)).1
  have hrlt : r < w.heap.size := blk_lt hgr
  have mixed : Try.prog.follows .mixedOrders = true := by kernel_rfl
  have HG := hide hgr
  have HV := hide hv
  have HK := hide hK
  have HC := hide (And.intro h1 h2)
  clear h hD hp hc hsl hgr h1 h2 h3 h4 hrow hv hK hpL hBr
  go_enter Try.func25, Try.ntmps25
  go_wp2_with fail
  refine LO.mono ?_; rintro e w2 ⟨a2, n2, cap2, rfl, ho, hk2⟩
  have hk3 := hk2.andAlloc (.cells #[.int .u8 g.f, .int .u8 g.t, .slice (some a2) n2 cap2] 38)
  have hO3 : Out (w2.alloc (.cells #[.int .u8 g.f, .int .u8 g.t, .slice (some a2) n2 cap2] 38)) (w.heap.size + 1) g a2 n2 cap2 := by
    have : Out w2 (w.heap.size + 1) g a2 n2 cap2 := by simpa [Out] using ho
    exact this.kp (Kp.alloc w2 _ Nu) (fun _ _ _ h => h)
  have B2 := BA _ (K1.andNu hk3) a2 n2 cap2
  clear LO BA ho
  go_wp2_with fail
  refine B2.mono ?_; rintro e w4 ⟨rfl, hk4⟩
  have hbx := new_at w _ (hk3.andNu hk4)
  have hby := new_at w2 _ hk4
  have kw4 := K1.andNu (hk3.andNu hk4)
  have hN4 := HH.out.nu kw4
  have c5 := hN4.c5
  have f5 := free3 hN4.blk 5
  have hltb : b < w.heap.size := blk_lt HH.out.blk
  have hne : w.heap.size ≠ b := by omega
  have hs2 : w.heap.size + 1 ≤ w2.heap.size := by have := hk2.size; simpa using this
  have hne2 : w2.heap.size ≠ b := by omega
  have hne3 : w2.heap.size ≠ w.heap.size := by omega
  have hN5 := hN4.set 5 (.int .i64 (c.d + 1)) (c' := { c with d := c.d + 1 }) rfl
  have kb : Kp (fun i => i = b) w4 (w4.setCell ⟨b, 5, none⟩ (.int .i64 (c.d + 1))) := Kp.setCell w4 ⟨b, 5, none⟩ _
  have c1 := hN5.c1
  rw [HV.out] at c1
  have hr5 : (w4.setCell ⟨b, 5, none⟩ (.int .i64 (c.d + 1))).heap[r]? = w.heap[r]? := (kb.block r (Nat.lt_of_lt_of_le hrlt kw4.size) hrb).trans (kw4.block r hrlt (fun h => h))
  have DE := HDE.out _ hr5
  obtain ⟨y0, y1, y2⟩ := cell3 hby
  clear B2
  go_wp2_with fail
  refine DE.mono ?_; rintro e w6 ⟨rfl, cu', hr6, hl6, ht6, k6⟩
  obtain ⟨hN7, k7⟩ := hN5.cutAt HV.out HK.out hpK k6 hr6 hl6 HC.out.2 ht6 HC.out.1
  have hb6 : w6.heap[b]? = _ := (k6.block b (blk_lt hN5.blk) (fun e => hrb e.symm)).trans hN5.blk
  have b1 : w6.cell? ⟨b, 1, none⟩ = some v := by simp [World.cell?, hb6, nblk]
  have b2 := free3 hb6 1
  have hX5 := (kb.block _ (blk_lt hbx) hne).trans hbx
  have hX6 := (k6.block _ (blk_lt hX5) (fun e => by omega)).trans hX5
  have hY5 := (kb.block _ (blk_lt hby) hne2).trans hby
  have hY6 := (k6.block _ (blk_lt hY5) (fun e => by omega)).trans hY5
  obtain ⟨z0, z1, z2⟩ := cell3 hY6
  obtain ⟨d0, d1, d2⟩ := cell3 hX6
  have g0 := free3 hX6 0
  have g1 := free3 hX6 1
  have g2 := free3 hX6 2
  have kb1 : Kp (fun i => i = b) w6 (w6.setCell ⟨b, 1, none⟩ (.slice (some ⟨r, 0, none⟩) K cap)) := Kp.setCell w6 ⟨b, 1, none⟩ _
  have hX7 := (kb1.block _ (blk_lt hX6) hne).trans hX6
  have hO5 := (hO3.kp hk4 (fun _ _ _ h => h)).kp kb (fun i cur hi e => by
    subst e
    rw [hN4.blk] at hi; cases hi)
  have hO6 := hO5.kp k6 (fun i cur hi e => by
    have e : i = r := e
    subst e
    rw [hr5, HG.out] at hi; cases hi)
  have hO7 := hO6.kp kb1 (fun i cur hi e => by
    have e : i = b := e
    subst e
    rw [hb6] at hi; cases hi)
  have hnf : ¬ fp b bm (.slice (some ⟨r, 0, none⟩) K cap) w.heap.size := fun e => by
    have e2 : fp b bm v w.heap.size := by
      rw [HV.out]
      exact e
    have := HH.out.lt _ e2
    omega
  have hF7 : Fr b bm v w (w6.setCell ⟨b, 1, none⟩ (.slice (some ⟨r, 0, none⟩) K cap)) (.slice (some ⟨r, 0, none⟩) K cap) :=
    ⟨((kw4.mono (fun _ _ h => h.elim)).trans kb (fun i _ e => .inl e)).trans k7 (fun i _ e => e), .inl (by rw [HV.out]; rfl)⟩
  have HFIN := hide (fin_box (w := w) (v := v) (Nat.le_refl _) hX7 hN7 hF7 hnf hO7 (by omega) (.int .u8 g.f) (.int .u8 g.t) (.slice (some a2) n2 cap2))
  clear hbx hby hk2 hk3 K1 hk4 hN4 hN5 kb hO5 hO3 hltb hnf hF7 hX5 hX6 hX7 hY5 hY6 kb1 hO6 hO7 hb6 k6 k7 hN7 DE hr5 kw4 hr6 hl6 ht6 c1 c5 f5
  go_wp2
  refine bodyPost_ret (v := .tuple #[.agg #[.int .u8 g.f, .int .u8 g.t, .slice (some a2) n2 cap2], .int .i64 0]) (by simp [results, Try.results25, go_sem, d0, d1, d2]) rfl ⟨_, _, _, rfl, HFIN.out.1, _, HFIN.out.2⟩
end
end Go.Proofs.Ythajboipnjjgfaa.Ly
