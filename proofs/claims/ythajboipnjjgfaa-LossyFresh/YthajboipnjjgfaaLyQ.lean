import Derived.Test.YthajboipnjjgfaaLyP
import Derived.Test.YthajboipnjjgfaaPkA
namespace Go.Proofs.Ythajboipnjjgfaa.Ly
open Go.RowKit Go.Maps
set_option linter.unusedVariables false

section
variable {B b bm nb : Nat} {w w' : World} {room : Int} {D : DataW Unit} {v : Value} {c : Ct} {L : List Gm}

theorem deliver_bad (h : Nt B w b bm nb room D v c L) (p : Int) (keep : Bool) (hp : inL p L.length = false) : Calls Try.prog 25 #[.pointer (some ⟨b, 0, none⟩), .int .i64 p, .bool keep] w fun e w' => e = .returned (.tuple #[.agg #[.int .u8 0, .int .u8 0, .slice none 0 0], .int .i64 54]) ∧ Kp Nu w w' := by
  have K1 := Kp.alloc w (.cells #[.int .u8 0, .int .u8 0, .slice none 0 0] 38) Nu
  have LO := look_bad (h.nu K1) p hp
  go_enter Try.func25, Try.ntmps25
  go_wp2_with fail
  refine LO.mono ?_; rintro e w2 ⟨rfl, hk2⟩
  have hk3 := hk2.andAlloc (.cells #[.int .u8 0, .int .u8 0, .slice none 0 0] 38)
  have hbx := new_at w _ hk3
  obtain ⟨d0, d1, d2⟩ := cell3 hbx
  have g0 := free3 hbx 0
  have g1 := free3 hbx 1
  have g2 := free3 hbx 2
  have HK := hide (K1.andNu hk3)
  clear LO hbx hk2 hk3 K1
  go_wp2
  refine bodyPost_ret (v := .tuple #[.agg #[.int .u8 0, .int .u8 0, .slice none 0 0], .int .i64 54]) (by simp [results, Try.results25, go_sem, d0, d1, d2]) rfl ⟨rfl, ?_⟩
  exact ((HK.out.andSet _ _ (.inl (by simp))).andSet _ _ (.inl (by simp))).andSet _ _ (.inl (by simp))

set_option maxHeartbeats 400000 in
theorem deliver_bar (h : Nt B w b bm nb room D v c L) (p : Nat) (keep : Bool) {g : Gm} (hp : L[p]? = some g) (hbar : bar D g.f g.t = true) : Calls Try.prog 25 #[.pointer (some ⟨b, 0, none⟩), .int .i64 (p : Int), .bool keep] w fun e w' => e = .returned (.tuple #[.agg #[.int .u8 0, .int .u8 0, .slice none 0 0], .int .i64 53]) ∧ Kp Nu w w' := by
  have K1 := Kp.alloc w (.cells #[.int .u8 0, .int .u8 0, .slice none 0 0] 38) Nu
  have LO := look_ok (h.nu K1) p hp
  have hD := h.dat g (List.mem_of_getElem? hp)
  have BA := fun W (k : Kp Nu w W) (a : Addr) (n cap : Nat) => bars_any (h.nu k) g.f g.t hD.f0 hD.f1 hD.t0 hD.t1 (.slice (some a) n cap) (some a) n cap rfl
  rw [hbar] at BA
  have HH := hide h
  clear h hD hp
  go_enter Try.func25, Try.ntmps25
  go_wp2_with fail
  refine LO.mono ?_; rintro e w2 ⟨a2, n2, cap2, rfl, ho, hk2⟩
  have hk3 := hk2.andAlloc (.cells #[.int .u8 g.f, .int .u8 g.t, .slice (some a2) n2 cap2] 38)
  have B2 := BA _ (K1.andNu hk3) a2 n2 cap2
  clear LO BA ho
  go_wp2_with fail
  refine B2.mono ?_; rintro e w4 ⟨rfl, hk4⟩
  have hbx := new_at w _ (hk3.andNu hk4)
  obtain ⟨d0, d1, d2⟩ := cell3 hbx
  have g0 := free3 hbx 0
  have g1 := free3 hbx 1
  have g2 := free3 hbx 2
  have HK := hide (K1.andNu (hk3.andNu hk4))
  clear hbx hk2 hk3 K1 hk4 B2
  go_wp2
  refine bodyPost_ret (v := .tuple #[.agg #[.int .u8 0, .int .u8 0, .slice none 0 0], .int .i64 53]) (by simp [results, Try.results25, go_sem, d0, d1, d2]) rfl ⟨rfl, ?_⟩
  exact ((HK.out.andSet _ _ (.inl (by simp))).andSet _ _ (.inl (by simp))).andSet _ _ (.inl (by simp))

/-- what Deliver hands out -/
def Out (w : World) (B : Nat) (g : Gm) (a : Addr) (n cap : Nat) : Prop := w.ownsRow B 5 1 (.slice (some a) n cap) g.ys.length (cs g.ys)
theorem Out.kp {S : Nat → Prop} {B' : Nat} {g : Gm} {a : Addr} {n cap : Nat} (h : Out w B' g a n cap) (k : Kp S w w') (hS : ∀ (i : Nat) (cur : Array Value), w.heap[i]? = some (.cells cur 5 (0, 0)) → ¬ S i) : Out w' B' g a n cap :=
  own_keep h (fun i hi => by obtain ⟨cur, hc⟩ := own_obj h hi; exact k.block i (blk_lt hc) (hS i cur hc))

/-- the answer is laid into its box -/
theorem fin_box {W : World} {X B' : Nat} {cu : Array Value} {v' : Value} {c' : Ct} {L' : List Gm} {g : Gm} {a : Addr} {n cap : Nat} (hX : w.heap.size ≤ X) (hXb : W.heap[X]? = some (.cells cu 38 (0, 0))) (hN : Nt B W b bm nb room D v' c' L') (hF : Fr b bm v w W v') (hne : ¬ fp b bm v' X) (hO : Out W B' g a n cap) (hB' : w.heap.size ≤ B') (x y z : Value) :
    Out (((W.setCell ⟨X, 0, none⟩ x).setCell ⟨X, 1, none⟩ y).setCell ⟨X, 2, none⟩ z) w.heap.size g a n cap ∧ Nt B (((W.setCell ⟨X, 0, none⟩ x).setCell ⟨X, 1, none⟩ y).setCell ⟨X, 2, none⟩ z) b bm nb room D v' c' L' ∧ Fr b bm v w (((W.setCell ⟨X, 0, none⟩ x).setCell ⟨X, 1, none⟩ y).setCell ⟨X, 2, none⟩ z) v' := by
  have k0 := Kp.refl (fun i => i = X) W
  have k1 := k0.andSet ⟨X, 0, none⟩ x (.inr rfl)
  have k2 := k1.andSet ⟨X, 1, none⟩ y (.inr rfl)
  have k3 := k2.andSet ⟨X, 2, none⟩ z (.inr rfl)
  have hty : ∀ (i : Nat) (cur : Array Value), W.heap[i]? = some (.cells cur 5 (0, 0)) → ¬ i = X := fun i cur hi e => by
    subst e
    rw [hXb] at hi; cases hi
  refine ⟨own_base (hO.kp k3 hty) hB', hN.keep k3 (fun i _ e => ⟨by rw [e]; exact hne, fun cur hi => hty i cur hi e⟩), ⟨hF.kp.trans k3 (fun i hi e => ?_), hF.lie⟩⟩
  have e : i = X := e
  omega

set_option maxHeartbeats 1000000 in
theorem deliver_keep (h : Nt B w b bm nb room D v c L) (p : Nat) {g : Gm} (hp : L[p]? = some g) (hbar : bar D g.f g.t = false) (hc : Far c) : Calls Try.prog 25 #[.pointer (some ⟨b, 0, none⟩), .int .i64 (p : Int), .bool true] w fun e w' => ∃ a n cap, e = .returned (.tuple #[.agg #[.int .u8 g.f, .int .u8 g.t, .slice (some a) n cap], .int .i64 0]) ∧ Out w' w.heap.size g a n cap ∧ Nt B w' b bm nb room D v { c with d := c.d + 1, c := c.c + 1 } L ∧ Fr b bm v w w' v := by
  have K1 := Kp.alloc w (.cells #[.int .u8 0, .int .u8 0, .slice none 0 0] 38) Nu
  have LO := look_ok (h.nu K1) p hp
  have hD := h.dat g (List.mem_of_getElem? hp)
  have BA := fun W (k : Kp Nu w W) (a : Addr) (n cap : Nat) => bars_any (h.nu k) g.f g.t hD.f0 hD.f1 hD.t0 hD.t1 (.slice (some a) n cap) (some a) n cap rfl
  rw [hbar] at BA
  have HH := hide h
  have hd0 := hc.d0
  have hd1 : c.d ≤ 4611686018427387000 := hc.d1
  have hc0 := hc.c0
  have hc1 : c.c ≤ 4611686018427387000 := hc.c1
  clear h hD hp hc
  go_enter Try.func25, Try.ntmps25
  go_wp2_with fail
  refine LO.mono ?_; rintro e w2 ⟨a2, n2, cap2, rfl, ho, hk2⟩
  have hk3 := hk2.andAlloc (.cells #[.int .u8 g.f, .int .u8 g.t, .slice (some a2) n2 cap2] 38)
  have hO3 : Out (w2.alloc (.cells #[.int .u8 g.f, .int .u8 g.t, .slice (some a2) n2 cap2] 38)) (w.heap.size + 1) g a2 n2 cap2 := by
    have : Out w2 (w.heap.size + 1) g a2 n2 cap2 := by simpa [Out] using ho
    exact this.kp (Kp.alloc w2 _ Nu) (fun _ _ _ h => h)
  have B2 := BA _ (K1.andNu hk3) a2 n2 cap2
  clear LO BA ho
  go_wp2_with fail
  refine B2.mono ?_; rintro e w4 ⟨rfl, hk4⟩
  have hbx := new_at w _ (hk3.andNu hk4)
  have hby := new_at w2 _ hk4
  obtain ⟨d0, d1, d2⟩ := cell3 hbx
  obtain ⟨y0, y1, y2⟩ := cell3 hby
  have g0 := free3 hbx 0
  have g1 := free3 hbx 1
  have g2 := free3 hbx 2
  have hN4 := HH.out.nu (K1.andNu (hk3.andNu hk4))
  have c5 := hN4.c5
  have c6 := hN4.c6
  have f5 := free3 hN4.blk 5
  have f6 := free3 hN4.blk 6
  have hltb : b < w.heap.size := blk_lt HH.out.blk
  have hne : w.heap.size ≠ b := by omega
  have hne2 : w2.heap.size ≠ b := by have := hk2.size; simp at this; omega
  have hne3 : w2.heap.size ≠ w.heap.size := by have := hk2.size; simp at this; omega
  have hN5 := (hN4.set 5 (.int .i64 (c.d + 1)) (c' := { c with d := c.d + 1 }) rfl).set 6 (.int .i64 (c.c + 1)) (c' := { c with d := c.d + 1, c := c.c + 1 }) rfl
  have kb : Kp (fun i => i = b) w4 ((w4.setCell ⟨b, 5, none⟩ (.int .i64 (c.d + 1))).setCell ⟨b, 6, none⟩ (.int .i64 (c.c + 1))) := by
    have k0 := Kp.refl (fun i => i = b) w4
    have k1 := k0.andSet ⟨b, 5, none⟩ (.int .i64 (c.d + 1)) (.inr rfl)
    exact k1.andSet ⟨b, 6, none⟩ (.int .i64 (c.c + 1)) (.inr rfl)
  have hO5 := (hO3.kp hk4 (fun _ _ _ h => h)).kp kb (fun i cur hi e => by
    subst e
    rw [hN4.blk] at hi; cases hi)
  have hXb5 := (kb.block _ (blk_lt hbx) hne).trans hbx
  have hnf : ¬ fp b bm v w.heap.size := fun e => by have := HH.out.lt _ e; omega
  have HFIN := hide (fin_box (w := w) (v := v) (Nat.le_refl _) hXb5 hN5 ⟨((K1.andNu (hk3.andNu hk4)).mono (fun _ _ h => h.elim)).trans kb (fun i _ e => .inl e), .inl rfl⟩ hnf hO5 (by omega) (.int .u8 g.f) (.int .u8 g.t) (.slice (some a2) n2 cap2))
  clear hbx hby hk2 hk3 K1 hk4 B2 hN4 hN5 kb hO5 hO3 hltb hXb5 hnf
  go_wp2
  refine bodyPost_ret (v := .tuple #[.agg #[.int .u8 g.f, .int .u8 g.t, .slice (some a2) n2 cap2], .int .i64 0]) (by simp [results, Try.results25, go_sem, d0, d1, d2]) rfl ⟨_, _, _, rfl, HFIN.out⟩

theorem Nt.cutAt {W : World} (h : Nt B w b bm nb room D v c L) {r cap K p : Nat} (hv : v = .slice (some ⟨r, 0, none⟩) (K + 1) cap) (hL : L.length = K + 1) (hp : p ≤ K) (k : Kp (fun i => i = r) w W) {cu : List Value} (hr : W.heap[r]? = some (.cells cu.toArray 38 (0, 0))) (hl : cu.length = cap * 3) (hc : cap ≤ maxLen) (ht : cu.take (K * 3) = cells (cut L p)) (hkc : K + 1 ≤ cap) :
    Nt B (W.setCell ⟨b, 1, none⟩ (.slice (some ⟨r, 0, none⟩) K cap)) b bm nb room D (.slice (some ⟨r, 0, none⟩) K cap) c (cut L p) ∧ Kp (fp b bm v) w (W.setCell ⟨b, 1, none⟩ (.slice (some ⟨r, 0, none⟩) K cap)) := by
  have hob : v.ownBlock = some r := by rw [hv]; rfl
  have hBr : B ≤ r := h.low r (.inr (.inr hob.symm))
  have hcl : (cut L p).length = K := by rw [cut_length (by omega)]; omega
  have own : W.ownsRow B 38 3 (.slice (some ⟨r, 0, none⟩) K cap) (cut L p).length (cells (cut L p)) := by
    refine ⟨cells_length _, .inr ⟨r, cap, cu.toArray, by rw [hcl], hBr, hr, by omega, hc, by simpa using hl, ?_⟩⟩
    rw [hcl]; simpa using ht
  have hlen := h.len
  have hmem : ∀ g ∈ cut L p, g ∈ L := fun g hg => by
    rcases List.mem_append.1 hg with hg | hg
    · exact List.mem_of_mem_take hg
    · exact List.mem_of_mem_drop hg
  refine ⟨h.push k (fun i e => by rw [hob, e]) own (.inl (by rw [hob]; rfl)) (fun g hg => (h.dat g (hmem g hg)).keep (fun i cur hi => k.block i (blk_lt hi) (fun e => by
    subst e
    exact h.byte hi (.inr (.inr hob.symm))))) (by omega), fp_set (k.mono (fun i _ e => .inr (.inr (by rw [hob, e])))) _ _⟩
end
end Go.Proofs.Ythajboipnjjgfaa.Ly
