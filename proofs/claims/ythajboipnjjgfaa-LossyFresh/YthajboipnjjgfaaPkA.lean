import Derived.Test.YthajboipnjjgfaaLyO
namespace Go.Proofs.Ythajboipnjjgfaa.Ly
open Go.RowKit Go.Maps
set_option linter.unusedVariables false

/-- two networks of the greatest room, no link blocked -/
structure Tw (w0 w : World) (b1 m1 b2 m2 : Nat) (v1 v2 : Value) (c1 c2 : Ct) (L1 L2 : List Gm) : Prop where
  n : Nt w0.heap.size w b1 m1 0 4096 (.map []) v1 c1 L1
  m : Nt w0.heap.size w b2 m2 0 4096 (.map []) v2 c2 L2
  d : ∀ i, fp b1 m1 v1 i → ¬ fp b2 m2 v2 i
  k : Kp Nu w0 w

section
variable {w0 w w' : World} {b1 m1 b2 m2 : Nat} {v1 v2 v1' v2' : Value} {c1 c2 c1' c2' : Ct} {L1 L2 L1' L2' : List Gm}

theorem Nt.base {B B' b bm nb : Nat} {room : Int} {D : DataW Unit} {v : Value} {c : Ct} {L : List Gm} (h : Nt B w b bm nb room D v c L) (hB : B' ≤ B) : Nt B' w b bm nb room D v c L :=
  ⟨h.blk, h.map, own_base h.own hB, fun g hg => ⟨own_base (h.dat g hg).own hB, (h.dat g hg).pos, (h.dat g hg).le, (h.dat g hg).f0, (h.dat g hg).f1, (h.dat g hg).t0, (h.dat g hg).t1⟩, Nat.le_trans hB h.hb, Nat.le_trans hB h.hm, h.r0, h.r1, h.len⟩
theorem Nt.lt {B b bm nb : Nat} {room : Int} {D : DataW Unit} {v : Value} {c : Ct} {L : List Gm} (h : Nt B w b bm nb room D v c L) : ∀ i, fp b bm v i → i < w.heap.size := by
  rintro i (rfl | rfl | e)
  · exact blk_lt h.blk
  · exact h.map.lt
  · exact own_lt h.own e.symm

theorem Tw.open {W : World} (h1 : Nt w0.heap.size w b1 m1 0 4096 (.map []) v1 c1 L1) (k1 : Kp Nu w0 w) (h2 : Nt w.heap.size W b2 m2 0 4096 (.map []) v2 c2 L2) (k2 : Kp Nu w W) : Tw w0 W b1 m1 b2 m2 v1 v2 c1 c2 L1 L2 :=
  ⟨h1.nu k2, h2.base k1.size, fun i hi hj => by have := h1.lt i hi; have := h2.low i hj; omega, k1.andNu k2⟩
theorem Tw.left (h : Tw w0 w b1 m1 b2 m2 v1 v2 c1 c2 L1 L2) (hn : Nt w0.heap.size w' b1 m1 0 4096 (.map []) v1' c1' L1') (fr : Fr b1 m1 v1 w w' v1') : Tw w0 w' b1 m1 b2 m2 v1' v2 c1' c2 L1' L2 := by
  obtain ⟨e1, e2⟩ := h.n.beside h.m h.d fr
  exact ⟨hn, e1, e2, h.n.step h.k fr⟩
theorem Tw.right (h : Tw w0 w b1 m1 b2 m2 v1 v2 c1 c2 L1 L2) (hn : Nt w0.heap.size w' b2 m2 0 4096 (.map []) v2' c2' L2') (fr : Fr b2 m2 v2 w w' v2') : Tw w0 w' b1 m1 b2 m2 v1 v2' c1 c2' L1 L2' := by
  obtain ⟨e1, e2⟩ := h.m.beside h.n (fun i hi hj => h.d i hj hi) fr
  exact ⟨e1, hn, fun i hi hj => e2 i hj hi, h.m.step h.k fr⟩
theorem Tw.nu (h : Tw w0 w b1 m1 b2 m2 v1 v2 c1 c2 L1 L2) (k : Kp Nu w w') : Tw w0 w' b1 m1 b2 m2 v1 v2 c1 c2 L1 L2 := ⟨h.n.nu k, h.m.nu k, h.d, h.k.andNu k⟩

def ck (k x : Int) : Ct := ⟨k, 0, 0, 0, x, 0, 0⟩
theorem far_ck {k x : Int} (h0 : 0 ≤ k) (h1 : k ≤ 4096) (x0 : 0 ≤ x) (x1 : x ≤ 4096) : Far (ck k x) := by
  unfold Far ck
  constructor <;> simp <;> omega
theorem bar_nil (f t : Int) : bar (.map []) f t = false := rfl

theorem Rd.two {g : Nat} {X Y : Int} (h : w.heap[g]? = some (.cells #[.int .u8 X, .int .u8 Y] 5 (0, 0))) : Rd w (.slice (some ⟨g, 0, none⟩) 2 2) [X, Y] := by
  refine .inr ⟨_, _, rfl, fun j x hj => ?_⟩
  rw [Addr.add_lit]
  simp only [World.cell?, h]
  simpa [cs] using hj

theorem two_sendL (h : Tw w0 w b1 m1 b2 m2 v1 v2 c1 c2 L1 L2) {g : Nat} {X Y : Int} (hg : w.heap[g]? = some (.cells #[.int .u8 X, .int .u8 Y] 5 (0, 0))) (hl : (L1.length : Int) < 4096) (hc : Far c1) :
    Calls Try.prog 16 #[.pointer (some ⟨b1, 0, none⟩), .int .u8 1, .int .u8 2, .slice (some ⟨g, 0, none⟩) 2 2] w fun e w' => e = .returned (.int .i64 0) ∧ ∃ v1' g1, bare g1 = (1, 2, [X, Y]) ∧ Tw w0 w' b1 m1 b2 m2 v1' v2 { c1 with s := c1.s + 1 } c2 (L1 ++ [g1]) L2 ∧ w'.heap[g]? = some (.cells #[.int .u8 X, .int .u8 Y] 5 (0, 0)) := by
  refine (send_sure h.n 1 2 (by omega) (by omega) (by omega) (by omega) _ [X, Y] (Rd.two hg) (by simp) (by simp) (bar_nil _ _) hl hc).mono ?_
  rintro e w2 ⟨rfl, v', d', hN, hF⟩
  exact ⟨rfl, v', _, rfl, h.left hN hF, (hF.kp.block _ (blk_lt hg) (h.n.byte hg)).trans hg⟩
theorem two_sendR (h : Tw w0 w b1 m1 b2 m2 v1 v2 c1 c2 L1 L2) {g : Nat} {X Y : Int} (hg : w.heap[g]? = some (.cells #[.int .u8 X, .int .u8 Y] 5 (0, 0))) (hl : (L2.length : Int) < 4096) (hc : Far c2) :
    Calls Try.prog 16 #[.pointer (some ⟨b2, 0, none⟩), .int .u8 1, .int .u8 2, .slice (some ⟨g, 0, none⟩) 2 2] w fun e w' => e = .returned (.int .i64 0) ∧ ∃ v2' g2, bare g2 = (1, 2, [X, Y]) ∧ Tw w0 w' b1 m1 b2 m2 v1 v2' c1 { c2 with s := c2.s + 1 } L1 (L2 ++ [g2]) := by
  refine (send_sure h.m 1 2 (by omega) (by omega) (by omega) (by omega) _ [X, Y] (Rd.two hg) (by simp) (by simp) (bar_nil _ _) hl hc).mono ?_
  rintro e w2 ⟨rfl, v', d', hN, hF⟩
  exact ⟨rfl, v', _, rfl, h.right hN hF⟩

/-- what the places of m's list still hold, the places from t on sifted -/
def mid (xs : List Int) (L : List Gm) (t : Nat) : List Gm := L.take t ++ sift (drP xs) t (L.drop t)
theorem mid_all (xs : List Int) (L : List Gm) : mid xs L L.length = L := by simp [mid, sift]
theorem mid_zero (xs : List Int) (L : List Gm) : mid xs L 0 = sift (drP xs) 0 L := by simp [mid]
theorem take_step {L : List Gm} {t : Nat} (ht : t < L.length) : L.take (t + 1) = L.take t ++ [L[t]] := by
  rw [List.take_add_one, List.getElem?_eq_getElem ht]; rfl
theorem mid_skip {xs : List Int} {L : List Gm} {t : Nat} (ht : t < L.length) (h : ¬ (t : Int) ∈ xs) : mid xs L t = mid xs L (t + 1) := by
  unfold mid
  have : drP xs t L[t] = false := by simp [drP, h]
  rw [List.drop_eq_getElem_cons ht, take_step ht]
  simp only [sift, this, Bool.false_eq_true, if_false, List.append_assoc, List.singleton_append]
theorem mid_drop {xs : List Int} {L : List Gm} {t : Nat} (ht : t < L.length) (h : (t : Int) ∈ xs) : sift (drP [(t : Int)]) 0 (mid xs L (t + 1)) = mid xs L t ∧ (mid xs L (t + 1)).length = (mid xs L t).length + 1 ∧ t < (mid xs L (t + 1)).length := by
  have e1 : mid xs L (t + 1) = L.take t ++ L[t] :: sift (drP xs) (t + 1) (L.drop (t + 1)) := by
    unfold mid
    rw [take_step ht]
    simp only [List.append_assoc, List.singleton_append]
  have e2 : mid xs L t = L.take t ++ sift (drP xs) (t + 1) (L.drop (t + 1)) := by
    unfold mid
    rw [List.drop_eq_getElem_cons ht]
    have : drP xs t L[t] = true := by simp [drP, h]
    simp [sift, this]
  have hl : (L.take t).length = t := by rw [List.length_take]; omega
  refine ⟨?_, ?_, ?_⟩
  · rw [e1, sift_one _ _ _ t hl, e2]
  · rw [e1, e2]; simp; omega
  · rw [e1]; simp; omega
theorem mid_le (xs : List Int) (L : List Gm) (t : Nat) : (mid xs L t).length ≤ L.length := by
  have := sift_length_le (drP xs) (L.drop t) t
  unfold mid
  rw [List.length_append, List.length_take]
  rw [List.length_drop] at this
  omega

theorem RdI.one {g : Nat} {x : Int} (h : w.heap[g]? = some (.cells #[.int .i64 x] 3 (0, 0))) : RdI w (.slice (some ⟨g, 0, none⟩) 1 1) [x] := by
  refine .inr ⟨g, 0, 1, rfl, fun i y hi => ?_⟩
  simp only [World.cell?, h]
  cases i with
  | zero => simp at hi; subst hi; simp
  | succ i => simp at hi

theorem two_dropL (h : Tw w0 w b1 m1 b2 m2 v1 v2 c1 c2 L1 L2) {u : Value} {xs : List Int} (hr : RdI w u xs) (hb : (xs.length : Int) ≤ 9223372036854775807) (x0 : 0 ≤ c1.x) (x1 : c1.x ≤ 4096) :
    Calls Try.prog 19 #[.pointer (some ⟨b1, 0, none⟩), u] w fun e w' =>
      ∃ q er, e = .returned (.tuple #[.int .i64 q, .int .i64 er]) ∧ Hid ((inAll xs L1.length = false ∧ q = 0 ∧ er = 54 ∧ Tw w0 w' b1 m1 b2 m2 v1 v2 c1 c2 L1 L2) ∨
        (inAll xs L1.length = true ∧ q = (L1.length : Int) - ((sift (drP xs) 0 L1).length : Int) ∧ er = 0 ∧ ∃ v1', Tw w0 w' b1 m1 b2 m2 v1' v2 { c1 with x := c1.x + ((L1.length : Int) - ((sift (drP xs) 0 L1).length : Int)) } c2 (sift (drP xs) 0 L1) L2)) := by
  refine (drop_any h.n u xs hr hb x0 (by omega)).mono ?_
  intro e w2 hP
  unfold DrP at hP
  cases hin : inAll xs L1.length
  · rw [hin] at hP
    obtain ⟨rfl, hk⟩ := hP
    exact ⟨0, 54, rfl, .inl ⟨rfl, rfl, rfl, h.nu hk⟩⟩
  · rw [hin] at hP
    obtain ⟨rfl, v', hN, hF⟩ := hP
    exact ⟨_, 0, rfl, .inr ⟨rfl, rfl, rfl, v', h.left hN hF⟩⟩
theorem two_dropR (h : Tw w0 w b1 m1 b2 m2 v1 v2 c1 c2 L1 L2) {u : Value} {xs : List Int} (hr : RdI w u xs) (hb : (xs.length : Int) ≤ 9223372036854775807) (x0 : 0 ≤ c2.x) (x1 : c2.x ≤ 4096) (hin : inAll xs L2.length = true) :
    Calls Try.prog 19 #[.pointer (some ⟨b2, 0, none⟩), u] w fun e w' => e = .returned (.tuple #[.int .i64 ((L2.length : Int) - ((sift (drP xs) 0 L2).length : Int)), .int .i64 0]) ∧ ∃ v2', Tw w0 w' b1 m1 b2 m2 v1 v2' c1 { c2 with x := c2.x + ((L2.length : Int) - ((sift (drP xs) 0 L2).length : Int)) } L1 (sift (drP xs) 0 L2) := by
  refine (drop_any h.m u xs hr hb x0 (by omega)).mono ?_
  intro e w2 hP
  unfold DrP at hP
  rw [hin] at hP
  obtain ⟨rfl, v', hN, hF⟩ := hP
  exact ⟨rfl, v', h.right hN hF⟩
end
end Go.Proofs.Ythajboipnjjgfaa.Ly
