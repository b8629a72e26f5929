import Derived.Test.YtbhdhoeaogbfbaaGnH
import Derived.Test.YtbhdhoeaogbfbaaGnE
namespace Go.Proofs.Ytbhdhoeaogbfbaa.Xo
open Go.RowKit
set_option linter.unusedVariables false
/-- what copies leaves -/
structure Cq (w0 w1 : World) (v : Value) (vs : List (Value × List Int)) (xs : List (Value × List Int)) : Prop where
  own : w1.ownsRow w0.heap.size 45 1 v xs.length (xs.map Prod.fst)
  len : xs.length = vs.length
  pay : ∀ (i : Nat) (x y : Value × List Int), xs[i]? = some x → vs[i]? = some y → x.2 = y.2 ∧ w1.ownsRow w0.heap.size 5 1 x.1 x.2.length (cs x.2)
theorem zip_fst : ∀ (ds : List Value) (ys : List (List Int)), ds.length = ys.length → (ds.zip ys).map Prod.fst = ds
  | [], _, _ => rfl
  | d :: ds, [], h => by simp at h
  | d :: ds, y :: ys, h => by
    have := zip_fst ds ys (by simpa using h)
    simp [this]
theorem Cy.cq {w0 w1 : World} {g n : Nat} {vs : List (Value × List Int)} {ds : List Value} (h : Cy w0 w1 g vs ds n) (hn : vs.length = n) (hn16 : n ≤ 16) : Cq w0 w1 (.slice (some ⟨g, 0, none⟩) n n) vs (ds.zip (vs.map Prod.snd)) := by
  have hl := h.len
  have hz : (ds.zip (vs.map Prod.snd)).length = n := by simp [hl, hn]
  refine ⟨?_, by rw [hz, hn], fun i x y hx hy => ?_⟩
  · rw [hz, zip_fst _ _ (by simp [hl, hn])]
    refine ⟨by omega, .inr ⟨g, n, ds.toArray, rfl, h.hg, ?_, Nat.le_refl _, by unfold maxLen; omega, by simp [hl], by rw [Nat.mul_one, List.take_of_length_le (by simp [hl])]⟩⟩
    have := h.row
    rwa [hn, Nat.sub_self, List.replicate_zero, List.append_nil] at this
  · rw [List.getElem?_zip_eq_some] at hx
    obtain ⟨h1, h2⟩ := hx
    rw [List.getElem?_map, hy] at h2
    simp at h2
    have o := h.own i x.1 y h1 hy
    rw [h2] at o
    exact ⟨h2.symm, o⟩
theorem copies_lq (w : World) (v : Value) (vs : List (Value × List Int)) (hn16 : vs.length ≤ 16) (h : Lq w v vs) (hp : ∀ x ∈ vs, unf x.2 = false) : Calls Try.prog 79 #[v] w fun e w' => ∃ u xs, e = .returned u ∧ Cq w w' u vs xs ∧ (∃ g, u.ownBlock = some g ∧ w.heap.size ≤ g) ∧ Kp Nu w w' := by
  rcases h with ⟨ad, cap, rfl, rfl⟩ | ⟨r, off, cap, rfl, h⟩
  · refine (copies_new ad cap w).mono ?_
    rintro e w' ⟨g, rfl, hg, hb, hk⟩
    exact ⟨_, [], rfl, ⟨own_empty hg hb, rfl, fun i x y hx => by simp at hx⟩, ⟨g, rfl, hg⟩, hk⟩
  · refine (copies_any w r off cap vs vs.length rfl hn16 (fun i x hi => ?_)).mono ?_
    · obtain ⟨h1, h2⟩ := h i x hi
      have := hp x (List.mem_of_getElem? hi)
      simp [unf] at this
      exact ⟨h1, h2, by omega, by omega⟩
    · rintro e w' ⟨g, ds, rfl, hc⟩
      exact ⟨_, _, rfl, hc.cq rfl hn16, ⟨g, rfl, hc.hg⟩, hc.kp⟩
theorem contains_lq (w : World) (v : Value) (vs : List (Value × List Int)) (hn16 : vs.length ≤ 16) (h : Lq w v vs) : Calls Try.prog 87 #[v, .func (.func 54) #[] #[]] w fun e w' => e = .returned (.bool (vs.any (fun x => unf x.2))) ∧ Kp Nu w w' := by
  rcases h with ⟨ad, cap, rfl, rfl⟩ | ⟨r, off, cap, rfl, h⟩
  · exact (contains_zero ad cap _ w).mono (by rintro e w' ⟨rfl, hk⟩; exact ⟨rfl, hk⟩)
  · exact contains_any w r off cap vs vs.length rfl hn16 h
set_option maxHeartbeats 2000000 in
theorem loadOut_ok {w : World} {pb : Nat} {ps : List Pr} (h : Row w pb 123 ps) (k : Nat) (p : Pr) (hk : ps[k]? = some p) (s a m d qn : Int) (q e : Value) (qs : List (Value × List Int)) (hq : Lq w q qs) (n : Nat) (hn : qs.length = n) (h1 : a ≤ s) (h2 : (n : Int) ≤ qn) (hqn : qn ≤ 16) (e0 : IntKind.u64.wrap (s - a) = (n : Int)) (h0 : 0 ≤ m) (hm : m ≤ 18446744073709551615) (h3 : inM m (n : Int) = true) (h4 : ∀ x ∈ qs, unf x.2 = false) (hee : ∃ ae ne ce, e = .slice ae ne ce) :
    Calls Try.prog 63 #[.pointer (some ⟨pb, k * 6, none⟩), .agg #[.int .u64 s, .int .u64 a, q, .int .u64 m, .int .u64 d, e], .int .i64 qn] w fun e w' => e = .returned (.bool true) ∧ ∃ u xs W, Kp Nu w W ∧ Cq w W u qs xs ∧ (∃ g, u.ownBlock = some g ∧ w.heap.size ≤ g) ∧ Row w' pb 123 (ps.set k ⟨s, a, u, xs, m, p.dlv, p.e⟩) ∧ Kp (fun i => i = pb) W w' := by
  obtain ⟨aq, cq, hqe⟩ := hq.slice
  obtain ⟨ae, ne, ce, rfl⟩ := hee
  rw [hn] at hqe
  have CZ := fun W (kW : Kp Nu w W) => contains_lq W q qs (by omega) (hq.nu kW)
  have hany : qs.any (fun x => unf x.2) = false := by
    rw [List.any_eq_false]
    intro x hx
    rw [h4 x hx]; simp
  rw [hany] at CZ
  have CP := fun W (kW : Kp Nu w W) => copies_lq W q qs (by omega) (hq.nu kW) h4
  have WZ := fun W => within_any m (n : Int) h0 hm W
  rw [h3] at WZ
  have ea : ¬ a > s := by omega
  have eb : ¬ (n : Int) > qn := by omega
  have ec : IntKind.u64.wrap (n : Int) = (n : Int) := by rw [IntKind.wrap_u64]; omega
  have ed : ((n : Int) != (n : Int)) = false := by simp
  subst hqe
  have HH := hide h
  have CE := fun W (kW : Kp Nu (w.alloc (.cells #[.int .u64 s, .int .u64 a, .slice aq n cq, .int .u64 m, .int .u64 d, .slice ae ne ce] 66)) W) => cell6 (new_at w _ kW)
  have CP2 := fun W (k' : Kp Nu w W) => (h.keep (k'.block _ (blk_lt h) (fun h => h))).at hk
  have CF := fun W (k' : Kp Nu w W) (o : Nat) => (h.keep (k'.block _ (blk_lt h) (fun h => h))).free o
  clear h h1 h2 h3 h4 h0 hm hq hn hany hqn
  go_enter Try.func63, Try.ntmps63
  go_wp2_with (first | (go_at_call 86; refine (WZ _).mono ?_; rintro e w1 ⟨rfl, hw1⟩; obtain rfl := hw1.symm) | (go_at_call 87; refine (CZ _ ((Kp.refl _ w).andAlloc _)).mono ?_; rintro e w2 ⟨rfl, hk2⟩; obtain ⟨x0, x1, x2, x3, x4, x5⟩ := CE w2 hk2))
  have KK := hide ((Kp.alloc w (.cells #[.int .u64 s, .int .u64 a, .slice aq n cq, .int .u64 m, .int .u64 d, .slice ae ne ce] 66) Nu).andNu hk2)
  have K2 := hide hk2
  have HS : ∀ W, Kp (fun i => i = pb) w2 W → W.cell? ⟨w.heap.size, 0, none⟩ = some (.int .u64 s) ∧ W.cell? ⟨w.heap.size, 1, none⟩ = some (.int .u64 a) ∧ W.cell? ⟨w.heap.size, 2, none⟩ = some (.slice aq n cq) ∧ W.cell? ⟨w.heap.size, 3, none⟩ = some (.int .u64 m) := fun W kw => by
    have hE := CE w2 K2.out
    have hne : w.heap.size ≠ pb := by have := blk_lt HH.out; omega
    have hlt : w.heap.size < w2.heap.size := by have := K2.out.size; simp at this; omega
    have hc : ∀ o, W.cell? ⟨w.heap.size, o, none⟩ = w2.cell? ⟨w.heap.size, o, none⟩ := fun o => World.cell?_of_block (kw.block _ hlt (fun e => hne e))
    exact ⟨(hc _).trans hE.1, (hc _).trans hE.2.1, (hc _).trans hE.2.2.1, (hc _).trans hE.2.2.2.1⟩
  have CW : ∀ W, Kp Nu w2 W → Calls Try.prog 79 #[.slice aq n cq] W fun e w' => ∃ au nu cu, e = .returned (.slice au nu cu) ∧ Hid (∃ xs, Cq w w' (.slice au nu cu) qs xs ∧ (∃ g, (Value.slice au nu cu).ownBlock = some g ∧ w.heap.size ≤ g) ∧ Kp Nu w2 w') ∧ Kp (fun i => i = pb) w2 w' := fun W kw => (CP W (KK.out.andNu kw)).mono (by
    rintro e w' ⟨u, xs, rfl, hc, ⟨g, hg1, hg2⟩, hk'⟩
    obtain ⟨au, cu, eu⟩ := own_slice hc.own
    have hsz := (KK.out.andNu kw).size
    refine ⟨au, _, cu, by rw [← eu], ⟨xs, ?_, ⟨g, by rw [← eu]; exact hg1, by omega⟩, kw.andNu hk'⟩, (kw.andNu hk').mono (fun _ _ e => e.elim)⟩
    rw [← eu]
    exact ⟨own_base hc.own hsz, hc.len, fun i x y hx hy => ⟨(hc.pay i x y hx hy).1, own_base (hc.pay i x y hx hy).2 hsz⟩⟩)
  clear x0 x1 x2 x3 x4 x5 hk2 CE WZ CZ CP
  go_region_held3 (fun W => W.cell? ⟨w.heap.size, 0, none⟩ = some (.int .u64 s) ∧ W.cell? ⟨w.heap.size, 1, none⟩ = some (.int .u64 a) ∧ W.cell? ⟨w.heap.size, 2, none⟩ = some (.slice aq n cq) ∧ W.cell? ⟨w.heap.size, 3, none⟩ = some (.int .u64 m)) (first | (refine HS _ ?_; repeat (first | assumption | exact Kp.refl _ _ | apply Kp.andAlloc | apply Kp.drew | apply Kp.put))) (first | (go_at_call 79; refine (CW _ ?_).mono ?_; (repeat (first | assumption | exact Kp.refl _ _ | apply Kp.andAlloc | apply Kp.drew)); rintro e w3 ⟨au, nu, cu, rfl, hg3, hk3⟩; obtain ⟨xs3, hcq3, hgb3, hn3⟩ := hg3.out; obtain ⟨z0, z1, z2, z3, z4, z5⟩ := CP2 w3 (KK.out.andNu hn3); have f0 := CF w3 (KK.out.andNu hn3) (k * 6); have f1 := CF w3 (KK.out.andNu hn3) (k * 6 + 1); have f2 := CF w3 (KK.out.andNu hn3) (k * 6 + 2); have f3 := CF w3 (KK.out.andNu hn3) (k * 6 + 3); clear hcq3 hgb3 hn3))
  go_wp2
  go_ret
  obtain ⟨xs, hcq, hgb, hn⟩ := hg3.out
  have k3 := KK.out.andNu hn
  have hr := (HH.out.keep (k3.block _ (blk_lt HH.out) (fun h => h))).put4 hk s a (.slice au nu cu) xs m
  have kp : Kp (fun i => i = pb) w3 ((((w3.setCell ⟨pb, k * 6, none⟩ (.int .u64 s)).setCell ⟨pb, k * 6 + 1, none⟩ (.int .u64 a)).setCell ⟨pb, k * 6 + 2, none⟩ (.slice au nu cu)).setCell ⟨pb, k * 6 + 3, none⟩ (.int .u64 m)) := (Kp.refl _ _).put.put.put.put
  exact ⟨rfl, _, xs, w3, k3, hcq, hgb, hr, kp⟩
end Go.Proofs.Ytbhdhoeaogbfbaa.Xo
