import Derived.Test.YtbhdhoeaogbfbaaGnN
namespace Go.Proofs.Ytbhdhoeaogbfbaa.Xo
open Go.RowKit
set_option linter.unusedVariables false
/-- frames at a slice, their payloads of a length that may be -/
def Lf (w : World) (v : Value) (es : List Fm) : Prop := (∃ ad cap, v = .slice ad 0 cap ∧ es = []) ∨ ∃ r off cap, v = .slice (some ⟨r, off, none⟩) es.length cap ∧ Rf w r off es
theorem Lf.slice {w : World} {v : Value} {es : List Fm} (h : Lf w v es) : ∃ ad cap, v = .slice ad es.length cap := by
  rcases h with ⟨ad, cap, rfl, rfl⟩ | ⟨r, off, cap, rfl, _⟩
  · exact ⟨ad, cap, rfl⟩
  · exact ⟨_, cap, rfl⟩
theorem Lf.nu {w w' : World} {v : Value} {es : List Fm} (h : Lf w v es) (k : Kp Nu w w') : Lf w' v es := by
  rcases h with h | ⟨r, off, cap, e, h⟩
  · exact .inl h
  · exact .inr ⟨r, off, cap, e, h.nu k⟩
/-- what copiedFrames leaves -/
structure Ce (w0 w1 : World) (v : Value) (es ds : List Fm) : Prop where
  own : w1.ownsRow w0.heap.size 133 2 v ds.length (ff ds)
  len : ds.length = es.length
  pay : ∀ (i : Nat) (d x : Fm), ds[i]? = some d → es[i]? = some x → d.seq = x.seq ∧ d.ys = x.ys ∧ w1.ownsRow w0.heap.size 5 1 d.v d.ys.length (cs d.ys)
theorem Cf.ce {w0 w1 : World} {g n : Nat} {es ds : List Fm} (h : Cf w0 w1 g es ds n) (hn : es.length = n) (hn16 : n ≤ 16) : Ce w0 w1 (.slice (some ⟨g, 0, none⟩) n n) es ds := by
  have hl := h.len
  refine ⟨?_, by rw [hl, hn], fun i d x hd hx => ?_⟩
  · rw [hl]
    refine ⟨by rw [ff_length, hl], .inr ⟨g, n, (ff ds).toArray, rfl, h.hg, ?_, Nat.le_refl _, by unfold maxLen; omega, by simp [ff_length, hl], by rw [List.take_of_length_le (by simp [ff_length, hl])]⟩⟩
    have := h.row
    rwa [hn, Nat.sub_self, List.replicate_zero, List.append_nil] at this
  · obtain ⟨o1, o2, o3⟩ := h.own i d x hd hx
    exact ⟨o1, o2, by rw [o2]; exact o3⟩
theorem frames_lf (w : World) (v : Value) (es : List Fm) (hn16 : es.length ≤ 16) (h : Lf w v es) : Calls Try.prog 80 #[v] w fun e w' => ∃ u ds, e = .returned u ∧ Ce w w' u es ds ∧ (∃ g, u.ownBlock = some g ∧ w.heap.size ≤ g) ∧ Kp Nu w w' := by
  rcases h with ⟨ad, cap, rfl, rfl⟩ | ⟨r, off, cap, rfl, h⟩
  · refine (frames_new ad cap w).mono ?_
    rintro e w' ⟨g, rfl, hg, hb, hk⟩
    exact ⟨_, [], rfl, ⟨⟨rfl, .inr ⟨g, 0, #[], rfl, hg, hb, Nat.le_refl _, Nat.zero_le _, rfl, rfl⟩⟩, rfl, fun i d x hd => by simp at hd⟩, ⟨g, rfl, hg⟩, hk⟩
  · refine (copiedFrames_any w r off cap es es.length rfl hn16 h).mono ?_
    rintro e w' ⟨g, ds, rfl, hc⟩
    exact ⟨_, ds, rfl, hc.ce rfl hn16, ⟨g, rfl, hc.hg⟩, hc.kp⟩
set_option maxHeartbeats 1000000 in
theorem tellIn_gen {w : World} {pb : Nat} {ps : List Pr} (tb : Nat) (ts : List Pr) (ht : Row w tb 66 ts) (hp : Row w pb 123 ps) (k : Nat) (p z : Pr) (hk : ps[k]? = some p) (hz : ts[k]? = some z) (es : List Fm) (hq : Lf w p.e es) (hn16 : es.length ≤ 16) : Calls Try.prog 52 #[.pointer (some ⟨pb, k * 6 + 4, none⟩), .pointer (some ⟨tb, k * 6, none⟩)] w fun e w' => e = .returned (.tuple #[]) ∧ ∃ u ds W, Kp Nu w W ∧ Ce w W u es ds ∧ (∃ g, u.ownBlock = some g ∧ w.heap.size ≤ g) ∧ Row w' tb 66 (ts.set k ⟨z.sent, z.acked, z.q, z.qs, z.mask, p.dlv, u⟩) ∧ Kp (fun i => i = tb) W w' := by
  obtain ⟨ad, cap, hqe⟩ := hq.slice
  obtain ⟨n, hn⟩ : ∃ n, es.length = n := ⟨_, rfl⟩
  rw [hn] at hqe
  have CP := fun W (kW : Kp Nu w W) => frames_lf W p.e es hn16 (hq.nu kW)
  rw [hqe] at CP
  have ne : tb ≠ pb := hp.ne ht (by decide)
  have HT := hide ht
  have HS : ∀ W, Kp (fun i => i = tb) w W → W.cell? ⟨pb, k * 6 + 4, none⟩ = some (.int .u64 p.dlv) ∧ W.cell? ⟨pb, k * 6 + 5, none⟩ = some (.slice ad n cap) := fun W kw => by
    obtain ⟨c0, c1, c2, c3, c4, c5⟩ := (hp.keep (kw.block _ (blk_lt hp) (fun e => ne (Eq.symm e)))).at hk
    rw [hqe] at c5
    exact ⟨c4, c5⟩
  have CT := fun W (kw : Kp Nu w W) => (ht.keep (kw.block _ (blk_lt ht) (fun h => h))).at hz
  have CF := fun W (kw : Kp Nu w W) (o : Nat) => (ht.keep (kw.block _ (blk_lt ht) (fun h => h))).free o
  have CW : ∀ W, Kp Nu w W → Calls Try.prog 80 #[.slice ad n cap] W fun e w' => ∃ au nu cu, e = .returned (.slice au nu cu) ∧ Hid (∃ ds, Ce w w' (.slice au nu cu) es ds ∧ (∃ g, (Value.slice au nu cu).ownBlock = some g ∧ w.heap.size ≤ g) ∧ Kp Nu w w') ∧ Kp (fun i => i = tb) w w' := fun W kw => (CP W kw).mono (by
    rintro e w' ⟨u, ds, rfl, hc, ⟨g, hg1, hg2⟩, hk'⟩
    obtain ⟨au, cu, eu⟩ := own_slice hc.own
    have hsz := kw.size
    refine ⟨au, _, cu, by rw [← eu], ⟨ds, ?_, ⟨g, by rw [← eu]; exact hg1, by omega⟩, kw.andNu hk'⟩, (kw.andNu hk').mono (fun _ _ e => e.elim)⟩
    rw [← eu]
    exact ⟨own_base hc.own hsz, hc.len, fun i x y hx hy => ⟨(hc.pay i x y hx hy).1, (hc.pay i x y hx hy).2.1, own_base (hc.pay i x y hx hy).2.2 hsz⟩⟩)
  clear ht hp CP hq hn16 hqe hn
  go_enter Try.func52, Try.ntmps52
  go_wp2_with fail
  go_region_held3 (fun W => W.cell? ⟨pb, k * 6 + 4, none⟩ = some (.int .u64 p.dlv) ∧ W.cell? ⟨pb, k * 6 + 5, none⟩ = some (.slice ad n cap)) (first | (refine HS _ ?_; repeat (first | assumption | exact Kp.refl _ _ | apply Kp.drew | apply Kp.put))) (first | (go_at_call 80; refine (CW _ ?_).mono ?_; (repeat (first | assumption | exact Kp.refl _ _ | apply Kp.drew)); rintro e w3 ⟨au, nu, cu, rfl, hg3, hk3⟩; obtain ⟨xs3, hcq3, hgb3, hn3⟩ := hg3.out; obtain ⟨t0, t1, t2, t3, t4, t5⟩ := CT w3 hn3; have f0 := CF w3 hn3 (k * 6 + 4); have f1 := CF w3 hn3 (k * 6 + 5); clear hcq3 hgb3 hn3))
  go_wp2
  refine bodyPost_end (v := .tuple #[]) (by simp [results, Try.results52, go_sem]) rfl ?_
  obtain ⟨ds, hcq, hgb, hn⟩ := hg3.out
  have hr := (HT.out.keep (hn.block _ (blk_lt HT.out) (fun h => h))).put2 hz p.dlv (.slice au nu cu)
  exact ⟨rfl, _, ds, w3, hn, hcq, hgb, hr, (Kp.refl _ _).put.put⟩
end Go.Proofs.Ytbhdhoeaogbfbaa.Xo
