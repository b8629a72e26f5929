import Derived.Test.YtbhdhoeaogbfbaaGnM
import Derived.Deep.RegionHeld3
namespace Go.Proofs.Ytbhdhoeaogbfbaa.Xo
open Go.RowKit
set_option linter.unusedVariables false
set_option maxHeartbeats 1000000 in
theorem tellOut_gen {w : World} {pb : Nat} {ps : List Pr} (tb : Nat) (ts : List Pr) (ht : Row w tb 66 ts) (hp : Row w pb 123 ps) (k : Nat) (p z : Pr) (hk : ps[k]? = some p) (hz : ts[k]? = some z) (hq : Lq w p.q p.qs) (hn16 : p.qs.length ≤ 16) (hpay : ∀ x ∈ p.qs, unf x.2 = false) : Calls Try.prog 51 #[.pointer (some ⟨pb, k * 6, none⟩), .pointer (some ⟨tb, k * 6, none⟩)] w fun e w' => e = .returned (.tuple #[]) ∧ ∃ u xs W, Kp Nu w W ∧ Cq w W u p.qs xs ∧ (∃ g, u.ownBlock = some g ∧ w.heap.size ≤ g) ∧ Row w' tb 66 (ts.set k ⟨p.sent, p.acked, u, xs, p.mask, z.dlv, z.e⟩) ∧ Kp (fun i => i = tb) W w' := by
  obtain ⟨ad, cap, hqe⟩ := hq.slice
  obtain ⟨n, hn⟩ : ∃ n, p.qs.length = n := ⟨_, rfl⟩
  rw [hn] at hqe
  have CP := fun W (kW : Kp Nu w W) => copies_lq W p.q p.qs hn16 (hq.nu kW) hpay
  rw [hqe] at CP
  have ne : tb ≠ pb := hp.ne ht (by decide)
  have HT := hide ht
  have HS : ∀ W, Kp (fun i => i = tb) w W → W.cell? ⟨pb, k * 6, none⟩ = some (.int .u64 p.sent) ∧ W.cell? ⟨pb, k * 6 + 1, none⟩ = some (.int .u64 p.acked) ∧ W.cell? ⟨pb, k * 6 + 2, none⟩ = some (.slice ad n cap) ∧ W.cell? ⟨pb, k * 6 + 3, none⟩ = some (.int .u64 p.mask) := fun W kw => by
    obtain ⟨c0, c1, c2, c3, c4, c5⟩ := (hp.keep (kw.block _ (blk_lt hp) (fun e => ne (Eq.symm e)))).at hk
    rw [hqe] at c2
    exact ⟨c0, c1, c2, c3⟩
  have CT := fun W (kw : Kp Nu w W) => (ht.keep (kw.block _ (blk_lt ht) (fun h => h))).at hz
  have CF := fun W (kw : Kp Nu w W) (o : Nat) => (ht.keep (kw.block _ (blk_lt ht) (fun h => h))).free o
  have CW : ∀ W, Kp Nu w W → Calls Try.prog 79 #[.slice ad n cap] W fun e w' => ∃ au nu cu, e = .returned (.slice au nu cu) ∧ Hid (∃ xs, Cq w w' (.slice au nu cu) p.qs xs ∧ (∃ g, (Value.slice au nu cu).ownBlock = some g ∧ w.heap.size ≤ g) ∧ Kp Nu w w') ∧ Kp (fun i => i = tb) w w' := fun W kw => (CP W kw).mono (by
    rintro e w' ⟨u, xs, rfl, hc, ⟨g, hg1, hg2⟩, hk'⟩
    obtain ⟨au, cu, eu⟩ := own_slice hc.own
    have hsz := kw.size
    refine ⟨au, _, cu, by rw [← eu], ⟨xs, ?_, ⟨g, by rw [← eu]; exact hg1, by omega⟩, kw.andNu hk'⟩, (kw.andNu hk').mono (fun _ _ e => e.elim)⟩
    rw [← eu]
    exact ⟨own_base hc.own hsz, hc.len, fun i x y hx hy => ⟨(hc.pay i x y hx hy).1, own_base (hc.pay i x y hx hy).2 hsz⟩⟩)
  clear ht hp CP hq hn16 hpay hqe hn
  go_enter Try.func51, Try.ntmps51
  go_wp2_with fail
  go_region_held3 (fun W => W.cell? ⟨pb, k * 6, none⟩ = some (.int .u64 p.sent) ∧ W.cell? ⟨pb, k * 6 + 1, none⟩ = some (.int .u64 p.acked) ∧ W.cell? ⟨pb, k * 6 + 2, none⟩ = some (.slice ad n cap) ∧ W.cell? ⟨pb, k * 6 + 3, none⟩ = some (.int .u64 p.mask)) (first | (refine HS _ ?_; repeat (first | assumption | exact Kp.refl _ _ | apply Kp.drew | apply Kp.put))) (first | (go_at_call 79; refine (CW _ ?_).mono ?_; (repeat (first | assumption | exact Kp.refl _ _ | apply Kp.drew)); rintro e w3 ⟨au, nu, cu, rfl, hg3, hk3⟩; obtain ⟨xs3, hcq3, hgb3, hn3⟩ := hg3.out; obtain ⟨t0, t1, t2, t3, t4, t5⟩ := CT w3 hn3; have f0 := CF w3 hn3 (k * 6); have f1 := CF w3 hn3 (k * 6 + 1); have f2 := CF w3 hn3 (k * 6 + 2); have f3 := CF w3 hn3 (k * 6 + 3); clear hcq3 hgb3 hn3))
  go_wp2
  refine bodyPost_end (v := .tuple #[]) (by simp [results, Try.results51, go_sem]) rfl ?_
  obtain ⟨xs, hcq, hgb, hn⟩ := hg3.out
  have hr := (HT.out.keep (hn.block _ (blk_lt HT.out) (fun h => h))).put4 hz p.sent p.acked (.slice au nu cu) xs p.mask
  exact ⟨rfl, _, xs, w3, hn, hcq, hgb, hr, (Kp.refl _ _).put.put.put.put⟩
end Go.Proofs.Ytbhdhoeaogbfbaa.Xo
