import Derived.Test.YtbhdhoeaogbfbaaEnD
import Derived.Deep.RegionHeld3
namespace Go.Proofs.Ytbhdhoeaogbfbaa.Xo
open Go.RowKit
set_option linter.unusedVariables false
section
variable {B eb pb : Nat} {w w' : World} {me qn wn : Int} {ps : List Pr}
set_option maxHeartbeats 1000000 in
theorem tellOut (tb : Nat) (ts : List Pr) (ht : Row w tb 66 ts) (hp : Row w pb 123 ps) (k : Nat) (p z : Pr) (hk : ps[k]? = some p) (hz : ts[k]? = some z) (hq : ∃ ad cap, p.q = .slice ad 0 cap) : Calls Try.prog 51 #[.pointer (some ⟨pb, k * 6, none⟩), .pointer (some ⟨tb, k * 6, none⟩)] w fun e w' => e = .returned (.tuple #[]) ∧ ∃ g, Row w' tb 66 (ts.set k ⟨p.sent, p.acked, .slice (some ⟨g, 0, none⟩) 0 0, [], p.mask, z.dlv, z.e⟩) ∧ Kp (fun i => i = tb) w w' := by
  obtain ⟨ad, cap, hq⟩ := hq
  have CP := copies_new ad cap
  have ne : tb ≠ pb := hp.ne ht (by decide)
  have HT := hide ht
  have HS : ∀ W, Kp (fun i => i = tb) w W → W.cell? ⟨pb, k * 6, none⟩ = some (.int .u64 p.sent) ∧ W.cell? ⟨pb, k * 6 + 1, none⟩ = some (.int .u64 p.acked) ∧ W.cell? ⟨pb, k * 6 + 2, none⟩ = some (.slice ad 0 cap) ∧ W.cell? ⟨pb, k * 6 + 3, none⟩ = some (.int .u64 p.mask) := fun W kw => by
    obtain ⟨c0, c1, c2, c3, c4, c5⟩ := (hp.keep (kw.block _ (blk_lt hp) (fun e => ne (Eq.symm e)))).at hk
    rw [hq] at c2
    exact ⟨c0, c1, c2, c3⟩
  have CT := fun W (kw : Kp Nu w W) => (ht.keep (kw.block _ (blk_lt ht) (fun h => h))).at hz
  have CF := fun W (kw : Kp Nu w W) (o : Nat) => (ht.keep (kw.block _ (blk_lt ht) (fun h => h))).free o
  have CW : ∀ W, Kp Nu w W → Calls Try.prog 79 #[.slice ad 0 cap] W fun e w' => ∃ g, e = .returned (.slice (some ⟨g, 0, none⟩) 0 0) ∧ Hid (Kp Nu w w') ∧ Kp (fun i => i = tb) w w' := fun W kw => (CP W).mono (by rintro e w' ⟨g, rfl, h1, h2, h3⟩; exact ⟨g, rfl, kw.andNu h3, (kw.andNu h3).mono (fun _ _ e => e.elim)⟩)
  clear ht hp CP
  go_enter Try.func51, Try.ntmps51
  go_wp2_with fail
  go_region_held3 (fun W => W.cell? ⟨pb, k * 6, none⟩ = some (.int .u64 p.sent) ∧ W.cell? ⟨pb, k * 6 + 1, none⟩ = some (.int .u64 p.acked) ∧ W.cell? ⟨pb, k * 6 + 2, none⟩ = some (.slice ad 0 cap) ∧ W.cell? ⟨pb, k * 6 + 3, none⟩ = some (.int .u64 p.mask)) (first | (refine HS _ ?_; repeat (first | assumption | exact Kp.refl _ _ | apply Kp.drew | apply Kp.put))) (first | (go_at_call 79; refine (CW _ ?_).mono ?_; (repeat (first | assumption | exact Kp.refl _ _ | apply Kp.drew)); rintro e w3 ⟨g, rfl, hg3, hk3⟩; obtain ⟨t0, t1, t2, t3, t4, t5⟩ := CT w3 hg3.out; have f0 := CF w3 hg3.out (k * 6); have f1 := CF w3 hg3.out (k * 6 + 1); have f2 := CF w3 hg3.out (k * 6 + 2); have f3 := CF w3 hg3.out (k * 6 + 3)))
  go_wp2
  refine bodyPost_end (v := .tuple #[]) (by simp [results, Try.results51, go_sem]) rfl ?_
  refine ⟨rfl, g, (HT.out.keep (hg3.out.block _ (blk_lt HT.out) (fun h => h))).put4 hz p.sent p.acked (.slice (some ⟨g, 0, none⟩) 0 0) [] p.mask, ?_⟩
  exact hk3.put.put.put.put

set_option maxHeartbeats 1000000 in
theorem tellIn (tb : Nat) (ts : List Pr) (ht : Row w tb 66 ts) (hp : Row w pb 123 ps) (k : Nat) (p z : Pr) (hk : ps[k]? = some p) (hz : ts[k]? = some z) (hq : ∃ ad cap, p.e = .slice ad 0 cap) : Calls Try.prog 52 #[.pointer (some ⟨pb, k * 6 + 4, none⟩), .pointer (some ⟨tb, k * 6, none⟩)] w fun e w' => e = .returned (.tuple #[]) ∧ ∃ g, Row w' tb 66 (ts.set k ⟨z.sent, z.acked, z.q, z.qs, z.mask, p.dlv, .slice (some ⟨g, 0, none⟩) 0 0⟩) ∧ Kp (fun i => i = tb) w w' := by
  obtain ⟨ad, cap, hq⟩ := hq
  have CP := frames_new ad cap
  have ne : tb ≠ pb := hp.ne ht (by decide)
  have HT := hide ht
  have HS : ∀ W, Kp (fun i => i = tb) w W → W.cell? ⟨pb, k * 6 + 4, none⟩ = some (.int .u64 p.dlv) ∧ W.cell? ⟨pb, k * 6 + 5, none⟩ = some (.slice ad 0 cap) := fun W kw => by
    obtain ⟨c0, c1, c2, c3, c4, c5⟩ := (hp.keep (kw.block _ (blk_lt hp) (fun e => ne (Eq.symm e)))).at hk
    rw [hq] at c5
    exact ⟨c4, c5⟩
  have CT := fun W (kw : Kp Nu w W) => (ht.keep (kw.block _ (blk_lt ht) (fun h => h))).at hz
  have CF := fun W (kw : Kp Nu w W) (o : Nat) => (ht.keep (kw.block _ (blk_lt ht) (fun h => h))).free o
  have CW : ∀ W, Kp Nu w W → Calls Try.prog 80 #[.slice ad 0 cap] W fun e w' => ∃ g, e = .returned (.slice (some ⟨g, 0, none⟩) 0 0) ∧ Hid (Kp Nu w w') ∧ Kp (fun i => i = tb) w w' := fun W kw => (CP W).mono (by rintro e w' ⟨g, rfl, h1, h2, h3⟩; exact ⟨g, rfl, kw.andNu h3, (kw.andNu h3).mono (fun _ _ e => e.elim)⟩)
  clear ht hp CP
  go_enter Try.func52, Try.ntmps52
  go_wp2_with fail
  go_region_held3 (fun W => W.cell? ⟨pb, k * 6 + 4, none⟩ = some (.int .u64 p.dlv) ∧ W.cell? ⟨pb, k * 6 + 5, none⟩ = some (.slice ad 0 cap)) (first | (refine HS _ ?_; repeat (first | assumption | exact Kp.refl _ _ | apply Kp.drew | apply Kp.put))) (first | (go_at_call 80; refine (CW _ ?_).mono ?_; (repeat (first | assumption | exact Kp.refl _ _ | apply Kp.drew)); rintro e w3 ⟨g, rfl, hg3, hk3⟩; obtain ⟨t0, t1, t2, t3, t4, t5⟩ := CT w3 hg3.out; have f0 := CF w3 hg3.out (k * 6 + 4); have f1 := CF w3 hg3.out (k * 6 + 5)))
  go_wp2
  refine bodyPost_end (v := .tuple #[]) (by simp [results, Try.results52, go_sem]) rfl ?_
  refine ⟨rfl, g, (HT.out.keep (hg3.out.block _ (blk_lt HT.out) (fun h => h))).put2 hz p.dlv (.slice (some ⟨g, 0, none⟩) 0 0), ?_⟩
  exact hk3.put.put
end
end Go.Proofs.Ytbhdhoeaogbfbaa.Xo
