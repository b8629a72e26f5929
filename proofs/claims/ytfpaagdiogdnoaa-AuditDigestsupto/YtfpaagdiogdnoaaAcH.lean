import Derived.Test.YtfpaagdiogdnoaaAcF
import Derived.Test.YtfpaagdiogdnoaaAcG
namespace Go.Proofs.Ytfpaagdiogdnoaa.Cd
open Go.RowKit
set_option linter.unusedVariables false
theorem Kp.toBelow {w w' : World} (h : Kp Nu w w') : Below w.heap.size w w' := ⟨h.os, h.tape, h.output, h.size, fun k hk => h.block k hk (fun h => h)⟩
set_option maxRecDepth 100000 in
set_option maxHeartbeats 2000000 in
theorem digests_walk (w : World) (u : Value) (L : List Pq) (hL : Prs w u L) (hN : L.length ≤ 1048576) :
    Calls Try.prog 3 #[u] w fun e w' => e = .returned (.bool true) ∧ Kp Nu w w' := by
  have P4 := pairs4 w u L hL hN
  obtain ⟨ua, uc, hu, hdm⟩ := id hL
  clear hdm
  obtain ⟨N, eN⟩ : ∃ N, L.length = N := ⟨_, rfl⟩
  rw [eN] at hu
  subst hu
  have HL := hide (And.intro hL hN)
  clear hL hN eN
  go_enter Try.func3, Try.ntmps3
  go_wp2_with fail
  refine P4.mono ?_; rintro e w1 ⟨v, rfl, D, hA, hD, hk1⟩
  have hlD : D.length ≤ 1048576 := by
    have := congrArg List.length hA
    simp only [List.length_map] at this
    rw [← this]; exact HL.out.2
  have hP1 := hD.prs
  have G := digest5 w1 v D hP1 hlD
  obtain ⟨va, vc, hv, hdm⟩ := id hP1
  clear hdm
  obtain ⟨M, eM⟩ : ∃ M, D.length = M := ⟨_, rfl⟩
  rw [eM] at hv
  subst hv
  have H1 := hide (And.intro hA (And.intro hP1 hk1))
  clear P4 hA hD hlD hP1 hk1 eM
  go_wp2_with fail
  refine G.mono ?_; rintro e w2 ⟨rfl, hk2⟩
  have hk02 := H1.out.2.2.andNu hk2
  have SP := samePairs6 w2 _ _ L D (HL.out.1.nu hk02) (H1.out.2.1.nu hk2) H1.out.1 HL.out.2
  have hsd : said D = said L := H1.out.1.symm
  rw [hsd]
  have H2 := hide hk02
  clear G hk2 hk02 hsd
  generalize hz : fv 14695981039346656037 (lay (said L)) = z
  have HZ := hide hz
  clear hz
  go_wp2_with fail
  refine SP.mono ?_; rintro e w3 ⟨rfl, hk3⟩
  have hk03 := H2.out.andNu hk3
  have R : ∀ W, Kp Nu w W → Calls Try.prog 7 #[.slice ua N uc] W fun e w' => e = .returned (.int .u64 z) ∧ Kp Nu w w' := fun W kk => (refDigest7 W _ L (HL.out.1.nu kk) HL.out.2).mono (fun e w' ⟨h1, h2⟩ => ⟨by rw [h1, HZ.out], kk.andNu h2⟩)
  have R3 := R w3 hk03
  have hzz : (z == z) = true := by simp
  clear SP hk3
  go_wp2_with fail
  refine R3.mono ?_; rintro e w4 ⟨rfl, hk4⟩
  go_wp2
  go_ret
  exact ⟨rfl, hk4⟩
end Go.Proofs.Ytfpaagdiogdnoaa.Cd
