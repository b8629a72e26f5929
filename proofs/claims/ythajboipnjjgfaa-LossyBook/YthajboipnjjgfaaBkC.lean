import Derived.Test.YthajboipnjjgfaaBkB
namespace Go.Proofs.Ythajboipnjjgfaa.Ly
open Go.RowKit Go.Maps
set_option linter.unusedVariables false

set_option maxRecDepth 100000 in
set_option maxHeartbeats 1000000 in
theorem shelved_true {w : World} {Bl B : Nat} {ul u : Value} {Ll L M : List Gm} (hl : w.ownsRow Bl 38 3 ul Ll.length (cells Ll)) (ht : Told w Bl Ll L) (hb : Bo w B u M) (hs : M.map bare = L.map bare) (hM : (M.length : Int) ≤ 100000) :
    Calls Try.prog 37 #[ul, u] w fun e w' => e = .returned (.bool true) ∧ Kp Nu w w' := by
  have mixed : Try.prog.follows .mixedOrders = true := by kernel_rfl
  obtain ⟨ad, cap, hu⟩ := own_slice hb.own
  obtain ⟨al, cl, hul⟩ := own_slice hl
  have hlen : Ll.length = M.length := by
    have h1 := congrArg List.length ht.same
    have h2 := congrArg List.length hs
    simp at h1 h2
    omega
  obtain ⟨N, hN⟩ : ∃ N, M.length = N := ⟨_, rfl⟩
  rw [hlen, hN] at hul
  rw [hN] at hu hM
  have HH := hide (And.intro hl (And.intro ht (And.intro hb (And.intro hs (And.intro hlen hN)))))
  rw [hu, hul]
  have HU := hide hu
  have HUL := hide hul
  clear hl ht hb hs hlen hN hu hul
  go_enter Try.func37, Try.ntmps37
  go_wp2_with fail
  go_loopw [5] (fun i wr => ∃ (k : Nat), k ≤ N ∧ i = .int .i64 (k : Int) ∧ Hid (Kp Nu w wr)) (fun i _ => N - (intOf i).toNat)
  case atStart => exact ⟨0, by omega, rfl, Kp.refl _ _⟩
  case round =>
    obtain ⟨k, hk, rfl, hK⟩ := hrel
    by_cases hlt : k < N
    · obtain ⟨hl, ht, hb, hs, hlen, hN⟩ := HH.out
      have hkM : k < M.length := by omega
      have hkl : k < Ll.length := by omega
      obtain ⟨g, hg⟩ : ∃ g, M[k]? = some g := ⟨_, List.getElem?_eq_getElem hkM⟩
      obtain ⟨h, hh⟩ : ∃ h, Ll[k]? = some h := ⟨_, List.getElem?_eq_getElem hkl⟩
      have hbr : bare g = bare h := by
        have e1 : (M.map bare)[k]? = (Ll.map bare)[k]? := by rw [hs, ht.same]
        rw [List.getElem?_map, List.getElem?_map, hg, hh] at e1
        simpa using e1
      obtain ⟨e1, e2, e3⟩ : g.f = h.f ∧ g.t = h.t ∧ g.ys = h.ys := by simpa [bare] using hbr
      have hb2 := hb.nu hK.out
      have hl2 := own_keep hl (w' := wr) (fun i hi => hK.out.block i (own_lt hl hi) (fun h => h))
      obtain ⟨r1, c1, hv1, x0, x1, x2⟩ := row_at94 hb2.own hg
      obtain ⟨r2, c2, hv2, y0, y1, y2⟩ := row_at hl2 hh
      rw [HU.out] at hv1
      rw [HUL.out] at hv2
      simp only [Value.slice.injEq] at hv1 hv2
      obtain ⟨p1, q1, s1⟩ := hv1
      obtain ⟨p2, q2, s2⟩ := hv2
      have hD := (ht.dat h (List.mem_of_getElem? hh)).nu hK.out
      obtain ⟨dg1, dg2, dg3, dg4, dg5, dg6⟩ := hb2.dat g (List.mem_of_getElem? hg)
      obtain ⟨ag, cg, eg⟩ := dg1.slice
      obtain ⟨ah, ch, eh⟩ := (Rd.of_own hD.own).slice
      have IS : ∀ W, Kp Nu wr W → Calls Try.prog 54 #[.agg #[.int .u8 g.f, .int .u8 g.t, g.d], .agg #[.int .u8 g.f, .int .u8 g.t, h.d]] W fun e w' => e = .returned (.bool true) ∧ Kp Nu wr w' := fun W kW => by
        refine (is_true W g.f g.t dg3 dg4 dg5 dg6 g.d h.d g.ys (dg1.nu kW) ?_ dg2).mono (fun e w' hx => ⟨hx.1, kW.andNu hx.2⟩)
        rw [e3]
        exact Rd.of_own (hD.nu kW).own
      have HSS : ∀ W, Kp Nu wr W → (W.cell? ⟨r1, k * 3, none⟩ = some (.int .u8 g.f) ∧ W.cell? ⟨r1, k * 3 + 1, none⟩ = some (.int .u8 g.t) ∧ W.cell? ⟨r1, k * 3 + 2, none⟩ = some g.d) ∧ (W.cell? ⟨r2, k * 3, none⟩ = some (.int .u8 g.f) ∧ W.cell? ⟨r2, k * 3 + 1, none⟩ = some (.int .u8 g.t) ∧ W.cell? ⟨r2, k * 3 + 2, none⟩ = some h.d) := fun W kW => by
        rw [e1, e2]
        rw [e1] at x0
        rw [e2] at x1
        exact ⟨⟨cell_below x0 (Nat.le_refl _) kW.toBelow, cell_below x1 (Nat.le_refl _) kW.toBelow, cell_below x2 (Nat.le_refl _) kW.toBelow⟩, cell_below y0 (Nat.le_refl _) kW.toBelow, cell_below y1 (Nat.le_refl _) kW.toBelow, cell_below y2 (Nat.le_refl _) kW.toBelow⟩
      rw [← e1] at y0
      rw [← e2] at y1
      rw [eg] at x2 IS HSS
      rw [eh] at y2 IS HSS
      have hltI : (k : Int) < (N : Int) := by omega
      have hk0 : (0 : Int) ≤ (k : Int) := by omega
      generalize g.ys.length = N1 at *
      generalize h.ys.length = N2 at *
      clear q1 s1 q2 s2 hD dg1 dg2 dg3 dg4 dg5 dg6 eg eh e1 e2 e3 hbr hb2 hl2 hl ht hb hs hlen hN hg hh hkM hkl
      subst p1 p2
      clear x0 x1 x2 y0 y1 y2
      go_wp2_with fail
      go_region_held (fun W => (W.cell? ⟨r1, k * 3, none⟩ = some (.int .u8 g.f) ∧ W.cell? ⟨r1, k * 3 + 1, none⟩ = some (.int .u8 g.t) ∧ W.cell? ⟨r1, k * 3 + 2, none⟩ = some (.slice ag N1 cg)) ∧ (W.cell? ⟨r2, k * 3, none⟩ = some (.int .u8 g.f) ∧ W.cell? ⟨r2, k * 3 + 1, none⟩ = some (.int .u8 g.t) ∧ W.cell? ⟨r2, k * 3 + 2, none⟩ = some (.slice ah N2 ch))) (first | (refine HSS _ ?_; repeat (first | assumption | exact Kp.refl _ _ | apply Kp.andAlloc | apply Kp.drew)))
        (first | (go_at_call 54; refine (IS _ ?_).mono ?_; (repeat (first | assumption | exact Kp.refl _ _ | apply Kp.andAlloc | apply Kp.drew)); rintro e w9 ⟨rfl, hk9⟩))
      go_wp2
      exact ⟨⟨k + 1, by omega, by go_num, hK.out.andNu hk9⟩, by simp [intOf]; omega⟩
    · have hge : ¬ (k : Int) < (N : Int) := by omega
      go_wp2
      go_ret
      exact ⟨rfl, hK.out⟩
end Go.Proofs.Ythajboipnjjgfaa.Ly
