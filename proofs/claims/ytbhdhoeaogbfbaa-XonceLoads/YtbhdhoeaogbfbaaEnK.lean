import Derived.Test.YtbhdhoeaogbfbaaEnJ
namespace Go.Proofs.Ytbhdhoeaogbfbaa.Xo
open Go.RowKit
set_option linter.unusedVariables false
section
variable {B eb pb : Nat} {w w' : World} {me qn wn : Int} {ps : List Pr}
theorem En.lt (h : En B w eb pb me qn wn ps) : B ≤ w.heap.size := Nat.le_trans h.hb (Nat.le_of_lt (blk_lt h.blk))
/-- one peer of an end has turned -/
theorem En.turn (h : En B w eb pb me qn wn ps) {k : Nat} {p p' : Pr} (hk : ps[k]? = some p) (kp : Kp (fun i => i = pb ∨ some i = p.q.ownBlock) w w') (hr : Row w' pb 123 (ps.set k p')) (hw : Pw w' B p') (hq : p'.q.ownBlock = p.q.ownBlock ∨ ∃ g, w.heap.size ≤ g ∧ p'.q.ownBlock = some g) : En B w' eb pb me qn wn (ps.set k p') := by
  have hkl : k < ps.length := (List.getElem?_eq_some_iff.1 hk).1
  have hpk := h.pw k p hk
  have eb_ok : w'.heap[eb]? = w.heap[eb]? := kp.block eb (blk_lt h.blk) (by
    rintro (e | e)
    · exact h.row.ne h.blk (by decide) e
    · obtain ⟨cur, hc⟩ := own_obj hpk.own e.symm
      rw [h.blk] at hc; cases hc)
  have other : ∀ (i : Nat) (r : Pr), i ≠ k → ps[i]? = some r → Pw w' B r := fun i r hi hri => by
    have hpr := h.pw i r hri
    refine ⟨own_keep hpr.own (fun g hg => kp.block g (own_lt hpr.own hg) ?_), fun x hx => ?_, hpr.e0, hpr.nums, hpr.a0, hpr.s1⟩
    · rintro (e | e)
      · exact own_ne h.row hpr.own (by decide) hg e
      · rcases h.sep i k r p hri hk (hg.trans e) with e2 | e2
        · exact hi e2
        · rw [hg] at e2; cases e2
    · have hp := hpr.pay x hx
      refine ⟨own_keep hp.1 (fun g hg => kp.block g (own_lt hp.1 hg) ?_), hp.2⟩
      rintro (e | e)
      · exact own_ne h.row hp.1 (by decide) hg e
      · obtain ⟨c1, h1⟩ := own_obj hp.1 hg
        obtain ⟨c2, h2⟩ := own_obj hpk.own e.symm
        rw [h1] at h2; cases h2
  have get : ∀ (i : Nat) (r : Pr), (ps.set k p')[i]? = some r → (i = k ∧ r = p') ∨ (i ≠ k ∧ ps[i]? = some r) := fun i r hi => by
    by_cases e : i = k
    · subst e
      rw [List.getElem?_set_self hkl] at hi
      exact .inl ⟨rfl, by cases hi; rfl⟩
    · rw [List.getElem?_set_ne (Ne.symm e)] at hi
      exact .inr ⟨e, hi⟩
  have key : ∀ (j : Nat) (r : Pr), j ≠ k → ps[j]? = some r → p'.q.ownBlock = r.q.ownBlock → p'.q.ownBlock = none := fun j r hj hr' e => by
    rcases hq with e1 | ⟨g, hg, e1⟩
    · rcases h.sep k j p r hk hr' (e1.symm.trans e) with e2 | e2
      · exact absurd e2.symm hj
      · rw [e1, e2]
    · rw [e1] at e
      have := own_lt (h.pw j r hr').own e.symm
      omega
  refine ⟨by rw [eb_ok, List.length_set]; exact h.blk, hr, h.hb, h.hp, fun i r hi => ?_, fun i j r s hi hj e => ?_, by rw [List.length_set]; exact h.n0, by rw [List.length_set]; exact h.n1, h.q0, h.q1, h.w0, h.w1⟩
  · rcases get i r hi with ⟨_, rfl⟩ | ⟨h1, h2⟩
    · exact hw
    · exact other i r h1 h2
  · rcases get i r hi with ⟨rfl, rfl⟩ | ⟨h1, h2⟩
    · rcases get j s hj with ⟨rfl, rfl⟩ | ⟨h3, h4⟩
      · exact .inl rfl
      · exact .inr (key j s h3 h4 e)
    · rcases get j s hj with ⟨rfl, rfl⟩ | ⟨h3, h4⟩
      · right
        rw [e]
        exact key i r h1 h2 e.symm
      · exact h.sep i j r s h2 h4 e

theorem own_ge {w : World} {B e size n : Nat} {v : Value} {xs : List Value} (h : w.ownsRow B e size v n xs) {g : Nat} (hg : v.ownBlock = some g) : B ≤ g := by
  rcases h.2 with ⟨rfl, h0⟩ | ⟨g', cap, cur, rfl, hb', _⟩
  · cases hg
  · simp [Value.ownBlock] at hg; subst hg; exact hb'
set_option maxHeartbeats 2000000 in
theorem send_ok (h : En B w eb pb me qn wn ps) (t : Nat) (p : Pr) (hk : ps[t]? = some p) (hs : (t : Int) ≠ me) (hmw : (p.qs.length : Int) < wn) (u : Value) (ys : List Int) (hu : Rd w u ys) (hua : ∀ a n c, u = .slice (some a) n c → a.block ≠ pb) (hy0 : 0 < ys.length) (hy : ys.length ≤ 3072) (s1 : p.sent < 18446744073709551615) :
    Calls Try.prog 23 #[.pointer (some ⟨eb, 0, none⟩), .int .u8 (t : Int), u] w fun e w' => ∃ v q' d, e = .returned (.tuple #[v, .int .i64 0]) ∧ Dt w' w.heap.size v t (p.sent + 1) ys ∧ En B w' eb pb me qn wn (ps.set t ⟨p.sent + 1, p.acked, q', p.qs ++ [(d, ys)], p.mask, p.dlv, p.e⟩) ∧ Kp (fun i => B ≤ i) w w' := by
  have hl : t < ps.length := (List.getElem?_eq_some_iff.1 hk).1
  have hpw := h.pw t p hk
  have MA := made_any h
  have PE := peer_any h t hl hs
  obtain ⟨adu, cpu, hue⟩ := hu.slice
  obtain ⟨ad, cap, hqs⟩ := hpw.slice
  obtain ⟨c0, c1, c2, c3, c4, c5⟩ := h.row.at hk
  rw [hqs] at c2
  have UF := unfit_any adu ys.length cpu hy0 hy w
  have FU := fun W (kW : Kp Nu w W) => full_any pb (t * 6) qn ad p.qs.length cap W (by rw [← hqs]; exact ((h.nu kW).row.at hk).2.2.1) (by have := h.w1; omega)
  have SP := fun W (kW : Kp Nu w W) => spent_any pb (t * 6) p.sent W ((h.nu kW).row.at hk).1 false (by simp; omega)
  have PU := fun W (kW : Kp Nu w W) => push_any (B := B) (wn := wn) (h.nu kW).row t p hk (hpw.nu kW) (h.nu kW).lt p.qs.length rfl hmw (by have := h.w1; have := h.q1; omega) (t : Int) u ys (hu.nu kW) hua hy0 hy s1
  have e1 := h.c1
  have e2 := h.c2
  have HH := hide h
  subst hue
  generalize hN : ys.length = N at *
  generalize hM : p.qs.length = M at *
  clear h hu hua hy0 hy s1 hpw hqs hl hs hmw hN hM c0 c1 c2 c3 c4 c5
  go_enter Try.func23, Try.ntmps23
  go_wp2_with (first | (go_at_call 50; refine MA.mono ?_; rintro e w1 ⟨rfl, hw1⟩; obtain rfl := hw1.symm; clear MA) | (go_at_call 53; refine PE.mono ?_; rintro e w2 ⟨rfl, hw2⟩; obtain rfl := hw2.symm; clear PE) | (go_at_call 54; refine UF.mono ?_; rintro e w3 ⟨rfl, hw3⟩; obtain rfl := hw3.symm; clear UF))
  go_region_law (first | (go_simp; go_at_call 55; refine (FU _ ?_).mono ?_; (repeat (first | assumption | exact Kp.refl _ _ | apply Kp.drew)); rintro e w4 ⟨rfl, hw4⟩; obtain rfl := hw4.symm))
  all_goals go_wp2_with (first | (go_at_call 56; refine (SP _ ?_).mono ?_; (repeat (first | assumption | exact Kp.refl _ _ | apply Kp.drew)); rintro e w5 ⟨rfl, hw5⟩; obtain rfl := hw5.symm))
  have kD : Kp Nu w w.drew := (Kp.refl _ _).drew
  have kDD : Kp Nu w w.drew.drew := (Kp.refl _ _).drew.drew
  go_region_law (first | (go_simp; go_at_call 57; refine (PU _ kDD).mono ?_; rintro e w6 ⟨v, q', d, rfl, hD, hr6, hw6, hk6, hq6⟩))
  all_goals go_wp2
  all_goals
    refine bodyPost_ret (v := .tuple #[v, .int .i64 0]) (by simp [results, Try.results23, go_sem]) rfl ?_
    have hE := HH.out.nu kDD
    refine ⟨v, q', d, rfl, hD, hE.turn hk hk6 hr6 hw6 hq6, ?_⟩
    refine (kDD.mono (fun _ _ e => e.elim)).trans (hk6.mono (T := fun i => B ≤ i) (fun i _ e => ?_)) (fun _ _ e => e)
    rcases e with rfl | e
    · exact hE.hp
    · exact own_ge (hE.pw t p hk).own e.symm

set_option maxHeartbeats 2000000 in
theorem send_spent (h : En B w eb pb me qn wn ps) (t : Nat) (p : Pr) (hk : ps[t]? = some p) (hs : (t : Int) ≠ me) (hmw : (p.qs.length : Int) < qn) (u : Value) (ys : List Int) (hu : Rd w u ys) (hy0 : 0 < ys.length) (hy : ys.length ≤ 3072) (s1 : p.sent = 18446744073709551615) :
    Calls Try.prog 23 #[.pointer (some ⟨eb, 0, none⟩), .int .u8 (t : Int), u] w fun e w' => e = .returned (.tuple #[.slice none 0 0, .int .i64 83]) ∧ Kp Nu w w' := by
  have hl : t < ps.length := (List.getElem?_eq_some_iff.1 hk).1
  have hpw := h.pw t p hk
  have MA := made_any h
  have PE := peer_any h t hl hs
  obtain ⟨adu, cpu, hue⟩ := hu.slice
  obtain ⟨ad, cap, hqs⟩ := hpw.slice
  obtain ⟨c0, c1, c2, c3, c4, c5⟩ := h.row.at hk
  rw [hqs] at c2
  have UF := unfit_any adu ys.length cpu hy0 hy w
  have FU := fun W (kW : Kp Nu w W) => full_any pb (t * 6) qn ad p.qs.length cap W (by rw [← hqs]; exact ((h.nu kW).row.at hk).2.2.1) (by omega)
  have SP := fun W (kW : Kp Nu w W) => spent_any pb (t * 6) p.sent W ((h.nu kW).row.at hk).1 true (by simp [s1])
  have e1 := h.c1
  have e2 := h.c2
  subst hue
  generalize hN : ys.length = N at *
  generalize hM : p.qs.length = M at *
  clear h hu hy0 hy s1 hpw hqs hl hs hmw hN hM c0 c1 c2 c3 c4 c5
  go_enter Try.func23, Try.ntmps23
  go_wp2_with (first | (go_at_call 50; refine MA.mono ?_; rintro e w1 ⟨rfl, hw1⟩; obtain rfl := hw1.symm; clear MA) | (go_at_call 53; refine PE.mono ?_; rintro e w2 ⟨rfl, hw2⟩; obtain rfl := hw2.symm; clear PE) | (go_at_call 54; refine UF.mono ?_; rintro e w3 ⟨rfl, hw3⟩; obtain rfl := hw3.symm; clear UF))
  go_region_law (first | (go_simp; go_at_call 55; refine (FU _ ?_).mono ?_; (repeat (first | assumption | exact Kp.refl _ _ | apply Kp.drew)); rintro e w4 ⟨rfl, hw4⟩; obtain rfl := hw4.symm))
  all_goals go_wp2_with (first | (go_at_call 56; refine (SP _ ?_).mono ?_; (repeat (first | assumption | exact Kp.refl _ _ | apply Kp.drew)); rintro e w5 ⟨rfl, hw5⟩; obtain rfl := hw5.symm))
  all_goals exact bodyPost_ret (v := .tuple #[.slice none 0 0, .int .i64 83]) (by simp [results, Try.results23, go_sem]) rfl ⟨rfl, by (repeat (first | assumption | exact Kp.refl _ _ | apply Kp.drew))⟩
end
end Go.Proofs.Ytbhdhoeaogbfbaa.Xo
