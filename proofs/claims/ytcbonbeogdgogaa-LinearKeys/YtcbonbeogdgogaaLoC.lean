import Derived.Test.YtcbonbeogdgogaaLoB
namespace Go.Proofs.Ytcbonbeogdgogaa.Li
open Go.RowKit
set_option linter.unusedVariables false
theorem Ans.dec {p : Prop} [Decidable p] {e : Ending} (h : Ans p e) : e = .returned (.bool (decide p)) := by
  obtain ⟨b, h1, h2⟩ := h
  rw [h1]
  congr 2
  cases b
  · have : ¬ p := fun q => by have := h2.2 q; simp at this
    simp [this]
  · simp [h2.1 rfl]
/-- is it in it? -/
def inB (x : Int) (o : List Int) : Bool := decide (x ∈ o)
theorem has45d (w : World) (u : Value) (o : List Int) (x : Int) (h : Ns w u o) (hN : o.length ≤ 140737488351232) : Calls Try.prog 45 #[u, .int .i64 x] w fun e w' => e = .returned (.bool (inB x o)) ∧ w' = w :=
  (has45 w u o x h hN).mono (fun e w' h => ⟨h.1.dec, h.2⟩)
set_option maxRecDepth 100000 in
set_option maxHeartbeats 1000000 in
theorem ints_eq (w : World) (u v : Value) (o : List Int) (hu : Ns w u o) (hv : Ns w v o) (hN : o.length ≤ 140737488351232) : Calls Try.prog 21 #[u, v] w fun e w' => e = .returned (.bool true) ∧ Kp Nu w w' := by
  obtain ⟨a1, c1, rfl, _, _⟩ := id hu
  obtain ⟨a2, c2, rfl, _, _⟩ := id hv
  obtain ⟨N, eN⟩ : ∃ N, o.length = N := ⟨_, rfl⟩
  have HU := hide (And.intro hu (And.intro hv eN))
  rw [eN] at hN ⊢
  have hNI : (N : Int) ≤ 140737488351232 := by omega
  have hnn : ((N : Int) != (N : Int)) = false := by simp
  clear hu hv eN hN
  go_enter Try.func21, Try.ntmps21
  go_wp2
  go_loopw [5] (fun iv wr => ∃ i : Nat, iv = .int .i64 (i : Int) ∧ i ≤ N ∧ Hid (Kp Nu w wr)) (fun iv _ => N - (intOf iv).toNat)
  case atStart => exact ⟨0, rfl, Nat.zero_le _, hide (Kp.refl _ _)⟩
  case round =>
    obtain ⟨i, rfl, hi, hk⟩ := hrel
    have hi0 : (0 : Int) ≤ (i : Int) := by omega
    by_cases hlt : i < N
    · have hltI : (i : Int) < (N : Int) := by omega
      obtain ⟨x, hx⟩ : ∃ x, o[i]? = some x := ⟨_, List.getElem?_eq_getElem (by rw [HU.out.2.2]; exact hlt)⟩
      obtain ⟨b1, rfl, k1⟩ := (HU.out.1.nu hk.out).at_ hx
      obtain ⟨b2, rfl, k2⟩ := (HU.out.2.1.nu hk.out).at_ hx
      have eti : (i : Int).toNat = i := by omega
      have hne : (x != x) = false := by simp
      clear hx
      go_wp2_with fail
      go_quiet (fail)
      go_wp2
      exact ⟨⟨i + 1, by go_num, by omega, hide (hk.out.andNu (kp_dn _ _))⟩, by simp [intOf]; omega⟩
    · have hge : ¬ (i : Int) < (N : Int) := by omega
      go_wp2
      go_ret
      exact ⟨rfl, hk.out⟩
set_option maxRecDepth 100000 in
set_option maxHeartbeats 4000000 in
theorem listed42 (w : World) (u v : Value) (L : List Ca) (o : List Int) (hL : Cls w u L) (hO : Ns w v o) (hN : L.length ≤ 140737488351232) (hM : o.length ≤ 140737488351232) :
    Calls Try.prog 42 #[u, v] w fun e w' => Ans (Lst L o o.length) e ∧ Kp Nu w w' := by
  obtain ⟨ua, uc, rfl⟩ := hL.slice
  obtain ⟨va, vc, rfl, _, _⟩ := id hO
  obtain ⟨N, eN⟩ : ∃ N, L.length = N := ⟨_, rfl⟩
  obtain ⟨M, eM⟩ : ∃ M, o.length = M := ⟨_, rfl⟩
  have HL := hide (And.intro hL (And.intro eN (And.intro hO eM)))
  rw [eN] at hN ⊢
  rw [eM] at hM ⊢
  have hNI : (N : Int) ≤ 140737488351232 := by omega
  have hMI : (M : Int) ≤ 140737488351232 := by omega
  have hcap : (M : Int) ≤ (vc : Int) := by have := hO.cap; omega
  clear hL hO eN eM hN
  go_enter Try.func42, Try.ntmps42
  go_wp2
  go_loopw [5] (fun iv wr => ∃ i : Nat, iv = .int .i64 (i : Int) ∧ i ≤ M ∧ Hid (Kp Nu w wr ∧ Lst L o i)) (fun iv _ => M - (intOf iv).toNat)
  case atStart => exact ⟨0, rfl, Nat.zero_le _, hide ⟨Kp.refl _ _, fun j x hj => by omega⟩⟩
  case round =>
    obtain ⟨i, rfl, hi, hI⟩ := hrel
    have hi0 : (0 : Int) ≤ (i : Int) := by omega
    by_cases hlt : i < M
    · have hltI : (i : Int) < (M : Int) := by omega
      obtain ⟨x, hx⟩ : ∃ x, o[i]? = some x := ⟨_, List.getElem?_eq_getElem (by rw [HL.out.2.2.2]; exact hlt)⟩
      have hOr := HL.out.2.2.1.nu hI.out.1
      obtain ⟨b, rfl, kx⟩ := hOr.at_ hx
      have eti : (i : Int).toNat = i := by omega
      have HX := hide hx
      have hic : (i : Int) ≤ (vc : Int) := by omega
      have HS := fun n => has45d (wr.drewN n) (.slice (some b) i vc) (o.take i) x ((hOr.nu (kp_dn wr n)).take (by rw [HL.out.2.2.2]; omega)) (by rw [List.length_take, HL.out.2.2.2]; omega)
      clear hx hOr
      have bad : ∀ (P : Prop), (Lst L o M → P) → ¬ P → ∀ (e : Ending) (W : World), e = .returned (.bool false) → Kp Nu w W → Ans (Lst L o M) e ∧ Kp Nu w W := fun P h1 h2 e W he hk => ⟨⟨false, he, by simp; exact fun h => h2 (h1 h)⟩, hk⟩
      by_cases h1 : x < 0
      · have d1 : decide (x < 0) = true := by simpa using h1
        have H1 := hide h1
        clear h1
        go_wp2_with fail
        go_quiet (fail)
        go_wp2
        go_ret
        exact bad (0 ≤ x) (fun h => (h i x hlt HX.out).1) (by have := H1.out; omega) _ _ rfl (hI.out.1.andNu (kp_dn _ _))
      have d1 : decide (x < 0) = false := by simpa using h1
      by_cases h2 : x ≥ (N : Int)
      · have d2 : decide (x ≥ (N : Int)) = true := by simpa using h2
        have d2' : decide ((N : Int) ≤ x) = true := by simpa using h2
        have H2 := hide (And.intro h1 h2)
        clear h1 h2
        go_wp2_with fail
        go_quiet (fail)
        go_wp2
        go_ret
        refine bad _ (fun h => (h i x hlt HX.out).2.1) ?_ _ _ rfl (hI.out.1.andNu (kp_dn _ _))
        rintro ⟨c, hc, _⟩
        have := (List.getElem?_eq_some_iff.1 hc).1
        have := HL.out.2.1
        have := H2.out
        omega
      have d2 : decide (x ≥ (N : Int)) = false := by simpa using h2
      have d2' : decide ((N : Int) ≤ x) = false := by simpa using h2
      obtain ⟨c, hc⟩ : ∃ c, L[x.toNat]? = some c := ⟨_, List.getElem?_eq_getElem (by rw [HL.out.2.1]; omega)⟩
      obtain ⟨bL, off, cap, eu, hR, ok⟩ := cls_at (HL.out.1.nu hI.out.1) hc
      rw [HL.out.2.1] at eu
      simp only [Value.slice.injEq, true_and] at eu
      obtain ⟨rfl, rfl⟩ := eu
      have r2 := (range_cells hR).2.2.1
      have HC := hide (And.intro hc (And.intro h1 h2))
      have hx0 : 0 ≤ x := by omega
      have hxN : x < (N : Int) := by omega
      clear hc hR ok h1 h2
      cases h3 : inB x (o.take i) with
      | true =>
        rw [h3] at HS
        go_wp2_with fail
        go_quiet (first | (go_at_call 45; exact Calls.quiet_of_same (HS _)))
        go_wp2
        go_ret
        exact bad _ (fun h => (h i x hlt HX.out).2.2) (by have := of_decide_eq_true h3; simpa using this) _ _ rfl (hI.out.1.andNu (kp_dn _ _))
      | false =>
        rw [h3] at HS
        have H3 := hide h3
        clear h3
        by_cases h5 : c.k = 5
        · have e5 : (c.k == 5) = true := by simpa using h5
          have H5 := hide h5
          clear h5
          go_wp2_with fail
          go_quiet (first | (go_at_call 45; exact Calls.quiet_of_same (HS _)))
          go_wp2
          go_ret
          refine bad _ (fun h => (h i x hlt HX.out).2.1) ?_ _ _ rfl (hI.out.1.andNu (kp_dn _ _))
          rintro ⟨d, hd, h⟩
          rw [HC.out.1] at hd
          cases hd
          exact h H5.out
        · have e5 : (c.k == 5) = false := by simpa using h5
          have H5 := hide h5
          clear h5 bad
          go_wp2_with fail
          go_quiet (first | (go_at_call 45; exact Calls.quiet_of_same (HS _)))
          go_wp2
          have hl := hI.out.2.step HX.out hx0 ⟨c, HC.out.1, H5.out⟩ (of_decide_eq_false H3.out)
          exact ⟨⟨i + 1, by go_num, by omega, hide ⟨hI.out.1.andNu (kp_dn _ _), hl⟩⟩, by simp [intOf]; omega⟩
    · have hge : ¬ (i : Int) < (M : Int) := by omega
      obtain rfl : i = M := by omega
      go_wp2
      go_ret
      exact ⟨⟨true, rfl, by simp; exact hI.out.2⟩, hI.out.1⟩
set_option maxRecDepth 100000 in
set_option maxHeartbeats 4000000 in
theorem whole43 (w : World) (u v : Value) (L : List Ca) (o : List Int) (hL : Cls w u L) (hO : Ns w v o) (hN : L.length ≤ 140737488351232) (hM : o.length ≤ 140737488351232) :
    Calls Try.prog 43 #[u, v] w fun e w' => Ans (Whl L o L.length) e ∧ Kp Nu w w' := by
  obtain ⟨ua, uc, rfl⟩ := hL.slice
  obtain ⟨va, vc, rfl, _, _⟩ := id hO
  obtain ⟨N, eN⟩ : ∃ N, L.length = N := ⟨_, rfl⟩
  obtain ⟨M, eM⟩ : ∃ M, o.length = M := ⟨_, rfl⟩
  have HL := hide (And.intro hL (And.intro eN (And.intro hO eM)))
  have hM' := hM
  rw [eN] at hN ⊢
  rw [eM] at hM ⊢
  have hNI : (N : Int) ≤ 140737488351232 := by omega
  have HM := hide hM'
  clear hL hO eN eM hN hM hM'
  go_enter Try.func43, Try.ntmps43
  go_wp2
  go_loopw [5] (fun iv wr => ∃ i : Nat, iv = .int .i64 (i : Int) ∧ i ≤ N ∧ Hid (Kp Nu w wr ∧ Whl L o i)) (fun iv _ => N - (intOf iv).toNat)
  case atStart => exact ⟨0, rfl, Nat.zero_le _, hide ⟨Kp.refl _ _, fun j x hj => by omega⟩⟩
  case round =>
    obtain ⟨i, rfl, hi, hI⟩ := hrel
    have hi0 : (0 : Int) ≤ (i : Int) := by omega
    by_cases hlt : i < N
    · have hltI : (i : Int) < (N : Int) := by omega
      obtain ⟨c, hc⟩ : ∃ c, L[i]? = some c := ⟨_, List.getElem?_eq_getElem (by rw [HL.out.2.1]; exact hlt)⟩
      obtain ⟨b, off, cap, eu, hR, ok⟩ := cls_at (HL.out.1.nu hI.out.1) hc
      rw [HL.out.2.1] at eu
      simp only [Value.slice.injEq, true_and] at eu
      obtain ⟨rfl, rfl⟩ := eu
      obtain ⟨r0, r1, r2, r3, r4, r5, r6, r7, r8, r9, r10, r11, r12⟩ := range_cells hR
      have KN := known50 wr c.who c.seq c.k c.key c.hi c.lim c.st c.beg c.en c.has c.va c.oa c.ya c.V.length c.vc c.O.length c.oc c.Y.length c.yc
      have HC := hide (And.intro hc hR)
      clear hR ok hc
      go_wp2_with fail
      refine KN.mono ?_; rintro e w1 ⟨rfl, hk1⟩
      have s2 := (range_cells (rangeAt_nu HC.out.2 hk1)).2.2.1
      have kw1 := hI.out.1.andNu hk1
      have HS := has45d w1 _ o (i : Int) (HL.out.2.2.1.nu kw1) HM.out
      rw [HL.out.2.2.2] at HS
      have HK := hide kw1
      clear KN hk1 kw1 r0 r1 r2 r3 r4 r5 r6 r7 r8 r9 r10 r11 r12
      have good : (¬ c.en = -1 → ¬ c.k = 5 → (i : Int) ∈ o) → Whl L o (i + 1) := fun h j d hj hd h1 h2 => by
        by_cases e : j = i
        · subst e
          rw [HC.out.1] at hd
          cases hd
          exact h h1 h2
        · exact hI.out.2 j d (by omega) hd h1 h2
      by_cases hen : c.en = -1
      · have hn : (c.en != -1) = false := by simpa using hen
        have HE := hide hen
        clear hen HS
        go_wp2
        exact ⟨⟨i + 1, by go_num, by omega, hide ⟨HK.out, good (fun h => absurd HE.out h)⟩⟩, by simp [intOf]; omega⟩
      have hn : (c.en != -1) = true := by simpa using hen
      have HE := hide hen
      clear hen
      by_cases h5 : c.k = 5
      · have e5 : (c.k != 5) = false := by simpa using h5
        have H5 := hide h5
        clear h5 HS
        go_wp2
        exact ⟨⟨i + 1, by go_num, by omega, hide ⟨HK.out, good (fun _ h => absurd H5.out h)⟩⟩, by simp [intOf]; omega⟩
      have e5 : (c.k != 5) = true := by simpa using h5
      have H5 := hide h5
      clear h5
      cases h3 : inB (i : Int) o with
      | true =>
        rw [h3] at HS
        have H3 := hide h3
        clear h3
        go_wp2_with fail
        refine HS.mono ?_; rintro e w' ⟨rfl, hw⟩
        obtain rfl := hw.symm
        clear hw HS
        go_wp2
        exact ⟨⟨i + 1, by go_num, by omega, hide ⟨HK.out, good (fun _ _ => of_decide_eq_true H3.out)⟩⟩, by simp [intOf]; omega⟩
      | false =>
        rw [h3] at HS
        have H3 := hide h3
        clear h3
        go_wp2_with fail
        refine HS.mono ?_; rintro e w' ⟨rfl, hw⟩
        obtain rfl := hw.symm
        clear hw HS
        go_wp2
        go_ret
        refine ⟨⟨false, rfl, ?_⟩, HK.out⟩
        simp
        intro h
        exact of_decide_eq_false H3.out (h i c hlt HC.out.1 HE.out H5.out)
    · have hge : ¬ (i : Int) < (N : Int) := by omega
      obtain rfl : i = N := by omega
      go_wp2
      go_ret
      exact ⟨⟨true, rfl, by simp; exact hI.out.2⟩, hI.out.1⟩
end Go.Proofs.Ytcbonbeogdgogaa.Li
