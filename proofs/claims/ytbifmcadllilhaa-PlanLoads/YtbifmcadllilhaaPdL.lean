import Derived.Test.YtbifmcadllilhaaPdK
namespace Go.Proofs.Ytbifmcadllilhaa.Rg
open Go.RowKit Go.Shelf Go.Sort
open Go.Proofs.Ytbifmcadllilhaa.It
set_option linter.unusedVariables false
theorem ns_nil (w : World) : Pn.Ns w (.slice none 0 0) [] := ⟨none, 0, rfl, Nat.le_refl _, fun j x hx => by simp at hx⟩
/-- two answers of one question -/
theorem lor_two {w w1 w2 w3 : World} {n : Int} {M : List Sg} {ks : List Int} {v v' : Value} {c c' : Int} (h : LoR w w1 n M ks v c) (h' : LoR w2 w3 n M ks v' c') : c = c' ∧ ∃ o : List Int, o.length ≤ 16 ∧ Pn.Ns w1 v o ∧ Pn.Ns w3 v' o := by
  rcases h with ⟨a1, rfl, rfl⟩ | ⟨a1, a2, rfl, rfl⟩ | ⟨a1, a2, rfl, N, rfl, a3⟩
  · rcases h' with ⟨b1, rfl, rfl⟩ | ⟨b1, _⟩ | ⟨b1, _⟩
    · exact ⟨rfl, [], by simp, ns_nil _, ns_nil _⟩
    · exact absurd b1 a1
    · exact absurd b1 a1
  · rcases h' with ⟨b1, _⟩ | ⟨b1, b2, rfl, rfl⟩ | ⟨b1, b2, _⟩
    · exact absurd a1 b1
    · exact ⟨rfl, [], by simp, ns_nil _, ns_nil _⟩
    · exact absurd b2 a2
  · rcases h' with ⟨b1, _⟩ | ⟨b1, b2, _⟩ | ⟨b1, b2, rfl, N', e, b3⟩
    · exact absurd a1 b1
    · exact absurd a2 b2
    · have e2 : N = N' := by omega
      subst e2
      have hl := Pn.lds_len N (ks.map (ow (lays [] M)))
      generalize Pn.lds N (ks.map (ow (lays [] M))) = o at *
      refine ⟨rfl, o, by omega, ?_, ?_⟩
      · rw [← hl] at a3; exact Pn.Ns.of_own a3
      · rw [← hl] at b3; exact Pn.Ns.of_own b3
set_option maxRecDepth 100000 in
set_option maxHeartbeats 2000000 in
theorem loads_walk (w : World) (n : Int) (ad : Option Addr) (cap : Nat) (M : List Sg) (a1 : Option Addr) (c1 : Nat) (ks : List Int) (hM : Sgs w (.slice ad M.length cap) M) (hnM : ad = none → cap = 0) (hlen : (M.length : Int) ≤ 5864062014634) (hk : Us w (.slice a1 ks.length c1) ks) (hnk : a1 = none → c1 = 0) (hkl : ks.length * 8 ≤ 140737488351232) (hkr : ∀ x ∈ ks, 0 ≤ x ∧ x < 18446744073709551616) :
    Calls Try.prog 6 #[.int .i64 n, .slice ad M.length cap, .slice a1 ks.length c1] w fun e w' => e = .returned (.bool true) ∧ Kp Nu w w' := by
  have L1 : ∀ W, Kp Nu w W → Calls Try.prog 19 #[.int .i64 n, .slice ad M.length cap, .slice a1 ks.length c1] W fun e w' => ∃ v c, e = .returned (.tuple #[v, .int .i64 c]) ∧ LoR W w' n M ks v c ∧ Kp Nu W w' := fun W kk => loads19 W n _ _ M ks (hM.nu kk) hlen (hk.nu kk) hkl hkr (fun m c e => by cases e; exact hnk rfl)
  have hMl : M.length ≤ 5864062014634 := by omega
  have HH := hide (And.intro hM (And.intro hk (And.intro hkl (And.intro hkr (And.intro hlen (And.intro hnM (And.intro hnk (And.intro hMl L1))))))))
  clear hM hk hkl hkr hlen hnM hnk hMl L1
  go_enter Try.func6, Try.ntmps6
  go_wp2_with (first
    | (at_builtin; refine append_sg rfl _ _ rfl w.heap.size ad cap M HH.out.2.2.2.2.2.2.2.1 rfl rfl HH.out.1 HH.out.2.2.2.2.2.1 (Nat.le_refl _) ?_; intro oa oc wA hA1 hA2; have HA := hide (And.intro hA1 hA2); clear hA1 hA2)
    | (at_builtin; refine append_us rfl _ _ rfl wA.heap.size a1 c1 ks HH.out.2.2.1 rfl rfl (HH.out.2.1.nu HA.out.2) HH.out.2.2.2.2.2.2.1 (Nat.le_refl _) ?_; intro ob od wB hB1 hB2; have HB := hide (And.intro hB1 hB2); clear hB1 hB2))
  have kB := HA.out.2.andNu HB.out.2
  refine (HH.out.2.2.2.2.2.2.2.2 wB kB).mono ?_
  rintro e w1 ⟨v, c, rfl, hL1, hk1⟩
  have hs := Sgs.of_own HA.out.1 HH.out.1.sgb
  have hs1 := (hs.nu HB.out.2).nu hk1
  have hu1 := (Us.of_own HB.out.1).nu hk1
  have L2 := loads20 w1 n _ _ M ks hs1 HH.out.2.2.2.2.1 hu1 HH.out.2.2.1 HH.out.2.2.2.1
  have H1 := hide (And.intro hL1 (And.intro (kB.andNu hk1) (And.intro hs1 hu1)))
  clear kB hL1 hk1 hs hs1 hu1
  go_wp2_with fail
  refine L2.mono ?_
  rintro e w2 ⟨v', c', rfl, hL2, hk2⟩
  obtain ⟨hc, o, ho, n1, n2⟩ := lor_two H1.out.1 hL2
  subst hc
  have S1 := Pn.same11 w2 v v' o (n1.nu hk2.toPn) n2 (by omega)
  have H2 := hide (And.intro (H1.out.2.1.andNu hk2) hk2)
  clear L2 hL2 hk2 ho n1 n2
  go_wp2_with fail
  refine S1.mono ?_
  rintro e w3 ⟨rfl, hk3⟩
  have k03 := H2.out.1.andNu (Kp.ofPn hk3)
  have k13 := H2.out.2.andNu (Kp.ofPn hk3)
  have S2 := sameSegments17 w3 _ _ M (HH.out.1.nu k03) (H1.out.2.2.1.nu k13) HH.out.2.2.2.2.2.2.2.1
  have H3 := hide (And.intro k03 k13)
  clear S1 hk3 k03 k13
  go_wp2_with fail
  refine S2.mono ?_
  rintro e w4 ⟨rfl, hk4⟩
  have S3 := same21 w4 _ _ ks ((HH.out.2.1.nu H3.out.1).nu hk4) ((H1.out.2.2.2.nu H3.out.2).nu hk4) (by have := HH.out.2.2.1; omega)
  have H4 := hide (H3.out.1.andNu hk4)
  clear S2 hk4
  go_wp2_with fail
  refine S3.mono ?_
  rintro e w5 ⟨rfl, hk5⟩
  have NU := Pn.num12 w5 c
  have H5 := hide (H4.out.andNu hk5)
  have hcc : (c == c) = true := by simp
  clear S3 hk5
  go_wp2_with fail
  refine NU.mono ?_; rintro e w6 ⟨rfl, hw⟩
  obtain rfl := hw
  clear NU
  go_wp2
  go_ret
  exact ⟨rfl, H5.out⟩
end Go.Proofs.Ytbifmcadllilhaa.Rg
