import Derived.Test.YtbifmcadllilhaaPnD
namespace Go.Proofs.Ytbifmcadllilhaa.Pn
open Go.RowKit
set_option linter.unusedVariables false
theorem fz : (FloatKind.f64.format.order 0 0 == some Ordering.eq) = true := by decide +kernel
theorem fone : (FloatKind.f64.format.order 4607182418800017408 4607182418800017408 == some Ordering.eq) = true := by decide +kernel
theorem qone : floatBits .quo .f64 (floatOfInt .f64 1) (floatOfInt .f64 1) = some 4607182418800017408 := by decide +kernel
set_option maxRecDepth 100000 in
set_option maxHeartbeats 1000000 in
theorem skews_walk (w : World) (va : Option Addr) (vc : Nat) (o : List Int) (hO : Ns w (.slice va o.length vc) o) (hnil : va = none → vc = 0) (hN : o.length * 8 ≤ 140737488351232) :
    Calls Try.prog 3 #[.slice va o.length vc] w fun e w' => e = .returned (.bool true) ∧ Kp Nu w w' := by
  obtain ⟨N, eN⟩ : ∃ N, o.length = N := ⟨_, rfl⟩
  have HL := hide (And.intro hO (And.intro hnil (And.intro hN eN)))
  rw [eN] at ⊢
  clear hO hnil hN eN
  go_enter Try.func3, Try.ntmps3
  go_wp2_with (at_builtin; refine unhid ?_)
  refine append_ns rfl _ _ rfl w.heap.size va vc o HL.out.2.2.1 rfl (by rw [HL.out.2.2.2]; rfl) HL.out.1 HL.out.2.1 (Nat.le_refl _) ?_
  intro oa oc w1 hown hk1
  have hns : Ns w1 (.slice oa o.length oc) o := Ns.of_own hown
  have SK := skew9 w1 _ o (HL.out.1.nu hk1) (by have := HL.out.2.2.1; omega)
  have RK := skew10 w1 _ o hns (by have := HL.out.2.2.1; omega)
  have SA := same11 w1 _ _ o (HL.out.1.nu hk1) hns (by have := HL.out.2.2.1; omega)
  rw [HL.out.2.2.2] at SK RK SA ⊢
  have HK := hide hk1
  clear hown hk1 hns
  go_wp2_with fail
  refine SK.mono ?_; rintro e w2 ⟨hs, hw⟩
  obtain rfl := hw
  have HS := hide hs
  clear SK hs
  rcases HS.out with ⟨hm, rfl⟩ | ⟨hm, h0, rfl⟩ | ⟨hm, h0, m, r, hmx, hr, hrr, rfl⟩
  · have HM := hide hm
    clear hm HS
    go_wp2_with fail
    refine RK.mono ?_; rintro e w3 ⟨hs, hw⟩
    obtain rfl := hw
    rcases hs with ⟨hm, rfl⟩ | ⟨hm, _⟩ | ⟨hm, _⟩
    rotate_left
    · exact absurd hm HM.out
    · exact absurd hm HM.out
    clear RK hm
    go_wp2_with fail
    refine SA.mono ?_; rintro e w4 ⟨rfl, hk4⟩
    have HK4 := hide (HK.out.andNu hk4)
    have NU := num12 w4 150
    have z := fz
    clear SA hk4
    go_wp2_with fail
    refine NU.mono ?_; rintro e w5 ⟨rfl, hw⟩
    obtain rfl := hw
    clear NU
    go_wp2
    go_ret
    exact ⟨rfl, HK4.out⟩
  · have HM := hide (And.intro hm h0)
    clear hm h0 HS
    go_wp2_with fail
    refine RK.mono ?_; rintro e w3 ⟨hs, hw⟩
    obtain rfl := hw
    rcases hs with ⟨hm, _⟩ | ⟨hm, _, rfl⟩ | ⟨hm, h1, _⟩
    · exact absurd HM.out.1 hm
    rotate_left
    · have := HM.out.2; omega
    clear RK hm
    go_wp2_with fail
    refine SA.mono ?_; rintro e w4 ⟨rfl, hk4⟩
    have HK4 := hide (HK.out.andNu hk4)
    have NU := num12 w4 0
    have z := fone
    have hq : ∀ W, (binOp .quo 23 (.float .f64 (floatOfInt .f64 1)) (.float .f64 (floatOfInt .f64 1))).run Try.prog W = .ok (.float .f64 4607182418800017408) W := fun W => run_float_arith W _ _ _ _ _ _ qone
    clear SA hk4
    go_wp2_with fail
    refine NU.mono ?_; rintro e w5 ⟨rfl, hw⟩
    obtain rfl := hw
    clear NU
    go_wp2
    go_ret
    exact ⟨rfl, HK4.out⟩
  · have HM := hide (And.intro hm (And.intro h0 (And.intro hmx (And.intro hr hrr))))
    clear hm h0 HS hmx hr hrr
    go_wp2_with fail
    refine RK.mono ?_; rintro e w3 ⟨hs, hw⟩
    obtain rfl := hw
    rcases hs with ⟨hm, _⟩ | ⟨hm, h1, _⟩ | ⟨hm, h1, m', hmx, rfl⟩
    · exact absurd HM.out.1 hm
    · have := HM.out.2.1; omega
    obtain rfl := HM.out.2.2.1.unique hmx
    clear RK hm h1 hmx
    rw [HL.out.2.2.2]
    have hr := HM.out.2.2.2.1
    rw [HL.out.2.2.2] at hr
    obtain ⟨S, eS⟩ : ∃ S, o.sum = S := ⟨_, rfl⟩
    rw [eS] at hr ⊢
    clear eS
    go_wp2_with fail
    refine SA.mono ?_; rintro e w4 ⟨rfl, hk4⟩
    have HK4 := hide (HK.out.andNu hk4)
    have NU := num12 w4 0
    have z : (FloatKind.f64.format.order r r == some Ordering.eq) = true := by rw [HM.out.2.2.2.2]; rfl
    have hq : ∀ W, (binOp .quo 23 (.float .f64 (floatOfInt .f64 (m * (N : Int)))) (.float .f64 (floatOfInt .f64 S))).run Try.prog W = .ok (.float .f64 r) W := fun W => run_float_arith W _ _ _ _ _ _ hr
    clear SA hk4 hr
    go_wp2_with fail
    refine NU.mono ?_; rintro e w5 ⟨rfl, hw⟩
    obtain rfl := hw
    clear NU
    go_wp2
    go_ret
    exact ⟨rfl, HK4.out⟩
end Go.Proofs.Ytbifmcadllilhaa.Pn
