import Derived.Test.YtbifmcadllilhaaPtU
namespace Go.Proofs.Ytbifmcadllilhaa.Pn
open Go.RowKit
set_option linter.unusedVariables false
/-- what Targets answers -/
def TaR (o : List Int) (w : World) (e : Ending) (w' : World) : Prop :=
  (¬ MBL o ∧ e = .returned (.tuple #[.slice none 0 0, .int .i64 150]) ∧ Kp Nu w w') ∨
  (MBL o ∧ ∃ a c, e = .returned (.tuple #[.slice a o.length c, .int .i64 0]) ∧ w'.ownsRow w.heap.size 3 1 (.slice a o.length c) o.length (ics (tgs o o.length)) ∧ Kp Nu w w')
theorem Ns.addr {w : World} {a : Option Addr} {n cap : Nat} {o : List Int} (h : Ns w (.slice a n cap) o) (hn : 1 ≤ o.length) : ∃ b, a = some b ∧ b.block < w.heap.size := by
  have h0 : 0 < o.length := by omega
  obtain ⟨x, hx⟩ : ∃ x, o[(0 : Nat)]? = some x := ⟨o[0], List.getElem?_eq_getElem h0⟩
  obtain ⟨b, hb, hc⟩ := h.at_ hx
  have := World.block_lt_of_cell? w _ hc
  rw [add_block] at this
  exact ⟨b, hb, this⟩
set_option maxRecDepth 100000 in
set_option maxHeartbeats 1000000 in
theorem targets13 (w : World) (u : Value) (o : List Int) (h : Ns w u o) (hN : o.length ≤ 140737488351232) : Calls Try.prog 13 #[u] w fun e w' => TaR o w e w' := by
  have MB := mayBe27 w u o h hN
  obtain ⟨a, cap, rfl, _, _⟩ := id h
  obtain ⟨N, eN⟩ : ∃ N, o.length = N := ⟨_, rfl⟩
  have HN := hide (And.intro h eN)
  rw [eN] at MB ⊢
  clear h hN eN
  go_enter Try.func13, Try.ntmps13
  go_wp2_with fail
  refine MB.mono ?_; rintro e w1 ⟨⟨b1, rfl, hb1⟩, hw⟩
  obtain rfl := hw
  have HB := hide hb1
  clear MB hb1
  cases b1 with
  | false =>
    go_wp2
    go_ret2
    exact .inl ⟨fun q => by have := HB.out.2 q; simp at this, rfl, Kp.refl _ _⟩
  | true =>
  have hm : MBL o := HB.out.1 (by simp)
  have hns := HN.out.1
  rw [HN.out.2] at hns
  obtain ⟨b, rfl, hb⟩ := hns.addr hm.1
  have T := targetsOf31 w1 b cap o N hns HN.out.2 hm hb
  have HM := hide hm
  clear hm hns hb
  go_wp2_with fail
  refine T.mono ?_; rintro e w2 ⟨g, rfl, hrow, hk⟩
  have HR := hide (And.intro hrow hk)
  clear T hrow hk
  go_wp2
  go_ret2
  refine .inr ⟨HM.out, some ⟨g, 0, none⟩, N, ?_, ?_, HR.out.2⟩
  · rw [HN.out.2]; rfl
  · rw [HN.out.2]; exact HR.out.1
set_option maxRecDepth 100000 in
set_option maxHeartbeats 1000000 in
theorem targets_walk (w : World) (va : Option Addr) (vc : Nat) (o : List Int) (hO : Ns w (.slice va o.length vc) o) (hnil : va = none → vc = 0) (hN : o.length * 8 ≤ 140737488351232) :
    Calls Try.prog 4 #[.slice va o.length vc] w fun e w' => e = .returned (.bool true) ∧ Kp Nu w w' := by
  obtain ⟨N, eN⟩ : ∃ N, o.length = N := ⟨_, rfl⟩
  have HL := hide (And.intro hO (And.intro hnil (And.intro hN eN)))
  rw [eN] at ⊢
  clear hO hnil hN eN
  go_enter Try.func4, Try.ntmps4
  go_wp2_with (at_builtin; refine unhid ?_)
  refine append_ns rfl _ _ rfl w.heap.size va vc o HL.out.2.2.1 rfl (by rw [HL.out.2.2.2]; rfl) HL.out.1 HL.out.2.1 (Nat.le_refl _) ?_
  intro oa oc w1 hown hk1
  have hns : Ns w1 (.slice oa o.length oc) o := Ns.of_own hown
  have TA := targets13 w1 _ o (HL.out.1.nu hk1) (by have := HL.out.2.2.1; omega)
  have RT := fun W (k : Kp Nu w1 W) => targets14 W _ o (hns.nu k) (by have := HL.out.2.2.1; omega)
  have SA := fun W (k : Kp Nu w1 W) => same11 W _ _ o (HL.out.1.nu (hk1.andNu k)) (hns.nu k) (by have := HL.out.2.2.1; omega)
  rw [HL.out.2.2.2] at TA RT SA ⊢
  have HK := hide hk1
  clear hown hk1 hns
  go_wp2_with fail
  refine TA.mono ?_; rintro e w2 hs
  have HS := hide hs
  clear TA hs
  rcases HS.out with ⟨hm, rfl, hk2⟩ | ⟨hm, a2, c2, rfl, hr2, hk2⟩
  · have RT2 := RT w2 hk2
    have HM := hide (And.intro hm hk2)
    clear hm HS hk2 RT
    go_wp2_with fail
    refine RT2.mono ?_; rintro e w3 hs
    rcases hs with ⟨hm, rfl, hk3⟩ | ⟨hm, _⟩
    rotate_left
    · exact absurd hm HM.out.1
    have k3 := HM.out.2.andNu hk3
    have S0 := fun W => same11 W (.slice none 0 0) (.slice none 0 0) [] ⟨none, 0, rfl, by simp, fun j x hx => by simp at hx⟩ ⟨none, 0, rfl, by simp, fun j x hx => by simp at hx⟩ (by simp)
    have HK3 := hide k3
    clear RT2 hm hk3 k3
    go_wp2_with fail
    refine (S0 _).mono ?_; rintro e w4 ⟨rfl, hk4⟩
    have k4 := HK3.out.andNu hk4
    have SB := SA w4 k4
    have HK4 := hide k4
    clear S0 hk4 k4 SA
    go_wp2_with fail
    refine SB.mono ?_; rintro e w5 ⟨rfl, hk5⟩
    have HK5 := hide (HK.out.andNu (HK4.out.andNu hk5))
    have NU := num12 w5 150
    clear SB hk5
    go_wp2_with fail
    refine NU.mono ?_; rintro e w6 ⟨rfl, hw⟩
    obtain rfl := hw
    clear NU
    go_wp2
    go_ret
    exact ⟨rfl, HK5.out⟩
  · have RT2 := RT w2 hk2
    have HM := hide (And.intro hm (And.intro hk2 hr2))
    clear hm HS hk2 RT hr2
    rw [HL.out.2.2.2]
    go_wp2_with fail
    refine RT2.mono ?_; rintro e w3 hs
    rcases hs with ⟨hm, _⟩ | ⟨hm, a3, c3, rfl, hr3, hk3⟩
    · exact absurd HM.out.1 hm
    have k3 := HM.out.2.1.andNu hk3
    have e1 : o.length = (tgs o o.length).length := (tgs_len _ _).symm
    have n2 : Ns w3 (.slice a2 o.length c2) (tgs o o.length) := by
      have q := HM.out.2.2
      rw [e1] at q ⊢
      rw [tgs_len] at q ⊢
      have q2 : w2.ownsRow w1.heap.size 3 1 (.slice a2 (tgs o o.length).length c2) (tgs o o.length).length (ics (tgs o o.length)) := by rw [tgs_len]; exact q
      have q3 := (Ns.of_own q2).nu hk3
      rw [tgs_len] at q3
      exact q3
    have n3 : Ns w3 (.slice a3 o.length c3) (tgs o o.length) := by
      have q2 : w3.ownsRow w2.heap.size 3 1 (.slice a3 (tgs o o.length).length c3) (tgs o o.length).length (ics (tgs o o.length)) := by rw [tgs_len]; exact hr3
      have q3 := Ns.of_own q2
      rw [tgs_len] at q3
      exact q3
    have S0 := same11 w3 _ _ (tgs o o.length) n2 n3 (by rw [tgs_len]; have := HL.out.2.2.1; omega)
    rw [HL.out.2.2.2] at S0 ⊢
    have HK3 := hide k3
    clear RT2 hm hk3 k3 n2 n3 hr3 e1
    go_wp2_with fail
    refine S0.mono ?_; rintro e w4 ⟨rfl, hk4⟩
    have k4 := HK3.out.andNu hk4
    have SB := SA w4 k4
    have HK4 := hide k4
    clear S0 hk4 k4 SA
    go_wp2_with fail
    refine SB.mono ?_; rintro e w5 ⟨rfl, hk5⟩
    have HK5 := hide (HK.out.andNu (HK4.out.andNu hk5))
    have NU := num12 w5 0
    clear SB hk5
    go_wp2_with fail
    refine NU.mono ?_; rintro e w6 ⟨rfl, hw⟩
    obtain rfl := hw
    clear NU
    go_wp2
    go_ret
    exact ⟨rfl, HK5.out⟩
end Go.Proofs.Ytbifmcadllilhaa.Pn
