import Derived.Test.YtgaehpdlljlliaaCrC
namespace Go.Proofs.Ytgaehpdlljlliaa.Cd
open Go.RowKit
set_option linter.unusedVariables false

set_option maxHeartbeats 1000000 in
theorem kept_any {w : World} {H : Nat} {u v : Value} {xs : List Int} (h : Rd w u xs) (hd : Hd w H u v xs) (hb : xs.length ≤ 140737488355320) :
    Calls Try.prog 20 #[v, u] w fun e w' => e = .returned (.bool true) ∧ Kp Nu w w' := by
  rcases hd with ⟨rfl, rfl, rfl⟩ | ⟨⟨a, n, cap, rfl⟩, rfl, hg⟩
  · have hnil := isNil
    go_enter Try.func20, Try.ntmps20
    go_wp2
    go_ret
    exact ⟨rfl, Kp.refl _ _⟩
  · rcases h with ⟨e, _⟩ | ⟨a', cap', e, hc⟩
    · cases e
    cases e
    have HC : Hid (∀ j (hj : j < xs.length), ∃ ab ao, a = ⟨ab, ao, none⟩ ∧ ab < w.heap.size ∧ w.cell? ⟨ab, ao + j, none⟩ = some (.int .u8 xs[j])) := fun j hj => addr_of hc hj
    have HX : Hid (∀ j (hj : j < xs.length), w.cell? ⟨H, j, none⟩ = some (.int .u8 xs[j])) := by
      intro j hj
      simp [World.cell?, hg, cs, hj, List.getElem?_append_left]
    have HM : Hid (∀ j, ¬ j < xs.length → j < xs.length + 8 → w.cell? ⟨H, j, none⟩ = some (.int .u8 173)) := by
      intro j hj hj2
      have e : (cs (xs ++ marks))[j]? = some (.int .u8 173) := by
        simp only [cs, List.getElem?_map, marks]
        rw [List.getElem?_append_right (by omega), List.getElem?_replicate, if_pos (by omega)]
        rfl
      simp [World.cell?, hg, e]
    have HBB := hide hb
    clear hb hc hg
    obtain ⟨n, hn⟩ : ∃ n, xs.length = n := ⟨_, rfl⟩
    have HN := hide hn
    rw [hn]
    have hnI : (n : Int) ≤ 140737488355320 := by have := HBB.out; omega
    clear hn
    have hnil := notNil a n cap
    go_enter Try.func20, Try.ntmps20
    go_wp2
    go_loopw [6] (fun i wr => ∃ (j q : Nat), j ≤ n + 8 ∧ i = .int .i64 j ∧ wr = w.drewN q) (fun i _ => n + 8 - (intOf i).toNat)
    case atStart => exact ⟨0, 0, by omega, rfl, rfl⟩
    case round =>
      obtain ⟨j, q, hj, rfl, rfl⟩ := hrel
      by_cases hlt : j < n + 8
      · have hltI : (j : Int) < (n : Int) + 8 := by omega
        have hj0 : (0 : Int) ≤ (j : Int) := by omega
        by_cases hjn : j < n
        · obtain ⟨ab, ao, rfl, hab, hxc⟩ := HC.out j (by rw [HN.out]; exact hjn)
          have hh := HX.out j (by rw [HN.out]; exact hjn)
          have hjI : decide ((j : Int) < (n : Int)) = true := by simp; omega
          have hjI3 : decide ((n : Int) ≤ (j : Int)) = false := by simp; omega
          have hjI4 : decide (n ≤ j) = false := by simp; omega
          generalize (xs[j]'(by rw [HN.out]; exact hjn)) = z at *
          have hzz : (z != z) = false := by simp
          have hjn2 : (j : Int) < (n : Int) := by omega
          clear HC HX HM hab
          go_wp2
          go_quiet (fail)
          go_wp2
          exact ⟨⟨j + 1, _, by omega, by go_num, rfl⟩, by simp [intOf]; omega⟩
        · have hh := HM.out j (by rw [HN.out]; exact hjn) (by rw [HN.out]; exact hlt)
          have hjI : decide ((j : Int) < (n : Int)) = false := by simp; omega
          have hjI3 : decide ((n : Int) ≤ (j : Int)) = true := by simp; omega
          have hjn2 : ¬ (j : Int) < (n : Int) := by omega
          have hzz : ((173 : Int) != 173) = false := by decide
          clear HC HX HM
          go_wp2
          go_quiet (fail)
          go_wp2
          exact ⟨⟨j + 1, _, by omega, by go_num, rfl⟩, by simp [intOf]; omega⟩
      · have hgej : decide ((j : Int) < (n : Int) + 8) = false := by simp; omega
        go_wp2
        go_ret
        exact ⟨rfl, kp_drewN _ _⟩
end Go.Proofs.Ytgaehpdlljlliaa.Cd
