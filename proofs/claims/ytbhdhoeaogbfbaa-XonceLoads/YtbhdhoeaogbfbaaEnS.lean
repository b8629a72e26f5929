import Derived.Test.YtbhdhoeaogbfbaaEnA
import Derived.RegionTactic
import Derived.ChangeAlike
import Derived.BigQuiet
import Derived.Deep.QuietTactic
import Derived.OwnWalk
namespace Go.Proofs.Ytbhdhoeaogbfbaa.Xo
open Go.RowKit
set_option linter.unusedVariables false

theorem kp_drewN (w : World) (n : Nat) : Kp Nu w (w.drewN n) := ⟨rfl, rfl, rfl, Nat.le_refl _, fun _ _ _ => rfl⟩

theorem take_succ_eq {xs ys : List Int} {k : Nat} (h1 : k < xs.length) (h2 : k < ys.length) (h : xs.take k = ys.take k) (e : xs[k] = ys[k]) : xs.take (k + 1) = ys.take (k + 1) := by
  rw [List.take_add_one, List.take_add_one, h, List.getElem?_eq_getElem h1, List.getElem?_eq_getElem h2, e]

set_option maxHeartbeats 400000 in
theorem same_any {w : World} {u v : Value} {xs ys : List Int} (h : Rd w u xs) (k : Rd w v ys) (hb : xs.length ≤ 140737488355328) :
    Calls Try.prog 24 #[u, v] w fun e w' => e = .returned (.bool (decide (xs = ys))) ∧ Kp Nu w w' := by
  by_cases hl : xs.length = ys.length
  · by_cases h0 : xs.length = 0
    · have e1 : xs = [] := List.eq_nil_of_length_eq_zero h0
      have e2 : ys = [] := List.eq_nil_of_length_eq_zero (by omega)
      subst e1 e2
      obtain ⟨ad1, cap1, rfl⟩ := h.slice
      obtain ⟨ad2, cap2, rfl⟩ := k.slice
      rw [show decide (([] : List Int) = []) = true by decide]
      go_enter Try.func24, Try.ntmps24
      go_wp2
      go_loop [5] (fun i => i = .int .i64 0) (fun _ => 0)
      case atStart => exact rfl
      case round =>
        obtain rfl := hrel
        go_wp2
        go_ret
        exact ⟨rfl, Kp.refl _ _⟩
    · rcases h with ⟨rfl, rfl⟩ | ⟨a, cap, rfl, hc⟩
      · simp at h0
      rcases k with ⟨rfl, rfl⟩ | ⟨a2, cap2, rfl, hc2⟩
      · simp at hl h0; exact absurd hl h0
      obtain ⟨r, hr⟩ : ∃ r, decide (xs = ys) = r := ⟨_, rfl⟩
      rw [hr]
      have HR := hide hr
      clear hr
      have HC := hide hc
      have HC2 := hide hc2
      have HBB := hide hb
      clear hb
      have HL := hide hl
      rw [← hl]
      generalize hn : xs.length = n at *
      have HN := hide hn
      clear hc hc2 hl hn
      have hnn : ((n : Int) != (n : Int)) = false := by simp
      go_enter Try.func24, Try.ntmps24
      go_wp2
      go_loopw [5] (fun i wr => ∃ (j q : Nat), j ≤ n ∧ i = .int .i64 j ∧ Hid (xs.take j = ys.take j) ∧ wr = w.drewN q) (fun i _ => n - (intOf i).toNat)
      case atStart => exact ⟨0, 0, by omega, rfl, by simp [Hid], rfl⟩
      case round =>
        obtain ⟨j, q, hj, rfl, hT, rfl⟩ := hrel
        by_cases hlt : j < n
        · have h1 : j < xs.length := by have := HN.out; omega
          have h2 : j < ys.length := by have := HN.out; have := HL.out; omega
          have hx := HC.out j (.int .u8 xs[j]) (by simp [cs, h1])
          have hy := HC2.out j (.int .u8 ys[j]) (by simp [cs, h2])
          have hltI : (j : Int) < (n : Int) := by omega
          have hj0 : (0 : Int) ≤ (j : Int) := by omega
          have hjb : (j : Int) < 140737488355328 := by have := HBB.out; omega
          by_cases he : xs[j] = ys[j]
          · have HT := hide (take_succ_eq h1 h2 hT.out he)
            rw [← he] at hy
            generalize xs[j] = z at *
            clear hT h1 h2 he
            go_wp2
            go_region
            go_wp2
            exact ⟨⟨j + 1, _, by omega, by go_num, HT.out, rfl⟩, by simp [intOf]; omega⟩
          · have hne : xs ≠ ys := by
              intro e
              subst e
              exact he rfl
            have hr : r = false := by rw [← HR.out]; simpa using hne
            subst hr
            have hb : (xs[j] != ys[j]) = true := by simpa using he
            clear hT hne he
            generalize xs[j] = z at *
            generalize ys[j] = z2 at *
            clear h1 h2
            go_wp2
            go_region
            go_wp2
            go_ret
            exact ⟨rfl, kp_drewN _ _⟩
        · have hgej : decide ((j : Int) < (n : Int)) = false := by simp; omega
          have e : xs = ys := by
            have := hT.out
            have := HN.out
            have := HL.out
            rwa [List.take_of_length_le (by omega), List.take_of_length_le (by omega)] at hT
          have hr : r = true := by rw [← HR.out]; simpa using e
          subst hr
          clear e hT
          go_wp2
          go_ret
          exact ⟨rfl, kp_drewN _ _⟩
  · have hne : xs ≠ ys := fun e => hl (by rw [e])
    rw [show decide (xs = ys) = false by simpa using hne]
    obtain ⟨ad1, cap1, rfl⟩ := h.slice
    obtain ⟨ad2, cap2, rfl⟩ := k.slice
    have hb : ((xs.length : Int) != (ys.length : Int)) = true := by simp; omega
    clear hne
    go_enter Try.func24, Try.ntmps24
    go_wp2
    go_ret
    exact ⟨rfl, Kp.refl _ _⟩
end Go.Proofs.Ytbhdhoeaogbfbaa.Xo
