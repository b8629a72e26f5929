import Derived.Test.YtchealdgncgjoaaMpBI
import Derived.Test.YtchealdgncgjoaaMpCI
namespace Go.Proofs.Ytchealdgncgjoaa.StI
open Go.RowKit Go.Proofs.Ytchealdgncgjoaa.St
set_option linter.unusedVariables false

theorem lt_meas {k h : Nat} {x : Int} (hx : x = ((k + 1 : Nat) : Int)) (hm : h - (k + 1) < h - k) : h - (intOf (.int .i64 x)).toNat < h - (intOf (.int .i64 (k : Int))).toNat := by subst hx; exact hm
theorem pow_mono {k h : Nat} (hk : k ≤ h) : 2 ^ k ≤ 2 ^ h := Nat.pow_le_pow_right (by omega) hk
set_option maxRecDepth 100000 in
set_option maxHeartbeats 1000000 in
theorem bounded_any (w : World) (n h : Nat) (hn : n ≤ 4000) (h1 : n < 2 ^ h) (h2 : 2 ^ h ≤ (n + 1) * (n + 1)) :
    Calls Try.prog 20 #[.int .i64 (n : Int), .int .i64 (h : Int)] w fun e w' => e = .returned (.bool true) ∧ w' = w := by
  have hq : (n + 1) * (n + 1) ≤ 4001 * 4001 := Nat.mul_le_mul (by omega) (by omega)
  have hh : h < 2 ^ h := Nat.lt_two_pow_self
  have PM : Hid (∀ k, k ≤ h → 2 ^ k ≤ 2 ^ h) := fun k hk => pow_mono hk
  obtain ⟨q, hqe⟩ : ∃ q : Nat, (n + 1) * (n + 1) = q := ⟨_, rfl⟩
  have hqI : ((n : Int) + 1) * ((n : Int) + 1) = (q : Int) := by rw [← hqe]; simp
  rw [hqe] at hq h2
  obtain ⟨B, hB⟩ : ∃ B : Nat, 2 ^ h = B := ⟨_, rfl⟩
  have HBE : Hid (2 ^ h = B) := hB
  rw [hB] at h1 h2 hh
  have H0 : Hid (n ≤ 4000 ∧ n < B ∧ B ≤ q ∧ q ≤ 16008001 ∧ h < B ∧ ((n : Int) + 1) * ((n : Int) + 1) = (q : Int)) := ⟨hn, h1, h2, by omega, hh, hqI⟩
  clear hn h1 h2 hq hh hqe hqI hB
  go_enter Try.func20, Try.ntmps20
  go_wp2_with fail
  go_loopw [5, 6] (fun p i wr => ∃ k P : Nat, k ≤ h ∧ p = .int .i64 (P : Int) ∧ i = .int .i64 (k : Int) ∧ wr = w ∧ Hid (P = 2 ^ k)) (fun p i _ => h - (intOf i).toNat)
  case atStart => exact ⟨0, 1, Nat.zero_le _, rfl, rfl, rfl, rfl⟩
  case round =>
    obtain ⟨k, P, hk, rfl, rfl, hw, hP⟩ := hrel
    subst hw
    obtain ⟨a1, a2, a3, a4, a5, a7⟩ := H0.out
    have a6 : P ≤ B := by
      have := PM.out k hk
      rw [HBE.out, ← hP.out] at this; exact this
    by_cases hlt : k < h
    · have p1 : (P : Int) ≤ 1099511627776 := by omega
      have p2 : wrap64 (2 * (P : Int)) = ((2 * P : Nat) : Int) := by unfold wrap64; omega
      have p3 : wrap64 ((k : Int) + 1) = ((k + 1 : Nat) : Int) := by unfold wrap64; omega
      have hltI : (k : Int) < (h : Int) := by omega
      have HE : Hid (2 * P = 2 ^ (k + 1)) := by
        have := hP.out
        show 2 * P = 2 ^ (k + 1)
        rw [this, Nat.pow_succ]; omega
      have HM : Hid (k + 1 ≤ h ∧ h - (k + 1) < h - k) := ⟨by omega, by omega⟩
      have HA : Hid (wrap64 (2 * (P : Int)) = ((2 * P : Nat) : Int) ∧ wrap64 ((k : Int) + 1) = ((k + 1 : Nat) : Int)) := ⟨p2, p3⟩
      clear a1 a2 a3 a4 a5 a6 a7 hk hP hlt H0 PM HBE p2 p3
      obtain ⟨p, hp⟩ : ∃ p : Int, (P : Int) = p := ⟨_, rfl⟩
      have HPP : Hid ((P : Int) = p) := hp
      rw [hp] at p1 ⊢
      have HA1 : Hid (wrap64 (2 * p) = ((2 * P : Nat) : Int)) := by rw [← hp]; exact HA.out.1
      clear hp
      have p1' : decide (p ≤ 1099511627776) = true := decide_eq_true p1
      clear p1
      go_wp2_with fail
      exact ⟨⟨k + 1, 2 * P, HM.out.1, congrArg (Value.int .i64) HA1.out, congrArg (Value.int .i64) HA.out.2, trivial, HE.out⟩, lt_meas HA.out.2 HM.out.2⟩
    · obtain rfl : k = h := by omega
      have hPB : P = B := hP.out.trans HBE.out
      subst hPB
      have b3 : wrap64 (((n : Int) + 1) * ((n : Int) + 1)) = (q : Int) := by rw [a7]; unfold wrap64; omega
      have b4 : wrap64 ((n : Int) + 1) = (n : Int) + 1 := by unfold wrap64; omega
      have b5 : (n : Int) < (P : Int) := by omega
      have b2 : (P : Int) ≤ (q : Int) := by omega
      clear a1 a2 a3 a4 a5 a6 a7 hk H0 hlt hP PM HBE
      generalize (P : Int) = p at *
      generalize (q : Int) = z at *
      have hge : ¬ (k : Int) < (k : Int) := by omega
      have hk0 : (0 : Int) ≤ (k : Int) := by omega
      go_wp2_with fail
      go_ret
      exact ⟨by first | rfl | simp [*], rfl⟩
end Go.Proofs.Ytchealdgncgjoaa.StI
