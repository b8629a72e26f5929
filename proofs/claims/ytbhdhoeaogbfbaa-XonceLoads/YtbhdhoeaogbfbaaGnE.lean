import Derived.Test.YtbhdhoeaogbfbaaGnD
import Derived.WalkSmall
namespace Go.Proofs.Ytbhdhoeaogbfbaa.Xo
open Go.RowKit
set_option linter.unusedVariables false
theorem bit_lt {x k : Nat} (hx : x < 2 ^ 64) (hk : k < 64) (h : (x / 2 ^ k) % 2 = 1) : k < Lib.bitLen x := by
  have h1 : x / 2 ^ k ≠ 0 := by intro e; rw [e] at h; simp at h
  have h2 : 2 ^ k ≤ x := by
    rcases Nat.lt_or_ge x (2 ^ k) with hl | hl
    · exact absurd (Nat.div_eq_of_lt hl) h1
    · exact hl
  rw [Lib.bitLen_shift k x h2 hx]
  have h3 := Lib.bitLen_half (x / 2 ^ k) h1 (Nat.lt_of_le_of_lt (Nat.div_le_self _ _) hx)
  omega
theorem top_bit : ∀ (n x : Nat), x ≤ n → x ≠ 0 → x < 2 ^ 64 → 0 < Lib.bitLen x ∧ (x / 2 ^ (Lib.bitLen x - 1)) % 2 = 1
  | 0, x, hn, h0, hx => by omega
  | n + 1, x, hn, h0, hx => by
    have hh := Lib.bitLen_half x h0 hx
    by_cases h2 : x / 2 = 0
    · have e1 : x = 1 := by omega
      subst e1
      exact ⟨by decide, by decide⟩
    · obtain ⟨p1, p2⟩ := top_bit n (x / 2) (by omega) h2 (by omega)
      refine ⟨by omega, ?_⟩
      have e : Lib.bitLen x - 1 = (Lib.bitLen (x / 2) - 1) + 1 := by omega
      rw [e, Nat.pow_succ, Nat.mul_comm, ← Nat.div_div_eq_div_mul]
      exact p2
theorem and_one (m : Int) (k : Nat) (h0 : 0 ≤ m) (h1 : m ≤ 18446744073709551615) : bits BinOp.and IntKind.u64 (m / 2 ^ k) 1 = ((m.toNat / 2 ^ k) % 2 : Nat) := by
  obtain ⟨x, rfl⟩ : ∃ x : Nat, m = (x : Int) := ⟨m.toNat, by omega⟩
  have e : ((x : Int) / 2 ^ k) = ((x / 2 ^ k : Nat) : Int) := by simp [Int.natCast_ediv]
  have hle : x / 2 ^ k ≤ x := Nat.div_le_self _ _
  rw [e, Int.toNat_natCast]
  generalize x / 2 ^ k = z at *
  rw [and_one_u64 _ (by omega) (by omega)]
  omega
set_option maxHeartbeats 1000000 in
theorem tooMuch_any (a mask s : Int) (d : Int) (h0 : 0 ≤ mask) (h1 : mask ≤ 18446744073709551615) (hd : IntKind.u64.wrap (s - a) = d) (w : World) : Calls Try.prog 102 #[.int .u64 a, .int .u64 mask, .int .u64 s] w fun e w' => e = .returned (.bool (!inM mask d)) ∧ Kp Nu w w' := by
  go_enter Try.func102, Try.ntmps102
  go_wp2
  go_loopw [7] (fun i wr => ∃ k : Nat, k ≤ 64 ∧ i = .int .u64 (k : Int) ∧ Hid (Kp Nu w wr ∧ ∀ i, i < k → (mask.toNat / 2 ^ i) % 2 = 1 → ((i : Int) + 2 ≤ d))) (fun i _ => 64 - (intOf i).toNat)
  case atStart => exact ⟨0, by omega, rfl, Kp.refl _ _, fun i hi => by omega⟩
  case round =>
    obtain ⟨k, hk, rfl, HK⟩ := hrel
    by_cases hlt : k < 64
    · have hltI : (k : Int) < 64 := by omega
      have hk0 : (0 : Int) ≤ (k : Int) := by omega
      have ha := and_one mask k h0 h1
      have HM := hide (And.intro h0 h1)
      clear h0 h1
      rcases Nat.mod_two_eq_zero_or_one (mask.toNat / 2 ^ k) with hb | hb
      · have hbit : bits BinOp.and IntKind.u64 (mask / 2 ^ k) 1 = 0 := by rw [ha, hb]; rfl
        clear ha
        go_wp2
        refine ⟨⟨k + 1, by omega, rfl, HK.out.1, fun i hi hbi => ?_⟩, ?_⟩
        · rcases Nat.lt_or_ge i k with h | h
          · exact HK.out.2 i h hbi
          · obtain rfl : i = k := by omega
            omega
        · show 64 - (k + 1) < 64 - k
          omega
      · have hbit : bits BinOp.and IntKind.u64 (mask / 2 ^ k) 1 = 1 := by rw [ha, hb]; rfl
        clear ha
        by_cases hc : (k : Int) + 2 ≤ d
        · go_wp2
          refine ⟨⟨k + 1, by omega, rfl, HK.out.1, fun i hi hbi => ?_⟩, ?_⟩
          · rcases Nat.lt_or_ge i k with h | h
            · exact HK.out.2 i h hbi
            · obtain rfl : i = k := by omega
              exact hc
          · show 64 - (k + 1) < 64 - k
            omega
        · have hc2 : d < (k : Int) + 2 := by omega
          clear hc
          go_wp2
          go_ret
          refine ⟨?_, HK.out.1⟩
          have hl := bit_lt (by have := HM.out; omega) hlt hb
          have hne : mask ≠ 0 := by rintro rfl; simp at hb
          have : inM mask d = false := by simp [inM, hne]; omega
          rw [this]; rfl
    · obtain rfl : k = 64 := by omega
      have hin : inM mask d = true := by
        by_cases hz : mask = 0
        · simp [inM, hz]
        · obtain ⟨p1, p2⟩ := top_bit _ mask.toNat (Nat.le_refl _) (by omega) (by omega)
          have hl : Lib.bitLen mask.toNat ≤ 64 := Lib.bitLen_le _ 64 (by omega) (by omega)
          have := HK.out.2 (Lib.bitLen mask.toNat - 1) (by omega) p2
          simp [inM, hz]; omega
      have HIN := hide hin
      clear hlt h0 h1 hin
      go_wp2
      go_ret
      exact ⟨by rw [HIN.out]; rfl, HK.out.1⟩
end Go.Proofs.Ytbhdhoeaogbfbaa.Xo
