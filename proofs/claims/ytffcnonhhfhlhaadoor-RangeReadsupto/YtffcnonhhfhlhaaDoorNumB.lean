import Derived.Test.YtffcnonhhfhlhaaDoorRows
import Derived.Test.YtffcnonhhfhlhaaDoorNumA
import Derived.WalkKit
import Derived.WalkLawsBesides
import Derived.WalkSpells
import Derived.Outline
namespace Go.Proofs.YtffcnonhhfhlhaaDoor.Num
open Go.RowKit

theorem hide {p : Prop} (h : p) : Hid p := h

set_option maxHeartbeats 400000 in
theorem hexDigit_yes (n : Nat) (w : World) (hn : n < 256) (h : hexV n ≠ 16) :
    Calls Tryd.prog 130 #[.int .u8 (n : Int)] w fun e w' => e = .returned (.tuple #[.int .u8 (hexV n : Int), .bool true]) ∧ w' = w := by
  by_cases h1 : 48 ≤ n ∧ n ≤ 57
  · have a : (48 : Int) ≤ n := by omega
    have b : (n : Int) ≤ 57 := by omega
    have e : ((n : Int) - 48) = (hexV n : Int) := by unfold hexV; rw [if_pos h1]; omega
    have E := hide e
    clear e
    go_enter Tryd.func130, Tryd.ntmps130
    go_wp2
    go_ret2
    rw [E.out]; exact ⟨rfl, rfl⟩
  · by_cases h2 : 97 ≤ n ∧ n ≤ 102
    · have a : ¬ (n : Int) ≤ 57 := by omega
      have a2 : (48 : Int) ≤ n := by omega
      have a3 : (97 : Int) ≤ n := by omega
      have b : (n : Int) ≤ 102 := by omega
      have e : ((n : Int) - 97 + 10) = (hexV n : Int) := by unfold hexV; rw [if_neg h1, if_pos h2]; omega
      have E := hide e
      clear e
      go_enter Tryd.func130, Tryd.ntmps130
      go_wp2
      go_ret2
      rw [E.out]; exact ⟨rfl, rfl⟩
    · by_cases h3 : 65 ≤ n ∧ n ≤ 70
      · have a : ¬ (n : Int) ≤ 57 := by omega
        have a2 : (48 : Int) ≤ n := by omega
        have a3 : ¬ (97 : Int) ≤ n := by omega
        have a4 : (65 : Int) ≤ n := by omega
        have b : (n : Int) ≤ 70 := by omega
        have e : ((n : Int) - 65 + 10) = (hexV n : Int) := by unfold hexV; rw [if_neg h1, if_neg h2, if_pos h3]; omega
        have E := hide e
        clear e
        go_enter Tryd.func130, Tryd.ntmps130
        go_wp2
        go_ret2
        rw [E.out]; exact ⟨rfl, rfl⟩
      · exact absurd (by unfold hexV; rw [if_neg h1, if_neg h2, if_neg h3]) h

set_option maxHeartbeats 400000 in
theorem hexDigit_no (n : Nat) (w : World) (hn : n < 256) (h : hexV n = 16) :
    Calls Tryd.prog 130 #[.int .u8 (n : Int)] w fun e w' => e = .returned (.tuple #[.int .u8 0, .bool false]) ∧ w' = w := by
  have hh : (n : Int) < 48 ∨ (57 < (n : Int) ∧ (n : Int) < 65) ∨ (70 < (n : Int) ∧ (n : Int) < 97) ∨ 102 < (n : Int) := by
    by_cases h1 : 48 ≤ n ∧ n ≤ 57
    · unfold hexV at h; rw [if_pos h1] at h; omega
    · by_cases h2 : 97 ≤ n ∧ n ≤ 102
      · unfold hexV at h; rw [if_neg h1, if_pos h2] at h; omega
      · by_cases h3 : 65 ≤ n ∧ n ≤ 70
        · unfold hexV at h; rw [if_neg h1, if_neg h2, if_pos h3] at h; omega
        · omega
  clear h
  rcases hh with h | h | h | h
  all_goals
    go_enter Tryd.func130, Tryd.ntmps130
    go_wp2
    go_ret2
    exact ⟨rfl, rfl⟩

theorem byte_at (s : ByteArray) (k : Nat) (h : k < s.size) : s.data.toList[k]'(by simpa using h) = s[k] := by
  simp [ByteArray.getElem_eq_getElem_data]

theorem dec_bad {s : ByteArray} {n k : Nat} (h : Dec s.data.toList n k) (hk : k < s.size) (hc : (s[k].toNat : Int) < 48 ∨ 57 < (s[k].toNat : Int)) : decF 0 0 s.data.toList = (0, k, 15) := by
  have hl : k < s.data.toList.length := by simpa using hk
  have hb := byte_at s k hk
  exact h.bad hl (by rw [hb]; omega)
theorem dec_large {s : ByteArray} {n k : Nat} (h : Dec s.data.toList n k) (hk : k < s.size) (h1 : 48 ≤ (s[k].toNat : Int) ∧ (s[k].toNat : Int) ≤ 57) (hn : (18446744073709551615 - ((s[k].toNat : Int) - 48)) / 10 < (n : Int)) : decF 0 0 s.data.toList = (0, k, 16) := by
  have hl : k < s.data.toList.length := by simpa using hk
  have hb := byte_at s k hk
  exact h.large hl (by rw [hb]; omega) (by rw [hb]; omega) (by rw [hb]; unfold top; omega)
theorem dec_step {s : ByteArray} {n k : Nat} (h : Dec s.data.toList n k) (hk : k < s.size) (h1 : 48 ≤ (s[k].toNat : Int) ∧ (s[k].toNat : Int) ≤ 57) (hn : (n : Int) ≤ (18446744073709551615 - ((s[k].toNat : Int) - 48)) / 10) :
    ∃ m : Nat, ((n : Int) * 10 + ((s[k].toNat : Int) - 48)) = (m : Int) ∧ m ≤ top ∧ Dec s.data.toList m (k + 1) := by
  have hl : k < s.data.toList.length := by simpa using hk
  have hb := byte_at s k hk
  refine ⟨10 * n + (s[k].toNat - 48), by omega, by unfold top; omega, ?_⟩
  have := h.step hl (by rw [hb]; omega) (by rw [hb]; omega) (by rw [hb]; unfold top; omega)
  rw [hb] at this
  exact this

set_option maxHeartbeats 400000 in
theorem readDecimal_any (s : ByteArray) (w : World) (hs : s.size ≤ 140737488355328) :
    Calls Tryd.prog 119 #[.string s] w fun e w' => e = .returned (.tuple #[.int .u64 ((decF 0 0 s.data.toList).1 : Int), .int .i64 ((decF 0 0 s.data.toList).2.1 : Int), .int .i64 ((decF 0 0 s.data.toList).2.2 : Int)]) ∧ w' = w := by
  go_enter Tryd.func119, Tryd.ntmps119
  go_wp2
  go_loop [5, 10] (fun a i => ∃ n k : Nat, k ≤ s.size ∧ i = .int .i64 k ∧ a = .int .u64 n ∧ n ≤ top ∧ Dec s.data.toList n k) (fun _ i => s.size - (intOf i).toNat)
  case atStart => exact ⟨0, 0, Nat.zero_le _, rfl, rfl, Nat.zero_le _, Dec.start _⟩
  case round =>
    obtain ⟨n, k, hk, rfl, rfl, hn, hD⟩ := hrel
    by_cases hlt : k < s.size
    · go_wp2
      · go_ret3
        rw [dec_bad hD hlt ‹_›]
        exact ⟨rfl, rfl⟩
      · go_ret3
        rw [dec_large hD hlt ‹_› ‹_›]
        exact ⟨rfl, rfl⟩
      · obtain ⟨m, hm1, hm2, hm3⟩ := dec_step hD hlt ‹_› ‹_›
        exact ⟨⟨m, k + 1, by omega, by go_num, by rw [hm1], hm2, hm3⟩, by simp [intOf]; omega⟩
      · go_ret3
        rw [dec_bad hD hlt (.inl ‹_›)]
        exact ⟨rfl, rfl⟩
    · go_wp2
      go_ret3
      have := hD.done (by simp; omega)
      rw [this]
      exact ⟨rfl, rfl⟩

theorem hex_bits (n d : Nat) (hn : n < 1152921504606846976) (hd : d < 16) : bits .or .u64 ((n : Int) * 16) (d : Int) = ((16 * n + d : Nat) : Int) := by
  have e : ((n : Int) * 16) = ((16 * n : Nat) : Int) := by omega
  rw [e, u64_or_nat _ _ (by omega) (by omega)]
  congr 1
  have : 16 * n = n <<< 4 := by rw [Nat.shiftLeft_eq]; omega
  rw [this, Nat.shiftLeft_add_eq_or_of_lt (by omega)]

theorem hex_bad {s : ByteArray} {n k : Nat} (h : Hex s.data.toList n k) (hk : k < s.size) (hc : hexV s[k].toNat = 16) : hexF 0 2 (s.data.toList.drop 2) = (0, k, 15) := by
  have hl : k < s.data.toList.length := by simpa using hk
  have hb := byte_at s k hk
  exact h.bad hl (by rw [hb]; exact hc)
theorem hex_large {s : ByteArray} {n k : Nat} (h : Hex s.data.toList n k) (hk : k < s.size) (hc : hexV s[k].toNat ≠ 16) (he : k = 18) : hexF 0 2 (s.data.toList.drop 2) = (0, k, 16) := by
  have hl : k < s.data.toList.length := by simpa using hk
  have hb := byte_at s k hk
  exact h.large hl (by rw [hb]; exact hc) he
theorem hex_step {s : ByteArray} {n k : Nat} (h : Hex s.data.toList n k) (hk : k < s.size) (hc : hexV s[k].toNat ≠ 16) (he : k ≠ 18) : Hex s.data.toList (16 * n + hexV s[k].toNat) (k + 1) := by
  have hl : k < s.data.toList.length := by simpa using hk
  have hb := byte_at s k hk
  have := h.step hl (by rw [hb]; exact hc) he
  rw [hb] at this
  exact this
theorem pow_step {n d k : Nat} (hn : n < 16 ^ (k - 2)) (hk : 2 ≤ k) (hd : d < 16) : 16 * n + d < 16 ^ (k + 1 - 2) := by
  have : k + 1 - 2 = (k - 2) + 1 := by omega
  rw [this, Nat.pow_succ]; omega

set_option maxHeartbeats 400000 in
theorem readHex_any (s : ByteArray) (w : World) (hs : s.size ≤ 140737488355328) (h2 : 2 < s.size) :
    Calls Tryd.prog 118 #[.string s] w fun e w' => e = .returned (.tuple #[.int .u64 ((hexF 0 2 (s.data.toList.drop 2)).1 : Int), .int .i64 ((hexF 0 2 (s.data.toList.drop 2)).2.1 : Int), .int .i64 ((hexF 0 2 (s.data.toList.drop 2)).2.2 : Int)]) ∧ w' = w := by
  have hne : ((s.size : Int) == 2) = false := by simp; omega
  go_enter Tryd.func118, Tryd.ntmps118
  go_wp2
  go_loop [5, 6] (fun a i => ∃ n k : Nat, 2 ≤ k ∧ k ≤ 18 ∧ k ≤ s.size ∧ i = .int .i64 k ∧ a = .int .u64 n ∧ n < 16 ^ (k - 2) ∧ Hex s.data.toList n k) (fun _ i => s.size - (intOf i).toNat)
  case atStart => exact ⟨0, 2, by omega, by omega, by omega, rfl, rfl, by simp, Hex.start _⟩
  case round =>
    obtain ⟨n, k, hk2, hk18, hk, rfl, rfl, hn, hD⟩ := hrel
    by_cases hlt : k < s.size
    · by_cases hv : hexV s[k].toNat = 16
      · have hb := hex_bad hD hlt hv
        have H := hide hb
        have V := hide hv
        clear hb hv hn hD
        go_wp2_with (go_at_call 130; refine (hexDigit_no _ _ s[k].toNat_lt V).mono ?_; rintro e w' ⟨rfl, rfl⟩)
        go_ret3
        rw [H.out]
        exact ⟨rfl, rfl⟩
      · by_cases h18 : k = 18
        · have hb := hex_large hD hlt hv h18
          have H := hide hb
          have V := hide hv
          have h18' : ((k : Int) == 18) = true := by simp; omega
          clear hb hv hn hD h18
          go_wp2_with (go_at_call 130; refine (hexDigit_yes _ _ s[k].toNat_lt V).mono ?_; rintro e w' ⟨rfl, rfl⟩)
          go_ret3
          rw [H.out]
          exact ⟨rfl, rfl⟩
        · have hb := hex_step hD hlt hv h18
          have H := hide hb
          have V := hide hv
          have h18' : ((k : Int) == 18) = false := by simp; omega
          have hd : hexV s[k].toNat < 16 := by have := hexV_le s[k].toNat; omega
          have hp := pow_step hn hk2 hd
          have h60 : n < 1152921504606846976 := Nat.lt_of_lt_of_le hn (Nat.le_trans (Nat.pow_le_pow_right (by omega) (show k - 2 ≤ 15 by omega)) (by decide))
          have hB := hide (hex_bits n _ h60 hd)
          have HP := hide hp
          have hk17 : k ≤ 17 := by omega
          clear hb hv hn hD h18 hp
          go_wp2_with (go_at_call 130; refine (hexDigit_yes _ _ s[k].toNat_lt V).mono ?_; rintro e w' ⟨rfl, rfl⟩)
          rw [hB.out]
          exact ⟨⟨_, k + 1, by omega, by omega, by omega, by go_num, rfl, HP.out, H.out⟩, by simp [intOf]; omega⟩
    · go_wp2
      go_ret3
      have := hD.done (by simp; omega)
      rw [this]
      exact ⟨rfl, rfl⟩
end Go.Proofs.YtffcnonhhfhlhaaDoor.Num
