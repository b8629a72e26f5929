import Derived.Test.YtahcdignedfanaaNumD
namespace Go.Proofs.Ytahcdignedfanaa.Num
open Go.RowKit

theorem numF_pre (s : ByteArray) (h1 : 1 < s.size) (h0 : s[0].toNat = 48) (h2 : s[1].toNat = 120) : pre s.data.toList = true := by
  rw [pre_iff s h1]; simp [h0, h2]

set_option maxHeartbeats 800000 in
theorem refNumber_hex (s : ByteArray) (w : World) (hs : s.size ≤ 140737488355328) (h1 : 1 < s.size) (hx : pre s.data.toList = true) :
    Calls Try.prog 10 #[.string s] w fun e w' => e = .returned (three (numF s.data.toList)) ∧ w' = w := by
  have h0 : ((s[0].toNat : Int) == 48) = true := by
    rw [pre_iff s h1] at hx; simp at hx; exact beq_iff_eq.2 (by omega)
  have h2 : ((s[1].toNat : Int) == 120) = true := by
    rw [pre_iff s h1] at hx; simp at hx; exact beq_iff_eq.2 (by omega)
  have HX := hide hx
  clear hx
  by_cases e2 : s.size = 2
  · have e2' : ((s.size : Int) == 2) = true := beq_iff_eq.2 (by omega)
    have HN := hide (numF_two s e2 HX)
    have hle : (s.size : Int) ≤ 2 := by omega
    clear e2
    go_enter Try.func10, Try.ntmps10
    go_wp2
    go_loop [5, 6] (fun a i => a = .int .u64 0 ∧ i = .int .i64 2) (fun _ _ => 0)
    case atStart => exact ⟨rfl, rfl⟩
    case round =>
      obtain ⟨rfl, rfl⟩ := hrel
      go_wp2
      go_ret3
      rw [HN.out]; exact ⟨rfl, rfl⟩
  · have e2' : ((s.size : Int) == 2) = false := beq_eq_false_iff_ne.2 (by omega)
    have HN := hide (numF_hex s (by omega) HX)
    go_enter Try.func10, Try.ntmps10
    go_wp2
    go_loop [5, 6] (fun a i => ∃ n k : Nat, 2 ≤ k ∧ k ≤ 18 ∧ k ≤ s.size ∧ i = .int .i64 k ∧ a = .int .u64 n ∧ n < 16 ^ (k - 2) ∧ Hex s.data.toList n k) (fun _ i => s.size - (intOf i).toNat)
    case atStart => exact ⟨0, 2, by omega, by omega, by omega, rfl, rfl, by simp, Hex.start _⟩
    case round =>
      obtain ⟨n, k, hk2, hk18, hk, rfl, rfl, hn, hD⟩ := hrel
      by_cases hlt : k < s.size
      · have hbb : (s[k].toNat : Int) ≤ 255 := by have := s[k].toNat_lt; omega
        by_cases hv : hexV s[k].toNat = 16
        · have H := hide (hex_bad hD hlt hv)
          have V := hide hv
          clear hv hn hD
          go_wp2_with (go_at_call 20; refine (digit_no _ _ s[k].toNat_lt V).mono ?_; rintro e w' ⟨rfl, rfl⟩)
          go_ret3
          rw [HN.out, H.out]
          exact ⟨rfl, rfl⟩
        · by_cases h18 : k = 18
          · have H := hide (hex_large hD hlt hv h18)
            have V := hide hv
            have hnn : (0 : Int) ≤ (hexV s[k].toNat : Int) := by omega
            have h18' : (18 : Int) ≤ (k : Int) := by omega
            clear hv hn hD h18
            go_wp2_with (go_at_call 20; refine (digit_yes _ _ s[k].toNat_lt V).mono ?_; rintro e w' ⟨rfl, rfl⟩)
            go_ret3
            rw [HN.out, H.out]
            exact ⟨rfl, rfl⟩
          · have H := hide (hex_step hD hlt hv h18)
            have V := hide hv
            have hk17 : k ≤ 17 := by omega
            have hd : hexV s[k].toNat < 16 := by have := hexV_le s[k].toNat; omega
            have HP := hide (pow_step hn hk2 hd)
            have h60 : n < 1152921504606846976 := Nat.lt_of_lt_of_le hn (Nat.le_trans (Nat.pow_le_pow_right (by omega) (show k - 2 ≤ 15 by omega)) (by decide))
            clear hv hn hD h18
            go_wp2_with (go_at_call 20; refine (digit_yes _ _ s[k].toNat_lt V).mono ?_; rintro e w' ⟨rfl, rfl⟩)
            exact ⟨⟨_, k + 1, by omega, by omega, by omega, by go_num, by go_num, HP.out, H.out⟩, by simp [intOf]; omega⟩
      · go_wp2
        go_ret3
        have := hD.done (by rw [len]; omega)
        rw [HN.out, this]
        exact ⟨rfl, rfl⟩

set_option maxHeartbeats 800000 in
theorem refNumber_empty (s : ByteArray) (w : World) (h0 : s.size = 0) :
    Calls Try.prog 10 #[.string s] w fun e w' => e = .returned (three (numF s.data.toList)) ∧ w' = w := by
  have HN := hide (numF_empty s h0)
  have e0 : ((s.size : Int) == 0) = true := beq_iff_eq.2 (by omega)
  have hle : (s.size : Int) ≤ 0 := by omega
  clear h0
  go_enter Try.func10, Try.ntmps10
  go_wp2
  go_loop [8, 9] (fun a i => a = .int .u64 0 ∧ i = .int .i64 0) (fun _ _ => 0)
  case atStart => exact ⟨rfl, rfl⟩
  case round =>
    obtain ⟨rfl, rfl⟩ := hrel
    go_wp2
    go_ret3
    rw [HN.out]; exact ⟨rfl, rfl⟩

theorem refNumber_any (s : ByteArray) (w : World) (hs : s.size ≤ 140737488355328) :
    Calls Try.prog 10 #[.string s] w fun e w' => e = .returned (three (numF s.data.toList)) ∧ w' = w := by
  by_cases h0 : s.size = 0
  · exact refNumber_empty s w h0
  · have hp : 0 < s.size := by omega
    cases hx : pre s.data.toList with
    | true =>
      have h1 : 1 < s.size := by
        by_cases e1 : s.size = 1
        · rw [← pre_short s (by omega)] at hx; cases hx
        · omega
      exact refNumber_hex s w hs h1 hx
    | false =>
      rw [numF_dec s hp hx]
      exact refNumber_dec s w hs hp hx
end Go.Proofs.Ytahcdignedfanaa.Num
