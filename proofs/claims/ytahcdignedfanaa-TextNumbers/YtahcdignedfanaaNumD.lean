import Derived.Test.YtahcdignedfanaaNumC
namespace Go.Proofs.Ytahcdignedfanaa.Num
open Go.RowKit

theorem over_is {s : ByteArray} {b : Bool} (h : Hid (overF s.data.toList = b)) (w : World) :
    Calls Try.prog 21 #[.string s] w fun e w' => e = .returned (.bool b) ∧ w' = w := by
  have := over_any s w
  rw [h.out] at this
  exact this

theorem step_eq (n c : Nat) (h : 48 ≤ c) : Value.int .u64 (10 * (n : Int) + ((c : Int) - 48)) = Value.int .u64 ((10 * n + (c - 48) : Nat) : Int) := by
  congr 1; omega

/-- the ways of a round, each with what the walk wants -/
theorem ref_cases {s : ByteArray} {n k : Nat} (h : Ref s n k) (hp : 0 < s.size) (hk : k < s.size) :
    (((s[k].toNat : Int) < 48 ∨ ((48 : Int) ≤ (s[k].toNat : Int) ∧ 57 < (s[k].toNat : Int))) ∧ decR s.data.toList = (0, k, 15)) ∨
    ((48 : Int) ≤ (s[k].toNat : Int) ∧ (s[k].toNat : Int) ≤ 57 ∧ (0 : Int) < (k : Int) ∧ ((s[0].toNat : Int) == 48) = true ∧ decR s.data.toList = (0, k, 15)) ∨
    ((48 : Int) ≤ (s[k].toNat : Int) ∧ (s[k].toNat : Int) ≤ 57 ∧ (k = 0 ∨ ((0 : Int) < (k : Int) ∧ ((s[0].toNat : Int) == 48) = false)) ∧ overF (s.extract 0 (k + 1)).data.toList = true ∧ decR s.data.toList = (0, k, 16)) ∨
    ((48 : Int) ≤ (s[k].toNat : Int) ∧ (s[k].toNat : Int) ≤ 57 ∧ (k = 0 ∨ ((0 : Int) < (k : Int) ∧ ((s[0].toNat : Int) == 48) = false)) ∧ overF (s.extract 0 (k + 1)).data.toList = false ∧
      10 * n + (s[k].toNat - 48) ≤ top ∧ Ref s (10 * n + (s[k].toNat - 48)) (k + 1)) := by
  by_cases hc : (s[k].toNat : Int) < 48 ∨ 57 < (s[k].toNat : Int)
  · exact .inl ⟨by omega, h.bad hp hk hc⟩
  · have h1 : 48 ≤ s[k].toNat := by omega
    have h2 : s[k].toNat ≤ 57 := by omega
    by_cases hz : 0 < k ∧ s[0].toNat = 48
    · exact .inr (.inl ⟨by omega, by omega, by omega, beq_iff_eq.2 (by omega), h.zero hp hk hz.1 hz.2⟩)
    · have h0 : k = 0 ∨ s[0].toNat ≠ 48 := by omega
      have h0' : k = 0 ∨ ((0 : Int) < (k : Int) ∧ ((s[0].toNat : Int) == 48) = false) := by
        by_cases e : k = 0
        · exact .inl e
        · exact .inr ⟨by omega, beq_eq_false_iff_ne.2 (by omega)⟩
      have ho := (h.over hp hk h1 h2 h0).1
      by_cases hl : top < 10 * n + (s[k].toNat - 48)
      · exact .inr (.inr (.inl ⟨by omega, by omega, h0', by rw [ho]; simpa using hl, h.large hp hk h1 h2 h0 hl⟩))
      · exact .inr (.inr (.inr ⟨by omega, by omega, h0', by rw [ho]; simpa using hl, by omega, h.step hp hk h1 h2 h0 (by omega)⟩))

set_option maxHeartbeats 2000000 in
theorem refDec_short (s : ByteArray) (w : World) (hs : s.size ≤ 140737488355328) (hp : 0 < s.size) (g1 : (s.size : Int) ≤ 1) :
    Calls Try.prog 10 #[.string s] w fun e w' => e = .returned (three (decR s.data.toList)) ∧ w' = w := by
    have hne : ((s.size : Int) == 0) = false := beq_eq_false_iff_ne.2 (by omega)
    go_enter Try.func10, Try.ntmps10
    go_wp2
    clear g1
    go_loop [8, 9] (fun a i => ∃ n k : Nat, k ≤ s.size ∧ i = .int .i64 k ∧ a = .int .u64 n ∧ n ≤ top ∧ Ref s n k) (fun _ i => s.size - (intOf i).toNat)
    case atStart => exact ⟨0, 0, Nat.zero_le _, rfl, rfl, Nat.zero_le _, Ref.start _⟩
    case round =>
      obtain ⟨n, k, hk, rfl, rfl, hn, hD⟩ := hrel
      by_cases hlt : k < s.size
      · rcases ref_cases hD hp hlt with ⟨hc, hr⟩ | ⟨h1, h2, h3, h4, hr⟩ | ⟨h1, h2, h3, ho, hr⟩ | ⟨h1, h2, h3, ho, hm, hr⟩
        · have HR := hide hr
          clear hr hD hn
          rcases hc with hc | ⟨hc, hc'⟩
          all_goals
            go_wp2
            go_ret3
            rw [HR.out]; exact ⟨rfl, rfl⟩
        · have HR := hide hr
          clear hr hD hn
          go_wp2
          all_goals
            go_ret3
            rw [HR.out]; exact ⟨rfl, rfl⟩
        · have HR := hide hr
          have HO := hide ho
          clear hr hD hn ho
          rcases h3 with rfl | ⟨h3, h4⟩
          all_goals
            go_wp2_with (go_at_call 21; refine (over_is HO _).mono ?_; rintro e w' ⟨rfl, rfl⟩)
          all_goals
            go_ret3
            rw [HR.out]; exact ⟨rfl, rfl⟩
        · have hN : 10 * (n : Int) + ((s[k].toNat : Int) - 48) ≤ 18446744073709551615 := by unfold top at hm; omega
          have HR := hide hr
          have HO := hide ho
          have HM := hide hm
          clear hr hD hn ho hm
          rcases h3 with rfl | ⟨h3, h4⟩
          all_goals
            go_wp2_with (go_at_call 21; refine (over_is HO _).mono ?_; rintro e w' ⟨rfl, rfl⟩)
          all_goals
            exact ⟨⟨_, _ + 1, by omega, by go_num, step_eq _ _ (by omega), HM.out, HR.out⟩, by simp [intOf]; omega⟩
      · go_wp2
        go_ret3
        rw [hD.done hp (by omega)]
        exact ⟨rfl, rfl⟩

set_option maxHeartbeats 2000000 in
theorem refDec_other (s : ByteArray) (w : World) (hs : s.size ≤ 140737488355328) (hp : 0 < s.size) (g1 : 1 < s.size) (g0 : ((s[0].toNat : Int) == 48) = false) :
    Calls Try.prog 10 #[.string s] w fun e w' => e = .returned (three (decR s.data.toList)) ∧ w' = w := by
    have hne : ((s.size : Int) == 0) = false := beq_eq_false_iff_ne.2 (by omega)
    go_enter Try.func10, Try.ntmps10
    go_wp2
    clear g0
    go_loop [8, 9] (fun a i => ∃ n k : Nat, k ≤ s.size ∧ i = .int .i64 k ∧ a = .int .u64 n ∧ n ≤ top ∧ Ref s n k) (fun _ i => s.size - (intOf i).toNat)
    case atStart => exact ⟨0, 0, Nat.zero_le _, rfl, rfl, Nat.zero_le _, Ref.start _⟩
    case round =>
      obtain ⟨n, k, hk, rfl, rfl, hn, hD⟩ := hrel
      by_cases hlt : k < s.size
      · rcases ref_cases hD hp hlt with ⟨hc, hr⟩ | ⟨h1, h2, h3, h4, hr⟩ | ⟨h1, h2, h3, ho, hr⟩ | ⟨h1, h2, h3, ho, hm, hr⟩
        · have HR := hide hr
          clear hr hD hn
          rcases hc with hc | ⟨hc, hc'⟩
          all_goals
            go_wp2
            go_ret3
            rw [HR.out]; exact ⟨rfl, rfl⟩
        · have HR := hide hr
          clear hr hD hn
          go_wp2
          all_goals
            go_ret3
            rw [HR.out]; exact ⟨rfl, rfl⟩
        · have HR := hide hr
          have HO := hide ho
          clear hr hD hn ho
          rcases h3 with rfl | ⟨h3, h4⟩
          all_goals
            go_wp2_with (go_at_call 21; refine (over_is HO _).mono ?_; rintro e w' ⟨rfl, rfl⟩)
          all_goals
            go_ret3
            rw [HR.out]; exact ⟨rfl, rfl⟩
        · have hN : 10 * (n : Int) + ((s[k].toNat : Int) - 48) ≤ 18446744073709551615 := by unfold top at hm; omega
          have HR := hide hr
          have HO := hide ho
          have HM := hide hm
          clear hr hD hn ho hm
          rcases h3 with rfl | ⟨h3, h4⟩
          all_goals
            go_wp2_with (go_at_call 21; refine (over_is HO _).mono ?_; rintro e w' ⟨rfl, rfl⟩)
          all_goals
            exact ⟨⟨_, _ + 1, by omega, by go_num, step_eq _ _ (by omega), HM.out, HR.out⟩, by simp [intOf]; omega⟩
      · go_wp2
        go_ret3
        rw [hD.done hp (by omega)]
        exact ⟨rfl, rfl⟩

set_option maxHeartbeats 2000000 in
theorem refDec_zero (s : ByteArray) (w : World) (hs : s.size ≤ 140737488355328) (hp : 0 < s.size) (g1 : 1 < s.size) (g0 : ((s[0].toNat : Int) == 48) = true) (g2 : ((s[1].toNat : Int) == 120) = false) :
    Calls Try.prog 10 #[.string s] w fun e w' => e = .returned (three (decR s.data.toList)) ∧ w' = w := by
    have hne : ((s.size : Int) == 0) = false := beq_eq_false_iff_ne.2 (by omega)
    go_enter Try.func10, Try.ntmps10
    go_wp2
    clear g0 g2
    go_loop [8, 9] (fun a i => ∃ n k : Nat, k ≤ s.size ∧ i = .int .i64 k ∧ a = .int .u64 n ∧ n ≤ top ∧ Ref s n k) (fun _ i => s.size - (intOf i).toNat)
    case atStart => exact ⟨0, 0, Nat.zero_le _, rfl, rfl, Nat.zero_le _, Ref.start _⟩
    case round =>
      obtain ⟨n, k, hk, rfl, rfl, hn, hD⟩ := hrel
      by_cases hlt : k < s.size
      · rcases ref_cases hD hp hlt with ⟨hc, hr⟩ | ⟨h1, h2, h3, h4, hr⟩ | ⟨h1, h2, h3, ho, hr⟩ | ⟨h1, h2, h3, ho, hm, hr⟩
        · have HR := hide hr
          clear hr hD hn
          rcases hc with hc | ⟨hc, hc'⟩
          all_goals
            go_wp2
            go_ret3
            rw [HR.out]; exact ⟨rfl, rfl⟩
        · have HR := hide hr
          clear hr hD hn
          go_wp2
          all_goals
            go_ret3
            rw [HR.out]; exact ⟨rfl, rfl⟩
        · have HR := hide hr
          have HO := hide ho
          clear hr hD hn ho
          rcases h3 with rfl | ⟨h3, h4⟩
          all_goals
            go_wp2_with (go_at_call 21; refine (over_is HO _).mono ?_; rintro e w' ⟨rfl, rfl⟩)
          all_goals
            go_ret3
            rw [HR.out]; exact ⟨rfl, rfl⟩
        · have hN : 10 * (n : Int) + ((s[k].toNat : Int) - 48) ≤ 18446744073709551615 := by unfold top at hm; omega
          have HR := hide hr
          have HO := hide ho
          have HM := hide hm
          clear hr hD hn ho hm
          rcases h3 with rfl | ⟨h3, h4⟩
          all_goals
            go_wp2_with (go_at_call 21; refine (over_is HO _).mono ?_; rintro e w' ⟨rfl, rfl⟩)
          all_goals
            exact ⟨⟨_, _ + 1, by omega, by go_num, step_eq _ _ (by omega), HM.out, HR.out⟩, by simp [intOf]; omega⟩
      · go_wp2
        go_ret3
        rw [hD.done hp (by omega)]
        exact ⟨rfl, rfl⟩

theorem refNumber_dec (s : ByteArray) (w : World) (hs : s.size ≤ 140737488355328) (hp : 0 < s.size) (hx : pre s.data.toList = false) :
    Calls Try.prog 10 #[.string s] w fun e w' => e = .returned (three (decR s.data.toList)) ∧ w' = w := by
  by_cases h1 : 1 < s.size
  · rw [pre_iff s h1] at hx
    by_cases h0 : s[0].toNat = 48
    · have hx' : s[1].toNat ≠ 120 := by intro e; simp [h0, e] at hx
      exact refDec_zero s w hs hp h1 (beq_iff_eq.2 (by omega)) (beq_eq_false_iff_ne.2 (by omega))
    · exact refDec_other s w hs hp h1 (beq_eq_false_iff_ne.2 (by omega))
  · exact refDec_short s w hs hp (by omega)

end Go.Proofs.Ytahcdignedfanaa.Num
