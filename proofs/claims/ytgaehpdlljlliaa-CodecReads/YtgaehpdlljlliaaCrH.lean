import Derived.Test.YtgaehpdlljlliaaCrG
namespace Go.Proofs.Ytgaehpdlljlliaa.Cd
open Go.RowKit
set_option linter.unusedVariables false

set_option maxHeartbeats 1000000 in
theorem room_any {w : World} {v : Value} {S : List Stp} (h : Scr w v S) : Calls Try.prog 29 #[v] w fun e w' => ∃ r : Int, e = .returned (.int .i64 r) ∧ Hid (r > 16777216 ∨ r = (rm S : Int)) ∧ w' = w := by
  rcases h with ⟨⟨ad, cap, rfl⟩, rfl⟩ | ⟨b, off, cap, rfl, hc⟩
  · go_enter Try.func29, Try.ntmps29
    go_wp2
    go_loop [3, 4] (fun n i => n = .int .i64 0 ∧ i = .int .i64 0) (fun _ _ => 0)
    case atStart => exact ⟨rfl, rfl⟩
    case round =>
      obtain ⟨rfl, rfl⟩ := hrel
      go_wp2
      go_ret
      exact ⟨0, rfl, .inr rfl, rfl⟩
  · have HC := hide hc
    clear hc
    obtain ⟨N, hN⟩ : ∃ N, S.length = N := ⟨_, rfl⟩
    have HN := hide hN
    rw [hN]
    clear hN
    go_enter Try.func29, Try.ntmps29
    go_wp2
    go_loop [3, 4] (fun n i => ∃ (k : Nat) (x : Int), k ≤ N ∧ n = .int .i64 x ∧ i = .int .i64 (k : Int) ∧ x ≤ 16777216 ∧ 0 ≤ x ∧ (k : Int) ≤ x ∧ Hid (x = (rm (S.take k) : Int))) (fun _ i => N - (intOf i).toNat)
    case atStart => exact ⟨0, 0, by omega, rfl, rfl, by omega, by omega, by omega, rfl⟩
    case round =>
      obtain ⟨k, x, hk, rfl, rfl, hx, hx0, hkx, hX⟩ := hrel
      by_cases hlt : k < N
      · have hkS : k < S.length := by rw [HN.out]; exact hlt
        have hs := HC.out k S[k] (List.getElem?_eq_getElem hkS)
        have hr := rm_take hkS
        obtain ⟨c0, c1, c2, c3, c4, hf⟩ := hs
        obtain ⟨ad, cp, hbv⟩ := hf.rd.slice
        have hl := hf.len
        rw [hbv] at c4
        generalize S[k] = s at *
        obtain ⟨kind, sN, sI, sF, bv, bs⟩ := s
        simp only at c0 c1 c2 c3 c4 hl hr
        have hrk : rm1 { kind := kind, N := sN, I := sI, F := sF, bv := bv, bs := bs } = 10 + (if kind = 8 ∨ kind = 9 then bs.length else 0) := rfl
        rw [hrk] at hr
        clear hrk hbv hf hkS
        have hlI : (bs.length : Int) ≤ 140737488351232 := by omega
        generalize bs.length = L at *
        have hltI : (k : Int) < (N : Int) := by omega
        have hk0 : (0 : Int) ≤ (k : Int) := by omega
        have HL := hide hl
        clear hl
        have hNb : Hid ((rm (S.take (k + 1)) : Int) = x + 10 + (if kind = 8 ∨ kind = 9 then (L : Int) else 0)) := by
          have := hX.out
          show _ = _
          rw [hr]
          split <;> omega
        clear hr hX
        by_cases h89 : kind = 8 ∨ kind = 9
        · have e := hNb.out
          rw [if_pos h89] at e
          have HE := hide e
          clear e hNb
          by_cases hbig : x + 10 + (L : Int) > 16777216
          · rcases h89 with rfl | rfl
            · go_wp2
              go_ret
              exact ⟨_, rfl, .inl hbig, rfl⟩
            · go_wp2
              go_ret
              exact ⟨_, rfl, .inl hbig, rfl⟩
          · have hd : ¬ 16777216 < x + 10 + (L : Int) := by omega
            rcases h89 with rfl | rfl
            · go_wp2
              exact ⟨⟨k + 1, x + 10 + (L : Int), by omega, rfl, by go_num, by omega, by omega, by omega, HE.out.symm⟩, by simp [intOf]; omega⟩
            · go_wp2
              exact ⟨⟨k + 1, x + 10 + (L : Int), by omega, rfl, by go_num, by omega, by omega, by omega, HE.out.symm⟩, by simp [intOf]; omega⟩
        · have e := hNb.out
          rw [if_neg h89] at e
          have HE := hide e
          clear e hNb
          have h8 : (kind == 8) = false := by simp; omega
          have h9 : (kind == 9) = false := by simp; omega
          by_cases hbig : x + 10 > 16777216
          · go_wp2
            go_ret
            exact ⟨_, rfl, .inl hbig, rfl⟩
          · have hd : ¬ 16777216 < x + 10 := by omega
            go_wp2
            exact ⟨⟨k + 1, x + 10, by omega, rfl, by go_num, by omega, by omega, by omega, by have := HE.out; show _ = _; omega⟩, by simp [intOf]; omega⟩
      · have hke : k = N := by omega
        subst hke
        have hS : rm (S.take k) = rm S := by rw [List.take_of_length_le (by rw [HN.out]; exact Nat.le_refl _)]
        have HE : Hid (x = (rm S : Int)) := by
          have := hX.out
          show _ = _
          rw [← hS]; exact this
        clear hS hX
        go_wp2
        go_ret
        exact ⟨x, rfl, .inr HE.out, rfl⟩
end Go.Proofs.Ytgaehpdlljlliaa.Cd
