import Derived.Test.YtcbonbeogdgogaaLrM
import Derived.Test.YtcbonbeogdgogaaLrP
import Derived.StillTailTactics
namespace Go.Proofs.Ytcbonbeogdgogaa.Li
open Go.RowKit
set_option linter.unusedVariables false
theorem Fir.len {D : Sch} {st at_ : Nat} {o : List Nat} (h : Fir D st at_ o) : st < 2 ^ D.n → st + o.length < 2 ^ D.n := by
  induction h with
  | done h => intro q; simpa using q
  | step k a e h1 h2 h3 h4 h5 ih =>
    intro q
    have h6 := put_gt h2.2.1
    have h7 := ih (put_lt q h2.1)
    simp only [List.length_cons]
    omega
theorem none_obeys {L : List Ca} {key : Int} (hO : One L key) (h : ¬ Can (schOf L) 0 0) (o : List Int) : ¬ Obs L o := fun hB => by
  obtain ⟨e, rfl⟩ := oi_of (o := o) (fun x hx => by
    obtain ⟨j, hj⟩ := List.getElem?_of_mem hx
    exact (hB.lst j x (List.getElem?_eq_some_iff.1 hj).1 hj).1)
  exact h (can_of hO e [] 0 0 (Pt.start L key) hB)
theorem ints_oi (o : List Nat) : ints o = ics (oi o) := by simp [ints, ics, oi]
set_option maxHeartbeats 1000000 in
theorem num15 (w : World) (x : Int) : Calls Try.prog 15 #[.int .i64 x] w fun e w' => e = .returned (.int .i64 x) ∧ w' = w := by
  go_enter Try.func15, Try.ntmps15
  go_wp2
  go_ret
  exact ⟨rfl, rfl⟩
set_option maxRecDepth 100000 in
set_option maxHeartbeats 4000000 in
theorem right_walk (w : World) (u : Value) (L : List Ca) (hL : Cls w u L) (hK : Kys L) (hN : L.length ≤ 140737488351232) :
    Calls Try.prog 4 #[u] w fun e w' => e = .returned (.bool true) ∧ Kp Nu w w' := by
  have mixed : Try.prog.follows .mixedOrders = true := by kernel_rfl
  have CK := checkKey14 w u L hL hN
  obtain ⟨ua, uc, rfl⟩ := hL.slice
  obtain ⟨N, eN⟩ : ∃ N, L.length = N := ⟨_, rfl⟩
  have HL := hide (And.intro hL (And.intro hK eN))
  rw [eN] at CK hN ⊢
  have hNI : (N : Int) ≤ 140737488351232 := by omega
  clear hL hK eN hN
  by_cases hbig : (N : Int) > 6
  · have d1 : decide ((N : Int) > 6) = true := by simpa using hbig
    clear CK hbig
    go_enter Try.func4, Try.ntmps4
    go_wp2
    go_ret
    exact ⟨rfl, Kp.refl _ _⟩
  have d1 : decide ((N : Int) > 6) = false := by simpa using hbig
  have HB : Hid (N ≤ 6) := hide (by omega)
  clear hbig
  go_enter Try.func4, Try.ntmps4
  go_wp2_with fail
  refine CK.mono ?_; rintro e w1 ⟨ok, key, ao, n, co, er, rfl, hk1, hV⟩
  have k2 : Kp Nu w (w1.alloc (.cells #[.bool ok, .int .u64 key, .slice ao n co] 41)) := hk1.andAlloc _
  have b2 := heap_new w1 (.cells #[.bool ok, .int .u64 key, .slice ao n co] 41)
  have kk : Kp Nu w1 (w1.alloc (.cells #[.bool ok, .int .u64 key, .slice ao n co] 41)) := Kp.alloc _ _ _
  obtain ⟨w2, e2⟩ : ∃ w2, w1.alloc (.cells #[.bool ok, .int .u64 key, .slice ao n co] 41) = w2 := ⟨_, rfl⟩
  rw [e2] at k2 b2 kk
  have y0 := cellAt b2 0 (v := .bool ok) rfl
  have y1 := cellAt b2 1 (v := .int .u64 key) rfl
  have y2 := cellAt b2 2 (v := .slice ao n co) rfl
  have NU := num15 w2 er
  have HK := hide (And.intro k2 (And.intro kk hV))
  clear CK hk1 k2 b2 kk hV
  go_wp2_with fail
  try rw [e2]
  refine NU.mono ?_; rintro e w3 ⟨rfl, hw3⟩
  obtain rfl := hw3
  clear NU
  rcases HK.out.2.2 with ⟨q1, q2, q3, q4, q5, q6⟩ | ⟨q1, q2, q3, q4, q5⟩
  · subst q1 q2 q3 q4 q5
    obtain ⟨q7, q8⟩ : er = 140 ∧ ¬ (AllMB L ∧ OneK L) := by
      rcases q6 with ⟨_, q⟩ | ⟨q, _, r⟩
      · have := HL.out.2.2; have := HB.out; omega
      · exact ⟨q, r⟩
    subst q7
    have CL := clean16 w3 _ L (HL.out.1.nu HK.out.1) (by rw [HL.out.2.2]; have := HB.out; omega)
    rw [HL.out.2.2] at CL
    have HQ := hide q8
    clear q6 q8
    go_wp2_with fail
    refine CL.mono ?_; rintro e w4 ⟨b, rfl, hb, hk4⟩
    cases b with
    | true => exact absurd (hb rfl) HQ.out
    | false =>
    have HK4 := hide (HK.out.1.andNu hk4)
    clear CL hb hk4
    go_wp2
    go_ret
    exact ⟨rfl, HK4.out⟩
  · subst q1
    obtain ⟨kx, hOne⟩ := q4.one q3
    cases ok with
    | true =>
      obtain ⟨rfl, o, ho, hF, hown⟩ := q5.1 rfl
      have hobs : Obs L (oi o) := hF.obs hOne [] (Pt.start L kx)
      have hlen : o.length ≤ 400 := by
        have h1 := hF.len (Nat.pow_pos (by decide) : 0 < 2 ^ (schOf L).n)
        have h2 : 2 ^ (schOf L).n ≤ 65536 := two16 q2
        have h3 : 2 ^ (schOf L).n ≤ 2 ^ 6 := Nat.pow_le_pow_right (by decide) (by show L.length ≤ 6; rw [HL.out.2.2]; exact HB.out)
        omega
      subst ho
      have hns : Ns w1 (.slice ao o.length co) (oi o) := by
        have q := hown
        rw [ints_oi] at q
        have e : o.length = (oi o).length := (oi_len o).symm
        rw [e] at q ⊢
        exact Ns.of_own q
      have OB := obeys17 w3 _ _ L (oi o) (HL.out.1.nu HK.out.1) (hns.nu HK.out.2.1) (by rw [HL.out.2.2]; have := HB.out; omega) (by rw [oi_len]; exact hlen) HL.out.2.1
      rw [HL.out.2.2] at OB
      have HO := hide hobs
      clear q2 q3 q4 q5 hF hown hobs hns hOne hlen
      go_wp2_with fail
      refine OB.mono ?_; rintro e w4 ⟨⟨b, rfl, hb⟩, hk4⟩
      have hb1 : b = true := hb.2 HO.out
      subst hb1
      have HK4 := hide (HK.out.1.andNu hk4)
      clear OB hb hk4
      go_wp2
      go_ret
      exact ⟨rfl, HK4.out⟩
    | false =>
      obtain ⟨rfl, rfl, rfl, hno, c, hc, rfl⟩ := q5.2 rfl
      obtain ⟨bL, off, cap, eu, hR, okk⟩ := cls_at (HL.out.1.nu HK.out.1) hc
      rw [HL.out.2.2] at eu
      simp only [Value.slice.injEq, true_and] at eu
      obtain ⟨rfl, rfl⟩ := eu
      obtain ⟨_, _, _, r3, _⟩ := range_cells hR
      rw [Nat.zero_mul, Nat.add_zero] at r3
      have hl := (List.getElem?_eq_some_iff.1 hc).1
      rw [HL.out.2.2] at hl
      have hlI : (0 : Int) < (N : Int) := by omega
      have dk : Kp Nu w3 w3.drew := kp_drawn w3
      have PM := permute18 (none_obeys hOne hno) HL.out.2.1 (by rw [HL.out.2.2]; exact HB.out) (2 ^ L.length) 0 (by omega) w3.drew (.slice (some ⟨bL, off, none⟩) N uc) none 0 [] (by have q := HL.out.1.nu (HK.out.1.andNu dk); rw [HL.out.2.2] at q; exact q) ⟨none, 0, rfl, by simp, fun j x hx => by simp at hx⟩ (fun _ => rfl) (Nat.pow_pos (by decide)) (Nat.le_refl _) (fun k => by simp)
      have HD := hide (HK.out.1.andNu dk)
      have ek : (c.key == c.key) = true := by simp
      have dg : decide ((N : Int) > 0) = true := by simp; omega
      have dg2 : decide ((0 : Int) < (N : Int)) = true := by simp; omega
      clear q2 q3 q4 q5 hOne hno hc hR okk dk
      go_wp2
      go_still_tail 21, mixed
      go_wp2_with fail
      refine PM.mono ?_; rintro e w4 ⟨rfl, hk4⟩
      have HK4 := hide (HD.out.andNu hk4)
      clear PM hk4
      go_wp2
      go_ret
      exact ⟨rfl, HK4.out⟩
end Go.Proofs.Ytcbonbeogdgogaa.Li
