import Derived.Test.YtchealdgncgjoaaRsJ
import Derived.Test.YtchealdgncgjoaaRtA
namespace Go.Proofs.Ytchealdgncgjoaa.StU
open Go.RowKit Go.Proofs.Ytchealdgncgjoaa.St Go.Shelf
set_option linter.unusedVariables false
set_option linter.unusedSimpArgs false
theorem hash189 (w : World) (h c : Int) : Calls Try.prog 189 #[.int .u64 h, .int .u8 c] w fun e w' => e = .returned (.int .u64 (Cd.fs h c)) ∧ w' = w := by
  go_enter Try.func189, Try.ntmps189
  go_wp2
  go_ret
  exact ⟨congrArg (fun z => Ending.returned (Value.int IntKind.u64 z)) (IntKind.wrap_u64 _), rfl⟩
theorem be_at (x : Int) (h0 : 0 ≤ x) (j : Nat) (hj : j < 8) : (Cd.be 8 x.toNat)[j]? = some (x / 2 ^ (56 - 8 * (j : Int)).toNat % 256) := by
  obtain ⟨n, rfl⟩ : ∃ n : Nat, x = n := ⟨x.toNat, by omega⟩
  rcases lt_cases8 hj with rfl | rfl | rfl | rfl | rfl | rfl | rfl | rfl <;> simp [Cd.be] <;> omega
theorem fv_more (s : Int) (l : List Int) (j : Nat) (c : Int) (h : l[j]? = some c) : Cd.fv s (l.take (j + 1)) = Cd.fs (Cd.fv s (l.take j)) c := by
  rw [Cd.take_more h, Cd.fv_snoc]
theorem pb_fv (s k : Int) (n : Nat) (ys : List Int) (hn : ys.length = n) (h : n ≤ 64) : Cd.fv s (Cd.pb k ys) = Cd.fv (Cd.fs (Cd.fs (Cd.fv s (Cd.be 8 k.toNat)) 0) (n : Int)) ys := by
  unfold Cd.pb Cd.hd
  rw [hn, Cd.fv_append, Cd.fv_append]
  have e : Cd.be 2 (n % 65536) = [0, (n : Int)] := by
    simp [Cd.be]; omega
  rw [e]
  rfl
theorem dg_step {mk kk s s2 s3 : Int} {j : Nat} (ek : 56 - 8 * (j : Int) = kk) (hj : j < 8) (h0 : 0 ≤ mk) (HJ : s2 = Cd.fv s ((Cd.be 8 mk.toNat).take j)) (e3 : Cd.fs s2 (mk / 2 ^ kk.toNat % 256) = s3) : s3 = Cd.fv s ((Cd.be 8 mk.toNat).take (j + 1)) := by
  rw [← e3, ← ek, fv_more _ _ _ _ (be_at mk h0 j hj), ← HJ]
theorem kstep {kk : Int} {j : Nat} (h : 56 - 8 * (j : Int) = kk) : Value.int IntKind.i64 (kk - 8) = Value.int IntKind.i64 (56 - 8 * ((j + 1 : Nat) : Int)) := by
  rw [show kk - 8 = 56 - 8 * ((j + 1 : Nat) : Int) by omega]
theorem kmea {kk : Int} (h : 0 ≤ kk) : (intOf (.int .i64 (kk - 8)) + 8).toNat < (intOf (.int .i64 kk) + 8).toNat := by simp [intOf]; omega
set_option maxRecDepth 100000 in
set_option maxHeartbeats 800000 in
theorem digest147 {w : World} {rb : Nat} {most : Int} {v : Sv} {L : List (Int × Sv)} {M : List KV} (h : Rs w rb most v L M) (lo hi : Int) : Calls Try.prog 147 #[.pointer (some ⟨rb, 0, none⟩), .int .u64 lo, .int .u64 hi] w fun e w' => e = .returned (.int .u64 (Cd.fv f0 (pbs (rg lo hi M)))) ∧ Kp Nu w w' := by
  have IN := in_k h lo hi
  obtain ⟨A, eA⟩ : ∃ A, rg lo hi M = A := ⟨_, rfl⟩
  obtain ⟨N, eN⟩ : ∃ N, A.length = N := ⟨_, rfl⟩
  have hNb : N ≤ 32768 := by
    have h1 : (rg lo hi M).length ≤ M.length := List.length_filter_le _ _
    have := h.lm; have := h.mo
    rw [eA, eN] at h1; omega
  rw [eA, eN] at IN
  rw [eA]
  have HH := hide (And.intro eN hNb)
  clear h eA eN hNb
  go_enter Try.func147, Try.ntmps147
  go_wp2_with (go_at_call 149; refine IN.mono ?_; rintro e w1 ⟨ua, uc, rfl, H1⟩)
  go_loopw [8, 9] (fun hv it wr => ∃ (i : Nat) (s : Int), it = .int .i64 (i : Int) ∧ hv = .int .u64 s ∧ i ≤ N ∧ Hid (s = Cd.fv f0 (pbs (A.take i)) ∧ Kp Nu w1 wr)) (fun _ it _ => N - (intOf it).toNat)
  case atStart => exact ⟨0, _, rfl, rfl, Nat.zero_le _, rfl, Kp.refl _ _⟩
  case round =>
    obtain ⟨i, s, rfl, rfl, hi, HI⟩ := hrel
    by_cases hlt : i < N
    · obtain ⟨m, hm⟩ : ∃ m, A[i]? = some m := ⟨_, List.getElem?_eq_getElem (by rw [HH.out.1]; exact hlt)⟩
      obtain ⟨⟨L', hcr⟩, kw⟩ := H1.out
      obtain ⟨p, r, hp, hf, er, d0, d1⟩ := hcr.at_ hm
      simp only at er
      subst er
      obtain ⟨pk, ⟨pa, pn, pcc⟩⟩ := p
      have hpn : pn = m.2.length := hf.n
      have hrd := hf.rd
      have h64 := hf.2.2.1
      have hk0 := hf.2.2.2.1
      have hk1 := hf.2.2.2.2.1
      obtain ⟨mk, my⟩ := m
      simp only at d0 d1 hpn hrd h64 hk0 hk1
      have HD : Hid (∀ W, Kp Nu w1 W → W.cell? ⟨r, i * 2, none⟩ = some (.int .u64 mk) ∧ W.cell? ⟨r, i * 2 + 1, none⟩ = some (.slice pa pn pcc) ∧ Rd W (.slice pa pn pcc) my) := hide (fun W k => ⟨cell_nu d0 k, cell_nu d1 k, hrd.nu k⟩)
      have hltI : (i : Int) < (N : Int) := by omega
      have hi00 : (0 : Int) ≤ (i : Int) := by omega
      have hwi := wq (i : Int) hi00 (by have := HH.out; omega)
      have HM : Hid (A.take (i + 1) = A.take i ++ [(mk, my)]) := hide (by rw [List.take_add_one, hm]; rfl)
      have HK := hide (And.intro hk0 hk1)
      have HW := hide (And.intro hlt (And.intro hpn h64))
      have hnI : (pn : Int) ≤ 64 := by omega
      have hn0 : (0 : Int) ≤ (pn : Int) := by omega
      have q1 : (pn : Int) / 256 = 0 := by omega
      have q2 : (pn : Int) % 256 = pn := by omega
      have q3 : Int.tdiv (pn : Int) 256 = 0 := by rw [Int.tdiv_eq_ediv_of_nonneg hn0]; exact q1
      have q4 : Int.tmod (pn : Int) 256 = pn := by rw [Int.tmod_eq_emod_of_nonneg hn0]; exact q2
      have HQ := hide (And.intro hwi (And.intro hltI (And.intro hi00 (And.intro hn0 (And.intro q1 (And.intro q2 (And.intro q3 q4)))))))
      clear hm hp hf hrd h64 hk0 hk1 hlt hi hcr kw hpn q1 q2 q3 q4 hnI hn0 hwi d0 d1
      go_wp2_with fail
      generalize wr = wz at *
      go_loopw [8, 10] (fun hv kv wr2 => ∃ (j : Nat) (s2 : Int), kv = .int .i64 (56 - 8 * (j : Int)) ∧ hv = .int .u64 s2 ∧ j ≤ 8 ∧ Hid (s2 = Cd.fv s ((Cd.be 8 mk.toNat).take j) ∧ Kp Nu w1 wr2)) (fun _ kv _ => (intOf kv + 8).toNat)
      case atStart => exact ⟨0, _, rfl, rfl, by omega, rfl, HI.out.2⟩
      case round =>
        obtain ⟨j, s2, rfl, rfl, hj, HJ⟩ := hrel
        obtain ⟨kk, ek⟩ : ∃ kk : Int, 56 - 8 * (j : Int) = kk := ⟨_, rfl⟩
        obtain ⟨d0, d1, _⟩ := HD.out _ HJ.out.2
        by_cases hj8 : j < 8
        · have hge : (0 : Int) ≤ kk := by omega
          have hle : kk ≤ 56 := by omega
          have wk : wrap64 (kk - 8) = kk - 8 := by unfold wrap64; omega
          have HE := hide (And.intro ek (And.intro hj8 hge))
          rw [ek]
          clear hj hj8 ek
          go_wp2_with (go_at_call 189; refine (hash189 _ s2 _).mono ?_; rintro e w3 ⟨rfl, hw⟩; obtain rfl := hw; generalize eS : Cd.fs s2 _ = s3; have HS3 := hide (And.intro (dg_step HE.out.1 HE.out.2.1 HK.out.1 HJ.out.1 eS) HJ.out.2); clear eS)
          exact ⟨⟨j + 1, s3, kstep HE.out.1, rfl, sq HE.out.2.1, HS3⟩, kmea HE.out.2.2⟩
        · have hge : ¬ (0 : Int) ≤ kk := by omega
          have hj8' : j = 8 := by omega
          have HE2 : Hid (s2 = Cd.fv s (Cd.be 8 mk.toNat) ∧ Kp Nu w1 wr) := hide ⟨by rw [HJ.out.1, hj8']; rfl, HJ.out.2⟩
          rw [ek]
          clear HJ ek hj hj8 hj8'
          obtain ⟨hwi, hltI, hi00, hn0, q1, q2, q3, q4⟩ := HQ.out
          go_wp2_with (go_at_call 189; refine (hash189 _ _ _).mono ?_; rintro e w3 ⟨rfl, hw⟩; rw [hw]; clear hw)
          generalize eS3 : Cd.fs (Cd.fs s2 0) (pn : Int) = s3
          have HS3 := hide eS3
          have HK3 := hide HE2.out.2
          clear eS3 hn0 q1 q2 q3 q4 hge d0
          generalize wr = wy at *
          go_loopw [8, 12] (fun hv jv wr3 => ∃ (j : Nat) (s4 : Int), jv = .int .i64 (j : Int) ∧ hv = .int .u64 s4 ∧ j ≤ pn ∧ Hid (s4 = Cd.fv s3 (my.take j) ∧ Kp Nu w1 wr3)) (fun _ jv _ => pn - (intOf jv).toNat)
          case atStart => exact ⟨0, _, rfl, rfl, Nat.zero_le _, rfl, HK3.out⟩
          case round =>
            obtain ⟨j, s4, rfl, rfl, hj, HJ⟩ := hrel
            obtain ⟨_, d1, hrd⟩ := HD.out _ HJ.out.2
            by_cases hjn : j < pn
            · obtain ⟨y, hy⟩ : ∃ y, my[j]? = some y := ⟨_, List.getElem?_eq_getElem (by have := HW.out.2.1; omega)⟩
              obtain ⟨a, ea, hc⟩ : ∃ a, pa = some a ∧ ∀ j x, (cs my)[j]? = some x → wr.cell? (a.add j) = some x := by
                rcases hrd with ⟨e, e2⟩ | ⟨a', cap', e, hc⟩
                · rw [e2] at hy; simp at hy
                · exact ⟨a', (Value.slice.inj e).1, hc⟩
              have dy := hc j (.int .u8 y) (by simp [cs, hy])
              have hsp : a.spot = none := by
                obtain ⟨y0, hy0⟩ : ∃ y0, my[0]? = some y0 := ⟨_, List.getElem?_eq_getElem (by have := HW.out.2.1; omega)⟩
                have h1 := hc 0 (.int .u8 y0) (by simp [cs, hy0])
                have e : a.add 0 = a := by simp [Addr.add]
                rw [e] at h1
                exact spot_none1 h1
              obtain ⟨b, off, sp⟩ := a
              simp only at hsp
              subst hsp
              subst ea
              rw [Addr.add_lit] at dy
              have hjI : (j : Int) < (pn : Int) := by omega
              have hj0 : (0 : Int) ≤ (j : Int) := by omega
              have wj := wq (j : Int) hj0 (by have := HW.out; omega)
              have HS4 := hide (fv_more s3 my j y hy)
              have HE := hide hjn
              clear hc hy hj hjn hrd
              go_wp2_with (go_at_call 189; refine (hash189 _ _ _).mono ?_; rintro e w4 ⟨rfl, hw⟩; obtain rfl := hw; generalize eS : Cd.fs s4 y = s5; have HS5 : Hid (s5 = Cd.fv s3 (my.take (j + 1)) ∧ Kp Nu w1 _) := hide ⟨(by rw [HS4.out, ← HJ.out.1]; exact eS.symm), HJ.out.2⟩; clear eS)
              rw [wj]
              exact ⟨⟨j + 1, s5, by go_num, rfl, sq HE.out, HS5⟩, mq HE.out⟩
            · have hge : ¬ (j : Int) < (pn : Int) := by omega
              have HF : Hid (s4 = Cd.fv f0 (pbs (A.take (i + 1))) ∧ Kp Nu w1 wr) := hide ⟨(by
                have hl : my.length = pn := HW.out.2.1.symm
                rw [HM.out, pbs_snoc, Cd.fv_append, ← HI.out.1, pb_fv s mk pn my hl (by have := HW.out.2.2; omega), ← HE2.out.1, HS3.out, HJ.out.1, List.take_of_length_le (by omega)]), HJ.out.2⟩
              clear HJ hj hjn hrd
              go_wp2_with fail
              rw [hwi]
              exact ⟨⟨i + 1, s4, by go_num, rfl, sq HW.out.1, HF⟩, mq HW.out.1⟩
    · obtain rfl : i = N := by omega
      have hnl : ¬ (i : Int) < (i : Int) := by omega
      have HZ : Hid (s = Cd.fv f0 (pbs A) ∧ Kp Nu w wr) := hide ⟨by rw [HI.out.1, List.take_of_length_le (by rw [HH.out.1]; exact Nat.le_refl _)], H1.out.2.andNu HI.out.2⟩
      clear HI hi hlt
      go_wp2
      go_ret
      exact ⟨by rw [← HZ.out.1]; rfl, HZ.out.2⟩
end Go.Proofs.Ytchealdgncgjoaa.StU
