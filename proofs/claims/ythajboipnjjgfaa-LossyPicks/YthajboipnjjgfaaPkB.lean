import Derived.Test.YthajboipnjjgfaaPkA
namespace Go.Proofs.Ythajboipnjjgfaa.Ly
open Go.RowKit Go.Maps
set_option linter.unusedVariables false

set_option maxRecDepth 100000 in
set_option maxHeartbeats 1000000 in
theorem picks_walk (w : World) (N : Int) (u : Value) (xs : List Int) (hr : RdI w u xs) (hb : (xs.length : Int) ≤ 9223372036854775807) :
    Calls Try.prog 3 #[.int .i64 N, u] w fun e w' => e = .returned (.bool true) ∧ Kp Nu w w' := by
  obtain ⟨ad, cap, hu⟩ := hr.slice
  by_cases h1 : N < 0
  · rw [hu]
    go_enter Try.func3, Try.ntmps3
    go_wp2
    go_ret
    exact ⟨rfl, Kp.refl _ _⟩
  by_cases h2 : N > 4096
  · rw [hu]
    go_enter Try.func3, Try.ntmps3
    go_wp2
    go_ret
    exact ⟨rfl, Kp.refl _ _⟩
  have mixed : Try.prog.follows .mixedOrders = true := by kernel_rfl
  have O1 := fun w => opened_ok w 4096 (by omega) (by omega)
  have HR := hide hr
  obtain ⟨Z, hZ⟩ : ∃ Z, xs.length = Z := ⟨_, rfl⟩
  have HZ := hide hZ
  have HB := hide hb
  rw [hZ] at hu
  subst hu
  clear hr hb hZ
  go_enter Try.func3, Try.ntmps3
  go_wp2_with fail
  refine (O1 w).mono ?_; rintro e w1 ⟨b1, rfl, ⟨m1, hN1⟩, k1⟩
  go_wp2_with fail
  refine (O1 w1).mono ?_; rintro e w2 ⟨b2, rfl, ⟨m2, hN2⟩, k2⟩
  have HT := hide (Tw.open hN1 k1 hN2 k2)
  clear hN1 k1 hN2 k2 O1
  go_wp2_with fail
  go_loopw [7] (fun i wr => ∃ k : Nat, (k : Int) ≤ N ∧ i = .int .i64 (k : Int) ∧ Hid (∃ v1 v2 L1 L2, L1.length = k ∧ L2.length = k ∧ L1.map bare = L2.map bare ∧ Tw w wr b1 m1 b2 m2 v1 v2 (ck k 0) (ck k 0) L1 L2)) (fun i _ => N.toNat - (intOf i).toNat)
  case atStart => exact ⟨0, by omega, rfl, ⟨_, _, [], [], rfl, rfl, rfl, HT.out⟩⟩
  case round =>
    obtain ⟨k, hk, rfl, hI⟩ := hrel
    clear HT
    by_cases hlt : (k : Int) < N
    · have hk0 : (0 : Int) ≤ (k : Int) := by omega
      have hk4 : (k : Int) < 4096 := by omega
      obtain ⟨v1, v2, L1, L2, hl1, hl2, hbr, hT⟩ := hI.out
      have TS := two_sendL (hT.nu (Kp.alloc wr (.cells #[.int .u8 ((k : Int) % 256), .int .u8 ((k : Int) / 256)] 5) Nu)) (heap_alloc_new wr _) (by omega) (far_ck hk0 (by omega) (by omega) (by omega))
      have HBR := hide (And.intro hl1 (And.intro hl2 hbr))
      clear hI hT hl1 hl2 hbr
      go_wp2_with fail
      refine TS.mono ?_; rintro e w3 ⟨rfl, v1', g1, hg1, hT3, hb3⟩
      have TR := two_sendR hT3 hb3 (by have := HBR.out.2.1; omega) (far_ck hk0 (by omega) (by omega) (by omega))
      clear TS hb3 hT3
      go_wp2_with fail
      refine TR.mono ?_; rintro e w4 ⟨rfl, v2', g2, hg2, hT4⟩
      have HI : Hid (∃ v1 v2 L1 L2, L1.length = k + 1 ∧ L2.length = k + 1 ∧ L1.map bare = L2.map bare ∧ Tw w w4 b1 m1 b2 m2 v1 v2 (ck ((k + 1 : Nat) : Int) 0) (ck ((k + 1 : Nat) : Int) 0) L1 L2) := by
        refine ⟨v1', v2', _, _, by simp [HBR.out.1], by simp [HBR.out.2.1], ?_, hT4⟩
        simp [HBR.out.2.2, hg1, hg2]
      clear TR hT4 HBR hg1 hg2
      have nm := num_any 0 w4
      go_wp2_with fail
      refine nm.mono ?_; rintro e w5 ⟨rfl, hw5⟩
      obtain rfl := hw5.symm
      go_wp2_with fail
      refine nm.mono ?_; rintro e w6 ⟨rfl, hw6⟩
      obtain rfl := hw6.symm
      clear nm hw5 hw6
      go_wp2
      exact ⟨⟨k + 1, by omega, by go_num, HI⟩, by simp [intOf]; omega⟩
    · obtain ⟨v1, v2, L1, L2, hl1, hl2, hbr, hT⟩ := hI.out
      obtain rfl : N = (k : Int) := by omega
      have hge : ¬ (k : Int) < (k : Int) := by omega
      have hk0 : (0 : Int) ≤ (k : Int) := by omega
      have HBR := hide (And.intro hl1 (And.intro hl2 hbr))
      have LE := len_any hT.n
      rw [hl1] at LE
      have HT := hide hT
      have hne : ((k : Int) != (k : Int)) = false := by simp
      clear hI hT hl1 hl2 hbr hk hlt
      go_wp2_with fail
      refine LE.mono ?_; rintro e w3 ⟨rfl, hw3⟩
      obtain rfl := hw3.symm
      clear hw3 LE
      have DP := two_dropL HT.out (HR.out.nu HT.out.k) HB.out (by show (0 : Int) ≤ 0; omega) (by show (0 : Int) ≤ 4096; omega)
      go_wp2_with fail
      refine DP.mono ?_; rintro e w3 ⟨q, er, rfl, hP⟩
      clear DP
      rcases hP.out with ⟨hin, rfl, rfl, hT3⟩ | ⟨hin, hq, rfl, v1', hT3⟩
      · have IN := inside_any (HR.out.nu hT3.k) HB.out k
        rw [← HBR.out.1, hin] at IN
        rw [HBR.out.1] at IN
        have HT3 := hide hT3
        clear hP hin HT hT3
        go_wp2_with fail
        refine IN.mono ?_; rintro e w4 ⟨rfl, hk4⟩
        have nm := num_any 54 w4
        have LE := len_any (HT3.out.nu hk4).n
        rw [HBR.out.1] at LE
        have HK := hide (HT3.out.nu hk4).k
        have heq : ((k : Int) == (k : Int)) = true := by simp
        clear IN hk4
        go_wp2_with fail
        refine nm.mono ?_; rintro e w5 ⟨rfl, hw5⟩
        obtain rfl := hw5.symm
        go_wp2_with fail
        refine LE.mono ?_; rintro e w6 ⟨rfl, hw6⟩
        obtain rfl := hw6.symm
        go_wp2
        go_ret
        exact ⟨rfl, HK.out⟩
      · have IN := inside_any (HR.out.nu hT3.k) HB.out k
        rw [← HBR.out.1, hin] at IN
        rw [HBR.out.1] at IN
        rw [HBR.out.1] at hq
        have HT3 := hide hT3
        have HQ := hide hq
        have HIN := hide hin
        clear hP hin HT hT3 hq
        go_wp2_with fail
        refine IN.mono ?_; rintro e w4 ⟨rfl, hk4⟩
        have HT4 := hide (HT3.out.nu hk4)
        clear IN hk4 HT3
        obtain ⟨S1, hS1⟩ : ∃ S, sift (drP xs) 0 L1 = S := ⟨_, rfl⟩
        have HS1 := hide hS1
        rw [hS1] at HQ HT4
        clear hS1
        go_wp2_with fail
        go_loopw [14, 15] (fun jv iv wr => ∃ (t : Nat) (j : Int), t ≤ k ∧ jv = .int .i64 j ∧ iv = .int .i64 ((t : Int) - 1) ∧ Hid (j = (k : Int) - ((mid xs L2 t).length : Int) ∧ ∃ v2', Tw w wr b1 m1 b2 m2 v1' v2' { ck k 0 with x := (ck k 0).x + ((L1.length : Int) - (S1.length : Int)) } (ck k j) S1 (mid xs L2 t))) (fun _ i _ => (intOf i + 1).toNat)
        case atStart =>
          refine ⟨k, 0, Nat.le_refl _, rfl, rfl, ?_, v2, ?_⟩
          · have := mid_all xs L2
            rw [HBR.out.2.1] at this
            rw [this, HBR.out.2.1]; omega
          · have := mid_all xs L2
            rw [HBR.out.2.1] at this
            rw [this]
            exact HT4.out
        case round =>
          obtain ⟨t, j, ht, rfl, rfl, hJ⟩ := hrel
          clear HT4
          match t, ht, hJ with
          | 0, ht, hJ =>
            clear ht
            obtain ⟨hj, v2', hT⟩ := hJ.out
            have hb0 : S1.map bare = (mid xs L2 0).map bare := by
              rw [mid_zero, ← HS1.out]
              exact sift_bare (q := fun k => decide ((k : Int) ∈ xs)) (fun _ _ => rfl) L1 L2 0 HBR.out.2.2
            have hl0 : S1.length = (mid xs L2 0).length := by
              have := congrArg List.length hb0
              simpa using this
            have hqj : q = j := by have := HQ.out; omega
            subst hqj
            have LE := len_any hT.n
            have LA := list_any hT.n
            have LB := fun W (k : Kp Nu wr W) => list_any (hT.nu k).m
            have HTT := hide hT
            have HB0 := hide hb0
            have hle : (mid xs L2 0).length ≤ 4096 := by have := mid_le xs L2 0; have := HBR.out.2.1; omega
            obtain ⟨l, hl⟩ : ∃ l : Nat, S1.length = l := ⟨_, rfl⟩
            have HL := hide hl
            rw [hl] at LE
            have hk' : (k : Int) = (l : Int) + q := by omega
            have hq0 : (0 : Int) ≤ q := by have := mid_le xs L2 0; have := HBR.out.2.1; omega
            have hl4 : (l : Int) ≤ 4096 := by omega
            have hll : (0 : Int) ≤ (l : Int) := by omega
            have hsub : (k : Int) - q = (l : Int) := by omega
            have HSUB := hide hsub
            have hne1 : (q != q) = false := by simp
            have hne2 : ((l : Int) != (l : Int)) = false := by simp
            have nm := num_any 0 wr
            clear hJ hj hT hb0 hl0 hle hl HQ hsub
            rw [hk']
            go_wp2_with fail
            refine nm.mono ?_; rintro e w5 ⟨rfl, hw5⟩
            obtain rfl := hw5.symm
            go_wp2_with fail
            refine LE.mono ?_; rintro e w6 ⟨rfl, hw6⟩
            obtain rfl := hw6.symm
            clear hw5 hw6 nm LE
            go_wp2_with fail
            refine LA.mono ?_; rintro e w7 ⟨ua, rfl, ⟨La, hoa, hta⟩, hk7⟩
            have LB7 := LB w7 hk7
            have hla : La.length = l := by
              have h1 := congrArg List.length hta.same
              have h3 := HL.out
              simp at h1
              omega
            clear LA LB
            obtain ⟨ada, capa, hua⟩ := own_slice hoa
            rw [hla] at hua
            have HOA := hide hoa
            have HTA := hide hta
            have HLA := hide hla
            rw [hua] at HOA
            subst hua
            clear hoa hta hla
            go_wp2_with fail
            refine LB7.mono ?_; rintro e w8 ⟨ub, rfl, ⟨Lb, hob, htb⟩, hk8⟩
            have hlb : Lb.length = l := by
              have h1 := congrArg List.length htb.same
              have h2 := congrArg List.length HB0.out
              have h3 := HL.out
              simp at h1 h2
              omega
            obtain ⟨adb, capb, hub⟩ := own_slice hob
            rw [hlb] at hub
            have HOB := hide hob
            have HTB := hide htb
            have HLB := hide hlb
            rw [hub] at HOB
            subst hub
            have HOA8 : Hid (w8.ownsRow wr.heap.size 38 3 (.slice ada l capa) La.length (cells La)) := own_keep HOA.out (fun g hg => hk8.block g (own_lt HOA.out hg) (fun h => h))
            have HTA8 : Hid (Told w8 wr.heap.size La S1) := HTA.out.keep (fun i cur hi => hk8.block i (blk_lt hi) (fun h => h))
            have HK := hide ((HTT.out.k.andNu hk7).andNu hk8)
            have HSM : Hid (La.map bare = Lb.map bare) := by
              show _ = _
              rw [HTA.out.same, HTB.out.same, HB0.out]
            clear hob htb hlb LB7 hk7 hk8 HOA HTA
            go_wp2_with fail
            go_loopw [20] (fun i wx => ∃ n : Nat, n ≤ l ∧ i = .int .i64 (n : Int) ∧ Kp Nu w8 wx) (fun i _ => l - (intOf i).toNat)
            case atStart => exact ⟨0, by omega, rfl, Kp.refl _ _⟩
            case round =>
              obtain ⟨n, hn, rfl, hkx⟩ := hrel
              by_cases hlt : n < l
              · obtain ⟨ga, hga⟩ : ∃ g, La[n]? = some g := ⟨_, List.getElem?_eq_getElem (by rw [HLA.out]; exact hlt)⟩
                obtain ⟨gb, hgb⟩ : ∃ g, Lb[n]? = some g := ⟨_, List.getElem?_eq_getElem (by rw [HLB.out]; exact hlt)⟩
                have hys : ga.ys = gb.ys := by
                  have h1 : (La.map bare)[n]? = (Lb.map bare)[n]? := by rw [HSM.out]
                  rw [List.getElem?_map, List.getElem?_map, hga, hgb] at h1
                  simp [bare] at h1
                  exact h1.2.2
                have oa := own_keep HOA8.out (w' := wr) (fun g hg => hkx.block g (own_lt HOA8.out hg) (fun h => h))
                have ob := own_keep HOB.out (w' := wr) (fun g hg => hkx.block g (own_lt HOB.out hg) (fun h => h))
                obtain ⟨ra, ca, hva, _, _, xa⟩ := row_at oa hga
                obtain ⟨rb, cb, hvb, _, _, xb⟩ := row_at ob hgb
                simp only [Value.slice.injEq] at hva hvb
                obtain ⟨hva, hva2, hva3⟩ := hva
                obtain ⟨hvb, hvb2, hvb3⟩ := hvb
                clear hva2 hva3 hvb2 hvb3
                subst hva hvb
                have da := (HTA8.out.dat ga (List.mem_of_getElem? hga)).nu hkx
                have db := (HTB.out.dat gb (List.mem_of_getElem? hgb)).nu hkx
                obtain ⟨ka, cpa, ea⟩ := da.slice
                obtain ⟨kb, cpb, eb⟩ := db.slice
                have SM : ∀ W, Kp Nu wr W → Calls Try.prog 23 #[ga.d, gb.d] W fun e W' => e = .returned (.bool true) ∧ Kp Nu wr W' := fun W k => by
                  refine (same_any (Rd.of_own (da.nu k).own) (Rd.of_own (db.nu k).own) (by have := da.le; omega)).mono ?_
                  rintro e W' ⟨rfl, hk'⟩
                  exact ⟨by rw [hys]; simp, k.andNu hk'⟩
                have HS : ∀ W, Kp Nu wr W → W.cell? ⟨ra, n * 3 + 2, none⟩ = some ga.d ∧ W.cell? ⟨rb, n * 3 + 2, none⟩ = some gb.d := fun W k => ⟨cell_below xa (Nat.le_refl _) k.toBelow, cell_below xb (Nat.le_refl _) k.toBelow⟩
                rw [ea, eb] at SM HS
                have hnI : (n : Int) < (l : Int) := by omega
                have hn0 : (0 : Int) ≤ (n : Int) := by omega
                generalize ga.ys.length = Na at *
                generalize gb.ys.length = Nb at *
                clear oa ob da db xa xb ea eb hys
                go_wp2_with fail
                go_region_held (fun W => W.cell? ⟨ra, n * 3 + 2, none⟩ = some (.slice (some ⟨ka, 0, none⟩) Na cpa) ∧ W.cell? ⟨rb, n * 3 + 2, none⟩ = some (.slice (some ⟨kb, 0, none⟩) Nb cpb)) (first | (refine HS _ ?_; repeat (first | assumption | exact Kp.refl _ _ | apply Kp.andAlloc | apply Kp.drew))) (first | (go_at_call 23; refine (SM _ ?_).mono ?_; (repeat (first | assumption | exact Kp.refl _ _ | apply Kp.andAlloc | apply Kp.drew)); rintro e w9 ⟨rfl, hk9⟩))
                go_wp2
                exact ⟨⟨n + 1, by omega, by go_num, hkx.andNu hk9⟩, by simp [intOf]; omega⟩
              · have hge : ¬ (n : Int) < (l : Int) := by omega
                go_wp2
                go_ret
                exact ⟨rfl, HK.out.andNu hkx⟩
          | t + 1, ht, hJ =>
            have e1 : ((t + 1 : Nat) : Int) - 1 = (t : Int) := by omega
            rw [e1]
            have ht0 : (0 : Int) ≤ (t : Int) := by omega
            have ht4 : (t : Int) < 4096 := by omega
            have hge : (t : Int) ≥ 0 := ht0
            obtain ⟨hj, v2', hT⟩ := hJ.out
            have hml := mid_le xs L2 (t + 1)
            have hj0 : 0 ≤ j := by have := HBR.out.2.1; omega
            have hj4 : j ≤ 4096 := by omega
            have htL : t < L2.length := by have := HBR.out.2.1; omega
            have AM := among_any (HR.out.nu hT.k) HB.out (t : Int)
            have HTT := hide hT
            have HJJ := hide hj
            clear hJ e1 hj hT hml
            by_cases hm : (t : Int) ∈ xs
            · rw [decide_eq_true hm] at AM
              obtain ⟨hd1, hd2, hd3⟩ := mid_drop htL hm
              have HD := hide (And.intro hd1 (And.intro hd2 hd3))
              clear hm hd1 hd2 hd3
              go_wp2_with fail
              refine AM.mono ?_; rintro e w5 ⟨rfl, hk5⟩
              have DR := two_dropR ((HTT.out.nu hk5).nu (Kp.alloc w5 (.cells #[.int .i64 (t : Int)] 3) Nu)) (RdI.one (heap_alloc_new w5 _)) (by simp) hj0 hj4 (by simp [inAll, inL]; exact HD.out.2.2)
              have hone : ((mid xs L2 (t + 1)).length : Int) - ((sift (drP [(t : Int)]) 0 (mid xs L2 (t + 1))).length : Int) = 1 := by rw [HD.out.1]; have := HD.out.2.1; omega
              rw [hone, HD.out.1] at DR
              clear hone AM
              go_wp2_with fail
              refine DR.mono ?_; rintro e w6 ⟨rfl, v2'', hT6⟩
              have HI : Hid (j + 1 = (k : Int) - ((mid xs L2 t).length : Int) ∧ ∃ v2', Tw w w6 b1 m1 b2 m2 v1' v2' { ck k 0 with x := (ck k 0).x + ((L1.length : Int) - (S1.length : Int)) } (ck k (j + 1)) S1 (mid xs L2 t)) := by
                refine ⟨?_, v2'', hT6⟩
                have := HD.out.2.1
                have := HJJ.out
                omega
              have nm := num_any 0 w6
              clear DR hT6 HTT HJJ HD hk5
              go_wp2_with fail
              refine nm.mono ?_; rintro e w7 ⟨rfl, hw7⟩
              obtain rfl := hw7.symm
              clear nm hw7
              go_wp2
              exact ⟨⟨t, j + 1, by omega, by go_num, by go_num, HI⟩, by simp [intOf]⟩
            · rw [decide_eq_false hm] at AM
              have hs := mid_skip htL hm
              have HS := hide hs
              clear hm hs
              go_wp2_with fail
              refine AM.mono ?_; rintro e w5 ⟨rfl, hk5⟩
              have HI : Hid (j = (k : Int) - ((mid xs L2 t).length : Int) ∧ ∃ v2', Tw w w5 b1 m1 b2 m2 v1' v2' { ck k 0 with x := (ck k 0).x + ((L1.length : Int) - (S1.length : Int)) } (ck k j) S1 (mid xs L2 t)) := by
                rw [HS.out]
                exact ⟨HJJ.out, v2', HTT.out.nu hk5⟩
              clear AM HS HJJ HTT hk5
              go_wp2
              exact ⟨⟨t, j, by omega, rfl, by go_num, HI⟩, by simp [intOf]⟩
end Go.Proofs.Ythajboipnjjgfaa.Ly
