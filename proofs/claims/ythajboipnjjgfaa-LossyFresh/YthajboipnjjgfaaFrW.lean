import Derived.Test.YthajboipnjjgfaaFrT
namespace Go.Proofs.Ythajboipnjjgfaa.Ly
open Go.RowKit Go.Maps
set_option linter.unusedVariables false

set_option maxRecDepth 100000 in
set_option maxHeartbeats 20000000 in
theorem fresh_gt (w : World) (v0 : Value) (S : List (Value × List Int)) (hS : Dts w v0 S) (hcase : 24 < (S.length : Int)) (hlS : (S.length : Int) ≤ 5864062014635) (hbS : ∀ s ∈ S, s.2.length ≤ 140737488351232) :
    Calls Try.prog 4 #[v0] w fun e w' => e = .returned (.bool true) ∧ Kp Nu w w' := by
  obtain ⟨i5, hi5, hz50, hz51, hz52⟩ := info_parts info5
  obtain ⟨i47, hi47, hz0, hz1, hz2⟩ := info_parts info47
  obtain ⟨ad, cap, hu⟩ := hS.slice
  have O1 := opened_ok w 4096 (by omega) (by omega)
  obtain ⟨N, hN⟩ : ∃ N, S.length = N := ⟨_, rfl⟩
  obtain ⟨K, hK1, hK2, hK3⟩ : ∃ K, K ≤ N ∧ K ≤ 24 ∧ (K < N → 24 ≤ K) := ⟨min N 24, by omega, by omega, by omega⟩
  have HN := hide hN
  have HBS := hide hbS
  rw [hN] at hu hlS hcase
  subst hu
  have HS := hide hS
  clear hS hN hbS
  go_enter Try.func4, Try.ntmps4
  go_wp2_with fail
  refine O1.mono ?_; rintro e w1 ⟨b, rfl, ⟨bm, hN1⟩, k1⟩
  have LK := links_any hN1
  have HL1 := hide (And.intro hN1 k1)
  clear hN1 k1 O1
  go_wp2_with fail
  refine LK.mono ?_; rintro e w2 ⟨rfl, hN2, hF2⟩
  have HI : Hid (Fz w w2 b bm (.slice none 0 0) 0 (sent S 0)) := ⟨⟨_, _, _, _, Fx.start hN2, rfl, Cok.zero, by simp⟩, HL1.out.2.low hF2.kp (fun i f => HL1.out.1.low i f)⟩
  clear LK hN2 hF2 HL1
  go_wp2_with fail
  go_loopw [4, 5] (fun bk i wr => ∃ (k hn : Nat) (ab : Option Addr) (cb : Nat), k ≤ K ∧ i = .int .i64 (k : Int) ∧ bk = .slice ab hn cb ∧ Hid (Fz w wr b bm (.slice ab hn cb) k (sent S k))) (fun _ i _ => K - (intOf i).toNat)
  case atStart => exact ⟨0, 0, none, 0, by omega, rfl, rfl, HI⟩
  case round =>
    obtain ⟨k, hn, ab, cb, hk, rfl, rfl, hI⟩ := hrel
    clear HI
    by_cases hlt : k < K
    · have hkN : k < N := by omega
      have hk24 : k < 24 := by omega
      have hltI : (k : Int) < (N : Int) := by omega
      have hlt24 : (k : Int) < 24 := by omega
      have hk0 : (0 : Int) ≤ (k : Int) := by omega
      obtain ⟨⟨v, c, L, H, hX, hLX, hC, hH⟩, hkp⟩ := hI.out
      obtain ⟨s, hs⟩ : ∃ s, S[k]? = some s := ⟨_, List.getElem?_eq_getElem (by rw [HN.out]; exact hkN)⟩
      obtain ⟨sb, off, scap, e, hcell, hrd⟩ := HS.out.at hkp hs
      obtain ⟨_, _, _, _, _, hrd0⟩ := HS.out.at (Kp.refl _ _) hs
      simp only [Value.slice.injEq] at e
      obtain ⟨rfl, e2, e3⟩ := e
      clear e2 e3
      obtain ⟨sv, ys⟩ := s
      simp only at hcell hrd hrd0
      have HSK := hide hs
      obtain ⟨abh, cbh, ehn⟩ := own_slice hX.bq.own
      simp only [Value.slice.injEq] at ehn
      obtain ⟨ehn1, ehn2, ehn3⟩ := ehn
      clear ehn1 ehn3 abh cbh
      by_cases hok : 0 < ys.length ∧ ys.length ≤ 1024
      · rcases hrd with ⟨_, e⟩ | ⟨a, cy, e, hcs⟩
        · subst e; simp at hok
        have hpk := pk_some hs hok.1 hok.2
        simp only at hpk
        obtain ⟨n, hyn⟩ : ∃ n, ys.length = n := ⟨_, rfl⟩
        have HYN := hide hyn
        rw [hyn] at e hok
        subst e
        have hnE : ((n : Int) == 0) = false := by rw [beq_eq_false_iff_ne]; omega
        have hn1 : ¬ (n : Int) > 1024 := by omega
        have HC0 := hide (And.intro hX (And.intro hLX (And.intro hC (And.intro hH (And.intro hkp (And.intro hpk hrd0))))))
        have HCS := hide hcs
        have hn4 : n ≤ 1024 := hok.2
        have hn0 : 0 < n := hok.1
        clear hX hLX hC hH hkp hpk hrd0 hcs hs hI hyn
        go_wp2_with (first
          | (at_builtin
             refine wpList_append_own_at _ rfl (.const (.slice none 0 0)) (.tmp 50) 25 rfl wr.heap.size 5 i5 (.int .u8 0) 1 1 Try.underlying25 hi5 hz50 hz51 hz52 rfl (by decide) (.slice none 0 0) 0 [] rfl (World.ownsRow_nil wr _ _ _) a n cy (cs ys) rfl (by rw [cs_length, HYN.out]; omega) HCS.out (cs_one ys) (by unfold maxLen; omega) (by omega) (Nat.le_refl _) ?_
             intro vi w3 ho hg hnil hat
             rw [Nat.zero_add, List.nil_append] at ho
             have kn : Kp Nu wr w3 := (Kp.of_grown hg).mono (fun _ _ e => by cases e)
             have hDi : Dg w3 wr.heap.size ⟨3, (k : Int), vi, ys⟩ := ⟨by show w3.ownsRow wr.heap.size 5 1 vi ys.length (cs ys); rw [HYN.out]; exact ho, by show 0 < ys.length; rw [HYN.out]; exact hn0, by show ys.length ≤ 1024; rw [HYN.out]; exact hn4, by show (0 : Int) ≤ 3; omega, by show (3 : Int) < 256; omega, hk0, by show (k : Int) < 256; omega⟩
             have HX3 := hide ((HC0.out.1.tell (HC0.out.1.nu kn) (fun g hg => hg) (Q := [⟨3, (k : Int), vi, ys⟩]) (fun x hx => by simp only [List.mem_singleton] at hx; subst hx; exact hDi) (Nat.le_refl _) (Apt.one _)))
             obtain ⟨gi, ci, evi⟩ := hDi.slice
             simp only at evi
             rw [HYN.out] at evi
             have hgi : Hid (w.heap.size ≤ gi) := Nat.le_trans HC0.out.2.2.2.2.1.size ((ho.lt gi (by rw [evi]; rfl)).1)
             have hLk : (L.length : Int) < 24 := by have h1 := congrArg List.length HC0.out.2.1; have h2 := sent_len S k; rw [List.length_map] at h1; omega
             have SD := send_fresh HX3.out.nt 3 (k : Int) (by omega) (by omega) hk0 (by omega) vi ys (Rd.of_own hDi.own) (HC0.out.2.2.1.far (by omega)) (by rw [HYN.out]; exact hn0) (by rw [HYN.out]; exact hn4) (bar_nil _ _) (by omega)
             have HK3 := hide (HC0.out.2.2.2.2.1.andNu kn)
             subst evi
             clear ho hg hnil hat kn hDi HCS))
        refine SD.mono ?_; rintro e w4 ⟨rfl, v4, d4, hN4, hF4, hq4⟩
        have nm := num_any 0 w4
        have HX4 := hide (HX3.out.send hN4 hF4 hq4)
        have HK4 := hide (HK3.out.low hF4.kp (fun i f => HX3.out.nt.low i f))
        have hOI : w4.ownsRow w.heap.size 5 1 (.slice (some ⟨gi, 0, none⟩) n ci) ys.length (cs ys) := (HX4.out.dat ⟨3, (k : Int), .slice (some ⟨gi, 0, none⟩) n ci, ys⟩ (by simp)).own
        have SA := same_any (Rd.of_own hOI) (HC0.out.2.2.2.2.2.2.nu HK4.out) (by rw [HYN.out]; omega)
        rw [show decide (ys = ys) = true from decide_eq_true rfl] at SA
        clear SD hN4 hF4 hq4 HX3 HK3
        go_wp2_with fail
        refine nm.mono ?_; rintro e wz ⟨rfl, hw⟩
        obtain rfl := hw.symm
        clear nm hw
        go_wp2_with fail
        refine SA.mono ?_; rintro e w5 ⟨rfl, hk5⟩
        have HX5 := hide (HX4.out.nu hk5)
        have HK5 := hide (HK4.out.andNu hk5)
        have HO5 : Hid (w5.ownsRow w.heap.size 5 1 (.slice (some ⟨gi, 0, none⟩) n ci) n (cs ys)) := by
          have h1 : w5.ownsRow w.heap.size 5 1 (.slice (some ⟨gi, 0, none⟩) n ci) ys.length (cs ys) := (HX5.out.dat ⟨3, (k : Int), .slice (some ⟨gi, 0, none⟩) n ci, ys⟩ (by simp)).own
          rw [HYN.out] at h1
          exact h1
        clear SA hk5 HX4 HK4 hOI
        go_wp2_with fail
        go_loopw [8] (fun j wt => ∃ (q : Nat) (zs : List Int), q ≤ n ∧ j = .int .i64 (q : Int) ∧ Hid (zs.length = n ∧ wt.ownsRow w.heap.size 5 1 (.slice (some ⟨gi, 0, none⟩) n ci) n (cs zs)) ∧ Hid (Kp (fun i => i = gi) w5 wt)) (fun j _ => n - (intOf j).toNat)
        case atStart => exact ⟨0, ys, by omega, rfl, ⟨HYN.out, HO5.out⟩, Kp.refl _ _⟩
        case round =>
          obtain ⟨q, zs, hq, rfl, hI, hkq⟩ := hrel
          clear HO5
          by_cases hltq : q < n
          · have hltQ : (q : Int) < (n : Int) := by omega
            have hq0 : (0 : Int) ≤ (q : Int) := by omega
            obtain ⟨z, hz⟩ : ∃ z, zs[q]? = some z := ⟨_, List.getElem?_eq_getElem (by rw [hI.out.1]; exact hltq)⟩
            obtain ⟨r, cp, e, x0⟩ := cs_at hI.out.2 hltq hz
            simp only [Value.slice.injEq, Option.some.injEq, Addr.mk.injEq, and_true] at e
            obtain ⟨rfl, e2⟩ := e
            clear e2
            have f0 := hI.out.2.frozenAt q
            have HN2 : ∀ z, Hid (((zs.set q z).length = n ∧ (wr.setCell ⟨gi, q, none⟩ (.int .u8 z)).ownsRow w.heap.size 5 1 (.slice (some ⟨gi, 0, none⟩) n ci) n (cs (zs.set q z))) ∧ Kp (fun i => i = gi) w5 (wr.setCell ⟨gi, q, none⟩ (.int .u8 z))) := fun z => ⟨⟨by rw [List.length_set]; exact hI.out.1, by rw [← cs_set]; exact (hI.out.2.stored q _).1⟩, hkq.out.andSet _ _ (.inr rfl)⟩
            clear hI hkq hz
            go_wp2_with fail
            exact ⟨⟨q + 1, _, by omega, by go_num, (HN2 _).out.1, (HN2 _).out.2⟩, by simp [intOf]; omega⟩
          · obtain rfl : q = n := by omega
            have hgeq : ¬ (q : Int) < (q : Int) := by omega
            rename World => w6
            have h6 := HX5.out
            rw [List.nil_append] at h6
            obtain ⟨LL, hLL⟩ : ∃ LL, L ++ [⟨3, (k : Int), d4, ys⟩] = LL := ⟨_, rfl⟩
            obtain ⟨M, hM⟩ : ∃ M, L.length = M := ⟨_, rfl⟩
            have hat : LL[M]? = some ⟨3, (k : Int), d4, ys⟩ := by rw [← hLL, ← hM]; simp
            have hlen : LL.length = M + 1 := by rw [← hLL, ← hM]; simp
            rw [hLL] at h6
            have HX6 := hide (h6.turn (gb := gi) rfl hkq.out)
            have HK6 := hide (HK5.out.low hkq.out (fun i e => by have e2 : i = gi := e; rw [e2]; exact hgi.out))
            have hM24 : (M : Int) < 24 := by rw [← hM]; exact hLk
            have hM0 : ¬ (M : Int) < 0 := by omega
            have hM1 : (0 : Int) ≤ (M : Int) := by omega
            have LN := len_any HX6.out.nt
            rw [show (LL.length : Int) = (M : Int) + 1 by omega] at LN
            have hfar : Far { c with s := c.s + 1 } := HC0.out.2.2.1.sendStep.far (by omega)
            have DK := deliver_keep HX6.out.nt M hat (bar_nil _ _) hfar
            have hmem : Hid ((⟨3, (k : Int), d4, ys⟩ : Gm) ∈ LL) := List.mem_of_getElem? hat
            have HAT := hide (And.intro hat hlen)
            have HLL := hide (And.intro hLL hM)
            clear hI hkq HX5 HK5 h6 hat hlen hLL hM hfar hLk
            go_wp2_with fail
            refine LN.mono ?_; rintro e wz ⟨rfl, hw⟩
            obtain rfl := hw.symm
            clear LN hw
            go_wp2_with fail
            refine DK.mono ?_; rintro e w7 ⟨a7, n7, c7, rfl, ho7, hN7, hF7⟩
            have HX7 := hide (HX6.out.tell1 (HX6.out.net hN7 hF7 (fun g hg => hg)) (fun g hg => hg) hmem.out ho7)
            have HK7 := hide (HK6.out.low hF7.kp (fun i f => HX6.out.nt.low i f))
            clear DK ho7 hN7 hF7 HX6 HK6
            have LO := fun W (q : Kp Nu w7 W) => look_ok (HX7.out.nu q).nt M HAT.out.1
            go_wp2_with fail
            refine (LO _ ((Kp.refl Nu w7).andAlloc _)).mono ?_; rintro e w8 ⟨a8, n8, c8, rfl, ho8, hk8⟩
            have HB8 : Hid (Bx w8 w7.heap.size 3 (k : Int) (.slice (some a7) n7 c7)) := new_at w7 _ hk8
            have HX8 := hide ((HX7.out.nu (Kp.alloc w7 _ Nu)).tell1 ((HX7.out.nu (Kp.alloc w7 _ Nu)).nu hk8) (fun g hg => hg) hmem.out ho8)
            have HK8 := hide ((HK7.out.andAlloc _).andNu hk8)
            have HZ8 : Hid (w7.heap.size < w8.heap.size) := blk_lt HB8.out
            clear LO ho8 hk8 HX7 HK7
            have LA := fun W (q : Kp Nu w8 W) => list_apart (HX8.out.nu q).nt
            go_wp2_with fail
            refine (LA _ ((Kp.refl Nu w8).andAlloc _)).mono ?_; rintro e w9 ⟨u9, rfl, ⟨L1, hr9, hT9, hA9⟩, hk9⟩
            have HBy9 : Hid (Bx w9 w8.heap.size 3 (k : Int) (.slice (some a8) n8 c8)) := new_at w8 _ hk9
            have HBx9 := hide ((HB8.out.nu (Kp.alloc w8 _ Nu)).nu hk9)
            have HX9 := hide ((HX8.out.nu (Kp.alloc w8 _ Nu)).tell ((HX8.out.nu (Kp.alloc w8 _ Nu)).nu hk9) (fun g hg => hg) hT9.dat (Nat.le_refl _) hA9)
            have HK9 := hide ((HK8.out.andAlloc _).andNu hk9)
            obtain ⟨NL, hNL⟩ : ∃ NL, NL = M + 1 := ⟨_, rfl⟩
            have hl1 : L1.length = NL := by
              have h1 := congrArg List.length hT9.same
              rw [List.length_map, List.length_map, HAT.out.2] at h1
              omega
            obtain ⟨gl, hgl⟩ : ∃ gl, L1[M]? = some gl := ⟨_, List.getElem?_eq_getElem (by omega)⟩
            have hgy : gl.ys = ys := by
              have h1 := congrArg (fun l => l[M]?) hT9.same
              simp only [List.getElem?_map, hgl, HAT.out.1, Option.map_some, Option.some.injEq, bare, Prod.mk.injEq] at h1
              exact h1.2.2
            obtain ⟨r1, c1, e1, _, _, _⟩ := row_at hr9 hgl
            rw [hl1] at e1
            subst e1
            have HR9 : Hid (w9.ownsRow 0 38 3 (.slice (some ⟨r1, 0, none⟩) NL c1) NL (cells L1)) := by
              have h1 := own_base hr9 (Nat.zero_le _)
              rw [hl1] at h1
              exact h1
            have hr9l := (hr9.lt r1 rfl).1
            simp at hr9l
            have HV9 : Hid (v4.ownBlock ≠ some r1 ∧ w.heap.size ≤ r1) := ⟨fun e => by
              have h1 := own_lt HX8.out.nt.own e
              omega, by
              have h3 := HK8.out.size
              omega⟩
            have HL9 := hide (And.intro hl1 (And.intro hgl hgy))
            have HNL := hide hNL
            clear hNL LA hr9 hr9l hT9 hA9 hk9 HX8 HK8 HB8 HZ8 hl1 hgl hgy
            have LO := look_ok HX9.out.nt M HAT.out.1
            go_wp2_with fail
            refine LO.mono ?_; rintro e w10 ⟨a10, n10, c10, rfl, ho10, hk10⟩
            have HBy10 := hide (HBy9.out.nu hk10)
            have HBx10 := hide (HBx9.out.nu hk10)
            have HX10 := hide (HX9.out.tell1 (HX9.out.nu hk10) (fun g hg => hg) hmem.out ho10)
            have HK10 := hide (HK9.out.andNu hk10)
            have HR10 := hide (own_keep HR9.out (w' := w10) (fun g hg => hk10.block g (own_lt HR9.out hg) (fun h => h)))
            clear LO ho10 hk10 HX9 HK9 HBy9 HBx9 HR9
            have LA := fun W (q : Kp Nu w10 W) => list_apart (HX10.out.nu q).nt
            go_wp2_with fail
            refine (LA _ ((Kp.refl Nu w10).andAlloc _)).mono ?_; rintro e w11 ⟨u11, rfl, ⟨L2, hr11, hT11, hA11⟩, hk11⟩
            have HBz11 : Hid (Bx w11 w10.heap.size 3 (k : Int) (.slice (some a10) n10 c10)) := new_at w10 _ hk11
            have HBy11 := hide ((HBy10.out.nu (Kp.alloc w10 _ Nu)).nu hk11)
            have HBx11 := hide ((HBx10.out.nu (Kp.alloc w10 _ Nu)).nu hk11)
            have HX11 := hide ((HX10.out.nu (Kp.alloc w10 _ Nu)).tell ((HX10.out.nu (Kp.alloc w10 _ Nu)).nu hk11) (fun g hg => hg) hT11.dat (Nat.le_refl _) hA11)
            have HK11 := hide ((HK10.out.andAlloc _).andNu hk11)
            have hNL := HNL.out
            have hl2 : L2.length = NL := by
              have h1 := congrArg List.length hT11.same
              rw [List.length_map, List.length_map, HAT.out.2] at h1
              omega
            obtain ⟨g2, hg2⟩ : ∃ gl, L2[M]? = some gl := ⟨_, List.getElem?_eq_getElem (by omega)⟩
            have hgy2 : g2.ys = ys := by
              have h1 := congrArg (fun l => l[M]?) hT11.same
              simp only [List.getElem?_map, hg2, HAT.out.1, Option.map_some, Option.some.injEq, bare, Prod.mk.injEq] at h1
              exact h1.2.2
            obtain ⟨r2, c2, e2, _, _, _⟩ := row_at hr11 hg2
            rw [hl2] at e2
            subst e2
            have HR : Hid (R5 w w11 b bm v4 { c with s := c.s + 1, d := c.d + 1, c := c.c + 1 } LL (.slice ab hn cb) H (⟨3, (k : Int), .slice (some a7) n7 c7, ys⟩ :: ⟨3, (k : Int), .slice (some a8) n8 c8, ys⟩ :: (L1 ++ ⟨3, (k : Int), .slice (some a10) n10 c10, ys⟩ :: L2)) w7.heap.size w8.heap.size w10.heap.size r1 r2 c1 c2 NL (k : Int) (.slice (some a7) n7 c7) (.slice (some a8) n8 c8) (.slice (some a10) n10 c10) L1 L2) := by
              refine ⟨(by have h := HX11.out; simp only [List.nil_append, List.append_assoc, List.cons_append] at h; exact h), HBx11.out, HBy11.out, HBz11.out, ?_, ?_, HL9.out.1, hl2, ?_, HV9.out.1, HV9.out.2, HK11.out⟩
              · exact own_keep HR10.out (fun g hg => ((Kp.alloc w10 _ Nu).andNu hk11).block g (own_lt HR10.out hg) (fun h => h))
              · have h1 := own_base hr11 (Nat.zero_le _)
                rw [hl2] at h1
                exact h1
              · have h1 := own_lt HR10.out (g := r1) rfl
                have h2 := (hr11.lt r2 rfl).1
                simp at h2
                omega
            have HL2 := hide (And.intro hg2 hgy2)
            clear hNL LA hr11 hT11 hA11 hk11 HX10 HK10 HBx10 HBy10 HR10 HBx11 HBy11 HBz11 HX11 HK11 hl2 hg2 hgy2 HV9
            obtain ⟨X, hX0⟩ : ∃ X, w7.heap.size = X := ⟨_, rfl⟩
            obtain ⟨Y, hY0⟩ : ∃ X, w8.heap.size = X := ⟨_, rfl⟩
            obtain ⟨Z, hZ0⟩ : ∃ X, w10.heap.size = X := ⟨_, rfl⟩
            rw [hX0, hY0, hZ0] at HR
            rw [hX0, hY0, hZ0]
            clear hX0 hY0 hZ0
            have hNL := HNL.out
            have BXx := HR.out.bx.d
            have BXy := HR.out.by'.d
            have hNLI : ((NL : Int) != (M : Int) + 1) = false := by rw [bne_eq_false_iff_eq]; omega
            have hMNL : (M : Int) < (NL : Int) := by omega
            clear hNL
            have hll := HR.out.at1 HL9.out.2.1
            have HRD : Hid (∀ W', Kp Nu w11 W' → Rd W' (.slice (some a) q cy) ys) := fun W' k' => HC0.out.2.2.2.2.2.2.nu (HR.out.kp.andNu k')
            have HDx : Hid (∀ W', Kp Nu w11 W' → Rd W' (.slice (some a7) n7 c7) ys ∧ Rd W' (.slice (some a8) n8 c8) ys ∧ Rd W' gl.d ys) := fun W' k' => by
              refine ⟨(Rd.of_own (HR.out.fx.dat ⟨3, (k : Int), .slice (some a7) n7 c7, ys⟩ (by simp)).own).nu k', (Rd.of_own (HR.out.fx.dat ⟨3, (k : Int), .slice (some a8) n8 c8, ys⟩ (by simp)).own).nu k', ?_⟩
              have h1 := Rd.of_own (HR.out.fx.dat gl (by simp [List.mem_of_getElem? HL9.out.2.1])).own
              rw [HL9.out.2.2] at h1
              exact h1.nu k'
            have hyl : ys.length ≤ 140737488355328 := by rw [HYN.out]; omega
            have hyt : decide (ys = ys) = true := decide_eq_true rfl
            have S1 := same_any (HDx.out _ (Kp.refl _ _)).1 (HRD.out _ (Kp.refl _ _)) hyl
            rw [show decide (ys = ys) = true from decide_eq_true rfl] at S1
            have nm := num_any 0 w11
            go_wp2_with fail
            refine nm.mono ?_; rintro e wz ⟨rfl, hw⟩
            obtain rfl := hw.symm
            clear hw
            go_wp2_with fail
            refine nm.mono ?_; rintro e wz ⟨rfl, hw⟩
            obtain rfl := hw.symm
            clear hw
            go_wp2_with fail
            refine nm.mono ?_; rintro e wz ⟨rfl, hw⟩
            obtain rfl := hw.symm
            clear hw nm
            go_wp2_with fail
            refine S1.mono ?_; rintro e w12 ⟨rfl, hk12⟩
            clear S1 BXx BXy hll
            have BXy := (HR.out.nu hk12).by'.d
            have S1 := same_any (HDx.out _ hk12).2.1 (HRD.out _ hk12) hyl
            rw [show decide (ys = ys) = true from decide_eq_true rfl] at S1
            go_wp2_with fail
            refine S1.mono ?_; rintro e w13 ⟨rfl, hk13⟩
            clear S1 BXy
            have hk13b := hk12.andNu hk13
            have hll := (HR.out.nu hk13b).at1 HL9.out.2.1
            have S1 := same_any (HDx.out _ hk13b).2.2 (HRD.out _ hk13b) hyl
            rw [show decide (ys = ys) = true from decide_eq_true rfl] at S1
            clear hk12 hk13
            go_wp2_with fail
            refine S1.mono ?_; rintro e w14 ⟨rfl, hk14⟩
            have HR14 := hide (HR.out.nu (hk13b.andNu hk14))
            clear S1 hll hk13b hk14 HR HDx HRD
            have BXx := HR14.out.bx.d
            have hHb : H.length ≤ 720 := by have := HC0.out.2.2.2.1; omega
            have HCx := fun m m0 m1 => HR14.out.fx.holdC m m0 m1
            rw [ehn2] at HR14 HCx
            go_wp2_with fail
            refine (HCx _ (by first | omega | exact (wrp8 _).1) (by first | omega | exact (wrp8 _).2)).mono ?_; rintro e w15 ⟨gbb, nbb, cbb, pa1, qa1, sa1, pa2, qa2, sa2, pa3, qa3, sa3, pa9, qa9, sa9, mm, rfl, hD⟩
            have HD := hide hD
            clear HCx hD
            go_wp2_with (at_builtin; refine unhid ?_)
            refine wpList_append_own_at _ rfl (.tmp 159) (.tmp 167) 42 rfl w.heap.size 47 i47 (.agg #[.slice none 0 0, .slice none 0 0, .slice none 0 0, .slice none 0 0, .slice none 0 0, .int .u8 0]) 6 128 Try.underlying42 hi47 hz0 hz1 hz2 rfl (by decide) (.slice ab H.length cb) H.length (hcs H) rfl HD.out.own ⟨w15.heap.size, 0, none⟩ 1 1 [.slice (some ⟨gbb, 0, none⟩) nbb cbb, .slice pa1 qa1 sa1, .slice pa2 qa2 sa2, .slice pa3 qa3 sa3, .slice pa9 qa9 sa9, .int .u8 mm] rfl rfl ?_ (by simp [Value.oneCell']) (by unfold maxLen; omega) (by omega) HD.out.low ?_
            · exact newAt _ _ _ _ rfl
            intro vbn w16 hon hgn hniln hatn
            obtain ⟨en, hFn, hkn1, hkn2⟩ := HD.out.fin vbn w16 hon hgn
            have HR16 := hide (HR14.out.step hFn hkn1 hkn2)
            obtain ⟨H1, hHn⟩ : ∃ Hn, H ++ [en] = Hn := ⟨_, rfl⟩
            rw [hHn] at HR16
            have hHl1 : Hid (H1.length = H.length + 1) := by show _ = _; rw [← hHn]; simp
            have hbH1 : H1.length ≤ 730 := by have := hHl1.out; omega
            obtain ⟨adnH1, cpnH1, evn⟩ := own_slice HR16.out.fx.bq.own
            subst evn
            clear hon hgn hniln hatn hFn hkn1 hkn2 HD HR14 hHn
            clear BXx
            have BXy := HR16.out.by'.d
            have HCx := fun m m0 m1 => HR16.out.fx.holdC m m0 m1
            go_wp2_with fail
            refine (HCx _ (by first | omega | exact (wrp8 _).1) (by first | omega | exact (wrp8 _).2)).mono ?_; rintro e w17 ⟨gbb, nbb, cbb, pa1, qa1, sa1, pa2, qa2, sa2, pa3, qa3, sa3, pa9, qa9, sa9, mm, rfl, hD⟩
            have HD := hide hD
            clear HCx hD
            go_wp2_with (at_builtin; refine unhid ?_)
            refine wpList_append_own_at _ rfl (.tmp 169) (.tmp 178) 42 rfl w.heap.size 47 i47 (.agg #[.slice none 0 0, .slice none 0 0, .slice none 0 0, .slice none 0 0, .slice none 0 0, .int .u8 0]) 6 128 Try.underlying42 hi47 hz0 hz1 hz2 rfl (by decide) (.slice adnH1 H1.length cpnH1) H1.length (hcs H1) rfl HD.out.own ⟨w17.heap.size, 0, none⟩ 1 1 [.slice (some ⟨gbb, 0, none⟩) nbb cbb, .slice pa1 qa1 sa1, .slice pa2 qa2 sa2, .slice pa3 qa3 sa3, .slice pa9 qa9 sa9, .int .u8 mm] rfl rfl ?_ (by simp [Value.oneCell']) (by unfold maxLen; omega) (by omega) HD.out.low ?_
            · exact newAt _ _ _ _ rfl
            intro vbn w18 hon hgn hniln hatn
            obtain ⟨en, hFn, hkn1, hkn2⟩ := HD.out.fin vbn w18 hon hgn
            have HR18 := hide (HR16.out.step hFn hkn1 hkn2)
            obtain ⟨H2, hHn⟩ : ∃ Hn, H1 ++ [en] = Hn := ⟨_, rfl⟩
            rw [hHn] at HR18
            have hHl2 : Hid (H2.length = H1.length + 1) := by show _ = _; rw [← hHn]; simp
            have hbH2 : H2.length ≤ 740 := by have := hHl2.out; omega
            obtain ⟨adnH2, cpnH2, evn⟩ := own_slice HR18.out.fx.bq.own
            subst evn
            clear hon hgn hniln hatn hFn hkn1 hkn2 HD HR16 hHn
            clear BXy
            go_wp2_with fail
            go_loopw [4, 18] (fun bk j wt => ∃ (q2 hq : Nat) (ab2 : Option Addr) (cb2 : Nat), q2 ≤ NL ∧ j = .int .i64 (q2 : Int) ∧ bk = .slice ab2 hq cb2 ∧ Hid (∃ H3 : List Hh, H3.length = H2.length + q2 ∧ R5 w wt b bm v4 { c with s := c.s + 1, d := c.d + 1, c := c.c + 1 } LL (.slice ab2 hq cb2) H3 (L1.drop q2 ++ ⟨3, (k : Int), .slice (some a10) n10 c10, ys⟩ :: L2) X Y Z r1 r2 c1 c2 NL (k : Int) (.slice (some a7) n7 c7) (.slice (some a8) n8 c8) (.slice (some a10) n10 c10) L1 L2)) (fun _ j _ => NL - (intOf j).toNat)
            case atStart => exact ⟨0, _, _, _, by omega, rfl, rfl, ⟨H2, rfl, by rw [List.drop_zero]; exact HR18.out⟩⟩
            case round =>
              obtain ⟨q2, hq2, ab2, cb2, hqn, rfl, rfl, hJ⟩ := hrel
              clear HR18
              obtain ⟨H3, hH3, hR3⟩ := hJ.out
              obtain ⟨abh, cbh, ehq⟩ := own_slice hR3.fx.bq.own
              simp only [Value.slice.injEq] at ehq
              obtain ⟨ehq1, ehq2, ehq3⟩ := ehq
              clear ehq1 ehq3 abh cbh
              subst ehq2
              have HR3 := hide hR3
              have HHL := hide hH3
              clear hJ hR3 hH3
              by_cases hltn : q2 < NL
              · have hltN : (q2 : Int) < (NL : Int) := by omega
                have hq20 : (0 : Int) ≤ (q2 : Int) := by omega
                have hq25 : (q2 : Int) < 30 := by have := HNL.out; omega
                have hH3b : H3.length ≤ 890 := by have := HHL.out; have := hHl1.out; have := hHl2.out; have := HNL.out; omega
                obtain ⟨g1, hg1⟩ : ∃ g1, L1[q2]? = some g1 := ⟨_, List.getElem?_eq_getElem (by rw [HL9.out.1]; exact hltn)⟩
                have hdr : L1.drop q2 = g1 :: L1.drop (q2 + 1) := by
                  rw [List.drop_eq_getElem_cons (by rw [HL9.out.1]; exact hltn)]
                  have h1 := (List.getElem?_eq_some_iff.1 hg1).2
                  rw [h1]
                have hc1 := HR3.out.at1 hg1
                rw [hdr, List.cons_append] at HR3
                have HCx := fun m m0 m1 => HR3.out.fx.holdC m m0 m1
                clear hdr hg1
                go_wp2_with fail
                refine (HCx _ (by first | omega | exact (wrp8 _).1) (by first | omega | exact (wrp8 _).2)).mono ?_; rintro e w19 ⟨gbb, nbb, cbb, pa1, qa1, sa1, pa2, qa2, sa2, pa3, qa3, sa3, pa9, qa9, sa9, mm, rfl, hD⟩
                have HD := hide hD
                clear HCx hD
                go_wp2_with (at_builtin; refine unhid ?_)
                refine wpList_append_own_at _ rfl (.tmp 186) (.tmp 198) 42 rfl w.heap.size 47 i47 (.agg #[.slice none 0 0, .slice none 0 0, .slice none 0 0, .slice none 0 0, .slice none 0 0, .int .u8 0]) 6 128 Try.underlying42 hi47 hz0 hz1 hz2 rfl (by decide) (.slice ab2 H3.length cb2) H3.length (hcs H3) rfl HD.out.own ⟨w19.heap.size, 0, none⟩ 1 1 [.slice (some ⟨gbb, 0, none⟩) nbb cbb, .slice pa1 qa1 sa1, .slice pa2 qa2 sa2, .slice pa3 qa3 sa3, .slice pa9 qa9 sa9, .int .u8 mm] rfl rfl ?_ (by simp [Value.oneCell']) (by unfold maxLen; omega) (by omega) HD.out.low ?_
                · exact newAt _ _ _ _ rfl
                intro vbn w20 hon hgn hniln hatn
                obtain ⟨en, hFn, hkn1, hkn2⟩ := HD.out.fin vbn w20 hon hgn
                have HR20 := hide (HR3.out.step hFn hkn1 hkn2)
                obtain ⟨H4, hHn⟩ : ∃ Hn, H3 ++ [en] = Hn := ⟨_, rfl⟩
                rw [hHn] at HR20
                have hHl3 : Hid (H4.length = H3.length + 1) := by show _ = _; rw [← hHn]; simp
                have hbH4 : H4.length ≤ 900 := by have := hHl3.out; omega
                obtain ⟨adnH4, cpnH4, evn⟩ := own_slice HR20.out.fx.bq.own
                subst evn
                clear hon hgn hniln hatn hFn hkn1 hkn2 HD HR3 hHn
                go_wp2_with fail
                exact ⟨⟨q2 + 1, _, _, _, by omega, by go_num, rfl, ⟨H4, by have := hHl3.out; have := HHL.out; omega, HR20.out⟩⟩, by simp [intOf]; omega⟩
              · obtain rfl : q2 = NL := by omega
                have hgen : ¬ (q2 : Int) < (q2 : Int) := by omega
                rename World => w21
                have hR := HR3.out
                rw [List.drop_of_length_le (by rw [HL9.out.1]; exact Nat.le_refl _), List.nil_append] at hR
                have HR21 := hide hR
                clear hR HR3
                have BXz := HR21.out.bz.d
                have hrd0 : Rd w (.slice (some a) q cy) ys := HC0.out.2.2.2.2.2.2
                have S1 := same_any (Rd.of_own (HR21.out.fx.dat ⟨3, (k : Int), .slice (some a10) n10 c10, ys⟩ (by simp)).own) (hrd0.nu HR21.out.kp) hyl
                rw [show decide (ys = ys) = true from decide_eq_true rfl] at S1
                go_wp2_with fail
                refine S1.mono ?_; rintro e w22 ⟨rfl, hk22⟩
                have HR22 := hide (HR21.out.nu hk22)
                clear S1 BXz hk22 HR21
                have hlast : L2[q2 - 1]? = some g2 := by
                  rw [show q2 - 1 = M by have := HNL.out; omega]
                  exact HL2.out.1
                have h2 := HR22.out.l2
                rw [← HR22.out.n2] at h2
                have LF := listFresh_any HR22.out.l1 h2 HR22.out.n2 (by have := HNL.out; omega) (by have := HNL.out; omega) (by intro e; cases e; exact HR22.out.ne rfl) (fun g hg => (HR22.out.fx.dat g (by simp [hg])).base (Nat.zero_le _)) hlast HL2.out.2 (fun W' kW => hrd0.nu (HR22.out.kp.low kW (fun i e => by have e2 : i = r1 := e; rw [e2]; exact HR22.out.lw)))
                rw [HR22.out.n2] at LF
                clear h2 hlast hrd0
                go_wp2_with fail
                refine LF.mono ?_; rintro e w23 ⟨rfl, hk23⟩
                obtain ⟨cu0, hcu0⟩ := own_obj HR22.out.l1 (g := r1) rfl
                have HX23 := hide ((HR22.out.fx.row hk23 hcu0 HR22.out.nv).drop)
                have HK23 := hide (HR22.out.kp.low hk23 (fun i e => by have e2 : i = r1 := e; rw [e2]; exact HR22.out.lw))
                clear LF hk23 hcu0 HR22
                have UT := untouched_any HX23.out.bq.own HX23.out.bq.all (by have := HHL.out; have := hHl1.out; have := hHl2.out; have := HNL.out; omega)
                go_wp2_with fail
                refine UT.mono ?_; rintro e w24 ⟨rfl, hk24b⟩
                have HNX : Hid (Fz w w24 b bm (.slice ab2 H3.length cb2) (k + 1) (sent S (k + 1))) := by
                  refine ⟨⟨v4, _, LL, H3, HX23.out.nu hk24b, ?_, HC0.out.2.2.1.step, ?_⟩, HK23.out.andNu hk24b⟩
                  · rw [sent_some HC0.out.2.2.2.2.2.1, ← HLL.out.1, List.map_append, HC0.out.2.1]
                    rfl
                  · have := HHL.out; have := hHl1.out; have := hHl2.out; have := HNL.out; have := HC0.out.2.2.2.1; omega
                clear UT hk24b HX23 HK23
                go_wp2_with fail
                exact ⟨⟨k + 1, _, _, _, by omega, by go_num, rfl, HNX⟩, by simp [intOf]; omega⟩
      · have hpk := pk_none hs hok
        have HNX : Hid (Fz w wr b bm (.slice ab hn cb) (k + 1) (sent S (k + 1))) := by
          rw [sent_none hpk]
          exact hI.out.skip
        obtain ⟨ady, cpy, hy⟩ := hrd.slice
        obtain ⟨n, hyn⟩ : ∃ n, ys.length = n := ⟨_, rfl⟩
        rw [hyn] at hy hok
        subst hy
        clear hX hLX hC hH hkp hrd0 hs hI hyn hpk hrd HSK
        by_cases hz : n = 0
        · subst hz
          go_wp2_with fail
          exact ⟨⟨k + 1, hn, ab, cb, by omega, by go_num, rfl, HNX⟩, by simp [intOf]; omega⟩
        · have hnE : ((n : Int) == 0) = false := by rw [beq_eq_false_iff_ne]; omega
          have hn1 : (n : Int) > 1024 := by omega
          go_wp2_with fail
          exact ⟨⟨k + 1, hn, ab, cb, by omega, by go_num, rfl, HNX⟩, by simp [intOf]; omega⟩
    · obtain rfl : k = K := by omega
      have HI2 : Hid (Fz w wr b bm (.slice ab hn cb) (24 + 0) (left' S 0 k)) := by
        rw [left_start]
        exact hI.out.more (by omega)
      clear hI
      have hltI : (k : Int) < (N : Int) := by omega
      have hge24 : ¬ (k : Int) < 24 := by omega
      all_goals
        go_wp2_with fail
        go_loopw [4, 19] (fun bk i wt => ∃ (k2 hn2 : Nat) (ab2 : Option Addr) (cb2 : Nat), k2 ≤ k ∧ i = .int .i64 (k2 : Int) ∧ bk = .slice ab2 hn2 cb2 ∧ Hid (Fz w wt b bm (.slice ab2 hn2 cb2) (24 + k2) (left' S k2 k))) (fun _ i _ => k - (intOf i).toNat)
        case atStart => exact ⟨0, _, _, _, by omega, rfl, rfl, HI2⟩
        case round =>
          obtain ⟨k2, hn2, ab2, cb2, hk2, rfl, rfl, hJ⟩ := hrel
          clear HI2
          by_cases hlt2 : k2 < k
          · have hlt2N : (k2 : Int) < (N : Int) := by omega
            have hlt224 : (k2 : Int) < 24 := by omega
            have hk20 : (0 : Int) ≤ (k2 : Int) := by omega
            obtain ⟨⟨v, c, L, H, hX, hLX, hC, hH⟩, hkp⟩ := hJ.out
            obtain ⟨s, hs⟩ : ∃ s, S[k2]? = some s := ⟨_, List.getElem?_eq_getElem (by rw [HN.out]; omega)⟩
            obtain ⟨sb, off, scap, e, hcell, hrd⟩ := HS.out.at hkp hs
            have HSK := hide hs
            obtain ⟨_, _, _, _, _, hrd0⟩ := HS.out.at (Kp.refl _ _) hs
            simp only [Value.slice.injEq] at e
            obtain ⟨rfl, e2, e3⟩ := e
            clear e2 e3
            obtain ⟨sv, ys⟩ := s
            simp only at hcell hrd hrd0
            have HRD0 := hide hrd0
            clear hrd0
            obtain ⟨abh, cbh, ehn⟩ := own_slice hX.bq.own
            simp only [Value.slice.injEq] at ehn
            obtain ⟨ehn1, ehn2, ehn3⟩ := ehn
            clear ehn1 ehn3 abh cbh
            by_cases hok : 0 < ys.length ∧ ys.length ≤ 1024
            · subst ehn2
              have hpk := pk_some hs hok.1 hok.2
              simp only at hpk
              rw [left_some hlt2 hpk] at hLX
              obtain ⟨g, L', hL⟩ : ∃ g L', L = g :: L' := by
                cases L with
                | nil => simp at hLX
                | cons g L' => exact ⟨g, L', rfl⟩
              subst hL
              simp only [List.map_cons, List.cons.injEq] at hLX
              obtain ⟨hb, hLX'⟩ := hLX
              obtain ⟨gf, gt, gd, gys⟩ := g
              simp only [bare, Prod.mk.injEq] at hb
              obtain ⟨rfl, rfl, hb3⟩ := hb
              obtain rfl := hb3.symm
              clear hb3
              obtain ⟨ady, cpy, hy⟩ := hrd.slice
              obtain ⟨n, hyn⟩ : ∃ n, ys.length = n := ⟨_, rfl⟩
              have HYN := hide hyn
              rw [hyn] at hy hok
              subst hy
              have hnE : ((n : Int) == 0) = false := by rw [beq_eq_false_iff_ne]; omega
              have hn1 : ¬ (n : Int) > 1024 := by omega
              have DT := deliver_take hX.nt 0 (g := ⟨3, (k2 : Int), gd, ys⟩) rfl (bar_nil _ _) (hC.far (by omega))
              rw [show ((0 : Nat) : Int) = 0 from rfl] at DT
              have HC0 := hide (And.intro hX (And.intro hLX' (And.intro hC (And.intro hH (And.intro hkp hrd)))))
              clear hX hLX' hC hH hkp hpk hrd hs hJ hyn
              go_wp2_with fail
              refine DT.mono ?_; rintro e w3 ⟨a3, n3, c3, rfl, ho3, v3, hN3, hF3⟩
              rw [show cut (⟨3, (k2 : Int), gd, ys⟩ :: L') 0 = L' by simp [cut]] at hN3
              have h3 := HC0.out.1.tell1 (HC0.out.1.net hN3 hF3 (fun x hx => by simp [hx])) (fun x hx => by simp [hx]) (show (⟨3, (k2 : Int), gd, ys⟩ : Gm) ∈ (⟨3, (k2 : Int), gd, ys⟩ : Gm) :: L' by simp) ho3
              rw [List.nil_append] at h3
              have HK3 := HC0.out.2.2.2.2.1.low hF3.kp (fun i f => HC0.out.1.nt.low i f)
              obtain ⟨w4, hw4⟩ : ∃ w4, w3.alloc (.cells #[.int .u8 3, .int .u8 (k2 : Int), .slice (some a3) n3 c3] 38) = w4 := ⟨_, rfl⟩
              have k34 : Kp Nu w3 w4 := by rw [← hw4]; exact Kp.alloc w3 _ Nu
              have HBX : Hid (Bx w4 w3.heap.size 3 (k2 : Int) (.slice (some a3) n3 c3)) := by
                show w4.heap[w3.heap.size]? = _
                rw [← hw4]
                exact heap_alloc_new w3 _
              have HX4 := hide (h3.nu k34)
              have HK4 := hide (HK3.andNu k34)
              have BX := HBX.out.d
              have hcell4 : w4.cell? ⟨sb, off + k2, none⟩ = some (.slice ady n cpy) := by
                obtain ⟨sb', off', scap', e', hc', _⟩ := HS.out.at HK4.out HSK.out
                simp only [Value.slice.injEq, Option.some.injEq, Addr.mk.injEq, and_true] at e'
                obtain ⟨⟨e4, e5⟩, _, _⟩ := e'
                rw [e4, e5]
                exact hc'
              have SA4 : ∀ m, Calls Try.prog 23 #[.slice (some a3) n3 c3, .slice ady n cpy] (w4.drewN m) (fun e w' => e = .returned (.bool true) ∧ ∃ m2, w' = (w4.drewN m).drewN m2) := fun m => by
                have h1 : Rd w4 (.slice (some a3) n3 c3) ys := Rd.of_own (HX4.out.dat ⟨3, (k2 : Int), .slice (some a3) n3 c3, ys⟩ (by simp)).own
                exact same_q (h1.nu (kp_drewN w4 m)) ((HRD0.out.nu HK4.out).nu (kp_drewN w4 m)) (by rw [HYN.out]; exact hok.1) (by rw [HYN.out]; omega)
              clear DT ho3 hN3 hF3 h3 HK3 k34
              go_wp2_with fail
              go_quiet (first | (go_at_call 17; exact Calls.quiet_of_same (num_any _ _)) | (go_at_call 23; exact Calls.quiet_of (SA4 _)))
              have HX5 := hide (HX4.out.nu (kp_drewN w4 nq))
              have HK5 := hide (HK4.out.andNu (kp_drewN w4 nq))
              have BX5 := (HBX.out.nu (kp_drewN w4 nq)).d
              have hHb : H.length ≤ 1500 := by have := HC0.out.2.2.2.1; omega
              have HCx := fun m m0 m1 => HX5.out.holdC m m0 m1
              clear SA4 BX hcell4 HX4 HK4 HBX hw4
              go_wp2_with fail
              refine (HCx _ (by first | omega | exact (wrp8 _).1) (by first | omega | exact (wrp8 _).2)).mono ?_; rintro e w6 ⟨gbb, nbb, cbb, p1, q1, s1, p2, q2, s2, p3, q3, s3, p9, q9, s9, mm, rfl, hD⟩
              have HD := hide hD
              clear HCx hD BX5
              go_wp2_with (at_builtin; refine unhid ?_)
              refine wpList_append_own_at _ rfl (.tmp 257) (.tmp 264) 42 rfl w.heap.size 47 i47 (.agg #[.slice none 0 0, .slice none 0 0, .slice none 0 0, .slice none 0 0, .slice none 0 0, .int .u8 0]) 6 128 Try.underlying42 hi47 hz0 hz1 hz2 rfl (by decide) (.slice ab2 H.length cb2) H.length (hcs H) rfl HD.out.own ⟨w6.heap.size, 0, none⟩ 1 1 [.slice (some ⟨gbb, 0, none⟩) nbb cbb, .slice p1 q1 s1, .slice p2 q2 s2, .slice p3 q3 s3, .slice p9 q9 s9, .int .u8 mm] rfl rfl ?_ (by simp [Value.oneCell']) (by unfold maxLen; omega) (by omega) HD.out.low ?_
              · exact newAt _ _ _ _ rfl
              intro vbn w7 hon hgn hniln hatn
              obtain ⟨en, hFn, hkn1, hkn2⟩ := HD.out.fin vbn w7 hon hgn
              obtain ⟨H4, hH4⟩ : ∃ Hn, H ++ [en] = Hn := ⟨_, rfl⟩
              rw [hH4] at hFn
              have hHl : H4.length = H.length + 1 := by rw [← hH4]; simp
              obtain ⟨adn, cpn, evn⟩ := own_slice hFn.bq.own
              subst evn
              have UT := untouched_any hFn.bq.own hFn.bq.all (by omega)
              have HF7 := hide (And.intro hFn (HK5.out.low hkn2 (fun i e => e)))
              have HHL := hide hHl
              clear hon hgn hniln hatn hFn hkn1 hkn2 HD hH4 HX5 HK5 hHl
              go_wp2_with fail
              refine UT.mono ?_; rintro e w8 ⟨rfl, hk8⟩
              have HNX : Hid (Fz w w8 b bm (.slice adn H4.length cpn) (24 + (k2 + 1)) (left' S (k2 + 1) k)) := by
                refine ⟨⟨v3, _, L', H4, HF7.out.1.nu hk8, HC0.out.2.1, HC0.out.2.2.1.take.more (by omega), ?_⟩, HF7.out.2.andNu hk8⟩
                have := HHL.out
                have := HC0.out.2.2.2.1
                omega
              clear UT hk8 HF7
              go_wp2_with fail
              exact ⟨⟨k2 + 1, _, _, _, by omega, by go_num, rfl, HNX⟩, by simp [intOf]; omega⟩
            · have hpk := pk_none hs hok
              have HNX : Hid (Fz w wr b bm (.slice ab2 hn2 cb2) (24 + (k2 + 1)) (left' S (k2 + 1) k)) := by
                rw [← left_none hlt2 hpk]
                exact hJ.out.skip
              obtain ⟨ady, cpy, hy⟩ := hrd.slice
              obtain ⟨n, hyn⟩ : ∃ n, ys.length = n := ⟨_, rfl⟩
              rw [hyn] at hy hok
              subst hy
              clear hX hLX hC hH hkp hs hJ hyn hpk hrd HSK HRD0
              by_cases hz : n = 0
              · subst hz
                go_wp2_with fail
                exact ⟨⟨k2 + 1, hn2, ab2, cb2, by omega, by go_num, rfl, HNX⟩, by simp [intOf]; omega⟩
              · have hnE : ((n : Int) == 0) = false := by rw [beq_eq_false_iff_ne]; omega
                have hn1 : (n : Int) > 1024 := by omega
                go_wp2_with fail
                exact ⟨⟨k2 + 1, hn2, ab2, cb2, by omega, by go_num, rfl, HNX⟩, by simp [intOf]; omega⟩
          · obtain rfl : k2 = k := by omega
            have HKP := hide hJ.out.kp
            clear hJ
            go_wp2
            go_ret
            exact ⟨rfl, HKP.out⟩

end Go.Proofs.Ythajboipnjjgfaa.Ly
