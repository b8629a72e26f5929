import Derived.Test.YtchealdgncgjoaaMrS
import Derived.StillTailTactics
namespace Go.Proofs.Ytchealdgncgjoaa.StM
open Go.RowKit Go.Proofs.Ytchealdgncgjoaa.St Go.Shelf Go.Sort Go.Proofs.Ytchealdgncgjoaa.It Go.Proofs.Ytchealdgncgjoaa.StI
set_option linter.unusedVariables false
set_option linter.unusedSimpArgs false
set_option maxRecDepth 100000 in
set_option maxHeartbeats 4000000 in
theorem storeMaps_big (w : World) (v1 : Value) (n0 : Int) (S : List Op4) (hS : Wo w v1 S) (hl : S.length ≤ 4398046510976) (h0 : 3 < n0) : Calls Try.prog 14 #[.int .i64 n0, v1] w fun e w' => e = .returned (.bool true) ∧ Kp Nu w w' := by
  have mixed : Try.prog.follows .mixedOrders = true := by kernel_rfl
  obtain ⟨i22, hi22, hp0, hp1, hp2⟩ := info_parts info22s
  obtain ⟨i48, hi48, hq0, hq1, hq2⟩ := info_parts info48s
  obtain ⟨ad, cap, rfl, hw0⟩ := hS
  have HS : Hid (∀ W, Kp Nu w W → ∀ (i : Nat) (s : Op4), S[i]? = some s → ∃ b off, ad = some ⟨b, off, none⟩ ∧ OpAt W b (off + i * 4) s) := hide (fun W k i s h => by
    obtain ⟨b, off, e, hc⟩ := hw0 i s h
    exact ⟨b, off, e, hc.nu k⟩)
  obtain ⟨N, hN⟩ : ∃ N, S.length = N := ⟨_, rfl⟩
  have HN : Hid (S.length = N ∧ N ≤ 4398046510976) := hide ⟨hN, by omega⟩
  rw [hN]
  obtain ⟨bw, hbw⟩ : ∃ b, w.heap.size = b := ⟨_, rfl⟩
  obtain ⟨B, hB⟩ : ∃ b, w.heap.size + 1 = b := ⟨_, rfl⟩
  have HBB : Hid (bw < B) := hide (by omega)
  have HO : Hid (Oc 0 (cmpW 0)) := hide (order_w 0 (by decide) (by decide))
  have xb : (w.alloc (.cells #[.int .i64 n0] 3)).heap[bw]? = some (.cells #[.int .i64 n0] 3 (0, 0)) := by rw [← hbw]; exact heap_alloc_new w _
  have xc : (w.alloc (.cells #[.int .i64 n0] 3)).cell? ⟨w.heap.size, 0, none⟩ = some (.int .i64 n0) := cell1 (by rw [hbw]; exact xb)
  have g1 : decide (n0 < 0) = false := by simp; omega
  have g2 : n0 > 3 := h0
  have xf : (w.alloc (.cells #[.int .i64 n0] 3)).frozen? ⟨bw, 0, none⟩ = false := free3 xb 0
  have xs : (w.alloc (.cells #[.int .i64 0] 3)).heap[bw]? = some (.cells #[.int .i64 0] 3 (0, 0)) := by rw [← hbw]; exact heap_alloc_new w _
  have HG0 : Hid (Gf bw 0 B w (w.alloc (.cells #[.int .i64 0] 3)) (.slice none 0 0) (.slice none 0 0) 0 []) := hide ⟨⟨fun i s e => by simp at e, fun i j s u e => by simp at e⟩, ⟨rfl, .inl ⟨rfl, rfl⟩⟩, ⟨rfl, .inl ⟨rfl, rfl⟩⟩, rfl, Kp.alloc w _ Nu, by omega, ⟨xs, by decide, by decide⟩, by omega, by rw [World.size_alloc]; omega⟩
  clear hw0 hN hl h0 xb xs
  go_enter Try.func14, Try.ntmps14
  go_wp2_with fail
  try rw [hbw]
  clear xc xf
  go_loopw [7, 5, 6] (fun s7 s5 s6 wr => ∃ (n : Nat) (va vb : Value) (L : List Sl), s7 = .int .i64 (n : Int) ∧ va = s5 ∧ vb = s6 ∧ n ≤ 3 ∧ Hid (Gf bw 0 B w wr va vb n L)) (fun s7 _ _ _ => 3 - (intOf s7).toNat)
  case atStart => exact ⟨0, _, _, [], rfl, rfl, rfl, by omega, HG0⟩
  case round =>
    clear HG0
    generalize wr = wl at *
    obtain ⟨n, va, vb, L, rfl, rfl, rfl, hn, hG⟩ := hrel
    by_cases hlt : n < 3
    · have NE := new55 wl hG.out.bx
      have hltI : (n : Int) < 3 := by omega
      have hn0 : (0 : Int) ≤ (n : Int) := by omega
      have w1 := wq (n : Int) hn0 (by omega)
      have HMB : Hid (wl.heap.size ≤ wl.heap.size) := hide (Nat.le_refl _)
      skip
      go_wp2_with fail
      refine NE.mono ?_
      rintro e w1 ⟨rfl, m1, k1⟩
      obtain ⟨mb, hmb⟩ : ∃ mb, wl.heap.size = mb := ⟨_, rfl⟩
      have HMB : Hid (wl.heap.size ≤ mb) := hide (by omega)
      rw [hmb] at m1 ⊢
      have HM := hide (And.intro m1 (And.intro k1 (own_kept hG.out.ms (k1.andNu (Kp.alloc w1 (.cells #[.pointer (some ⟨mb, 0, none⟩)] 22) Nu)) (fun _ _ e => e))))
      have HBZ : Hid (n + 1 ≤ maxLen ∧ (n + 1) * 8 ≤ 140737488355328 ∧ B ≤ w1.heap.size + 1 ∧ (L.map pm).length = n) := hide ⟨by unfold maxLen; omega, by omega, by have := hG.out.hW; have := k1.size; omega, by rw [List.length_map]; exact hG.out.len⟩
      clear NE m1 k1 hmb
      go_wp2_with (first
        | (at_builtin; refine wpList_append_lies _ rfl (.tmp 39) (.tmp 41) 106 rfl B 22 i22 (.pointer none) 1 8 Try.underlying106 hi22 hp0 hp1 hp2 rfl (by decide) va n (L.map pm) rfl HM.out.2.2 ⟨w1.heap.size, 0, none⟩ 1 1 [.pointer (some ⟨mb, 0, none⟩)] rfl rfl (cell_one_new w1 _ 22) (by simp [Value.oneCell']) (by decide) HBZ.out.1 HBZ.out.2.1 (by rw [World.size_alloc]; exact HBZ.out.2.2.1) (w1.heap.size + 1) (World.size_alloc _ _) ?_; intro g1 gcap w2 ho hg hgat hglt; have HP := hide (hG.out.first HMB.out HM.out.1 HM.out.2.1 hg ho); have cbw := cell1 HP.out.bx.1; have HR := hide (HP.out.ready rfl); clear ho hg hgat hglt)
        | (at_builtin; refine wpList_append_lies _ rfl (.tmp 43) (.tmp 47) 107 rfl B 48 i48 (.pointer none) 1 8 Try.underlying107 hi48 hq0 hq1 hq2 rfl (by decide) vb n (L.map pr) rfl HR.out.1 ⟨w2.heap.size + 1, 0, none⟩ 1 1 [.pointer (some ⟨w2.heap.size, 0, none⟩)] rfl rfl HR.out.2.1 (by simp [Value.oneCell']) (by decide) HBZ.out.1 HBZ.out.2.1 HR.out.2.2 (w2.heap.size + 1 + 1) (by rw [World.size_alloc, World.size_alloc]) ?_; intro g2 gcap2 w3 ho2 hg2 hgat2 hglt2; have HF := hide (HP.out.second rfl hg2 ho2); clear ho2 hg2 hgat2 hglt2))
      obtain ⟨L', hL'⟩ := HF.out
      exact ⟨⟨n + 1, _, _, L', by go_num, rfl, rfl, sq hlt, hide hL'⟩, mq hlt⟩
    · obtain rfl : n = 3 := by omega
      obtain ⟨gm, cm, gr, cr, rfl, rfl, hGs⟩ := hG.out.done
      have HG1 := hide hGs
      clear hG hGs hlt hn
      go_wp2_with fail
      go_loopw [10] (fun s10 wr => ∃ (i : Nat) (L : List Sl), s10 = .int .i64 (i : Int) ∧ i ≤ N ∧ Hid (Gs bw 0 B i w wr gm cm gr cr L)) (fun s10 _ => N - (intOf s10).toNat)
      case atStart => exact ⟨0, L, rfl, Nat.zero_le _, HG1⟩
      case round =>
        clear HG1 L
        generalize wr = wz at *
        obtain ⟨i, L, rfl, hi, hG⟩ := hrel
        by_cases hlt : i < N
        · obtain ⟨s, hs⟩ : ∃ s, S[i]? = some s := ⟨_, List.getElem?_eq_getElem (by rw [HN.out.1]; exact hlt)⟩
          obtain ⟨b0, off0, ead, hO⟩ := HS.out wz hG.out.kp i s hs
          subst ead
          obtain ⟨c0, c1, c2, c3, hfit⟩ := hO
          have HFT := hide hfit
          obtain ⟨kd, mm, k, v⟩ := s
          dsimp only at c0 c1 c2 c3 HFT
          have hltI : (i : Int) < (N : Int) := by omega
          have hi0 : (0 : Int) ≤ (i : Int) := by omega
          have w1 := wq (i : Int) hi0 (by have := HN.out.2; omega)
          have HI : Hid (i < N) := hide hlt
          obtain ⟨c, hc, hc3⟩ : ∃ c : Nat, th3 mm = (c : Int) ∧ c < 3 := ⟨(th3 mm).toNat, by have := th3_bd mm; omega, by have := th3_bd mm; omega⟩
          have TH := third68 mm
          rw [hc] at TH
          have hcI : (c : Int) < 3 := by omega
          have hc0 : (0 : Int) ≤ (c : Int) := by omega
          have HX : Hid (∀ W, Kp Nu (wz.alloc (opc kd mm k v)) W → W.heap[wz.heap.size]? = some (opc kd mm k v)) := hide (fun W q => new_at wz _ q)
          have HGA : Hid (Gs bw 0 B i w (wz.alloc (opc kd mm k v)) gm cm gr cr L) := hide (hG.out.nu (Kp.alloc wz _ Nu))
          have HBZ : Hid (B ≤ (wz.alloc (opc kd mm k v)).heap.size) := hide (by obtain ⟨s, _, _, _, hq, _⟩ := hG.out.at (i := 0) (by omega); have := hq.hB; rw [World.size_alloc]; omega)
          clear hs hlt hi hfit hc
          go_wp2_with fail
          refine (TH _).mono ?_
          rintro e w' ⟨rfl, hw⟩
          obtain rfl := hw
          clear TH c0 c1 c2 c3
          obtain ⟨x0, x1, x2, x3⟩ := opc_at (W := wz) (HX.out _ (Kp.refl Nu _))
          obtain ⟨pb, hpb⟩ : ∃ p, wz.heap.size = p := ⟨_, rfl⟩
          obtain ⟨wA, hwA⟩ : ∃ W, wz.alloc (opc kd mm k v) = W := ⟨_, rfl⟩
          rw [hwA] at HX HGA HBZ x0 x1 x2 x3 ⊢
          rw [hpb] at HX x0 x1 x2 x3 ⊢
          clear hG hpb hwA
          by_cases h9 : kd = 9
          · subst h9
            obtain ⟨d, hd, hd3⟩ : ∃ d : Nat, th3 v = (d : Int) ∧ d < 3 := ⟨(th3 v).toNat, by have := th3_bd v; omega, by have := th3_bd v; omega⟩
            have TV := third68 v wA
            rw [hd] at TV
            have hdI : (d : Int) < 3 := by omega
            have hd0 : (0 : Int) ≤ (d : Int) := by omega
            have HD : Hid (c < 3 ∧ d < 3) := hide ⟨hc3, hd3⟩
            obtain ⟨s, hs, hm, hr, hq, hz⟩ := HGA.out.at hc3
            have HSL := hide (And.intro hs hz)
            have CL := clone60 hq.m
            clear hr hq hz hd hc3 hd3 hs
            go_wp2_with fail
            refine TV.mono ?_
            rintro e w' ⟨rfl, hw⟩
            obtain rfl := hw
            clear TV x0 x1 x2 x3
            go_wp2_with fail
            refine CL.mono ?_
            rintro e w2 ⟨rfl, m2, k2⟩
            obtain ⟨mb, hmb⟩ : ∃ mb, w'.heap.size = mb := ⟨_, rfl⟩
            have HMID := hide (HGA.out.clone (d := d) HBZ.out (Nat.le_of_eq hmb) (hmb ▸ m2) k2)
            rw [hmb]
            have f1 := (HGA.out.nu k2).free d
            obtain ⟨sd, -, f2, -, -, -⟩ := (HGA.out.nu k2).at HD.out.2
            have hmd : (w2.setCell ⟨gm, d, none⟩ (.pointer (some ⟨mb, 0, none⟩))).cell? ⟨gm, d, none⟩ = some (.pointer (some ⟨mb, 0, none⟩)) := by
              obtain ⟨r, cc, e, h⟩ := ty_at (i := d) (u := .pointer (some ⟨mb, 0, none⟩)) HMID.out.ms (by simp [HMID.out.len]) (by rw [List.getElem?_set_self (by rw [List.length_map, HMID.out.len]; exact HD.out.2)])
              cases e
              exact h
            obtain ⟨hr2, hq2⟩ := HMID.out.at HSL.out.1
            have CD := clone69 hq2.r (by rw [T.xs_length]; exact small HSL.out.2 HI.out HN.out.2)
            clear CL m2 k2 hm hmb hq2
            clear HGA
            go_wp2_with fail
            clear f1 f2 hmd
            refine CD.mono ?_
            rintro e w4 ⟨rfl, ⟨vk', vv', r4⟩, k4⟩
            obtain ⟨rb, hrb⟩ : ∃ rb, (w2.setCell ⟨gm, d, none⟩ (.pointer (some ⟨mb, 0, none⟩))).heap.size = rb := ⟨_, rfl⟩
            obtain ⟨L', hL', -⟩ := HMID.out.fin HD.out.2 HSL.out.2 hrb (hrb ▸ r4) k4 HBB.out
            have f4 := HMID.out.free k4 d
            obtain ⟨u5, f5⟩ : ∃ u, w4.cell? ⟨gr, d, none⟩ = some u := by
              obtain ⟨r, cc, e, h⟩ := ty_at (i := d) (own_kept HMID.out.rs k4 (fun _ _ e => e)) (by simp [HMID.out.len]) (List.getElem?_eq_getElem (by rw [List.length_map, HMID.out.len]; exact HD.out.2))
              cases e
              exact ⟨_, h⟩
            rw [hrb]
            have HG2 := hide (hL'.mono (Nat.le_succ i))
            obtain ⟨sd, -, f6, -, -, -⟩ := hL'.at HD.out.2
            clear CD k4 r4 hrb hL' HMID
            go_wp2_with fail
            rw [w1]
            refine ⟨?_, mq HI.out⟩
            (repeat apply Exists.intro)
            refine ⟨?rel, rfl⟩
            case rel => exact ⟨i + 1, L', by go_num, sq HI.out, HG2⟩
          · have n9 : (kd == 9) = false := by simpa using h9
            clear h9
            by_cases hk1 : kd < 1
            · go_wp2_with fail
              rw [w1]
              refine ⟨?_, mq HI.out⟩
              (repeat apply Exists.intro)
              refine ⟨?rel, rfl⟩
              case rel => exact ⟨i + 1, L, by go_num, sq HI.out, hide (HGA.out.mono (Nat.le_succ i))⟩
            · by_cases hk2 : kd > 9
              · have q1 : decide (kd < 1) = false := by simpa using hk1
                clear hk1
                go_wp2_with fail
                rw [w1]
                refine ⟨?_, mq HI.out⟩
                (repeat apply Exists.intro)
                refine ⟨?rel, rfl⟩
                case rel => exact ⟨i + 1, L, by go_num, sq HI.out, hide (HGA.out.mono (Nat.le_succ i))⟩
              · have q1 : decide (kd < 1) = false := by simpa using hk1
                obtain ⟨s, hs, hm, hr, hq, hz⟩ := HGA.out.at hc3
                have HSL := hide (And.intro hs hz)
                have M7 := mapStep70 (hq.nu ((Kp.refl Nu wA).drew)) HO.out kd mm k v HFT.out (small2 hz HI.out HN.out.2)
                clear hk1 hs hq hz hc3
                go_wp2_with fail
                go_still_tail 9, mixed
                go_wp2_with fail
                refine M7.mono ?_
                rintro e w2 ⟨rfl, hsq⟩
                obtain ⟨L', hL'⟩ := (HGA.out.nu ((Kp.refl Nu wA).drew)).step HSL.out.1 hsq
                have HG2 := hide hL'
                clear M7 hsq hL' HGA HX hm hr x0 x1 x2 x3
                go_wp2_with fail
                rw [w1]
                refine ⟨?_, mq HI.out⟩
                (repeat apply Exists.intro)
                refine ⟨?rel, rfl⟩
                case rel => exact ⟨i + 1, L', by go_num, sq HI.out, HG2⟩
        · obtain rfl : i = N := by omega
          have HG2 := hide hG.out
          clear hG hlt hi
          go_wp2_with fail
          go_loopw [15] (fun s15 wr => ∃ (j : Nat) (L : List Sl), s15 = .int .i64 (j : Int) ∧ j ≤ 3 ∧ Hid (Gs bw 0 B (i + 2 * j) w wr gm cm gr cr L)) (fun s15 _ => 3 - (intOf s15).toNat)
          case atStart => exact ⟨0, L, rfl, Nat.zero_le _, HG2⟩
          case round =>
            clear HG2 L
            generalize wr = wy at *
            obtain ⟨j, L, rfl, hj, hG⟩ := hrel
            by_cases hlt : j < 3
            · have hltI : (j : Int) < 3 := by omega
              have hj0 : (0 : Int) ≤ (j : Int) := by omega
              have w1 := wq (j : Int) hj0 (by omega)
              have HI : Hid (j < 3) := hide hlt
              have HGA : Hid (Gs bw 0 B (i + 2 * j) w wy.drew gm cm gr cr L) := hide (hG.out.nu ((Kp.refl Nu wy).drew))
              obtain ⟨s, hs, hm, hr, hq, hz⟩ := hG.out.at hlt
              have HSL := hide (And.intro hs hz)
              have M7 := mapStep70 (hq.nu ((Kp.refl Nu wy).drew)) HO.out 8 0 0 0 (by decide) (small4 hz hlt HN.out.2)
              clear hG hs hq hz hlt hj
              go_wp2_with fail
              go_still_tail 9, mixed
              go_wp2_with fail
              refine M7.mono ?_
              rintro e w2 ⟨rfl, hsq⟩
              obtain ⟨L2, hL2⟩ := HGA.out.step HSL.out.1 hsq
              have HGB : Hid (Gs bw 0 B (i + 2 * j + 1) w w2 gm cm gr cr L2) := hide hL2
              clear M7 hsq hL2 HGA HSL hm hr
              obtain ⟨s2, hs2, hm2, hr2, hq2, hz2⟩ := HGB.out.at HI.out
              have HSL := hide (And.intro hs2 hz2)
              have M8 := mapStep70 (hq2.nu ((Kp.refl Nu w2).drew)) HO.out 4 0 0 0 (by decide) (small5 hz2 HI.out HN.out.2)
              clear hs2 hq2 hz2
              go_wp2_with fail
              go_still_tail 9, mixed
              go_wp2_with fail
              refine M8.mono ?_
              rintro e w3 ⟨rfl, hsq⟩
              obtain ⟨L3, hL3⟩ := (HGB.out.nu ((Kp.refl Nu w2).drew)).step HSL.out.1 hsq
              have HG3 : Hid (Gs bw 0 B (i + 2 * (j + 1)) w w3 gm cm gr cr L3) := hide (hL3.mono (two i j))
              clear M8 hsq hL3 HGB HSL hm2 hr2
              go_wp2_with fail
              try rw [w1]
              refine ⟨?_, mq HI.out⟩
              (repeat apply Exists.intro)
              refine ⟨?rel, rfl⟩
              case rel => exact ⟨j + 1, L3, by go_num, sq HI.out, HG3⟩
            · obtain rfl : j = 3 := by omega
              have HK := hide hG.out.kp
              clear hG hlt hj
              go_wp2_with fail
              go_ret
              exact ⟨rfl, HK.out⟩
end Go.Proofs.Ytchealdgncgjoaa.StM
