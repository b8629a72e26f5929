import Derived.Test.YtchealdgncgjoaaFlE
namespace Go.Proofs.Ytchealdgncgjoaa.StF
open Go.RowKit Go.Proofs.Ytchealdgncgjoaa.St Go.Proofs.Ytchealdgncgjoaa.Fl Ieee
set_option linter.unusedVariables false
set_option linter.unusedSimpArgs false
attribute [local go_sem] run_store_float
set_option maxRecDepth 100000 in
set_option maxHeartbeats 4000000 in
theorem floats_walk (w : World) (v0 v1 : Value) (S O : List Int) (hS : StI.Wi w v0 S) (hO : StI.Wi w v1 O) (hl0 : S.length ≤ 17592186043904) (hl1 : O.length ≤ 17592186043904) :
    Calls Try.prog 8 #[v0, v1] w fun e w' => e = .returned (.bool true) ∧ Kp Nu w w' := by
  have mixed : Try.prog.follows .mixedOrders = true := by kernel_rfl
  obtain ⟨ad0, cap0, rfl, hw0⟩ := hS
  obtain ⟨ad1, cap1, rfl, hw1⟩ := hO
  have HW0 : Hid (∀ W, Kp Nu w W → ∀ i s, S[i]? = some s → ∃ b off, ad0 = some ⟨b, off, none⟩ ∧ W.cell? ⟨b, off + i, none⟩ = some (.int .i64 s)) := fun W k i s h => by
    obtain ⟨b, off, e, hc⟩ := hw0 i s h
    exact ⟨b, off, e, StI.cell_nuI hc k⟩
  have HW1 : Hid (∀ W, Kp Nu w W → ∀ i s, O[i]? = some s → ∃ b off, ad1 = some ⟨b, off, none⟩ ∧ W.cell? ⟨b, off + i, none⟩ = some (.int .i64 s)) := fun W k i s h => by
    obtain ⟨b, off, e, hc⟩ := hw1 i s h
    exact ⟨b, off, e, StI.cell_nuI hc k⟩
  obtain ⟨N, hN⟩ : ∃ N, S.length = N := ⟨_, rfl⟩
  obtain ⟨M, hM⟩ : ∃ M, O.length = M := ⟨_, rfl⟩
  have HN := hide hN
  have HM := hide hM
  rw [hN] at hl0
  rw [hM] at hl1
  rw [hN, hM]
  have HL := hide (And.intro hl0 hl1)
  have NA := new_any w
  clear hw0 hw1 hN hM hl0 hl1
  go_enter Try.func8, Try.ntmps8
  go_wp2_with (go_at_call 38; refine NA.mono ?_; rintro e w1 ⟨rfl, hm1, k1⟩)
  obtain ⟨mb, hmb⟩ : ∃ mb, w.heap.size = mb := ⟨_, rfl⟩
  have HMB : Hid (w.heap.size ≤ mb) := by show w.heap.size ≤ mb; omega
  rw [hmb] at hm1 ⊢
  obtain ⟨rb, hrb⟩ : ∃ rb, w1.heap.size = rb := ⟨_, rfl⟩
  have HRB : Hid (w.heap.size ≤ rb) := by show w.heap.size ≤ rb; have := k1.size; omega
  have HM1 : Hid (Both w mb rb 0 (w1.alloc (.cells #[.int .i64 0, .slice none 0 0, .slice none 0 0] 52)) .nil) := ⟨hm1.nu (Kp.alloc _ _ _), ⟨.slice none 0 0, .slice none 0 0, by rw [← hrb]; exact heap_alloc_new w1 _, ⟨rfl, .inl ⟨rfl, rfl⟩⟩, ⟨rfl, .inl ⟨rfl, rfl⟩⟩, fun g h => by cases h⟩, Nat.le_refl _, k1.andAlloc _⟩
  rw [hrb]
  clear NA hmb hm1 k1 hrb
  go_loopw [8, 7] (fun i z wr => ∃ (n : Nat) (t : T (FK × Int)) (zz : Int), i = .int .i64 (n : Int) ∧ z = .int .i64 zz ∧ n ≤ N ∧ Hid (Both w mb rb n wr t ∧ Zk zz t.xs)) (fun i _ _ => N - (intOf i).toNat)
  case atStart => exact ⟨0, .nil, 0, rfl, rfl, Nat.zero_le _, hide ⟨HM1.out, fun p hp => by cases hp⟩⟩
  case round =>
    generalize wr = wl at *
    obtain ⟨i, t, zz, rfl, rfl, hi, hh⟩ := hrel
    by_cases hlt : i < N
    · obtain ⟨hB, hZ⟩ := hh.out
      obtain ⟨s, hs⟩ : ∃ s, S[i]? = some s := ⟨_, List.getElem?_eq_getElem (by rw [HN.out]; exact hlt)⟩
      obtain ⟨b0, off0, ead, hc⟩ := HW0.out wl hB.2.2.2 i s hs
      subst ead
      have hltI : (i : Int) < (N : Int) := by omega
      have hi0 : (0 : Int) ≤ (i : Int) := by omega
      have HI : Hid (i < N ∧ N ≤ 17592186043904) := ⟨hlt, HL.out.1⟩
      have HAI : Hid ((i : Int) + 1 = ((i + 1 : Nat) : Int) ∧ wrap64 ((i : Int) + 1) = ((i + 1 : Nat) : Int)) := wi1 i (by have := HL.out.1; omega)
      have FO := floatOf_any s wl
      have HB := hide (And.intro hB hZ)
      clear hh hB hZ hs hi hlt HM1
      go_wp2_with fail
      refine FO.mono ?_
      rintro e w1' ⟨⟨p, b, hok⟩, rfl, q, hq⟩
      have B1 : Both w mb rb i w1' t := by rw [hq]; exact HB.out.1.nu (StI.kp_dn wl q)
      have PU := put_any B1.1 ⟨p, b, hok⟩ (i : Int) (by have h1 := B1.2.2.1; have h2 := HI.out; omega)
      have HB1 := hide B1
      clear FO hq B1 hc
      go_wp2_with fail
      refine PU.mono ?_
      rintro e w2 ⟨rfl, hm2, k2⟩
      have RP := both_put HMB.out HRB.out HB1.out (by have := HI.out; omega) ⟨p, b, hok⟩ (i : Int) hm2 k2
      obtain ⟨n, en⟩ := ov_int (getT ⟨p, b, hok⟩ t)
      obtain ⟨hb, ehb⟩ : ∃ hb, (T.fd (sd ⟨p, b, hok⟩) t).2 = hb := ⟨_, rfl⟩
      rw [en, ehb] at RP ⊢
      clear PU hm2 k2 en
      go_wp2_with fail
      refine RP.mono ?_
      rintro e w3 ⟨rfl, B3⟩
      have H3 := hide B3
      have hb1 : (hb != hb) = false := by cases hb <;> rfl
      have n1 : (n != n) = false := by simp
      have HZ := hide (And.intro HB.out.2 (And.intro HB1.out.1.srt ehb))
      clear RP B3 ehb HB HB1
      by_cases hp : p = 0
      · subst hp
        cases hb with
        | true =>
          go_wp2_with fail
          go_roundw
          case rel => exact ⟨i + 1, _, zz, by first | exact congrArg (Value.int .i64) HAI.out.1 | exact congrArg (Value.int .i64) HAI.out.2, rfl, HI.out.1, hide ⟨H3.out, zk_put HZ.out.1 (fun _ => HZ.out.2.2)⟩⟩
          case measure => first | exact StI.lt_mI _ HAI.out.1 HI.out.1 | exact StI.lt_mI _ HAI.out.2 HI.out.1
        | false =>
          have HZ2 := hide (zk_new (v := (i : Int)) HZ.out.2.1 rfl HZ.out.2.2)
          rcases zero_words hok with e0 | e0
          · subst e0
            have z1 := run_inf0
            have z2 := run_lss0
            clear HZ
            go_wp2_with fail
            go_roundw
            case rel => exact ⟨i + 1, _, 1, by first | exact congrArg (Value.int .i64) HAI.out.1 | exact congrArg (Value.int .i64) HAI.out.2, rfl, HI.out.1, hide ⟨H3.out, HZ2.out⟩⟩
            case measure => first | exact StI.lt_mI _ HAI.out.1 HI.out.1 | exact StI.lt_mI _ HAI.out.2 HI.out.1
          · subst e0
            have z1 := run_inf1
            have z2 := run_lss1
            clear HZ
            go_wp2_with fail
            go_roundw
            case rel => exact ⟨i + 1, _, -1, by first | exact congrArg (Value.int .i64) HAI.out.1 | exact congrArg (Value.int .i64) HAI.out.2, rfl, HI.out.1, hide ⟨H3.out, HZ2.out⟩⟩
            case measure => first | exact StI.lt_mI _ HAI.out.1 HI.out.1 | exact StI.lt_mI _ HAI.out.2 HI.out.1
      · have hp1 : (p == 0) = false := by simpa using hp
        have HZ3 := hide (zk_put (v := (i : Int)) (k := ⟨p, b, hok⟩) HZ.out.1 (fun h => absurd h hp))
        clear HZ
        go_wp2_with fail
        go_roundw
        case rel => exact ⟨i + 1, _, zz, by first | exact congrArg (Value.int .i64) HAI.out.1 | exact congrArg (Value.int .i64) HAI.out.2, rfl, HI.out.1, hide ⟨H3.out, HZ3.out⟩⟩
        case measure => first | exact StI.lt_mI _ HAI.out.1 HI.out.1 | exact StI.lt_mI _ HAI.out.2 HI.out.1
    · obtain rfl : i = N := by omega
      have HT0 := hide hh.out
      have hge : ¬ (i : Int) < (i : Int) := by omega
      clear hh hi hlt HM1
      go_wp2_with fail
      clear hge
      go_loopw [15] (fun k wr2 => ∃ (j : Nat) (t2 : T (FK × Int)), k = .int .i64 (j : Int) ∧ j ≤ M ∧ Hid (Both w mb rb i wr2 t2 ∧ Zk zz t2.xs)) (fun k _ => M - (intOf k).toNat)
      case atStart => exact ⟨0, t, rfl, Nat.zero_le _, HT0.out⟩
      case round =>
        clear HT0
        generalize wr = wq at *
        obtain ⟨j, t2, rfl, hj, hh2⟩ := hrel
        by_cases hlt : j < M
        · obtain ⟨hB, hZ⟩ := hh2.out
          obtain ⟨s, hs⟩ : ∃ s, O[j]? = some s := ⟨_, List.getElem?_eq_getElem (by rw [HM.out]; exact hlt)⟩
          obtain ⟨b0, off0, ead, hc⟩ := HW1.out wq hB.2.2.2 j s hs
          subst ead
          have hltI : (j : Int) < (M : Int) := by omega
          have hj0 : (0 : Int) ≤ (j : Int) := by omega
          have HJ : Hid (j < M ∧ i ≤ 17592186043904) := ⟨hlt, HL.out.1⟩
          have HAJ : Hid ((j : Int) + 1 = ((j + 1 : Nat) : Int) ∧ wrap64 ((j : Int) + 1) = ((j + 1 : Nat) : Int)) := wi1 j (by have := HL.out.2; omega)
          have FO := floatOf_any s wq
          have HB := hide (And.intro hB hZ)
          clear hh2 hB hZ hs hj hlt
          go_wp2_with fail
          refine FO.mono ?_
          rintro e w1' ⟨⟨p, b, hok⟩, rfl, q, hq⟩
          have B1 : Both w mb rb i w1' t2 := by rw [hq]; exact HB.out.1.nu (StI.kp_dn wq q)
          have DE := del_any B1.1 ⟨p, b, hok⟩ (by have h1 := B1.2.2.1; have h2 := HJ.out; omega)
          have HB1 := hide B1
          clear FO hq B1 hc
          go_wp2_with fail
          refine DE.mono ?_
          rintro e w2 ⟨rfl, hm2, k2⟩
          have RP := both_del HMB.out HRB.out HB1.out HJ.out.2 ⟨p, b, hok⟩ hm2 k2
          obtain ⟨n, en⟩ := ov_int (getT ⟨p, b, hok⟩ t2)
          obtain ⟨hb, ehb⟩ : ∃ hb, (T.fd (sd ⟨p, b, hok⟩) t2).2 = hb := ⟨_, rfl⟩
          rw [en, ehb] at RP ⊢
          clear DE hm2 k2 en
          go_wp2_with fail
          refine RP.mono ?_
          rintro e w3 ⟨rfl, B3⟩
          have H3 := hide (And.intro B3 (zk_del (k := ⟨p, b, hok⟩) HB.out.2))
          have hb1 : (hb != hb) = false := by cases hb <;> rfl
          have n1 : (n != n) = false := by simp
          clear RP B3 ehb HB HB1
          go_wp2_with fail
          go_roundw
          case rel => exact ⟨j + 1, _, by first | exact congrArg (Value.int .i64) HAJ.out.1 | exact congrArg (Value.int .i64) HAJ.out.2, HJ.out.1, hide H3.out⟩
          case measure => first | exact StI.lt_mI _ HAJ.out.1 HJ.out.1 | exact StI.lt_mI _ HAJ.out.2 HJ.out.1
        · obtain rfl : j = M := by omega
          have hge : ¬ (j : Int) < (j : Int) := by omega
          obtain ⟨hB, hZ⟩ := hh2.out
          have CO := collect43 hB.1 (by have h1 := hB.2.2.1; have h2 := HL.out.1; omega)
          have HB := hide (And.intro hB hZ)
          clear hh2 hj hlt hB hZ
          go_wp2_with fail
          refine CO.mono ?_
          rintro e X1 ⟨gk, gv, rfl, hok, hov, k1⟩
          have B1 := HB.out.1.nu k1
          obtain ⟨hm1, ⟨vk, vv, r1⟩, hsz, kw⟩ := B1
          have hxl : t2.xs.length = t2.sz := T.xs_length t2
          have hxp := xs_pj t2
          obtain ⟨adk, capk, ek⟩ := own_slice r1.ok
          obtain ⟨adv, capv, ev⟩ := own_slice r1.ov
          rw [vvs_pj] at hov
          have wv1 := wi_v hov hxp
          have wv2 := wi_v r1.ov rfl
          rw [ev] at wv2
          have hlv : ((t2.map pj).xs.map Prod.snd).length ≤ 17592186044000 := by rw [List.length_map, hxp]; have := HL.out.1; omega
          rw [hxp] at ek ev wv2
          obtain ⟨c30, c31, c32⟩ := cell3 r1.blk
          have HK : Hid (∀ (k : Nat) (x : FK × Int), t2.xs[k]? = some x → ∀ q, (X1.drewN q).cell? ⟨gk, k, none⟩ = some (.float .f64 x.1.bits) ∧ ∃ r, adk = some ⟨r, 0, none⟩ ∧ (X1.drewN q).cell? ⟨r, k, none⟩ = some (.int .i64 x.1.pl)) := hide (fun k x hx q => by
            obtain ⟨r, cap, e, hc⟩ := rowT_at (i := k) (u := .float .f64 x.1.bits) (own_keep hok (fun g hg => (StI.kp_dn X1 q).block g (own_lt hok hg) (fun h => h))) (by simp [kv, hxl]) (by simp [kv, hx])
            obtain ⟨r', cap', e', hc'⟩ := rowT_at (i := k) (u := .int .i64 x.1.pl) (own_keep r1.ok (fun g hg => (StI.kp_dn X1 q).block g (own_lt r1.ok hg) (fun h => h))) (by simp [StI.kv]) (by rw [T.map_xs]; simp [StI.kv, hx, pj])
            cases e
            rw [ek, hxp] at e'
            cases e'
            exact ⟨hc, r', rfl, hc'⟩)
          have HQ : Hid (Zk zz t2.xs ∧ t2.xs.length = t2.sz ∧ Kp Nu w X1 ∧ t2.sz ≤ 17592186043904 ∧ ∀ q, (X1.drewN q).cell? ⟨rb, 1, none⟩ = some (.slice adk t2.sz capk)) := hide ⟨HB.out.2, hxl, kw, by have := HL.out.1; omega, fun q => by
            have z := cell3 (((StI.kp_dn X1 q).block _ (blk_lt r1.blk) (fun h => h)).trans r1.blk)
            rw [ek] at z
            exact z.2.1⟩
          rw [ev] at c32
          rw [ek] at c31
          have SV := same_v wv1 wv2 hlv
          obtain ⟨NN, eN⟩ : ∃ NN, t2.sz = NN := ⟨_, rfl⟩
          rw [eN] at SV HQ c31 c32 ⊢
          have b2 : ((NN : Int) != (NN : Int)) = false := by simp
          clear CO HB hm1 r1 hsz kw hxl hxp wv1 wv2 hlv hok hov ek ev k1 hge
          go_wp2_with fail
          refine SV.mono ?_
          rintro e w4 ⟨rfl, q4, rfl⟩
          replace c31 := HQ.out.2.2.2.2 q4
          clear SV c32 c30
          go_wp2_with fail
          go_loopw [25] (fun kk wr => ∃ k : Nat, kk = .int .i64 (k : Int) ∧ k ≤ NN ∧ ∃ q, wr = X1.drewN q) (fun kk _ => NN - (intOf kk).toNat)
          case atStart => exact ⟨0, rfl, Nat.zero_le _, q4, rfl⟩
          case round =>
            clear c31
            obtain ⟨k, rfl, hk, q, hq⟩ := hrel
            by_cases hlt : k < NN
            · obtain ⟨⟨⟨p, b, hok⟩, v⟩, hx⟩ : ∃ x, t2.xs[k]? = some x := ⟨_, List.getElem?_eq_getElem (by rw [HQ.out.2.1]; exact hlt)⟩
              obtain ⟨ck, r, ead, cr⟩ := HK.out k _ hx q
              have c1 := HQ.out.2.2.2.2 q
              rw [← hq] at ck cr c1
              replace ck : wr.cell? ⟨gk, k, none⟩ = some (.float .f64 b) := ck
              replace cr : wr.cell? ⟨r, k, none⟩ = some (.int .i64 p) := cr
              subst ead
              have hltI : (k : Int) < (NN : Int) := by omega
              have hk0 : (0 : Int) ≤ (k : Int) := by omega
              have w1 := wk5 (k : Int) hk0 (by have := HQ.out.2.2.2.1; omega)
              have HKK : Hid (k < NN ∧ wr = X1.drewN q) := ⟨hlt, hq⟩
              have HZ : Hid (p = 0 → zz = sgn b) := hide (fun h => HQ.out.1 _ (List.mem_of_getElem? hx) h)
              clear hx hk hlt hq
              rcases hok with h | h | h | h | h
              · obtain ⟨rfl, hn⟩ := h
                have e1 := eql_nan hn
                have e6 := no_nan hn
                clear hn
                go_wp2_with fail
                go_quiet (fail)
                go_wp2_with fail
                rw [w1]
                refine ⟨⟨k + 1, by go_num, stp5 HKK.out.1, q + nq, ?_⟩, mea5 HKK.out.1⟩
                rw [HKK.out.2]
                simp [World.drewN, Nat.add_comm, Nat.add_left_comm]
              · obtain ⟨rfl, rfl⟩ := h
                have e1 := fun W : World => run_eql (a := 0xFFF0000000000000) (b := 0) (c := false) (by decide) W
                go_wp2_with fail
                go_quiet (fail)
                go_wp2_with fail
                rw [w1]
                refine ⟨⟨k + 1, by go_num, stp5 HKK.out.1, q + nq, ?_⟩, mea5 HKK.out.1⟩
                rw [HKK.out.2]
                simp [World.drewN, Nat.add_comm, Nat.add_left_comm]
              · obtain ⟨rfl, rfl⟩ := h
                have e1 := fun W : World => run_eql (a := 0x7FF0000000000000) (b := 0) (c := false) (by decide) W
                go_wp2_with fail
                go_quiet (fail)
                go_wp2_with fail
                rw [w1]
                refine ⟨⟨k + 1, by go_num, stp5 HKK.out.1, q + nq, ?_⟩, mea5 HKK.out.1⟩
                rw [HKK.out.2]
                simp [World.drewN, Nat.add_comm, Nat.add_left_comm]
              · obtain ⟨rfl, h⟩ := h
                rcases h with rfl | rfl
                · obtain rfl := HZ.out rfl
                  have e0 : sgn 0 = 1 := by decide
                  rw [e0]
                  have e1 := fun W : World => run_eql (a := 0) (b := 0) (c := true) (by decide) W
                  have e2 := run_inf0
                  have e3 := run_lss0
                  have e4 : ∀ W : World, (binOp .mul 59 (.float .f64 0) (.float .f64 4616189618054758400)).run Try.prog W = .ok (.float .f64 0) W := fun W => run_float_arith W _ _ _ _ _ _ (by decide)
                  have e5 := fun W : World => run_neq (a := 0) (b := floatOfInt .f64 0) (c := false) (by decide) W
                  go_wp2_with fail
                  go_quiet (fail)
                  go_wp2_with fail
                  rw [w1]
                  refine ⟨⟨k + 1, by go_num, stp5 HKK.out.1, q + nq, ?_⟩, mea5 HKK.out.1⟩
                  rw [HKK.out.2]
                  simp [World.drewN, Nat.add_comm, Nat.add_left_comm]
                · obtain rfl := HZ.out rfl
                  have e0 : sgn 9223372036854775808 = -1 := by decide
                  rw [e0]
                  have e1 := fun W : World => run_eql (a := 9223372036854775808) (b := 0) (c := true) (by decide) W
                  have e2 := run_inf1
                  have e3 := run_lss1
                  have e4 : ∀ W : World, (binOp .mul 59 (.float .f64 9223372036854775808) (.float .f64 4616189618054758400)).run Try.prog W = .ok (.float .f64 9223372036854775808) W := fun W => run_float_arith W _ _ _ _ _ _ (by decide)
                  have e5 := fun W : World => run_neq (a := 9223372036854775808) (b := floatOfInt .f64 0) (c := false) (by decide) W
                  go_wp2_with fail
                  go_quiet (fail)
                  go_wp2_with fail
                  rw [w1]
                  refine ⟨⟨k + 1, by go_num, stp5 HKK.out.1, q + nq, ?_⟩, mea5 HKK.out.1⟩
                  rw [HKK.out.2]
                  simp [World.drewN, Nat.add_comm, Nat.add_left_comm]
              · obtain ⟨hp, h0, h1, rfl⟩ := h
                have e1 := eql_row h0 h1 hp
                have e6 := no_row h0 h1 hp
                have e7 := ord_row h0 h1 hp
                have e4 := fun W => (mul_row h0 h1 hp W).1
                have e5 := fun W => (mul_row h0 h1 hp W).2
                have g1 : (-1073741824 : Int) < p := by omega
                have g2 : p < 1073741824 := by omega
                have g3 : decide (p > -1073741824) = true := by simpa using g1
                have g4 : decide (p < 1073741824) = true := by simpa using g2
                clear h0 h1 hp
                go_wp2_with fail
                go_quiet (fail)
                go_wp2_with fail
                rw [w1]
                refine ⟨⟨k + 1, by go_num, stp5 HKK.out.1, q + nq, ?_⟩, mea5 HKK.out.1⟩
                rw [HKK.out.2]
                simp [World.drewN, Nat.add_comm, Nat.add_left_comm]
            · obtain rfl : k = NN := by omega
              have hge : ¬ (k : Int) < (k : Int) := by omega
              have HE := hide hq
              clear hk hlt hq
              go_wp2_with fail
              go_ret
              exact ⟨rfl, by rw [HE.out]; exact HQ.out.2.2.1.andNu (StI.kp_dn _ _)⟩
end Go.Proofs.Ytchealdgncgjoaa.StF
