import Derived.Test.YtchealdgncgjoaaPlB
namespace Go.Proofs.Ytchealdgncgjoaa.StS
open Go.RowKit Go.Proofs.Ytchealdgncgjoaa.St
set_option linter.unusedVariables false
theorem kp_new {w w' w'' : World} {mb : Nat} (hB : w.heap.size ≤ mb) (k : Kp Nu w w') (q : Kp (fun i => i = mb) w' w'') : Kp Nu w w'' :=
  k.trans q (fun i hi e => by have e : i = mb := e; omega)

set_option maxRecDepth 100000 in
set_option maxHeartbeats 4000000 in
theorem places_walk (w : World) (v0 v1 : Value) (S O : List ByteArray) (hS : Wd w v0 S) (hO : Wd w v1 O) (hl0 : S.length < 2 ^ 59) (hl1 : O.length < 2 ^ 59) :
    Calls Try.prog 5 #[v0, v1] w fun e w' => e = .returned (.bool true) ∧ Kp Nu w w' := by
  obtain ⟨ad0, cap0, rfl, hw0⟩ := hS
  obtain ⟨ad1, cap1, rfl, hw1⟩ := hO
  have HW0 : Hid (∀ W, Kp Nu w W → ∀ i s, S[i]? = some s → ∃ b off, ad0 = some ⟨b, off, none⟩ ∧ W.cell? ⟨b, off + i, none⟩ = some (.string s)) := fun W k i s h => by
    obtain ⟨b, off, e, hc⟩ := hw0 i s h
    exact ⟨b, off, e, cell_nu hc k⟩
  have HW1 : Hid (∀ W, Kp Nu w W → ∀ i s, O[i]? = some s → ∃ b off, ad1 = some ⟨b, off, none⟩ ∧ W.cell? ⟨b, off + i, none⟩ = some (.string s)) := fun W k i s h => by
    obtain ⟨b, off, e, hc⟩ := hw1 i s h
    exact ⟨b, off, e, cell_nu hc k⟩
  have HH : Hid (∀ W, Kp Nu w W → ∀ s, s ∈ O → Calls Try.prog 34 #[.slice ad1 O.length cap1, .string s] W fun e w' => e = .returned (.bool true) ∧ w' = W) := fun W k s hs =>
    holds_yes W (by omega) (fun i s h => HW1.out W k i s h) s hs
  obtain ⟨N, hN⟩ : ∃ N, S.length = N := ⟨_, rfl⟩
  obtain ⟨M, hM⟩ : ∃ M, O.length = M := ⟨_, rfl⟩
  have HN := hide hN
  have HM := hide hM
  rw [hN] at hl0
  rw [hM] at hl1 HH
  rw [hN, hM]
  have HL := hide (And.intro hl0 hl1)
  have NA := new_any w
  clear hw0 hw1 hN hM hl0 hl1
  go_enter Try.func5, Try.ntmps5
  go_wp2_with (go_at_call 25; refine NA.mono ?_; rintro e w1 ⟨rfl, hm1, k1⟩)
  obtain ⟨mb, hmb⟩ : ∃ mb, w.heap.size = mb := ⟨_, rfl⟩
  have HMB : Hid (w.heap.size ≤ mb) := by show w.heap.size ≤ mb; omega
  rw [hmb] at hm1 ⊢
  have HM1 := hide (And.intro hm1 k1)
  clear NA hmb hm1 k1
  go_loopw [6] (fun i wr => ∃ (n : Nat) (t : T (ByteArray × Int)), i = .int .i64 (n : Int) ∧ n ≤ N ∧ Hid (Mp wr mb t ∧ Va S n t ∧ (∀ k x, k < n → S[k]? = some x → ∃ p ∈ t.xs, p.1 = x) ∧ t.sz ≤ n ∧ Kp Nu w wr)) (fun i _ => N - (intOf i).toNat)
  case atStart => exact ⟨0, .nil, rfl, Nat.zero_le _, HM1.out.1, fun p hp => by simp [T.xs] at hp, fun k x hk => by omega, Nat.le_refl _, HM1.out.2⟩
  case round =>
    generalize wr = wl at *
    obtain ⟨i, t, rfl, hi, hh⟩ := hrel
    by_cases hlt : i < N
    · obtain ⟨hm, ha, hb, hsz, kw⟩ := hh.out
      obtain ⟨s, hs⟩ : ∃ s, S[i]? = some s := ⟨_, List.getElem?_eq_getElem (by rw [HN.out]; exact hlt)⟩
      have PU := put_p hm ha hb hs hsz (by have := HL.out.1; omega)
      obtain ⟨b0, off0, ead, hc⟩ := HW0.out wl kw i s hs
      subst ead
      have HCI : Hid (∀ V, Kp Nu w V → V.cell? ⟨b0, off0 + i, none⟩ = some (.string s)) := fun V k => by
        obtain ⟨b, off, e, h⟩ := HW0.out V k i s hs
        cases e; exact h
      have HCJ : Hid (∀ V, Kp Nu w V → ∀ j x, S[j]? = some x → V.cell? ⟨b0, off0 + j, none⟩ = some (.string x)) := fun V k j x hx => by
        obtain ⟨b, off, e, h⟩ := HW0.out V k j x hx
        cases e; exact h
      have hltI : (i : Int) < (N : Int) := by omega
      have hi0 : (0 : Int) ≤ (i : Int) := by omega
      have HI : Hid (i < N ∧ Kp Nu w wl ∧ N < 2 ^ 59 ∧ S[i]? = some s) := ⟨hlt, kw, HL.out.1, hs⟩
      have HAI : Hid ((i : Int) + 1 = ((i + 1 : Nat) : Int) ∧ wrap64 ((i : Int) + 1) = ((i + 1 : Nat) : Int)) := ⟨by omega, by have := HL.out.1; unfold wrap64; omega⟩
      clear hh hm ha hb hsz kw hs hi hlt HM1
      go_wp2_with (first
        | (go_at_call 26; refine PU.mono ?_; rintro e w2 ⟨u, rfl, t2, hm2, ha2, hb2, hs2, hmem2, k2⟩; have H2 := hide (And.intro hm2 (And.intro ha2 (And.intro hb2 (And.intro hs2 (And.intro hmem2 (kp_new HMB.out HI.out.2.1 k2)))))); clear hm2 ha2 hb2 hs2 hmem2 k2))
      go_loopw [9, 10] (fun f k wr2 => ∃ j : Nat, k = .int .i64 (j : Int) ∧ f = .bool (fr S s j) ∧ j ≤ i ∧ Hid (Kp Nu w2 wr2)) (fun f k _ => i - (intOf k).toNat)
      case atStart => exact ⟨0, rfl, by simp [fr], Nat.zero_le _, Kp.refl _ _⟩
      case round =>
        generalize wr = wq at *
        obtain ⟨j, rfl, rfl, hj, kq⟩ := hrel
        by_cases hlt2 : j < i
        · obtain ⟨x, hx⟩ : ∃ x, S[j]? = some x := ⟨_, List.getElem?_eq_getElem (by rw [HN.out]; have := HI.out.1; omega)⟩
          have kwq : Kp Nu w wq := H2.out.2.2.2.2.2.andNu kq.out
          have c1 := HCJ.out wq kwq j x hx
          have c2 := HCI.out wq kwq
          have hfs := fr_succ S s x j hx
          have hjI : (j : Int) < (i : Int) := by omega
          have hj0 : (0 : Int) ≤ (j : Int) := by omega
          have hjN : (j : Int) < (N : Int) := by omega
          have HAJ : Hid ((j : Int) + 1 = ((j + 1 : Nat) : Int) ∧ wrap64 ((j : Int) + 1) = ((j + 1 : Nat) : Int)) := ⟨by omega, by have := HI.out; unfold wrap64; omega⟩
          have HJ : Hid (j < i) := hlt2
          have mixed : Try.prog.follows .mixedOrders = true := by kernel_rfl
          cases hbq : (x.toList == s.toList) with
          | true =>
            have HFS : Hid (fr S s (j + 1) = false) := by show fr S s (j + 1) = false; rw [hfs, hbq]; simp
            clear hfs kwq hj hlt2 hx
            go_wp2_with fail
            go_region
            go_wp2_with fail
            go_roundw
            case rel => exact ⟨j + 1, by first | exact congrArg (Value.int .i64) HAJ.out.1 | exact congrArg (Value.int .i64) HAJ.out.2, by rw [HFS.out], HJ.out, kq.out.drew⟩
            case measure => first | exact lt_ms _ HAJ.out.1 HJ.out | exact lt_ms _ HAJ.out.2 HJ.out
          | false =>
            have HFS : Hid (fr S s (j + 1) = fr S s j) := by show fr S s (j + 1) = fr S s j; rw [hfs, hbq]; simp
            clear hfs kwq hj hlt2 hx
            go_wp2_with fail
            go_region
            go_wp2_with fail
            go_roundw
            case rel => exact ⟨j + 1, by first | exact congrArg (Value.int .i64) HAJ.out.1 | exact congrArg (Value.int .i64) HAJ.out.2, by rw [HFS.out], HJ.out, kq.out.drew⟩
            case measure => first | exact lt_ms _ HAJ.out.1 HJ.out | exact lt_ms _ HAJ.out.2 HJ.out
        · obtain rfl : j = i := by omega
          have kwq : Kp Nu w wq := H2.out.2.2.2.2.2.andNu kq.out
          have c2 := HCI.out wq kwq
          have GS := get_some (H2.out.1.nu kq.out) (by have := H2.out.2.2.2.1; have := HI.out; omega) H2.out.2.2.2.2.1
          have hge : ¬ (j : Int) < (j : Int) := by omega
          have hbq : ((!(fr S s j)) == fr S s j) = false := by cases fr S s j <;> rfl
          have hbq2 : ((j : Int) == (j : Int)) = true := by simp
          have HKW := hide kwq
          clear kwq hj hlt2
          go_wp2_with (first
            | (go_at_call 27; refine GS.mono ?_; rintro e w3 ⟨rfl, k3⟩))
          go_roundw
          case rel => exact ⟨j + 1, t2, by first | exact congrArg (Value.int .i64) HAI.out.1 | exact congrArg (Value.int .i64) HAI.out.2, HI.out.1, (H2.out.1.nu kq.out).nu k3, H2.out.2.1, H2.out.2.2.1, H2.out.2.2.2.1, HKW.out.andNu k3⟩
          case measure => first | exact lt_ms _ HAI.out.1 HI.out.1 | exact lt_ms _ HAI.out.2 HI.out.1
    · obtain rfl : i = N := by omega
      have HT0 : Hid (Mp wl mb t ∧ Va S S.length t ∧ (∀ x ∈ S, (∃ p ∈ t.xs, p.1 = x) ∨ x ∈ O.take 0) ∧ t.sz < 2 ^ 60 ∧ Kp Nu w wl) := by
        obtain ⟨hm, ha, hb, hsz, kw⟩ := hh.out
        refine ⟨hm, by rw [HN.out]; exact ha, fun x hx => ?_, by have := HL.out.1; omega, kw⟩
        obtain ⟨k, hk⟩ := List.mem_iff_getElem?.1 hx
        exact .inl (hb k x (by have := (List.getElem?_eq_some_iff.1 hk).1; rw [HN.out] at this; exact this) hk)
      have hge : ¬ (i : Int) < (i : Int) := by omega
      clear hh hi hlt HM1
      go_wp2_with fail
      clear hge
      go_loopw [13] (fun k wr2 => ∃ (j : Nat) (t2 : T (ByteArray × Int)), k = .int .i64 (j : Int) ∧ j ≤ M ∧ Hid (Mp wr2 mb t2 ∧ Va S S.length t2 ∧ (∀ x ∈ S, (∃ p ∈ t2.xs, p.1 = x) ∨ x ∈ O.take j) ∧ t2.sz < 2 ^ 60 ∧ Kp Nu w wr2)) (fun k _ => M - (intOf k).toNat)
      case atStart => exact ⟨0, t, rfl, Nat.zero_le _, HT0.out⟩
      case round =>
        clear HT0
        generalize wr = wq at *
        obtain ⟨j, t2, rfl, hj, hh2⟩ := hrel
        by_cases hlt : j < M
        · obtain ⟨hm2, ha2, hc2, hs2, kw2⟩ := hh2.out
          obtain ⟨o, ho⟩ : ∃ o, O[j]? = some o := ⟨_, List.getElem?_eq_getElem (by rw [HM.out]; exact hlt)⟩
          have DE := del_p hm2 ha2 hc2 ho hs2
          obtain ⟨b1, off1, ead, hc⟩ := HW1.out wq kw2 j o ho
          subst ead
          have HCO : Hid (∀ V, Kp Nu w V → V.cell? ⟨b1, off1 + j, none⟩ = some (.string o)) := fun V k => by
            obtain ⟨b, off, e, h⟩ := HW1.out V k j o ho
            cases e; exact h
          have hltI : (j : Int) < (M : Int) := by omega
          have hj0 : (0 : Int) ≤ (j : Int) := by omega
          have HJ : Hid (j < M ∧ Kp Nu w wq) := ⟨hlt, kw2⟩
          have HAJ : Hid ((j : Int) + 1 = ((j + 1 : Nat) : Int) ∧ wrap64 ((j : Int) + 1) = ((j + 1 : Nat) : Int)) := ⟨by omega, by have := HL.out.2; unfold wrap64; omega⟩
          clear hh2 hm2 ha2 hc2 hs2 kw2 ho hj hlt
          go_wp2_with (first
            | (go_at_call 28; refine DE.mono ?_; rintro e w2 ⟨u, bb, rfl, t3, hm3, ha3, hc3, hs3, hno3, k3⟩; have kk3 := kp_new HMB.out HJ.out.2 k3; have GN := get_none hm3 (by omega) hno3; have c3 := HCO.out w2 kk3; have H3 := hide (And.intro hm3 (And.intro ha3 (And.intro hc3 (And.intro hs3 kk3)))); clear hm3 ha3 hc3 hs3 hno3 k3 kk3 DE)
            | (go_at_call 27; refine GN.mono ?_; rintro e w3 ⟨rfl, k4⟩))
          go_roundw
          case rel => exact ⟨j + 1, t3, by first | exact congrArg (Value.int .i64) HAJ.out.1 | exact congrArg (Value.int .i64) HAJ.out.2, HJ.out.1, H3.out.1.nu k4, H3.out.2.1, H3.out.2.2.1, H3.out.2.2.2.1, H3.out.2.2.2.2.andNu k4⟩
          case measure => first | exact lt_ms _ HAJ.out.1 HJ.out.1 | exact lt_ms _ HAJ.out.2 HJ.out.1
        · obtain rfl : j = M := by omega
          have LA := len_any hh2.out.1
          obtain ⟨n, hn⟩ : ∃ n, t2.sz = n := ⟨_, rfl⟩
          rw [hn] at LA
          have HSZ := hide hn
          have hge : ¬ (j : Int) < (j : Int) := by omega
          clear hj hlt hn
          go_wp2_with (go_at_call 29; refine LA.mono ?_; rintro e w' ⟨rfl, hw⟩; obtain rfl := hw.symm)
          clear hge LA
          go_loopw [17, 18] (fun ls k wr3 => ∃ q : Nat, k = .int .i64 (q : Int) ∧ ls = .string (lastK t2 q) ∧ q ≤ n ∧ Hid (Mp wr3 mb t2 ∧ Kp Nu w wr3)) (fun ls k _ => n - (intOf k).toNat)
          case atStart => exact ⟨0, rfl, rfl, Nat.zero_le _, hh2.out.1, hh2.out.2.2.2.2⟩
          case round =>
            generalize wr = wz at *
            obtain ⟨q, rfl, rfl, hq, hh3⟩ := hrel
            by_cases hlt : q < n
            · obtain ⟨p, hp⟩ : ∃ p, t2.xs[q]? = some p := ⟨_, List.getElem?_eq_getElem (by rw [T.xs_length, HSZ.out]; exact hlt)⟩
              obtain ⟨hm3, kw3⟩ := hh3.out
              obtain ⟨_, ha2, _, hs2, _⟩ := hh2.out
              obtain ⟨vv, e1, e2, e3⟩ := ha2 p (List.mem_of_getElem? hp)
              have AT : ∀ V, Kp Nu wz V → _ := fun V k => at_p (hm3.nu k) hs2 hp
              have FL : ∀ V, Kp Nu wz V → _ := fun V k => floor_p (hm3.nu k) hs2 hp
              have CE : ∀ V, Kp Nu wz V → _ := fun V k => ceil_p (hm3.nu k) hs2 hp
              have RK : ∀ V, Kp Nu wz V → _ := fun V k => rank_p (hm3.nu k) hs2 hp
              obtain ⟨b0, off0, ead, hc⟩ := HW0.out wz kw3 vv p.1 e3
              subst ead
              have HCI : Hid (∀ V, Kp Nu wz V → V.cell? ⟨b0, off0 + vv, none⟩ = some (.string p.1)) := fun V k => by
                obtain ⟨b, off, e, h⟩ := HW0.out V (kw3.andNu k) vv p.1 e3
                cases e; exact h
              have hlk : 0 < q → Op.bytesLess p.1.toList (lastK t2 q).toList = false ∧ (p.1.toList == (lastK t2 q).toList) = false := fun h => by
                obtain ⟨q', rfl⟩ : ∃ q', q = q' + 1 := ⟨q - 1, by omega⟩
                exact lastK_lt hm3.srt hp
              have HLK : Hid (lastK t2 (q + 1) = p.1) := by show lastK t2 (q + 1) = p.1; simp [lastK, hp]
              rw [e1] at AT FL CE
              have hq0 : (0 : Int) ≤ (q : Int) := by omega
              have hv0 : ¬ (vv : Int) < 0 := by omega
              have hvN : ¬ (i : Int) ≤ (vv : Int) := by rw [HN.out] at e2; omega
              have hv1 : (vv : Int) < (i : Int) := by omega
              have hv2 : (0 : Int) ≤ (vv : Int) := by omega
              have hbs : (p.1.toList == p.1.toList) = true := tl_beq.2 rfl
              have HQ : Hid (q < n ∧ Mp wz mb t2 ∧ Kp Nu w wz) := ⟨hlt, hm3, kw3⟩
              have HAQ : Hid ((q : Int) + 1 = ((q + 1 : Nat) : Int) ∧ wrap64 ((q : Int) + 1) = ((q + 1 : Nat) : Int)) := ⟨by omega, by have := HSZ.out; unfold wrap64; omega⟩
              have hltI : (q : Int) < (n : Int) := by omega
              generalize p.1 = kx at *
              generalize lastK t2 q = lk at *
              by_cases hq1 : 0 < q
              · obtain ⟨hl1, hl2⟩ := hlk hq1
                have hqI : (0 : Int) < (q : Int) := by omega
                clear hlk hh3 hm3 kw3 ha2 hs2 e1 e2 e3 hp hc hq hlt hq1
                go_wp2_with (first
                  | (go_at_call 30; refine (AT _ (Kp.refl _ _)).mono ?_; rintro e w2 ⟨rfl, k2⟩)
                  | (go_at_call 31; refine (FL _ k2).mono ?_; rintro e w3 ⟨rfl, k3⟩; have k3' := k2.andNu k3)
                  | (go_at_call 32; refine (CE _ k3').mono ?_; rintro e w4 ⟨rfl, k4⟩; have k4' := k3'.andNu k4)
                  | (go_at_call 33; refine (RK _ k4').mono ?_; rintro e w5 ⟨rfl, k5⟩; have k5' := k4'.andNu k5; have c5 := HCI.out w5 k5'))
                go_roundw
                case rel => exact ⟨q + 1, by first | exact congrArg (Value.int .i64) HAQ.out.1 | exact congrArg (Value.int .i64) HAQ.out.2, by rw [HLK.out], HQ.out.1, HQ.out.2.1.nu k5', HQ.out.2.2.andNu k5'⟩
                case measure => first | exact lt_ms _ HAQ.out.1 HQ.out.1 | exact lt_ms _ HAQ.out.2 HQ.out.1
              · obtain rfl : q = 0 := by omega
                clear hlk hh3 hm3 kw3 ha2 hs2 e1 e2 e3 hp hc hq hlt hq1
                go_wp2_with (first
                  | (go_at_call 30; refine (AT _ (Kp.refl _ _)).mono ?_; rintro e w2 ⟨rfl, k2⟩)
                  | (go_at_call 31; refine (FL _ k2).mono ?_; rintro e w3 ⟨rfl, k3⟩; have k3' := k2.andNu k3)
                  | (go_at_call 32; refine (CE _ k3').mono ?_; rintro e w4 ⟨rfl, k4⟩; have k4' := k3'.andNu k4)
                  | (go_at_call 33; refine (RK _ k4').mono ?_; rintro e w5 ⟨rfl, k5⟩; have k5' := k4'.andNu k5; have c5 := HCI.out w5 k5'))
                go_roundw
                case rel => exact ⟨1, rfl, by rw [HLK.out], HQ.out.1, HQ.out.2.1.nu k5', HQ.out.2.2.andNu k5'⟩
                case measure => exact lt_ms (k := 0) _ rfl HQ.out.1
            · obtain rfl : q = n := by omega
              have HT4 := hide hh3.out
              have hge : ¬ (q : Int) < (q : Int) := by omega
              clear hh3 hq hlt
              go_wp2_with fail
              clear hge
              go_loopw [28, 29] (fun lf k wr4 => ∃ r : Nat, k = .int .i64 (r : Int) ∧ lf = .int .i64 (cnt t2 r : Int) ∧ r ≤ i ∧ Hid (Mp wr4 mb t2 ∧ Kp Nu w wr4)) (fun lf k _ => i - (intOf k).toNat)
              case atStart => exact ⟨0, rfl, by
                have : cnt t2 0 = 0 := by
                  unfold cnt
                  rw [List.countP_eq_zero]
                  intro p hp
                  obtain ⟨vv, e1, _⟩ := hh2.out.2.1 p hp
                  simp; omega
                rw [this]; rfl, Nat.zero_le _, HT4.out⟩
              case round =>
                clear HT4
                generalize wr = wy at *
                obtain ⟨r, rfl, rfl, hr, hh4⟩ := hrel
                obtain ⟨hm4, kw4⟩ := hh4.out
                obtain ⟨_, ha2, hc2, hs2, _⟩ := hh2.out
                have hcl := cnt_le t2 r
                by_cases hlt : r < i
                · obtain ⟨s, hs⟩ : ∃ s, S[r]? = some s := ⟨_, List.getElem?_eq_getElem (by rw [HN.out]; exact hlt)⟩
                  obtain ⟨b0, off0, ead, hc⟩ := HW0.out wy kw4 r s hs
                  subst ead
                  have HCI : Hid (∀ V, Kp Nu wy V → V.cell? ⟨b0, off0 + r, none⟩ = some (.string s)) := fun V k => by
                    obtain ⟨b, off, e, h⟩ := HW0.out V (kw4.andNu k) r s hs
                    cases e; exact h
                  have hltI : (r : Int) < (i : Int) := by omega
                  have hr0 : (0 : Int) ≤ (r : Int) := by omega
                  have HR : Hid (r < i ∧ Mp wy mb t2 ∧ Kp Nu w wy) := ⟨hlt, hm4, kw4⟩
                  have HAR : Hid ((r : Int) + 1 = ((r + 1 : Nat) : Int) ∧ wrap64 ((r : Int) + 1) = ((r + 1 : Nat) : Int)) := ⟨by omega, by have := HL.out.1; unfold wrap64; omega⟩
                  by_cases hx : ∃ p ∈ t2.xs, p.1 = s
                  · obtain ⟨p, hp, hps⟩ := hx
                    subst hps
                    have GS := get_some hm4 (by omega) hp
                    obtain ⟨vv, e1, e2, e3⟩ := ha2 p hp
                    rw [e1] at GS
                    by_cases hv : vv = r
                    · subst hv
                      have hcy := cnt_yes hm4.srt ha2 vv ⟨p, hp, e1⟩
                      have HCY : Hid ((cnt t2 vv : Int) + 1 = (cnt t2 (vv + 1) : Int) ∧ wrap64 ((cnt t2 vv : Int) + 1) = (cnt t2 (vv + 1) : Int)) := ⟨by omega, by unfold wrap64; omega⟩
                      have hbe : ((vv : Int) == (vv : Int)) = true := by simp
                      generalize p.1 = kx at *
                      generalize cnt t2 vv = C0 at *
                      clear hh4 hm4 kw4 ha2 hc2 hs2 hcl hcy e1 e2 e3 hs hp hlt hr
                      go_wp2_with (first
                        | (go_at_call 27; refine GS.mono ?_; rintro e w2 ⟨rfl, k2⟩))
                      go_roundw
                      case rel => exact ⟨vv + 1, by first | exact congrArg (Value.int .i64) HAR.out.1 | exact congrArg (Value.int .i64) HAR.out.2, by first | exact congrArg (Value.int .i64) HCY.out.1 | exact congrArg (Value.int .i64) HCY.out.2, HR.out.1, HR.out.2.1.nu k2, HR.out.2.2.andNu k2⟩
                      case measure => first | exact lt_ms _ HAR.out.1 HR.out.1 | exact lt_ms _ HAR.out.2 HR.out.1
                    · have hcn := cnt_no t2 r (fun ⟨p', hp', hq'⟩ => by
                        obtain ⟨v', a1, a2, a3⟩ := ha2 p' hp'
                        have : v' = r := by omega
                        subst this
                        rw [hs] at a3
                        have hk : p'.1 = p.1 := (Option.some.inj a3).symm
                        have g1 := (get_mem hm4.srt hp').1
                        have g2 := (get_mem hm4.srt hp).1
                        rw [hk, g2] at g1
                        have : p = p' := Option.some.inj g1
                        subst this
                        omega)
                      have HCN := hide hcn
                      have hbe : ((vv : Int) == (r : Int)) = false := by simp; omega
                      generalize p.1 = kx at *
                      generalize cnt t2 r = C0 at *
                      clear hh4 hm4 kw4 ha2 hc2 hs2 hcl hcn e1 e2 e3 hs hp hlt hr hv
                      go_wp2_with (first
                        | (go_at_call 27; refine GS.mono ?_; rintro e w2 ⟨rfl, k2⟩))
                      go_roundw
                      case rel => exact ⟨r + 1, by first | exact congrArg (Value.int .i64) HAR.out.1 | exact congrArg (Value.int .i64) HAR.out.2, by rw [HCN.out], HR.out.1, HR.out.2.1.nu k2, HR.out.2.2.andNu k2⟩
                      case measure => first | exact lt_ms _ HAR.out.1 HR.out.1 | exact lt_ms _ HAR.out.2 HR.out.1
                  · have GN := get_none hm4 (by omega) hx
                    have hcn := cnt_no t2 r (fun ⟨p', hp', hq'⟩ => by
                      obtain ⟨v', a1, a2, a3⟩ := ha2 p' hp'
                      have : v' = r := by omega
                      subst this
                      rw [hs] at a3
                      exact hx ⟨p', hp', (Option.some.inj a3).symm⟩)
                    have HCN := hide hcn
                    have hso : s ∈ O := by
                      rcases hc2 s (List.mem_of_getElem? hs) with h | h
                      · exact (hx h).elim
                      · exact List.mem_of_mem_take h
                    have HO := fun V k => HH.out V k s hso
                    have KW4 := hide kw4
                    generalize cnt t2 r = C0 at *
                    clear hh4 hm4 kw4 ha2 hc2 hs2 hcl hcn hs hlt hr hx
                    go_wp2_with (first
                      | (go_at_call 27; refine GN.mono ?_; rintro e w2 ⟨rfl, k2⟩; have c2 := HCI.out w2 k2; have HO2 := HO w2 (KW4.out.andNu k2))
                      | (go_at_call 34; refine HO2.mono ?_; rintro e w' ⟨rfl, hw⟩; obtain rfl := hw.symm))
                    go_roundw
                    case rel => exact ⟨r + 1, by first | exact congrArg (Value.int .i64) HAR.out.1 | exact congrArg (Value.int .i64) HAR.out.2, by rw [HCN.out], HR.out.1, HR.out.2.1.nu k2, HR.out.2.2.andNu k2⟩
                    case measure => first | exact lt_ms _ HAR.out.1 HR.out.1 | exact lt_ms _ HAR.out.2 HR.out.1
                · obtain rfl : r = i := by omega
                  have hca : cnt t2 r = q := by
                    have := cnt_all ha2
                    rw [HN.out, HSZ.out] at this; exact this
                  have HK := hide kw4
                  have hge : ¬ (r : Int) < (r : Int) := by omega
                  rw [hca]
                  clear hh4 hm4 kw4 ha2 hc2 hs2 hcl hlt hr hca hh2
                  go_wp2_with fail
                  go_ret
                  exact ⟨by first | rfl | simp, HK.out⟩
end Go.Proofs.Ytchealdgncgjoaa.StS
