import Derived.Test.YtbifmcadllilhaaGreatQsL
namespace Go.Proofs.YtbifmcadllilhaaGreat.Rg
open Go.RowKit Go.Shelf Go.Sort
set_option linter.unusedVariables false
theorem Sx.left {w0 w w' : World} {B g n c a a' b' b m : Nat} {l l2 l3 : List Int} (h : Sx w0 w B g n c l a a' b' b l2) (h1 : a ≤ a') (h2 : a' ≤ m) (h3 : m < b') (h4 : b' ≤ b) (hb : b ≤ n) (q3 : ∀ k, a' ≤ k → k < m → gt l2 k < gt l2 m) (q4 : ∀ k, m < k → k < b' → gt l2 m ≤ gt l2 k) (hD : Dr w' B g n c l3) (p : Pm a' m l2 l3) (hs : Srd a' m l3) (k : Kp (fun k => k = g) w w') : Sx w0 w' B g n c l a (m + 1) b' b l3 := by
  have hl := h.dr.len
  have x := h.more h1 (by omega) h4 hb hD (p.mono (Nat.le_refl _) (by omega)) k
  refine ⟨x.dr, x.pm, x.fr.left h1 h2 h3 h4 hs (fun k k1 k2 => ?_) (fun k k1 k2 => ?_), x.lw, x.kp⟩
  · obtain ⟨i, i1, i2, e⟩ := p.src h2 (by omega) k1 k2
    rw [e, p.out m (.inr (Nat.le_refl _))]
    have := q3 i i1 i2
    omega
  · rw [p.out m (.inr (Nat.le_refl _)), p.out k (.inr (by omega))]
    exact q4 k k1 k2
theorem Sx.right {w0 w w' : World} {B g n c a a' b' b m : Nat} {l l2 l3 : List Int} (h : Sx w0 w B g n c l a a' b' b l2) (h1 : a ≤ a') (h2 : a' ≤ m) (h3 : m < b') (h4 : b' ≤ b) (hb : b ≤ n) (q3 : ∀ k, a' ≤ k → k < m → gt l2 k < gt l2 m) (q4 : ∀ k, m < k → k < b' → gt l2 m ≤ gt l2 k) (hD : Dr w' B g n c l3) (p : Pm (m + 1) b' l2 l3) (hs : Srd (m + 1) b' l3) (k : Kp (fun k => k = g) w w') : Sx w0 w' B g n c l a a' m b l3 := by
  have hl := h.dr.len
  have x := h.more h1 (by omega) h4 hb hD (p.mono (by omega) (Nat.le_refl _)) k
  refine ⟨x.dr, x.pm, x.fr.right h1 h2 h3 h4 hs (fun k k1 k2 => ?_) (fun k k1 k2 => ?_), x.lw, x.kp⟩
  · rw [p.out m (.inl (by omega)), p.out k (.inl (by omega))]
    have := q3 k k1 k2
    omega
  · obtain ⟨i, i1, i2, e⟩ := p.src (by omega) (by omega) (k := k) (by omega) k2
    rw [e, p.out m (.inl (by omega))]
    exact q4 i (by omega) i2
theorem Sx.eq {w0 w w' : World} {B g n c a a' b' b m p : Nat} {l l1 l2 : List Int} (h : Sx w0 w B g n c l a a' b' b l1) (h1 : a ≤ a') (h2 : a' ≤ m) (h3 : m ≤ b') (h4 : b' ≤ b) (hb : b ≤ n) (hT : 0 < a' ∧ gt l1 p ≤ gt l1 (a' - 1)) (hD : Dr w' B g n c l2) (q : Pm a' b' l1 l2) (hE : ∀ k, a' ≤ k → k < m → gt l2 k ≤ gt l1 p) (hG : ∀ k, m ≤ k → k < b' → gt l1 p < gt l2 k) (k : Kp (fun k => k = g) w w') : Sx w0 w' B g n c l a m b' b l2 := by
  have hl := h.dr.len
  have x := h.more h1 (by omega) h4 hb hD q k
  exact ⟨x.dr, x.pm, h.fr.eq q h1 h2 h3 h4 (by omega) (fun k k1 k2 => by have := h.low h1 h4 hT.1 k k1 k2; omega) hE hG, x.lw, x.kp⟩
set_option maxRecDepth 100000 in
set_option maxHeartbeats 8000000 in
theorem pdq103 (B g n c : Nat) (hn : n ≤ 1000000) : ∀ (N : Nat) (w : World) (l : List Int) (a b lim : Nat), Dr w B g n c l → a ≤ b → b ≤ n → b - a ≤ N → Low a b l → lim ≤ 100 →
    Calls Tryz.prog 90 #[.slice (some ⟨g, 0, none⟩) n c, .int .i64 (a : Int), .int .i64 (b : Int), .int .i64 (lim : Int)] w fun e w' => e = .returned (.tuple #[]) ∧ ∃ l', Dr w' B g n c l' ∧ Pm a b l l' ∧ Srd a b l' ∧ Kp (fun k => k = g) w w' := by
  intro N
  induction N using Nat.strongRecOn with
  | ind N IH =>
  intro w l a b lim hD hab hb hN hL hlim
  have mixed : Tryz.prog.follows .mixedOrders = true := by kernel_rfl
  have hnI : (n : Int) ≤ 1000000 := by omega
  have HD := hide (And.intro hD hL)
  have HIH := hide (And.intro IH hN)
  clear hD hL IH hN
  go_enter Tryz.func90, Tryz.ntmps90
  go_wp2
  go_loopw [1, 2, 3, 8, 9] (fun av bv lv s8 s9 wr => ∃ (a' b' lim' : Nat) (wb wp : Bool), av = .int .i64 (a' : Int) ∧ bv = .int .i64 (b' : Int) ∧ lv = .int .i64 (lim' : Int) ∧ s8 = .bool wb ∧ s9 = .bool wp ∧ a ≤ a' ∧ a' ≤ b' ∧ b' ≤ b ∧ lim' ≤ 100 ∧ Hid (∃ l', Sx w wr B g n c l a a' b' b l')) (fun av bv _ _ _ _ => (intOf bv - intOf av).toNat)
  case atStart => exact ⟨a, b, lim, true, true, rfl, rfl, rfl, rfl, rfl, by omega, by omega, by omega, by omega, hide ⟨l, HD.out.1, Pm.refl _ _ _, Fr.start _ _ _, HD.out.2, Kp.refl _ _⟩⟩
  case round =>
    obtain ⟨a', b', lim', wb, wp, rfl, rfl, rfl, rfl, rfl, ha', hab', hb', hlim', hI⟩ := hrel
    clear HD
    have a0 : (0 : Int) ≤ (a' : Int) := by omega
    have bI : (b' : Int) ≤ (n : Int) := by omega
    have abI : (a' : Int) ≤ (b' : Int) := by omega
    have l0 : (0 : Int) ≤ (lim' : Int) := by omega
    have l1 : (lim' : Int) ≤ 100 := by omega
    obtain ⟨m, hm⟩ : ∃ m : Nat, a' + m = b' := ⟨b' - a', by omega⟩
    have ebI : (b' : Int) - (a' : Int) = (m : Int) := by omega
    have ebW : IntKind.i64.wrap ((b' : Int) - (a' : Int)) = (m : Int) := by rw [IntKind.wrap_i64]; omega
    have m0 : (0 : Int) ≤ (m : Int) := by omega
    have m1 : (m : Int) ≤ 1000000 := by omega
    have HM := hide hm
    obtain ⟨l', hS⟩ := hI.out
    obtain ⟨w1, ew1⟩ : ∃ w1 : World, w1 = wr := ⟨_, rfl⟩
    subst ew1
    by_cases h12 : m ≤ 12
    · have h12I : (m : Int) ≤ 12 := by omega
      have C := ins121 w1 B g n c l' a' b' hS.dr hab' (by omega) hn
      have HS := hide hS
      clear hS hI hm
      go_wp2_with fail
      refine C.mono ?_; rintro e w2 ⟨rfl, l2, q1, q2, q3, q4⟩
      go_wp2
      (try simp only [Exit.inBlock, Exit.then])
      refine bodyPost_ret (results_none rfl _ _ _) rfl ?_
      exact ⟨rfl, l2, HS.out.done ha' hab' hb' hb q1 q2 q3 q4⟩
    · have h12I : ¬ (m : Int) ≤ 12 := by omega
      have h13 : a' + 13 ≤ b' := by omega
      by_cases hl0 : lim' = 0
      · subst hl0
        have C := heap122 w1 B g n c l' a' b' hS.dr (by omega) (by omega) hn
        have HS := hide hS
        clear hS hI hm
        go_wp2_with fail
        refine C.mono ?_; rintro e w2 ⟨rfl, l2, q1, q2, q3, q4⟩
        go_wp2
        (try simp only [Exit.inBlock, Exit.then])
        refine bodyPost_ret (results_none rfl _ _ _) rfl ?_
        exact ⟨rfl, l2, HS.out.done ha' hab' hb' hb q1 q2 q3 q4⟩
      · have hl0I : ¬ (lim' : Int) = 0 := by omega
        have C := break123 w1 B g n c l' a' b' hS.dr h13 (by omega) hn
        have HS := hide hS
        clear hS hI hm
        go_upto_if 35 with fail
        go_cut [3] (fun s3 wc => ∃ lim2 : Nat, s3 = .int .i64 (lim2 : Int) ∧ lim2 ≤ 100 ∧ Hid (∃ l', Sx w wc B g n c l a a' b' b l'))
        case first =>
          cases wb
          · go_wp2_with fail
            refine C.mono ?_; rintro e w2 ⟨rfl, l2, q1, q2, q4⟩
            go_wp2
            go_meet
            case rel => exact ⟨lim' - 1, by rw [show ((lim' - 1 : Nat) : Int) = (lim' : Int) - 1 by omega], by omega, hide ⟨l2, HS.out.more ha' hab' hb' hb q1 q2 q4⟩⟩
          · go_wp2
            go_meet
            case rel => exact ⟨lim', rfl, by omega, hide ⟨l', HS.out⟩⟩
        case rest =>
          obtain ⟨lim2, rfl, hlim2, hI2⟩ := hcut
          clear C HS l' l0 l1 hl0I hl0 hlim'
          obtain ⟨l', hS⟩ := hI2.out
          obtain ⟨w2, ew2⟩ : ∃ w2 : World, w2 = wc := ⟨_, rfl⟩
          subst ew2
          have C := choose124 w2 B g n c l' a' b' hS.dr h13 (by omega) hn
          have HS := hide hS
          clear hS hI2
          go_upto_if 50 with (first | (go_at_call 101; refine C.mono ?_; rintro e w3 ⟨p, h, rfl, hp1, hp2, hh, hD3, k3⟩))
          have HS3 : Hid (Sx w w3 B g n c l a a' b' b l') := hide (HS.out.more ha' hab' hb' hb hD3 (Pm.refl _ _ _) (k3.mono (fun _ _ e => e.elim)))
          clear C HS hD3 k3
          have p0 : (0 : Int) ≤ (p : Int) := by omega
          have h0 : (0 : Int) ≤ (h : Int) := by omega
          go_cut [11, 12] (fun s11 s12 wc => ∃ p h : Nat, s11 = .int .i64 (p : Int) ∧ s12 = .int .i64 (h : Int) ∧ a' ≤ p ∧ p < b' ∧ h ≤ 1 ∧ Hid (∃ l', Sx w wc B g n c l a a' b' b l'))
          case first =>
            by_cases h2 : h = 2
            · subst h2
              have C := rev125 w3 B g n c l' a' b' HS3.out.dr (by omega) (by omega) hn
              have x1 : IntKind.i64.wrap ((b' : Int) - 1) = (b' : Int) - 1 := by rw [IntKind.wrap_i64]; omega
              have x2 : IntKind.i64.wrap ((p : Int) - (a' : Int)) = (p : Int) - (a' : Int) := by rw [IntKind.wrap_i64]; omega
              have x3 : IntKind.i64.wrap ((b' : Int) - 1 - ((p : Int) - (a' : Int))) = (b' : Int) - 1 - ((p : Int) - (a' : Int)) := by rw [IntKind.wrap_i64]; omega
              go_wp2_with fail
              refine C.mono ?_; rintro e w4 ⟨rfl, l2, q1, q2, q4⟩
              go_wp2
              go_meet
              case rel => exact ⟨b' - 1 - (p - a'), 1, by rw [show ((b' - 1 - (p - a') : Nat) : Int) = (b' : Int) - 1 - ((p : Int) - (a' : Int)) by omega], rfl, by omega, by omega, by omega, hide ⟨l2, HS3.out.more ha' hab' hb' hb q1 q2 q4⟩⟩
            · have h2I : ¬ (h : Int) = 2 := by omega
              go_wp2
              go_meet
              case rel => exact ⟨p, h, rfl, rfl, hp1, hp2, by omega, hide ⟨l', HS3.out⟩⟩
          case rest =>
            clear HS3 p0 h0 hp1 hp2 hh p h
            obtain ⟨p, h, rfl, rfl, hp1, hp2, hh, hI3⟩ := hcut
            have p0 : (0 : Int) ≤ (p : Int) := by omega
            have p1 : (p : Int) < (n : Int) := by omega
            have h0 : (0 : Int) ≤ (h : Int) := by omega
            obtain ⟨w4, ew4⟩ : ∃ w4 : World, w4 = wc := ⟨_, rfl⟩
            subst ew4
            go_upto_region 15 with fail
            go_cut [8, 9, 12, 68] (fun s8 s9 s12 s68 wc => s8 = .bool wb ∧ s9 = .bool wp ∧ s12 = .int .i64 (h : Int) ∧ wc = w4 ∧ ∃ t : Bool, s68 = .bool t)
            case first =>
              by_cases h1 : h = 1
              · subst h1
                cases wb <;> cases wp <;> (go_wp2; go_meet; case rel => exact ⟨rfl, rfl, rfl, rfl, _, rfl⟩)
              · have h1I : ¬ (h : Int) = 1 := by omega
                cases wb <;> cases wp <;> (go_wp2; go_meet; case rel => exact ⟨rfl, rfl, rfl, rfl, _, rfl⟩)
            case rest =>
              obtain ⟨rfl, rfl, rfl, rfl, t, rfl⟩ := hcut
              obtain ⟨l', hS⟩ := hI3.out
              obtain ⟨w5, ew5⟩ : ∃ w5 : World, w5 = wc := ⟨_, rfl⟩
              subst ew5
              have C := pins126 w5 B g n c l' a' b' hS.dr (by omega) (by omega) hn (hS.low ha' hb')
              have HS := hide hS
              clear hS hI3
              go_upto_if 68 with fail
              go_cut [] (fun wc => Hid (∃ l', Sx w wc B g n c l a a' b' b l'))
              case first =>
                cases t
                · go_wp2
                  go_meet
                  case rel => exact hide ⟨l', HS.out⟩
                · go_wp2_with (first | (go_at_call 103; refine C.mono ?_; rintro e w6 ⟨t6, rfl, l2, q1, q2, q3, q4⟩; cases t6))
                  · go_meet
                    case rel => exact hide ⟨l2, HS.out.more ha' hab' hb' hb q1 q2 q4⟩
                  · (try simp only [Exit.inBlock, Exit.then])
                    refine bodyPost_ret (results_none rfl _ _ _) rfl ?_
                    exact ⟨rfl, l2, HS.out.done ha' hab' hb' hb q1 q2 (q3 (by trivial)) q4⟩
              case rest =>
                have hI4 := hcut
                clear C HS hcut l' t
                obtain ⟨l', hS⟩ := hI4.out
                obtain ⟨w6, ew6⟩ : ∃ w6 : World, w6 = wc := ⟨_, rfl⟩
                subst ew6
                obtain ⟨y2, _⟩ := hS.dr.at_ (k := p) (by omega)
                have HS := hide hS
                go_upto_region 17 with fail
                go_cut [87] (fun s87 wc => Hid (Sx w wc B g n c l a a' b' b l') ∧ ∃ t : Bool, s87 = .bool t ∧ Hid (t = true → 0 < a' ∧ gt l' p ≤ gt l' (a' - 1)))
                case first =>
                  by_cases hz : a' = 0
                  · subst hz
                    have dz : decide (((0 : Nat) : Int) > 0) = false := by simp
                    clear hS hI4
                    go_wp2_with fail
                    go_quiet (fail)
                    go_wp2
                    go_meet
                    case rel => exact ⟨hide (by have q := HS.out; exact q.more ha' hab' hb' hb (q.dr.dn _) (Pm.refl _ _ _) ((Kp.refl _ _).andNu (kp_dn _ _))), false, rfl, hide (fun e => by cases e)⟩
                  · have dz : decide ((a' : Int) > 0) = true := by simp; omega
                    have dzI : (a' : Int) > 0 := by omega
                    have dzN : 0 < a' := by omega
                    have dzB : decide (0 < a') = true := by simpa using dzN
                    have f1 : (0 : Int) ≤ (a' : Int) - 1 := by omega
                    have f2 : (a' : Int) - 1 < (n : Int) := by omega
                    have f3 : ((a' : Int) - 1).toNat = a' - 1 := by omega
                    have f4 : IntKind.i64.wrap ((a' : Int) - 1) = (a' : Int) - 1 := by rw [IntKind.wrap_i64]; omega
                    have f5 : (p : Int).toNat = p := by omega
                    obtain ⟨y1, _⟩ := hS.dr.at_ (k := a' - 1) (by omega)
                    by_cases hls : gt l' (a' - 1) < gt l' p
                    · have dl : decide (gt l' (a' - 1) < gt l' p) = true := by simpa using hls
                      clear hS hI4
                      go_wp2_with fail
                      go_quiet (first | (go_at_call 104; exact Calls.quiet_of_same (less127 _ _ _)))
                      go_wp2
                      go_meet
                      case rel => exact ⟨hide (by have q := HS.out; exact q.more ha' hab' hb' hb (q.dr.dn _) (Pm.refl _ _ _) ((Kp.refl _ _).andNu (kp_dn _ _))), false, rfl, hide (fun e => by cases e)⟩
                    · have dl : decide (gt l' (a' - 1) < gt l' p) = false := by simpa using hls
                      clear hS hI4
                      go_wp2_with fail
                      go_quiet (first | (go_at_call 104; exact Calls.quiet_of_same (less127 _ _ _)))
                      go_wp2
                      go_meet
                      case rel => exact ⟨hide (by have q := HS.out; exact q.more ha' hab' hb' hb (q.dr.dn _) (Pm.refl _ _ _) ((Kp.refl _ _).andNu (kp_dn _ _))), true, rfl, hide (fun _ => ⟨by omega, by omega⟩)⟩
                case rest =>
                  obtain ⟨hI5, t, rfl, hT⟩ := hcut
                  clear HS hS hI4 y2
                  obtain ⟨w7, ew7⟩ : ∃ w7 : World, w7 = wc := ⟨_, rfl⟩
                  subst ew7
                  cases t
                  · have C := par129 w7 B g n c l' a' b' p hI5.out.dr (by omega) (by omega) hn hp1 hp2
                    clear hT
                    go_wp2_with fail
                    refine C.mono ?_; rintro e w8 ⟨md, t8, rfl, m1, m2, l2, q1, q2, q3, q4, q5⟩
                    have HS8 : Hid (Sx w w8 B g n c l a a' b' b l2) := hide (hI5.out.more ha' hab' hb' hb q1 q2 q5)
                    have HQ := hide (And.intro q3 q4)
                    clear q1 q2 q3 q4 q5 C hI5
                    have v1 : IntKind.i64.wrap ((md : Int) - (a' : Int)) = (md : Int) - (a' : Int) := by rw [IntKind.wrap_i64]; omega
                    have v2 : IntKind.i64.wrap ((b' : Int) - (md : Int)) = (b' : Int) - (md : Int) := by rw [IntKind.wrap_i64]; omega
                    have v3 : IntKind.i64.wrap ((md : Int) + 1) = (md : Int) + 1 := by rw [IntKind.wrap_i64]; omega
                    have md0 : (0 : Int) ≤ (md : Int) := by omega
                    have mda : (a' : Int) ≤ (md : Int) := by omega
                    have mdb : (md : Int) < (b' : Int) := by omega
                    have hm := HM.out
                    by_cases hlr : md - a' < b' - md
                    · have hlrI : (md : Int) - (a' : Int) < (b' : Int) - (md : Int) := by omega
                      have C := HIH.out.1 (md - a') (by have := HIH.out.2; omega) w8 l2 a' md lim2 HS8.out.dr m1 (by omega) (Nat.le_refl _) (fun h0 k k1 k2 => HS8.out.low ha' hb' h0 k k1 (by omega)) hlim2
                      clear hm
                      go_wp2_with fail
                      refine C.mono ?_; rintro e w9 ⟨rfl, l3, r1, r2, r3, r4⟩
                      go_wp2
                      exact ⟨⟨md + 1, b', lim2, _, t8, by go_num, rfl, rfl, rfl, rfl, by omega, by omega, hb', hlim2, hide ⟨l3, HS8.out.left ha' m1 m2 hb' hb HQ.out.1 HQ.out.2 r1 r2 r3 r4⟩⟩, by simp only [intOf]; omega⟩
                    · have hlrI : ¬ (md : Int) - (a' : Int) < (b' : Int) - (md : Int) := by omega
                      have C := HIH.out.1 (b' - (md + 1)) (by have := HIH.out.2; omega) w8 l2 (md + 1) b' lim2 HS8.out.dr (by omega) (by omega) (Nat.le_refl _) (fun h0 k k1 k2 => by rw [show md + 1 - 1 = md by omega]; exact HQ.out.2 k (by omega) k2) hlim2
                      rw [show ((md + 1 : Nat) : Int) = (md : Int) + 1 by omega] at C
                      clear hm
                      go_wp2_with fail
                      refine C.mono ?_; rintro e w9 ⟨rfl, l3, r1, r2, r3, r4⟩
                      go_wp2
                      exact ⟨⟨a', md, lim2, _, t8, rfl, rfl, rfl, rfl, rfl, ha', m1, by omega, hlim2, hide ⟨l3, HS8.out.right ha' m1 m2 hb' hb HQ.out.1 HQ.out.2 r1 r2 r3 r4⟩⟩, by simp only [intOf]; omega⟩
                  · have C := peq128 w7 B g n c l' a' b' p hI5.out.dr (by omega) (by omega) hn hp1 hp2
                    go_wp2_with fail
                    refine C.mono ?_; rintro e w8 ⟨md, rfl, m1, m2, l2, q1, q2, q3, q4, q5⟩
                    go_wp2
                    exact ⟨⟨md, b', lim2, wb, wp, rfl, rfl, rfl, rfl, rfl, by omega, m2, hb', hlim2, hide ⟨l2, hI5.out.eq ha' (by omega) m2 hb' hb (hT.out (by trivial)) q1 q2 q3 q4 q5⟩⟩, by simp only [intOf]; omega⟩
end Go.Proofs.YtbifmcadllilhaaGreat.Rg
