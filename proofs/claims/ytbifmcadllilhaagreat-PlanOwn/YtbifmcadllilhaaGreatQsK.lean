import Derived.Test.YtbifmcadllilhaaGreatQsJ
namespace Go.Proofs.YtbifmcadllilhaaGreat.Rg
open Go.RowKit Go.Shelf Go.Sort
set_option linter.unusedVariables false
/-- what stands ahead of a is least -/
def Low (a b : Nat) (l : List Int) : Prop := 0 < a → ∀ k, a ≤ k → k < b → gt l (a - 1) ≤ gt l k
theorem Low.keep {a b : Nat} {l l' : List Int} (h : Low a b l) (p : Pm a b l l') (hab : a ≤ b) (hb : b ≤ l.length) : Low a b l' := fun h0 k k1 k2 => by
  obtain ⟨i, i1, i2, e⟩ := p.src hab hb k1 k2
  rw [e, p.out _ (.inl (by omega))]
  exact h h0 i i1 i2
theorem srd_far {a i : Nat} {l : List Int} (h : Srd a i l) {p q : Nat} (hp : i ≤ p) (hq : i ≤ q) (hpl : p < l.length) (hql : q < l.length) : Srd a i (sw l p q) := fun x y x1 x2 x3 => by
  rw [sw_get l hpl hql, sw_get l hpl hql, if_neg (by omega), if_neg (by omega), if_neg (by omega), if_neg (by omega)]
  exact h x y x1 x2 x3
theorem srd_more {a i : Nat} {l : List Int} (h : Srd a i l) (hi : a < i) (hx : gt l (i - 1) ≤ gt l i) : Srd a (i + 1) l := fun x y x1 x2 x3 => by
  by_cases e : y = i
  · by_cases e2 : x = i
    · rw [e, e2]; exact Int.le_refl _
    · have := h x (i - 1) x1 (by omega) (by omega)
      rw [e]; omega
  · exact h x y x1 x2 (by omega)
set_option maxRecDepth 100000 in
set_option maxHeartbeats 8000000 in
theorem pins126 (w : World) (B g n c : Nat) (l : List Int) (a b : Nat) (hD : Dr w B g n c l) (hab : a < b) (hb : b ≤ n) (hn : n ≤ 1000000) (hL : Low a b l) :
    Calls Tryz.prog 103 #[.slice (some ⟨g, 0, none⟩) n c, .int .i64 (a : Int), .int .i64 (b : Int)] w fun e w' => ∃ t : Bool, e = .returned (.bool t) ∧ ∃ l', Dr w' B g n c l' ∧ Pm a b l l' ∧ (t = true → Srd a b l') ∧ Kp (fun k => k = g) w w' := by
  have mixed : Tryz.prog.follows .mixedOrders = true := by kernel_rfl
  have hll : l.length = n := hD.len
  have HD := hide hD
  have HL := hide hL
  have hbI : (b : Int) ≤ (n : Int) := by omega
  have hnI : (n : Int) ≤ 1000000 := by omega
  have ha0 : (0 : Int) ≤ (a : Int) := by omega
  have haI : (a : Int) < (b : Int) := by omega
  have ab2 : IntKind.i64.wrap ((b : Int) - (a : Int)) = (b : Int) - (a : Int) := by rw [IntKind.wrap_i64]; omega
  clear hD hL
  go_enter Tryz.func103, Tryz.ntmps103
  go_wp2
  go_loopw [7, 8] (fun iv jv wr => ∃ i jo : Nat, iv = .int .i64 (i : Int) ∧ jv = .int .i64 (jo : Int) ∧ a < i ∧ i ≤ b ∧ jo ≤ 5 ∧ Hid (∃ l', Dr wr B g n c l' ∧ Pm a b l l' ∧ Srd a i l' ∧ Kp (fun k => k = g) w wr)) (fun _ jv _ => 5 - (intOf jv).toNat)
  case atStart => exact ⟨a + 1, 0, by go_num, rfl, by omega, by omega, by omega, hide ⟨l, HD.out, Pm.refl _ _ _, srd_one _ _, Kp.refl _ _⟩⟩
  case round =>
    obtain ⟨i0, jo, rfl, rfl, hai0, hib0, hjo, hI⟩ := hrel
    have hjo0 : (0 : Int) ≤ (jo : Int) := by omega
    obtain ⟨wl, ewl⟩ : ∃ wl : World, wl = wr := ⟨_, rfl⟩
    subst ewl
    by_cases hj5 : jo < 5
    · have hj5I : (jo : Int) < 5 := by omega
      go_wp2
      go_loopw [7] (fun iv wr => ∃ i : Nat, iv = .int .i64 (i : Int) ∧ a < i ∧ i ≤ b ∧ Hid (∃ l', Dr wr B g n c l' ∧ Pm a b l l' ∧ Srd a i l' ∧ Kp (fun k => k = g) w wr)) (fun iv _ => b - (intOf iv).toNat)
      case atStart => exact ⟨i0, rfl, hai0, hib0, hI⟩
      case round =>
        obtain ⟨i, rfl, hai, hib, hI2⟩ := hrel
        clear hI hai0 hib0
        have hi0 : (0 : Int) ≤ (i : Int) := by omega
        obtain ⟨wm, ewm⟩ : ∃ wm : World, wm = wr := ⟨_, rfl⟩
        obtain ⟨l', h1, h2, h3, h4⟩ := hI2.out
        have hl' : l'.length = n := h1.len
        by_cases hc : i < b
        · have d1 : decide ((i : Int) < (b : Int)) = true := by simpa using hc
          have d1I : (i : Int) < (b : Int) := by omega
          have dnb : ¬ (i : Int) = (b : Int) := by omega
          have f1i : (0 : Int) ≤ (i : Int) - 1 := by omega
          have f2i : (i : Int) - 1 < (n : Int) := by omega
          have f3i : ((i : Int) - 1).toNat = i - 1 := by omega
          have f4i : IntKind.i64.wrap ((i : Int) - 1) = (i : Int) - 1 := by rw [IntKind.wrap_i64]; omega
          have f5i : (i : Int) < (n : Int) := by omega
          have f6i : (i : Int).toNat = i := by omega
          obtain ⟨y1, _⟩ := h1.at_ (k := i) (by omega)
          obtain ⟨y2, _⟩ := h1.at_ (k := i - 1) (by omega)
          have HJ := hide (And.intro h1 (And.intro h2 (And.intro h3 h4)))
          by_cases hls : gt l' i < gt l' (i - 1)
          · have d2 : decide (gt l' i < gt l' (i - 1)) = true := by simpa using hls
            by_cases h50 : b < a + 50
            · have h50I : (b : Int) - (a : Int) < 50 := by omega
              clear h1 h2 h3 h4 hI2
              go_wp2_with fail
              go_quiet (first | (go_at_call 104; exact Calls.quiet_of_same (less127 _ _ _)))
              go_wp2
              go_ret
              obtain ⟨h1, h2, h3, h4⟩ := HJ.out
              exact ⟨false, rfl, l', h1.dn _, h2, (fun e => by cases e), h4.andNu (kp_dn _ _)⟩
            · have h50I : ¬ (b : Int) - (a : Int) < 50 := by omega
              have HP : Hid (Pm a b l (sw l' i (i - 1)) ∧ Ins a (i - 1) (i - 1) (sw l' i (i - 1))) := hide ⟨h2.trans (Pm.sw l' (by omega) (by omega) (by omega) (by omega) (by omega) (by omega)), Ins.of_srd (srd_far (fun p q p1 p2 p3 => h3 p q p1 p2 (by omega)) (by omega) (by omega) (by omega) (by omega))⟩
              clear h1 h2 h3 h4 hI2
              go_wp2_with fail
              go_quiet (first | (go_at_call 104; exact Calls.quiet_of_same (less127 _ _ _)))
              obtain ⟨h1, h2, h3, h4⟩ := HJ.out
              have hW1 := h1.dn nq
              have kW := h4.andNu (kp_dn wr nq)
              obtain ⟨W, hW⟩ : ∃ W, wr.drewN nq = W := ⟨_, rfl⟩
              rw [hW] at hW1 kW ⊢
              obtain ⟨s1, t1, s2, t2, t3, t4, hsw⟩ := hW1.swf (i := i) (j := i - 1) (by omega) (by omega)
              have H4 := hide (And.intro hsw kW)
              clear h1 h2 h3 h4 hW1 kW hsw hW
              go_wp2_with fail
              go_region
              clear HJ s1 t1 s2 t2 t3 t4 y1 y2 hls
              obtain ⟨V, hV⟩ : ∃ V, ((W.setCell ⟨g, i, none⟩ (.int .u64 (gt l' (i - 1)))).setCell ⟨g, i - 1, none⟩ (.int .u64 (gt l' i))).drew = V := ⟨_, rfl⟩
              by_cases ha2 : a + 2 ≤ i
              · have c1 : (i : Int) - (a : Int) ≥ 2 := by omega
                have c2 : IntKind.i64.wrap ((i : Int) - (a : Int)) = (i : Int) - (a : Int) := by rw [IntKind.wrap_i64]; omega
                have f4 : IntKind.i64.wrap ((i : Int) - 1) = (i : Int) - 1 := by rw [IntKind.wrap_i64]; omega
                go_wp2
                go_loopw [9] (fun jv wr => ∃ j : Nat, jv = .int .i64 (j : Int) ∧ a ≤ j ∧ j < i ∧ Hid (∃ l', Dr wr B g n c l' ∧ Pm a b l l' ∧ Ins a (i - 1) j l' ∧ Kp (fun k => k = g) w wr)) (fun jv _ => (intOf jv).toNat)
                case atStart =>
                  obtain ⟨hsw, k4⟩ := H4.out
                  rw [← hV]
                  exact ⟨i - 1, by rw [show ((i - 1 : Nat) : Int) = (i : Int) - 1 by omega], by omega, by omega, hide ⟨_, hsw.drew, HP.out.1, HP.out.2, ((k4.andSet _ _ (.inr rfl)).andSet _ _ (.inr rfl)).drew⟩⟩
                case round =>
                  obtain ⟨j, rfl, haj, hji, hJ⟩ := hrel
                  clear H4 HP
                  have hj0 : (0 : Int) ≤ (j : Int) := by omega
                  obtain ⟨l', h1, h2, h3, h4⟩ := hJ.out
                  have hl' : l'.length = n := h1.len
                  by_cases hjc : 1 ≤ j
                  · have j1 : (j : Int) ≥ 1 := by omega
                    have f1j : (0 : Int) ≤ (j : Int) - 1 := by omega
                    have f2j : (j : Int) - 1 < (n : Int) := by omega
                    have f3j : ((j : Int) - 1).toNat = j - 1 := by omega
                    have f4j : IntKind.i64.wrap ((j : Int) - 1) = (j : Int) - 1 := by rw [IntKind.wrap_i64]; omega
                    have f5j : (j : Int) < (n : Int) := by omega
                    have f6j : (j : Int).toNat = j := by omega
                    obtain ⟨y1, _⟩ := h1.at_ (k := j) (by omega)
                    obtain ⟨y2, _⟩ := h1.at_ (k := j - 1) (by omega)
                    have HJ := hide (And.intro h1 (And.intro h2 (And.intro h3 h4)))
                    by_cases hlj : gt l' j < gt l' (j - 1)
                    · have dj : decide (gt l' j < gt l' (j - 1)) = true := by simpa using hlj
                      have hajs : a < j := by
                        rcases Nat.eq_or_lt_of_le haj with e | e
                        · have := (HL.out.keep h2 (by omega) (by omega)) (by omega) j haj (by omega)
                          rw [← e] at this hlj
                          omega
                        · exact e
                      have HN : Hid (Pm a b l (sw l' j (j - 1)) ∧ Ins a (i - 1) (j - 1) (sw l' j (j - 1))) := hide ⟨h2.trans (Pm.sw l' (by omega) (by omega) (by omega) (by omega) (by omega) (by omega)), h3.step (by omega) hajs (by omega) hlj⟩
                      clear h1 h2 h3 h4 hJ
                      go_wp2_with fail
                      go_quiet (first | (go_at_call 104; exact Calls.quiet_of_same (less127 _ _ _)))
                      obtain ⟨h1, h2, h3, h4⟩ := HJ.out
                      have hW1 := h1.dn nq
                      have kW := h4.andNu (kp_dn wr nq)
                      obtain ⟨W, hW⟩ : ∃ W, wr.drewN nq = W := ⟨_, rfl⟩
                      rw [hW] at hW1 kW ⊢
                      obtain ⟨s1, t1, s2, t2, t3, t4, hsw⟩ := hW1.swf (i := j) (j := j - 1) (by omega) (by omega)
                      have H4 := hide (And.intro hsw kW)
                      clear h1 h2 h3 h4 hW1 kW hsw hW
                      go_wp2_with fail
                      go_region
                      go_wp2
                      obtain ⟨hsw, k4⟩ := H4.out
                      exact ⟨⟨j - 1, by rw [show ((j - 1 : Nat) : Int) = (j : Int) - 1 by omega], by omega, by omega, hide ⟨_, hsw.drew, HN.out.1, HN.out.2, ((k4.andSet _ _ (.inr rfl)).andSet _ _ (.inr rfl)).drew⟩⟩, by simp [intOf]; omega⟩
                    · have dj : decide (gt l' j < gt l' (j - 1)) = false := by simpa using hlj
                      have HX : Hid (Srd a i l') := hide (by have := h3.done haj (by omega) (.inr (by omega)); rwa [show i - 1 + 1 = i by omega] at this)
                      clear h1 h2 h3 h4 hJ
                      go_wp2_with fail
                      go_quiet (first | (go_at_call 104; exact Calls.quiet_of_same (less127 _ _ _)))
                      have HA : Hid (∃ l', Dr (wr.drewN nq) B g n c l' ∧ Pm a b l l' ∧ Srd a i l' ∧ Kp (fun k => k = g) w (wr.drewN nq)) := by
                        obtain ⟨h1, h2, h3, h4⟩ := HJ.out
                        exact hide ⟨l', h1.dn nq, h2, HX.out, h4.andNu (kp_dn wr nq)⟩
                      obtain ⟨V, hV⟩ : ∃ V, wr.drewN nq = V := ⟨_, rfl⟩
                      rw [hV] at HA ⊢
                      clear hV HJ y1 y2
                      by_cases hb2 : i + 2 ≤ b
                      · have b1 : (b : Int) - (i : Int) ≥ 2 := by omega
                        have b2 : IntKind.i64.wrap ((b : Int) - (i : Int)) = (b : Int) - (i : Int) := by rw [IntKind.wrap_i64]; omega
                        have HS : Hid (∃ l', Dr V B g n c l' ∧ Pm a b l l' ∧ Srd a i l' ∧ Kp (fun k => k = g) w V) := HA
                        go_wp2
                        go_loopw [10] (fun kv wr => ∃ k : Nat, kv = .int .i64 (k : Int) ∧ i < k ∧ k ≤ b ∧ Hid (∃ l', Dr wr B g n c l' ∧ Pm a b l l' ∧ Srd a i l' ∧ Kp (fun k => k = g) w wr)) (fun kv _ => b - (intOf kv).toNat)
                        case atStart => exact ⟨i + 1, by go_num, by omega, by omega, HS⟩
                        case round =>
                          obtain ⟨k, rfl, hik, hkb, hK⟩ := hrel
                          clear HS
                          have hk0 : (0 : Int) ≤ (k : Int) := by omega
                          obtain ⟨l', h1, h2, h3, h4⟩ := hK.out
                          have hl' : l'.length = n := h1.len
                          by_cases hkc : k < b
                          · have k1 : (k : Int) < (b : Int) := by omega
                            have f1k : (0 : Int) ≤ (k : Int) - 1 := by omega
                            have f2k : (k : Int) - 1 < (n : Int) := by omega
                            have f3k : ((k : Int) - 1).toNat = k - 1 := by omega
                            have f4k : IntKind.i64.wrap ((k : Int) - 1) = (k : Int) - 1 := by rw [IntKind.wrap_i64]; omega
                            have f5k : (k : Int) < (n : Int) := by omega
                            have f6k : (k : Int).toNat = k := by omega
                            obtain ⟨y1, _⟩ := h1.at_ (k := k) (by omega)
                            obtain ⟨y2, _⟩ := h1.at_ (k := k - 1) (by omega)
                            have HJ := hide (And.intro h1 (And.intro h2 (And.intro h3 h4)))
                            by_cases hlk : gt l' k < gt l' (k - 1)
                            · have dk : decide (gt l' k < gt l' (k - 1)) = true := by simpa using hlk
                              have HN : Hid (Pm a b l (sw l' k (k - 1)) ∧ Srd a i (sw l' k (k - 1))) := hide ⟨h2.trans (Pm.sw l' (by omega) (by omega) (by omega) (by omega) (by omega) (by omega)), srd_far h3 (by omega) (by omega) (by omega) (by omega)⟩
                              clear h1 h2 h3 h4 hK
                              go_wp2_with fail
                              go_quiet (first | (go_at_call 104; exact Calls.quiet_of_same (less127 _ _ _)))
                              obtain ⟨h1, h2, h3, h4⟩ := HJ.out
                              have hW1 := h1.dn nq
                              have kW := h4.andNu (kp_dn wr nq)
                              obtain ⟨W, hW⟩ : ∃ W, wr.drewN nq = W := ⟨_, rfl⟩
                              rw [hW] at hW1 kW ⊢
                              obtain ⟨s1, t1, s2, t2, t3, t4, hsw⟩ := hW1.swf (i := k) (j := k - 1) (by omega) (by omega)
                              have H4 := hide (And.intro hsw kW)
                              clear h1 h2 h3 h4 hW1 kW hsw hW
                              go_wp2_with fail
                              go_region
                              go_wp2
                              obtain ⟨hsw, k4⟩ := H4.out
                              exact ⟨⟨k + 1, by go_num, by omega, by omega, hide ⟨_, hsw.drew, HN.out.1, HN.out.2, ((k4.andSet _ _ (.inr rfl)).andSet _ _ (.inr rfl)).drew⟩⟩, by simp [intOf]; omega⟩
                            · have dk : decide (gt l' k < gt l' (k - 1)) = false := by simpa using hlk
                              clear h1 h2 h3 h4 hK
                              go_wp2_with fail
                              go_quiet (first | (go_at_call 104; exact Calls.quiet_of_same (less127 _ _ _)))
                              have HT : Hid (∃ l', Dr (wr.drewN nq) B g n c l' ∧ Pm a b l l' ∧ Srd a i l' ∧ Kp (fun k => k = g) w (wr.drewN nq)) := by
                                obtain ⟨h1, h2, h3, h4⟩ := HJ.out
                                exact hide ⟨l', h1.dn nq, h2, h3, h4.andNu (kp_dn wr nq)⟩
                              go_wp2
                              exact ⟨⟨i, jo + 1, rfl, by go_num, by omega, by omega, by omega, HT⟩, by simp [intOf]; omega⟩
                          · have k1 : ¬ (k : Int) < (b : Int) := by omega
                            clear h1 h2 h3 h4
                            go_wp2
                            exact ⟨⟨i, jo + 1, rfl, by go_num, by omega, by omega, by omega, hK⟩, by simp [intOf]; omega⟩
                      · have b1 : ¬ (b : Int) - (i : Int) ≥ 2 := by omega
                        have b2 : IntKind.i64.wrap ((b : Int) - (i : Int)) = (b : Int) - (i : Int) := by rw [IntKind.wrap_i64]; omega
                        have HS : Hid (∃ l', Dr V B g n c l' ∧ Pm a b l l' ∧ Srd a i l' ∧ Kp (fun k => k = g) w V) := HA
                        go_wp2
                        exact ⟨⟨i, jo + 1, rfl, by go_num, by omega, by omega, by omega, HS⟩, by simp [intOf]; omega⟩
                  · have j1 : ¬ (j : Int) ≥ 1 := by omega
                    have HA : Hid (∃ l', Dr wr B g n c l' ∧ Pm a b l l' ∧ Srd a i l' ∧ Kp (fun k => k = g) w wr) := hide ⟨l', h1, h2, by have := h3.done haj (by omega) (.inl (by omega)); rwa [show i - 1 + 1 = i by omega] at this, h4⟩
                    clear h1 h2 h3 h4 hJ
                    by_cases hb2 : i + 2 ≤ b
                    · have b1 : (b : Int) - (i : Int) ≥ 2 := by omega
                      have b2 : IntKind.i64.wrap ((b : Int) - (i : Int)) = (b : Int) - (i : Int) := by rw [IntKind.wrap_i64]; omega
                      have HS : Hid (∃ l', Dr wr B g n c l' ∧ Pm a b l l' ∧ Srd a i l' ∧ Kp (fun k => k = g) w wr) := HA
                      go_wp2
                      go_loopw [10] (fun kv wr => ∃ k : Nat, kv = .int .i64 (k : Int) ∧ i < k ∧ k ≤ b ∧ Hid (∃ l', Dr wr B g n c l' ∧ Pm a b l l' ∧ Srd a i l' ∧ Kp (fun k => k = g) w wr)) (fun kv _ => b - (intOf kv).toNat)
                      case atStart => exact ⟨i + 1, by go_num, by omega, by omega, HS⟩
                      case round =>
                        obtain ⟨k, rfl, hik, hkb, hK⟩ := hrel
                        clear HS
                        have hk0 : (0 : Int) ≤ (k : Int) := by omega
                        obtain ⟨l', h1, h2, h3, h4⟩ := hK.out
                        have hl' : l'.length = n := h1.len
                        by_cases hkc : k < b
                        · have k1 : (k : Int) < (b : Int) := by omega
                          have f1k : (0 : Int) ≤ (k : Int) - 1 := by omega
                          have f2k : (k : Int) - 1 < (n : Int) := by omega
                          have f3k : ((k : Int) - 1).toNat = k - 1 := by omega
                          have f4k : IntKind.i64.wrap ((k : Int) - 1) = (k : Int) - 1 := by rw [IntKind.wrap_i64]; omega
                          have f5k : (k : Int) < (n : Int) := by omega
                          have f6k : (k : Int).toNat = k := by omega
                          obtain ⟨y1, _⟩ := h1.at_ (k := k) (by omega)
                          obtain ⟨y2, _⟩ := h1.at_ (k := k - 1) (by omega)
                          have HJ := hide (And.intro h1 (And.intro h2 (And.intro h3 h4)))
                          by_cases hlk : gt l' k < gt l' (k - 1)
                          · have dk : decide (gt l' k < gt l' (k - 1)) = true := by simpa using hlk
                            have HN : Hid (Pm a b l (sw l' k (k - 1)) ∧ Srd a i (sw l' k (k - 1))) := hide ⟨h2.trans (Pm.sw l' (by omega) (by omega) (by omega) (by omega) (by omega) (by omega)), srd_far h3 (by omega) (by omega) (by omega) (by omega)⟩
                            clear h1 h2 h3 h4 hK
                            go_wp2_with fail
                            go_quiet (first | (go_at_call 104; exact Calls.quiet_of_same (less127 _ _ _)))
                            obtain ⟨h1, h2, h3, h4⟩ := HJ.out
                            have hW1 := h1.dn nq
                            have kW := h4.andNu (kp_dn wr nq)
                            obtain ⟨W, hW⟩ : ∃ W, wr.drewN nq = W := ⟨_, rfl⟩
                            rw [hW] at hW1 kW ⊢
                            obtain ⟨s1, t1, s2, t2, t3, t4, hsw⟩ := hW1.swf (i := k) (j := k - 1) (by omega) (by omega)
                            have H4 := hide (And.intro hsw kW)
                            clear h1 h2 h3 h4 hW1 kW hsw hW
                            go_wp2_with fail
                            go_region
                            go_wp2
                            obtain ⟨hsw, k4⟩ := H4.out
                            exact ⟨⟨k + 1, by go_num, by omega, by omega, hide ⟨_, hsw.drew, HN.out.1, HN.out.2, ((k4.andSet _ _ (.inr rfl)).andSet _ _ (.inr rfl)).drew⟩⟩, by simp [intOf]; omega⟩
                          · have dk : decide (gt l' k < gt l' (k - 1)) = false := by simpa using hlk
                            clear h1 h2 h3 h4 hK
                            go_wp2_with fail
                            go_quiet (first | (go_at_call 104; exact Calls.quiet_of_same (less127 _ _ _)))
                            have HT : Hid (∃ l', Dr (wr.drewN nq) B g n c l' ∧ Pm a b l l' ∧ Srd a i l' ∧ Kp (fun k => k = g) w (wr.drewN nq)) := by
                              obtain ⟨h1, h2, h3, h4⟩ := HJ.out
                              exact hide ⟨l', h1.dn nq, h2, h3, h4.andNu (kp_dn wr nq)⟩
                            go_wp2
                            exact ⟨⟨i, jo + 1, rfl, by go_num, by omega, by omega, by omega, HT⟩, by simp [intOf]; omega⟩
                        · have k1 : ¬ (k : Int) < (b : Int) := by omega
                          clear h1 h2 h3 h4
                          go_wp2
                          exact ⟨⟨i, jo + 1, rfl, by go_num, by omega, by omega, by omega, hK⟩, by simp [intOf]; omega⟩
                    · have b1 : ¬ (b : Int) - (i : Int) ≥ 2 := by omega
                      have b2 : IntKind.i64.wrap ((b : Int) - (i : Int)) = (b : Int) - (i : Int) := by rw [IntKind.wrap_i64]; omega
                      have HS : Hid (∃ l', Dr wr B g n c l' ∧ Pm a b l l' ∧ Srd a i l' ∧ Kp (fun k => k = g) w wr) := HA
                      go_wp2
                      exact ⟨⟨i, jo + 1, rfl, by go_num, by omega, by omega, by omega, HS⟩, by simp [intOf]; omega⟩
              · have c1 : ¬ (i : Int) - (a : Int) ≥ 2 := by omega
                have c2 : IntKind.i64.wrap ((i : Int) - (a : Int)) = (i : Int) - (a : Int) := by rw [IntKind.wrap_i64]; omega
                have HA : Hid (∃ l', Dr V B g n c l' ∧ Pm a b l l' ∧ Srd a i l' ∧ Kp (fun k => k = g) w V) := by
                  obtain ⟨hsw, k4⟩ := H4.out
                  rw [← hV]
                  exact hide ⟨_, hsw.drew, HP.out.1, by rw [show i = a + 1 by omega]; exact srd_one _ _, ((k4.andSet _ _ (.inr rfl)).andSet _ _ (.inr rfl)).drew⟩
                rw [hV]
                clear H4 HP hV
                by_cases hb2 : i + 2 ≤ b
                · have b1 : (b : Int) - (i : Int) ≥ 2 := by omega
                  have b2 : IntKind.i64.wrap ((b : Int) - (i : Int)) = (b : Int) - (i : Int) := by rw [IntKind.wrap_i64]; omega
                  have HS : Hid (∃ l', Dr V B g n c l' ∧ Pm a b l l' ∧ Srd a i l' ∧ Kp (fun k => k = g) w V) := HA
                  go_wp2
                  go_loopw [10] (fun kv wr => ∃ k : Nat, kv = .int .i64 (k : Int) ∧ i < k ∧ k ≤ b ∧ Hid (∃ l', Dr wr B g n c l' ∧ Pm a b l l' ∧ Srd a i l' ∧ Kp (fun k => k = g) w wr)) (fun kv _ => b - (intOf kv).toNat)
                  case atStart => exact ⟨i + 1, by go_num, by omega, by omega, HS⟩
                  case round =>
                    obtain ⟨k, rfl, hik, hkb, hK⟩ := hrel
                    clear HS
                    have hk0 : (0 : Int) ≤ (k : Int) := by omega
                    obtain ⟨l', h1, h2, h3, h4⟩ := hK.out
                    have hl' : l'.length = n := h1.len
                    by_cases hkc : k < b
                    · have k1 : (k : Int) < (b : Int) := by omega
                      have f1k : (0 : Int) ≤ (k : Int) - 1 := by omega
                      have f2k : (k : Int) - 1 < (n : Int) := by omega
                      have f3k : ((k : Int) - 1).toNat = k - 1 := by omega
                      have f4k : IntKind.i64.wrap ((k : Int) - 1) = (k : Int) - 1 := by rw [IntKind.wrap_i64]; omega
                      have f5k : (k : Int) < (n : Int) := by omega
                      have f6k : (k : Int).toNat = k := by omega
                      obtain ⟨y1, _⟩ := h1.at_ (k := k) (by omega)
                      obtain ⟨y2, _⟩ := h1.at_ (k := k - 1) (by omega)
                      have HJ := hide (And.intro h1 (And.intro h2 (And.intro h3 h4)))
                      by_cases hlk : gt l' k < gt l' (k - 1)
                      · have dk : decide (gt l' k < gt l' (k - 1)) = true := by simpa using hlk
                        have HN : Hid (Pm a b l (sw l' k (k - 1)) ∧ Srd a i (sw l' k (k - 1))) := hide ⟨h2.trans (Pm.sw l' (by omega) (by omega) (by omega) (by omega) (by omega) (by omega)), srd_far h3 (by omega) (by omega) (by omega) (by omega)⟩
                        clear h1 h2 h3 h4 hK
                        go_wp2_with fail
                        go_quiet (first | (go_at_call 104; exact Calls.quiet_of_same (less127 _ _ _)))
                        obtain ⟨h1, h2, h3, h4⟩ := HJ.out
                        have hW1 := h1.dn nq
                        have kW := h4.andNu (kp_dn wr nq)
                        obtain ⟨W, hW⟩ : ∃ W, wr.drewN nq = W := ⟨_, rfl⟩
                        rw [hW] at hW1 kW ⊢
                        obtain ⟨s1, t1, s2, t2, t3, t4, hsw⟩ := hW1.swf (i := k) (j := k - 1) (by omega) (by omega)
                        have H4 := hide (And.intro hsw kW)
                        clear h1 h2 h3 h4 hW1 kW hsw hW
                        go_wp2_with fail
                        go_region
                        go_wp2
                        obtain ⟨hsw, k4⟩ := H4.out
                        exact ⟨⟨k + 1, by go_num, by omega, by omega, hide ⟨_, hsw.drew, HN.out.1, HN.out.2, ((k4.andSet _ _ (.inr rfl)).andSet _ _ (.inr rfl)).drew⟩⟩, by simp [intOf]; omega⟩
                      · have dk : decide (gt l' k < gt l' (k - 1)) = false := by simpa using hlk
                        clear h1 h2 h3 h4 hK
                        go_wp2_with fail
                        go_quiet (first | (go_at_call 104; exact Calls.quiet_of_same (less127 _ _ _)))
                        have HT : Hid (∃ l', Dr (wr.drewN nq) B g n c l' ∧ Pm a b l l' ∧ Srd a i l' ∧ Kp (fun k => k = g) w (wr.drewN nq)) := by
                          obtain ⟨h1, h2, h3, h4⟩ := HJ.out
                          exact hide ⟨l', h1.dn nq, h2, h3, h4.andNu (kp_dn wr nq)⟩
                        go_wp2
                        exact ⟨⟨i, jo + 1, rfl, by go_num, by omega, by omega, by omega, HT⟩, by simp [intOf]; omega⟩
                    · have k1 : ¬ (k : Int) < (b : Int) := by omega
                      clear h1 h2 h3 h4
                      go_wp2
                      exact ⟨⟨i, jo + 1, rfl, by go_num, by omega, by omega, by omega, hK⟩, by simp [intOf]; omega⟩
                · have b1 : ¬ (b : Int) - (i : Int) ≥ 2 := by omega
                  have b2 : IntKind.i64.wrap ((b : Int) - (i : Int)) = (b : Int) - (i : Int) := by rw [IntKind.wrap_i64]; omega
                  have HS : Hid (∃ l', Dr V B g n c l' ∧ Pm a b l l' ∧ Srd a i l' ∧ Kp (fun k => k = g) w V) := HA
                  go_wp2
                  exact ⟨⟨i, jo + 1, rfl, by go_num, by omega, by omega, by omega, HS⟩, by simp [intOf]; omega⟩
          · have d2 : decide (gt l' i < gt l' (i - 1)) = false := by simpa using hls
            have HN : Hid (Srd a (i + 1) l') := hide (srd_more h3 hai (by omega))
            clear h1 h2 h3 h4 hI2
            go_wp2_with fail
            go_quiet (first | (go_at_call 104; exact Calls.quiet_of_same (less127 _ _ _)))
            go_wp2
            obtain ⟨h1, h2, h3, h4⟩ := HJ.out
            exact ⟨⟨i + 1, by go_num, by omega, by omega, hide ⟨l', h1.dn _, h2, HN.out, h4.andNu (kp_dn _ _)⟩⟩, by simp [intOf]; omega⟩
        · have d1 : decide ((i : Int) < (b : Int)) = false := by simpa using hc
          have d1I : ¬ (i : Int) < (b : Int) := by omega
          have eib : i = b := by omega
          have HJ := hide (And.intro h1 (And.intro h2 (And.intro h3 h4)))
          clear h1 h2 h3 h4 hI2
          subst eib
          go_wp2_with fail
          go_quiet (fail)
          go_wp2
          go_ret
          obtain ⟨h1, h2, h3, h4⟩ := HJ.out
          exact ⟨true, rfl, l', h1.dn _, h2, fun _ => h3, h4.andNu (kp_dn _ _)⟩
    · have hj5I : ¬ (jo : Int) < 5 := by omega
      go_wp2
      go_ret
      obtain ⟨l', h1, h2, h3, h4⟩ := hI.out
      exact .inl ⟨rfl, l', h1, h2, h4⟩
end Go.Proofs.YtbifmcadllilhaaGreat.Rg
