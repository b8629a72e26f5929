import Derived.Test.YtbifmcadllilhaaGreatQsC
namespace Go.Proofs.YtbifmcadllilhaaGreat.Rg
open Go.RowKit Go.Shelf Go.Sort
set_option linter.unusedVariables false
/-- where partitionEqual stands -/
structure Peq (a b i j : Nat) (l : List Int) : Prop where
  lo : ∀ k, a ≤ k → k < i → gt l k ≤ gt l a
  hi : ∀ k, j < k → k < b → gt l a < gt l k
theorem peq_start (a b : Nat) (l : List Int) : Peq a b (a + 1) (b - 1) l := ⟨fun k k1 k2 => (by
  have e : k = a := by omega
  rw [e]
  exact Int.le_refl _), fun k k1 k2 => by omega⟩
theorem Peq.up {a b i j : Nat} {l : List Int} (h : Peq a b i j l) (hx : gt l i ≤ gt l a) : Peq a b (i + 1) j l := ⟨fun k k1 k2 => by
  by_cases e : k = i
  · rw [e]; exact hx
  · exact h.lo k k1 (by omega), h.hi⟩
theorem Peq.down {a b i j : Nat} {l : List Int} (h : Peq a b i j l) (hx : gt l a < gt l j) : Peq a b i (j - 1) l := ⟨h.lo, fun k k1 k2 => by
  by_cases e : k = j
  · rw [e]; exact hx
  · exact h.hi k (by omega) k2⟩
theorem Peq.swap {a b i j : Nat} {l : List Int} (h : Peq a b i j l) (hl : b ≤ l.length) (h1 : a < i) (h2 : i < j) (h3 : j < b) (hi : gt l a < gt l i) (hj : gt l j ≤ gt l a) : Peq a b (i + 1) (j - 1) (sw l i j) := by
  have g : ∀ k, gt (sw l i j) k = if k = j then gt l i else if k = i then gt l j else gt l k := fun k => sw_get l (by omega) (by omega)
  refine ⟨fun k k1 k2 => ?_, fun k k1 k2 => ?_⟩
  · rw [g k, g a, if_neg (by omega : ¬ k = j), if_neg (by omega : ¬ a = j), if_neg (by omega : ¬ a = i)]
    by_cases e : k = i
    · rw [if_pos e]; exact hj
    · rw [if_neg e]; exact h.lo k k1 (by omega)
  · rw [g k, g a, if_neg (by omega : ¬ a = j), if_neg (by omega : ¬ a = i)]
    by_cases e : k = j
    · rw [if_pos e]; exact hi
    · rw [if_neg e, if_neg (by omega)]; exact h.hi k (by omega) k2
set_option maxRecDepth 100000 in
set_option maxHeartbeats 4000000 in
theorem peq128 (w : World) (B g n c : Nat) (l : List Int) (a b p : Nat) (hD : Dr w B g n c l) (hab : a < b) (hb : b ≤ n) (hn : n ≤ 1000000) (hp1 : a ≤ p) (hp2 : p < b) :
    Calls Tryz.prog 105 #[.slice (some ⟨g, 0, none⟩) n c, .int .i64 (a : Int), .int .i64 (b : Int), .int .i64 (p : Int)] w fun e w' => ∃ m : Nat, e = .returned (.int .i64 (m : Int)) ∧ a < m ∧ m ≤ b ∧ ∃ l', Dr w' B g n c l' ∧ Pm a b l l' ∧ (∀ k, a ≤ k → k < m → gt l' k ≤ gt l p) ∧ (∀ k, m ≤ k → k < b → gt l p < gt l' k) ∧ Kp (fun k => k = g) w w' := by
  have mixed : Tryz.prog.follows .mixedOrders = true := by kernel_rfl
  have hbI : (b : Int) ≤ (n : Int) := by omega
  have hnI : (n : Int) ≤ 1000000 := by omega
  have ha0 : (0 : Int) ≤ (a : Int) := by omega
  have haI : (a : Int) < (n : Int) := by omega
  have hp0 : (0 : Int) ≤ (p : Int) := by omega
  have hpI : (p : Int) < (n : Int) := by omega
  have eta : (a : Int).toNat = a := by omega
  have etp : (p : Int).toNat = p := by omega
  have hl := hD.len
  obtain ⟨y1, f1, y2, f2, z1, g1, hsw⟩ := hD.swf (i := a) (j := p) (by omega) (by omega)
  have hpv : gt (sw l a p) a = gt l p := by
    rw [sw_get l (by omega) (by omega)]
    by_cases e : a = p
    · rw [if_pos e, e]
    · rw [if_neg e, if_pos rfl]
  have H0 := hide (And.intro hsw (And.intro (Pm.sw l (a := a) (b := b) (i := a) (j := p) (by omega) (by omega) (by omega) hab hp1 hp2) hpv))
  clear hD hsw hpv
  go_enter Tryz.func105, Tryz.ntmps105
  go_wp2_with fail
  go_region
  go_wp2
  go_loopw [9, 10] (fun iv jv wr => ∃ i j : Nat, iv = .int .i64 (i : Int) ∧ jv = .int .i64 (j : Int) ∧ a < i ∧ i ≤ j + 1 ∧ j < b ∧ Hid (∃ l', Dr wr B g n c l' ∧ Pm a b l l' ∧ gt l' a = gt l p ∧ Peq a b i j l' ∧ Kp (fun k => k = g) w wr)) (fun _ jv _ => (intOf jv).toNat)
  case atStart => exact ⟨a + 1, b - 1, by go_num, by rw [show ((b - 1 : Nat) : Int) = (b : Int) - 1 by omega], by omega, by omega, by omega, hide ⟨_, H0.out.1.drew, H0.out.2.1, H0.out.2.2, peq_start a b _, (((Kp.refl (fun k => k = g) w).andSet _ _ (.inr rfl)).andSet _ _ (.inr rfl)).drew⟩⟩
  case round =>
    obtain ⟨i, j, rfl, rfl, hai, hij, hjb, hI⟩ := hrel
    obtain ⟨wl, ewl⟩ : ∃ wl : World, wl = wr := ⟨_, rfl⟩
    subst ewl
    go_wp2
    go_loopw [9] (fun iv wr => ∃ i : Nat, iv = .int .i64 (i : Int) ∧ a < i ∧ i ≤ j + 1 ∧ Hid (∃ l', Dr wr B g n c l' ∧ Pm a b l l' ∧ gt l' a = gt l p ∧ Peq a b i j l' ∧ Kp (fun k => k = g) w wr)) (fun iv _ => j + 1 - (intOf iv).toNat)
    case atStart => exact ⟨i, rfl, hai, hij, hI⟩
    case round =>
      clear hI hai hij
      obtain ⟨i, rfl, hai, hij, hI⟩ := hrel
      obtain ⟨wm, ewm⟩ : ∃ wm : World, wm = wr := ⟨_, rfl⟩
      subst ewm
      have hi0 : (0 : Int) ≤ (i : Int) := by omega
      have hj0 : (0 : Int) ≤ (j : Int) := by omega
      have eti : (i : Int).toNat = i := by omega
      obtain ⟨l', h1, h2, h3, h4, h5⟩ := hI.out
      have hl' : l'.length = n := h1.len
      by_cases hc : i ≤ j
      · have d1 : decide ((i : Int) ≤ (j : Int)) = true := by simpa using hc
        have d1I : (i : Int) ≤ (j : Int) := by omega
        have hin : (i : Int) < (n : Int) := by omega
        obtain ⟨y1, _⟩ := h1.at_ (k := i) (by omega)
        obtain ⟨y2, _⟩ := h1.at_ (k := a) (by omega)
        by_cases hls : gt l' a < gt l' i
        · have d2 : decide (gt l' a < gt l' i) = true := by simpa using hls
          have HL := hide hls
          have HJ := hide (And.intro h1 (And.intro h2 (And.intro h3 (And.intro h4 h5))))
          clear h1 h2 h3 h4 h5 hls hI
          go_wp2_with fail
          go_quiet (first | (go_at_call 104; exact Calls.quiet_of_same (less127 _ _ _)))
          go_wp2
          go_loopw [10] (fun jv wr => ∃ q : Nat, jv = .int .i64 (q : Int) ∧ i ≤ q + 1 ∧ q ≤ j ∧ Hid (∃ l', Dr wr B g n c l' ∧ Pm a b l l' ∧ gt l' a = gt l p ∧ Peq a b i q l' ∧ Kp (fun k => k = g) w wr ∧ gt l' a < gt l' i)) (fun jv _ => (intOf jv).toNat)
          case atStart =>
            obtain ⟨h1, h2, h3, h4, h5⟩ := HJ.out
            exact ⟨j, rfl, by omega, Nat.le_refl _, hide ⟨l', h1.dn _, h2, h3, h4, h5.andNu (kp_dn wm _), HL.out⟩⟩
          case round =>
            obtain ⟨q, rfl, hiq, hqj, hQ⟩ := hrel
            have hq0 : (0 : Int) ≤ (q : Int) := by omega
            have etq : (q : Int).toNat = q := by omega
            have hqn : (q : Int) < (n : Int) := by omega
            have e6 : ((q - 1 : Nat) : Int) = (q : Int) - 1 ∨ q = 0 := by omega
            clear d1 d1I d2 y1 y2 HL HJ hl'
            obtain ⟨l', h1, h2, h3, h4, h5, h6⟩ := hQ.out
            have hl' : l'.length = n := h1.len
            by_cases hc2 : i ≤ q
            · have d1 : decide ((i : Int) ≤ (q : Int)) = true := by simpa using hc2
              have d1I : (i : Int) ≤ (q : Int) := by omega
              obtain ⟨y1, _⟩ := h1.at_ (k := q) (by omega)
              obtain ⟨y2, _⟩ := h1.at_ (k := a) (by omega)
              by_cases hls : gt l' a < gt l' q
              · have d2 : decide (gt l' a < gt l' q) = true := by simpa using hls
                have HN : Hid (Peq a b i (q - 1) l') := hide (h4.down hls)
                have HJ := hide (And.intro h1 (And.intro h2 (And.intro h3 (And.intro h5 h6))))
                clear h1 h2 h3 h4 h5 h6 hls hQ
                go_wp2_with fail
                go_quiet (first | (go_at_call 104; exact Calls.quiet_of_same (less127 _ _ _)))
                go_wp2
                obtain ⟨h1, h2, h3, h5, h6⟩ := HJ.out
                exact ⟨⟨q - 1, by rw [show ((q - 1 : Nat) : Int) = (q : Int) - 1 by omega], by omega, by omega, hide ⟨l', h1.dn _, h2, h3, HN.out, h5.andNu (kp_dn wr _), h6⟩⟩, by simp [intOf]; omega⟩
              · have d2 : decide (gt l' a < gt l' q) = false := by simpa using hls
                have hiq2 : i < q := by
                  rcases Nat.eq_or_lt_of_le hc2 with e | e
                  · rw [← e] at hls; exact absurd h6 hls
                  · exact e
                have HN : Hid (Pm a b l (sw l' i q) ∧ Peq a b (i + 1) (q - 1) (sw l' i q) ∧ gt (sw l' i q) a = gt l p) := hide ⟨h2.trans (Pm.sw l' (by omega) (by omega) (by omega) (by omega) (by omega) (by omega)), h4.swap (by omega) hai hiq2 (by omega) h6 (by omega), by rw [sw_get l' (by omega) (by omega), if_neg (by omega), if_neg (by omega)]; exact h3⟩
                have HJ := hide (And.intro h1 h5)
                have hin2 : (i : Int) < (n : Int) := by omega
                have hnlt : ¬ (i : Int) > (q : Int) := by omega
                clear h1 h2 h3 h4 h5 h6 hls hQ
                go_wp2_with fail
                go_quiet (first | (go_at_call 104; exact Calls.quiet_of_same (less127 _ _ _)))
                obtain ⟨h1, h5⟩ := HJ.out
                have hW1 := h1.dn nq
                have kW : Kp Nu wr (wr.drewN nq) := kp_dn wr nq
                obtain ⟨W, hW⟩ : ∃ W, wr.drewN nq = W := ⟨_, rfl⟩
                rw [hW] at hW1 kW ⊢
                obtain ⟨y1, f1, y2, f2, z1, g1, hsw⟩ := hW1.swf (i := i) (j := q) (by omega) (by omega)
                have H4 := hide (And.intro hsw (h5.andNu kW))
                clear h1 h5 hW1 kW hsw hW
                go_wp2_with fail
                go_region
                go_wp2
                obtain ⟨hsw, k4⟩ := H4.out
                exact ⟨⟨i + 1, q - 1, by go_num, by rw [show ((q - 1 : Nat) : Int) = (q : Int) - 1 by omega], by omega, by omega, by omega, hide ⟨_, hsw.drew, HN.out.1, HN.out.2.2, HN.out.2.1, ((k4.andSet _ _ (.inr rfl)).andSet _ _ (.inr rfl)).drew⟩⟩, by simp [intOf]; omega⟩
            · have d1 : decide ((i : Int) ≤ (q : Int)) = false := by simp; omega
              have hgt : (i : Int) > (q : Int) := by omega
              have HJ := hide (And.intro h1 (And.intro h2 (And.intro h3 (And.intro h4 h5))))
              clear h1 h2 h3 h4 h5 h6 hQ
              go_wp2_with fail
              go_quiet (fail)
              go_wp2
              go_ret
              obtain ⟨h1, h2, h3, h4, h5⟩ := HJ.out
              exact ⟨i, rfl, by omega, by omega, l', h1.dn _, h2, fun k k1 k2 => by have := h4.lo k k1 k2; omega, fun k k1 k2 => by have := h4.hi k (by omega) k2; omega, h5.andNu (kp_dn wr _)⟩
        · have d2 : decide (gt l' a < gt l' i) = false := by simpa using hls
          have HN : Hid (Peq a b (i + 1) j l') := hide (h4.up (by omega))
          have HJ := hide (And.intro h1 (And.intro h2 (And.intro h3 h5)))
          clear h1 h2 h3 h4 h5 hls hI
          go_wp2_with fail
          go_quiet (first | (go_at_call 104; exact Calls.quiet_of_same (less127 _ _ _)))
          go_wp2
          obtain ⟨h1, h2, h3, h5⟩ := HJ.out
          exact ⟨⟨i + 1, by go_num, by omega, by omega, hide ⟨l', h1.dn _, h2, h3, HN.out, h5.andNu (kp_dn wm _)⟩⟩, by simp [intOf]; omega⟩
      · have d1 : decide ((i : Int) ≤ (j : Int)) = false := by simp; omega
        have hgt : (i : Int) > (j : Int) := by omega
        have HJ := hide (And.intro h1 (And.intro h2 (And.intro h3 (And.intro h4 h5))))
        clear h1 h2 h3 h4 h5 hI
        go_wp2_with fail
        go_quiet (fail)
        go_wp2
        go_loopw [10] (fun jv wr => jv = .int .i64 (j : Int) ∧ Hid (Kp Nu wm wr)) (fun _ _ => 0)
        case atStart => exact ⟨rfl, hide (kp_dn wm _)⟩
        case round =>
          obtain ⟨rfl, hK⟩ := hrel
          go_wp2_with fail
          go_quiet (fail)
          go_wp2
          go_ret
          obtain ⟨h1, h2, h3, h4, h5⟩ := HJ.out
          exact ⟨i, rfl, by omega, by omega, l', (h1.nu hK.out).dn _, h2, fun k k1 k2 => by have := h4.lo k k1 k2; omega, fun k k1 k2 => by have := h4.hi k (by omega) k2; omega, (h5.andNu hK.out).andNu (kp_dn wr _)⟩
end Go.Proofs.YtbifmcadllilhaaGreat.Rg
