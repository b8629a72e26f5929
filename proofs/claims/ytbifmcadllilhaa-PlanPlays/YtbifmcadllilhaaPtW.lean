import Derived.Test.YtbifmcadllilhaaPtT
import Derived.StillTailTactics
namespace Go.Proofs.Ytbifmcadllilhaa.Pn
open Go.RowKit
set_option linter.unusedVariables false
theorem Hq.put {w : World} {g N : Nat} {D D' : Nat → Prop} {f : Nat → Int} (h : Hq w g N D f) (i : Nat) (v : Value) (hD : ∀ q, D' q → q ≠ i ∧ D q) : Hq (w.setCell ⟨g, i, none⟩ v) g N D' f := by
  obtain ⟨cur, p1, p2, p3⟩ := h.mem
  refine ⟨_, set3 p1 _ _, by simp [p2], fun q hq => ?_⟩
  rw [Array.getElem?_setIfInBounds_ne (fun e' => (hD q hq).1 e'.symm), p3 q (hD q hq).2]
theorem hcs_ics (s : List Nat) : hcs s = ics (s.map (fun (x : Nat) => (x : Int))) := by simp [hcs, ics]
/-- the hosts that have been gone through -/
def Dn (s : List Nat) (p h : Nat) : Prop := ∃ q : Nat, q < p ∧ s[q]? = some h
structure TgI (w wr : World) (o : List Int) (s : List Nat) (N gt g p : Nat) : Prop where
  hq : Hq wr gt N (Dn s p) (tgt o)
  row : wr.ownsRow (gt + 1) 3 1 (.slice (some ⟨g, 0, none⟩) N N) N (hcs s)
  kp : Kp Nu w wr
theorem TgI.one {w wr : World} {o : List Int} {s : List Nat} {N gt g p h : Nat} (hI : TgI w wr o s N gt g p) (hs : s[p]? = some h) (hgt : w.heap.size ≤ gt) (hh : h < N) : TgI w (wr.setCell ⟨gt, h, none⟩ (.int .i64 (tgt o h))) o s N gt g (p + 1) := by
  refine ⟨hI.hq.set (f' := tgt o) hh (fun q hq => ?_) (fun q _ _ => rfl), ?_, hI.kp.andSet _ _ (.inl hgt)⟩
  · obtain ⟨r, hr, e⟩ := hq
    by_cases er : r = p
    · subst er
      rw [hs] at e
      cases e
      exact .inl rfl
    · exact .inr ⟨r, by omega, e⟩
  · refine own_keep hI.row (fun g' hg' => (Kp.setCell wr ⟨gt, h, none⟩ _).block g' (own_lt hI.row hg') (fun e => ?_))
    have := own_ge hI.row hg'
    have e : g' = gt := e
    omega
theorem TgI.two {w wr : World} {o : List Int} {s : List Nat} {N gt g p h : Nat} (hI : TgI w wr o s N gt g p) (hs : s[p]? = some h) (hgt : w.heap.size ≤ gt) (hh : h < N) (hno : ¬ Dn s p h) (v : Value) : TgI w ((wr.setCell ⟨gt, h, none⟩ v).setCell ⟨gt, h, none⟩ (.int .i64 (tgt o h))) o s N gt g (p + 1) := by
  refine TgI.one ⟨hI.hq.put h v (fun q hq => ⟨fun e => hno (e ▸ hq), hq⟩), ?_, hI.kp.andSet _ _ (.inl hgt)⟩ hs hgt hh
  refine own_keep hI.row (fun g' hg' => (Kp.setCell wr ⟨gt, h, none⟩ _).block g' (own_lt hI.row hg') (fun e => ?_))
  have := own_ge hI.row hg'
  have e : g' = gt := e
  omega
set_option maxRecDepth 100000 in
set_option maxHeartbeats 2000000 in
theorem targetsOf31 (w : World) (b : Addr) (cp : Nat) (o : List Int) (N : Nat) (hO : Ns w (.slice (some b) N cp) o) (hN : o.length = N) (hm : MBL o) (hb : b.block < w.heap.size) :
    Calls Try.prog 31 #[.slice (some b) N cp] w fun e w' => ∃ g, e = .returned (.slice (some ⟨g, 0, none⟩) N N) ∧ w'.ownsRow w.heap.size 3 1 (.slice (some ⟨g, 0, none⟩) N N) N (ics (tgs o N)) ∧ Kp Nu w w' := by
  have mixed : Try.prog.follows .mixedOrders = true := by kernel_rfl
  have T := total28 w.drew _ o (hO.nu (kp_drawn w)) hm
  obtain ⟨S, eS⟩ : ∃ S, o.sum = S := ⟨_, rfl⟩
  have hsb := sum_bound hm.2.2
  rw [eS] at hsb T
  have hl := hm.2.1
  have hl1 := hm.1
  rw [hN] at hsb hl hl1
  have hS0 : 0 ≤ S := hsb.1
  have hS1 : S ≤ 17179869184 := by omega
  have hNI : (N : Int) ≤ 16 := by omega
  have hN1 : (1 : Int) ≤ (N : Int) := by omega
  have hne : (N : Int) ≠ 0 := by omega
  have hne2 : ((N : Int) == 0) = false := by simpa using hne
  have hne3 : ¬ N = 0 := by omega
  obtain ⟨D, eD⟩ : ∃ D, S / (N : Int) = D := ⟨_, rfl⟩
  obtain ⟨R, eR⟩ : ∃ R, S % (N : Int) = R := ⟨_, rfl⟩
  have hD0 : 0 ≤ D := by rw [← eD]; exact Int.ediv_nonneg hS0 (by omega)
  have hD1 : D ≤ S := by rw [← eD]; exact Int.ediv_le_self _ hS0
  have et1 : S.tdiv (N : Int) = D := by rw [Int.tdiv_eq_ediv_of_nonneg hS0, eD]
  have et2 : S.tmod (N : Int) = R := by rw [Int.tmod_eq_emod_of_nonneg hS0, eR]
  have ew1 : wrap64 D = D := by unfold wrap64; omega
  have ew2 : IntKind.i64.wrap D = D := by rw [IntKind.wrap_i64]; omega
  have ew3 : wrap64 (D + 1) = D + 1 := by unfold wrap64; omega
  have ew4 : IntKind.i64.wrap (D + 1) = D + 1 := by rw [IntKind.wrap_i64]; omega
  have HO := hide (And.intro hO (And.intro hN (And.intro hm (And.intro hb (And.intro eS (And.intro hl hl1))))))
  have HV : Hid (∀ h p, nAhd o h o.length = p → tgt o h = D + (if (p : Int) < R then 1 else 0)) := hide (fun h p e => by
    unfold tgt
    rw [e, HO.out.2.2.2.2.1, HO.out.2.1, eD, eR])
  clear hO hN hm hb eS hsb hl1
  obtain ⟨z0, hzi, hz0, hz1, hz2⟩ := info_parts info3z
  go_enter Try.func31, Try.ntmps31
  go_wp2_with fail
  refine wp_region_still_lit mixed (by kernel_rfl) ?_
  still_step
  still_call T
  still_step
  still_step
  still_step
  still_step
  still_call T
  still_step
  still_step
  still_step
  still_step
  still_step
  refine wpStill_nil ?_
  clear T
  go_wp2_with (at_make; refine wpList_make_full _ rfl _ _ 22 rfl w.heap.size 3 z0 _ 1 Try.underlying22 hzi hz0 hz1 _ _ _ _ N rfl rfl rfl rfl (by rw [hz2]; omega) (by unfold maxLen; omega) (Nat.le_refl _) ?_; intro w4 hrow4 hgr4)
  have hq4 := hq_made (tgt o) hrow4
  have k4 : Kp Nu w w4 := (kp_drawn w).andNu ((Kp.of_grown hgr4).mono (fun _ _ e => by cases e))
  have BL := byLoad55 w4 b cp o N (HO.out.1.nu k4) HO.out.2.1 HO.out.2.2.2.2.2.2 HO.out.2.2.2.2.2.1 (Nat.lt_of_lt_of_le HO.out.2.2.2.1 k4.size)
  have H4 := hide (And.intro hq4 k4)
  clear hrow4 hgr4 hq4 k4
  go_wp2_with fail
  refine BL.mono ?_; rintro e w5 ⟨g, s, rfl, hs, hrow5, hk5⟩
  have H0 : Hid (TgI w w5 o s N w.heap.size g 0) := hide ⟨⟨by obtain ⟨cur, p1, p2, p3⟩ := (H4.out.1.nu hk5).mem; exact ⟨cur, p1, p2, fun q ⟨r, hr, _⟩ => by omega⟩⟩, own_base hrow5 (by have := H4.out.1.lt; exact this), H4.out.2.andNu hk5⟩
  have HS := hide hs
  clear BL hs hrow5 hk5 H4
  go_wp2
  go_loopw [24] (fun iv wr => ∃ p : Nat, iv = .int .i64 (p : Int) ∧ p ≤ N ∧ Hid (TgI w wr o s N w.heap.size g p)) (fun iv _ => N - (intOf iv).toNat)
  case atStart => exact ⟨0, rfl, Nat.zero_le _, H0⟩
  case round =>
    clear H0
    obtain ⟨p, rfl, hp, hI⟩ := hrel
    have hp0 : (0 : Int) ≤ (p : Int) := by omega
    by_cases hlt : p < N
    · have hltI : (p : Int) < (N : Int) := by omega
      obtain ⟨h, hh⟩ : ∃ h, s[p]? = some h := ⟨_, List.getElem?_eq_getElem (by rw [HS.out.len, HO.out.2.1]; exact hlt)⟩
      have hhN : h < N := by have := HS.out.lt hh; rw [HO.out.2.1] at this; exact this
      have hns : Ns wr (.slice (some ⟨g, 0, none⟩) (s.map (fun (x : Nat) => (x : Int))).length N) (s.map (fun (x : Nat) => (x : Int))) := by
        have q := hI.out.row
        rw [hcs_ics] at q
        have e : N = (s.map (fun (x : Nat) => (x : Int))).length := by rw [List.length_map, HS.out.len, HO.out.2.1]
        refine Ns.of_own (B := w.heap.size + 1) ?_
        rw [← e]
        exact q
      obtain ⟨b2, e2, c2⟩ := hns.at_ (j := p) (x := (h : Int)) (by simp [hh])
      simp only [Option.some.injEq] at e2
      subst e2
      rw [Addr.add_lit, Nat.zero_add] at c2
      obtain ⟨v, hv⟩ := hI.out.hq.room hhN
      have hf := hI.out.hq.free h
      have hh0 : (0 : Int) ≤ (h : Int) := by omega
      have hhI : (h : Int) < (N : Int) := by omega
      have etp : (p : Int).toNat = p := by omega
      have eth : (h : Int).toNat = h := by omega
      have hpl := HS.out.place hh
      have htv := HV.out h p hpl
      have hno : ¬ Dn s p h := fun ⟨r, hr, e⟩ => by have := HS.out.nodup e hh; omega
      have HH := hide (And.intro hh (And.intro hhN hno))
      clear hns hpl hno
      by_cases hpR : (p : Int) < R
      · have x1 : decide ((p : Int) < R) = true := by simpa using hpR
        have hv2 : D + 1 = tgt o h := by rw [htv, if_pos hpR]
        have HF := hI.out.two hh (Nat.le_refl _) hhN HH.out.2.2 (.int .i64 D)
        rw [← hv2] at HF
        have HF2 := hide HF
        clear hpR htv hv2 HF hh
        go_wp2
        exact ⟨⟨p + 1, by go_num, by omega, HF2⟩, by simp [intOf]; omega⟩
      · have x1 : decide ((p : Int) < R) = false := by simpa using hpR
        have hv2 : D = tgt o h := by rw [htv, if_neg hpR]; omega
        have HF := hI.out.one hh (Nat.le_refl _) hhN
        rw [← hv2] at HF
        have HF2 := hide HF
        clear hpR htv hv2 HF hh
        go_wp2
        exact ⟨⟨p + 1, by go_num, by omega, HF2⟩, by simp [intOf]; omega⟩
    · have hge : ¬ (p : Int) < (N : Int) := by omega
      obtain rfl : N = p := by omega
      have HE : Hid (wr.ownsRow w.heap.size 3 1 (.slice (some ⟨w.heap.size, 0, none⟩) N N) N (ics (tgs o N))) := hide (hI.out.hq.own (fun q hq => by
        obtain ⟨r, hr⟩ := HS.out.has (x := q) (by rw [HO.out.2.1]; exact hq)
        have hr2 := (List.getElem?_eq_some_iff.1 hr).1
        rw [HS.out.len, HO.out.2.1] at hr2
        exact ⟨r, hr2, hr⟩) (Nat.le_refl _) HO.out.2.2.2.2.2.1 _ (by simp [ics, tgs]))
      go_wp2
      go_ret
      exact ⟨_, rfl, HE.out, hI.out.kp⟩
end Go.Proofs.Ytbifmcadllilhaa.Pn
namespace Go.Proofs.Ytbifmcadllilhaa.Pn
open Go.RowKit
set_option linter.unusedVariables false
/-- what Targets answers -/
def TaR (o : List Int) (w : World) (e : Ending) (w' : World) : Prop :=
  (¬ MBL o ∧ e = .returned (.tuple #[.slice none 0 0, .int .i64 150]) ∧ Kp Nu w w') ∨
  (MBL o ∧ ∃ a c, e = .returned (.tuple #[.slice a o.length c, .int .i64 0]) ∧ w'.ownsRow w.heap.size 3 1 (.slice a o.length c) o.length (ics (tgs o o.length)) ∧ Kp Nu w w')
theorem Ns.addr {w : World} {a : Option Addr} {n cap : Nat} {o : List Int} (h : Ns w (.slice a n cap) o) (hn : 1 ≤ o.length) : ∃ b, a = some b ∧ b.block < w.heap.size := by
  have h0 : 0 < o.length := by omega
  obtain ⟨x, hx⟩ : ∃ x, o[(0 : Nat)]? = some x := ⟨o[0], List.getElem?_eq_getElem h0⟩
  obtain ⟨b, hb, hc⟩ := h.at_ hx
  have := World.block_lt_of_cell? w _ hc
  rw [add_block] at this
  exact ⟨b, hb, this⟩
set_option maxRecDepth 100000 in
set_option maxHeartbeats 1000000 in
theorem targets13 (w : World) (u : Value) (o : List Int) (h : Ns w u o) (hN : o.length ≤ 140737488351232) : Calls Try.prog 13 #[u] w fun e w' => TaR o w e w' := by
  have MB := mayBe27 w u o h hN
  obtain ⟨a, cap, rfl, _, _⟩ := id h
  obtain ⟨N, eN⟩ : ∃ N, o.length = N := ⟨_, rfl⟩
  have HN := hide (And.intro h eN)
  rw [eN] at MB ⊢
  clear h hN eN
  go_enter Try.func13, Try.ntmps13
  go_wp2_with fail
  refine MB.mono ?_; rintro e w1 ⟨⟨b1, rfl, hb1⟩, hw⟩
  obtain rfl := hw
  have HB := hide hb1
  clear MB hb1
  cases b1 with
  | false =>
    go_wp2
    go_ret2
    exact .inl ⟨fun q => by have := HB.out.2 q; simp at this, rfl, Kp.refl _ _⟩
  | true =>
  have hm : MBL o := HB.out.1 (by simp)
  have hns := HN.out.1
  rw [HN.out.2] at hns
  obtain ⟨b, rfl, hb⟩ := hns.addr hm.1
  have T := targetsOf31 w1 b cap o N hns HN.out.2 hm hb
  have HM := hide hm
  clear hm hns hb
  go_wp2_with fail
  refine T.mono ?_; rintro e w2 ⟨g, rfl, hrow, hk⟩
  have HR := hide (And.intro hrow hk)
  clear T hrow hk
  go_wp2
  go_ret2
  refine .inr ⟨HM.out, some ⟨g, 0, none⟩, N, ?_, ?_, HR.out.2⟩
  · rw [HN.out.2]; rfl
  · rw [HN.out.2]; exact HR.out.1
set_option maxRecDepth 100000 in
set_option maxHeartbeats 1000000 in
theorem targets_walk (w : World) (va : Option Addr) (vc : Nat) (o : List Int) (hO : Ns w (.slice va o.length vc) o) (hnil : va = none → vc = 0) (hN : o.length * 8 ≤ 140737488351232) :
    Calls Try.prog 4 #[.slice va o.length vc] w fun e w' => e = .returned (.bool true) ∧ Kp Nu w w' := by
  obtain ⟨N, eN⟩ : ∃ N, o.length = N := ⟨_, rfl⟩
  have HL := hide (And.intro hO (And.intro hnil (And.intro hN eN)))
  rw [eN] at ⊢
  clear hO hnil hN eN
  go_enter Try.func4, Try.ntmps4
  go_wp2_with (at_builtin; refine unhid ?_)
  refine append_ns rfl _ _ rfl w.heap.size va vc o HL.out.2.2.1 rfl (by rw [HL.out.2.2.2]; rfl) HL.out.1 HL.out.2.1 (Nat.le_refl _) ?_
  intro oa oc w1 hown hk1
  have hns : Ns w1 (.slice oa o.length oc) o := Ns.of_own hown
  have TA := targets13 w1 _ o (HL.out.1.nu hk1) (by have := HL.out.2.2.1; omega)
  have RT := fun W (k : Kp Nu w1 W) => targets14 W _ o (hns.nu k) (by have := HL.out.2.2.1; omega)
  have SA := fun W (k : Kp Nu w1 W) => same11 W _ _ o (HL.out.1.nu (hk1.andNu k)) (hns.nu k) (by have := HL.out.2.2.1; omega)
  rw [HL.out.2.2.2] at TA RT SA ⊢
  have HK := hide hk1
  clear hown hk1 hns
  go_wp2_with fail
  refine TA.mono ?_; rintro e w2 hs
  have HS := hide hs
  clear TA hs
  rcases HS.out with ⟨hm, rfl, hk2⟩ | ⟨hm, a2, c2, rfl, hr2, hk2⟩
  · have RT2 := RT w2 hk2
    have HM := hide (And.intro hm hk2)
    clear hm HS hk2 RT
    go_wp2_with fail
    refine RT2.mono ?_; rintro e w3 hs
    rcases hs with ⟨hm, rfl, hk3⟩ | ⟨hm, _⟩
    rotate_left
    · exact absurd hm HM.out.1
    have k3 := HM.out.2.andNu hk3
    have S0 := fun W => same11 W (.slice none 0 0) (.slice none 0 0) [] ⟨none, 0, rfl, by simp, fun j x hx => by simp at hx⟩ ⟨none, 0, rfl, by simp, fun j x hx => by simp at hx⟩ (by simp)
    have HK3 := hide k3
    clear RT2 hm hk3 k3
    go_wp2_with fail
    refine (S0 _).mono ?_; rintro e w4 ⟨rfl, hk4⟩
    have k4 := HK3.out.andNu hk4
    have SB := SA w4 k4
    have HK4 := hide k4
    clear S0 hk4 k4 SA
    go_wp2_with fail
    refine SB.mono ?_; rintro e w5 ⟨rfl, hk5⟩
    have HK5 := hide (HK.out.andNu (HK4.out.andNu hk5))
    have NU := num12 w5 150
    clear SB hk5
    go_wp2_with fail
    refine NU.mono ?_; rintro e w6 ⟨rfl, hw⟩
    obtain rfl := hw
    clear NU
    go_wp2
    go_ret
    exact ⟨rfl, HK5.out⟩
  · have RT2 := RT w2 hk2
    have HM := hide (And.intro hm (And.intro hk2 hr2))
    clear hm HS hk2 RT hr2
    rw [HL.out.2.2.2]
    go_wp2_with fail
    refine RT2.mono ?_; rintro e w3 hs
    rcases hs with ⟨hm, _⟩ | ⟨hm, a3, c3, rfl, hr3, hk3⟩
    · exact absurd HM.out.1 hm
    have k3 := HM.out.2.1.andNu hk3
    have e1 : o.length = (tgs o o.length).length := (tgs_len _ _).symm
    have n2 : Ns w3 (.slice a2 o.length c2) (tgs o o.length) := by
      have q := HM.out.2.2
      rw [e1] at q ⊢
      rw [tgs_len] at q ⊢
      have q2 : w2.ownsRow w1.heap.size 3 1 (.slice a2 (tgs o o.length).length c2) (tgs o o.length).length (ics (tgs o o.length)) := by rw [tgs_len]; exact q
      have q3 := (Ns.of_own q2).nu hk3
      rw [tgs_len] at q3
      exact q3
    have n3 : Ns w3 (.slice a3 o.length c3) (tgs o o.length) := by
      have q2 : w3.ownsRow w2.heap.size 3 1 (.slice a3 (tgs o o.length).length c3) (tgs o o.length).length (ics (tgs o o.length)) := by rw [tgs_len]; exact hr3
      have q3 := Ns.of_own q2
      rw [tgs_len] at q3
      exact q3
    have S0 := same11 w3 _ _ (tgs o o.length) n2 n3 (by rw [tgs_len]; have := HL.out.2.2.1; omega)
    rw [HL.out.2.2.2] at S0 ⊢
    have HK3 := hide k3
    clear RT2 hm hk3 k3 n2 n3 hr3 e1
    go_wp2_with fail
    refine S0.mono ?_; rintro e w4 ⟨rfl, hk4⟩
    have k4 := HK3.out.andNu hk4
    have SB := SA w4 k4
    have HK4 := hide k4
    clear S0 hk4 k4 SA
    go_wp2_with fail
    refine SB.mono ?_; rintro e w5 ⟨rfl, hk5⟩
    have HK5 := hide (HK.out.andNu (HK4.out.andNu hk5))
    have NU := num12 w5 0
    clear SB hk5
    go_wp2_with fail
    refine NU.mono ?_; rintro e w6 ⟨rfl, hw⟩
    obtain rfl := hw
    clear NU
    go_wp2
    go_ret
    exact ⟨rfl, HK5.out⟩
end Go.Proofs.Ytbifmcadllilhaa.Pn
