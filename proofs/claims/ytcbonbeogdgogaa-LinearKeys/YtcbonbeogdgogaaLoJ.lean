import Derived.Test.YtcbonbeogdgogaaLoI
namespace Go.Proofs.Ytcbonbeogdgogaa.Li
open Go.RowKit Go.Maps
set_option linter.unusedVariables false
set_option maxRecDepth 100000 in
set_option maxHeartbeats 8000000 in
theorem obeys_walk (w : World) (u : Value) (va : Option Addr) (vc : Nat) (L : List Ca) (o : List Int) (hL : Cls w u L) (hO : Ns w (.slice va o.length vc) o) (hnil : va = none → vc = 0) (hK : Kys L) (hN : L.length ≤ 140737488351232) (hM : o.length ≤ 140737488351232) :
    Calls Try.prog 6 #[u, .slice va o.length vc] w fun e w' => e = .returned (.bool true) ∧ Kp Nu w w' := by
  have T9 := fun h => twins9 w u L hL h
  obtain ⟨ua, uc, rfl⟩ := hL.slice
  by_cases hbig : (L.length : Int) > 400
  · have d1 : decide ((L.length : Int) > 400) = true := by simpa using hbig
    clear T9 hL hO hK hN hM hnil
    generalize L.length = N at *
    generalize o.length = M at *
    go_enter Try.func6, Try.ntmps6
    go_wp2
    go_ret
    exact ⟨rfl, Kp.refl _ _⟩
  have d1 : decide ((L.length : Int) > 400) = false := by simpa using hbig
  by_cases hbig2 : (o.length : Int) > 400
  · have d2 : decide ((o.length : Int) > 400) = true := by simpa using hbig2
    clear T9 hL hO hK hN hM hnil
    generalize L.length = N at *
    generalize o.length = M at *
    go_enter Try.func6, Try.ntmps6
    go_wp2
    go_ret
    exact ⟨rfl, Kp.refl _ _⟩
  have d2 : decide ((o.length : Int) > 400) = false := by simpa using hbig2
  have hN4 : L.length ≤ 400 := by omega
  have hM4 : o.length ≤ 400 := by omega
  have T := T9 (by omega)
  have HL := hide (And.intro hL (And.intro hO (And.intro hnil (And.intro hK (And.intro hN4 hM4)))))
  clear T9 hL hO hK hN hM hnil hbig hbig2
  obtain ⟨i0, hi0, hz0, hz1, hz2⟩ := info_parts info3z
  go_enter Try.func6, Try.ntmps6
  go_wp2_with fail
  refine T.mono ?_; rintro e w1 ⟨lv, rfl, D, hDl, hDa, hcow, hk1⟩
  have HD := hide (And.intro hDl (And.intro hDa (And.intro hcow hk1)))
  obtain ⟨la, lc, rfl⟩ := hcow.cls.slice
  clear T hDl hDa hcow hk1
  have hO1 := HL.out.2.1.nu HD.out.2.2.2
  rcases va with _ | a
  · have hM0 : o = [] := by
      cases o with
      | nil => rfl
      | cons x o => obtain ⟨b, hb, _⟩ := hO1.at_ (j := 0) rfl; cases hb
    have hvc := HL.out.2.2.1 rfl
    subst hM0
    subst hvc
    go_wp2_with (at_builtin; refine wpList_append_own_none rfl _ _ 39 rfl w.heap.size 3 i0 1 Try.underlying39 hi0 _ _ _ rfl (⟨rfl, .inl ⟨rfl, rfl⟩⟩ : w1.ownsRow w.heap.size 3 1 (.slice none 0 0) 0 []) rfl ?_)
    have kw2 : Kp Nu w w1 := HD.out.2.2.2
    have hlen := HD.out.1
    have halk := HD.out.2.1
    have OB := obeys17 w1 _ (.slice none 0 0) D [] (HD.out.2.2.1.cls) (hO1) (by rw [hlen]; exact HL.out.2.2.2.2.1) HL.out.2.2.2.2.2 (HL.out.2.2.2.1.alk hlen halk)
    have H2 := hide (And.intro kw2 (And.intro (HD.out.2.2.1.cls) (hO1)))
    clear kw2 hlen halk hO1
    go_wp2_with fail
    refine OB.mono ?_; rintro e w3 ⟨⟨b1, rfl, hb1⟩, hk3⟩
    have kw3 := H2.out.1.andNu hk3
    have OC := obeys22 w3 _ (.slice none 0 0) L [] (HL.out.1.nu kw3) (HL.out.2.1.nu kw3) HL.out.2.2.2.2.1 HL.out.2.2.2.2.2
    have H3 := hide (And.intro hb1 (And.intro kw3 (And.intro (H2.out.2.1.nu hk3) (H2.out.2.2.nu hk3))))
    clear OB hb1 hk3 kw3
    go_wp2_with fail
    refine OC.mono ?_; rintro e w4 ⟨⟨b2, rfl, hb2⟩, hk4⟩
    have hbb : b1 = b2 := by
      have h1 := H3.out.1
      have h2 : Obs D [] ↔ Obs L [] := ⟨fun h => h.alk HD.out.1.symm (HD.out.2.1.symm HD.out.1), fun h => h.alk HD.out.1 HD.out.2.1⟩
      have h3 : b1 = true ↔ b2 = true := h1.trans (h2.trans hb2.symm)
      cases b1 <;> cases b2 <;> simp_all
    subst hbb
    have kw4 := H3.out.2.1.andNu hk4
    have UN := unchanged13 w4 _ _ D L (H3.out.2.2.1.nu hk4) (HL.out.1.nu kw4) HD.out.1.symm (HD.out.2.1.symm HD.out.1) (by have := HD.out.1; have := HL.out.2.2.2.2.1; omega)
    have eb : (b1 == b1) = true := by simp
    have H4 := hide (And.intro kw4 (H3.out.2.2.2.nu hk4))
    clear OC hb2 hk4 kw4
    go_wp2_with fail
    refine UN.mono ?_; rintro e w5 ⟨rfl, hk5⟩
    have kw5 := H4.out.1.andNu hk5
    have IE := ints_eq w5 (.slice none 0 0) (.slice none 0 0) [] (H4.out.2.nu hk5) (HL.out.2.1.nu kw5) (by have := HL.out.2.2.2.2.2; omega)
    have HK5 := hide kw5
    clear UN hk5 kw5
    go_wp2_with fail
    refine IE.mono ?_; rintro e w6 ⟨rfl, hk6⟩
    have HK6 := hide (HK5.out.andNu hk6)
    clear IE hk6
    go_wp2
    go_ret
    exact ⟨rfl, HK6.out⟩
  · have hsz : w.heap.size ≤ w1.heap.size := HD.out.2.2.2.size
    have HC : Hid (∀ j x, (ics o)[j]? = some x → w1.cell? (a.add j) = some x) := hide (fun j x hj => by
      simp only [ics, List.getElem?_map, Option.map_eq_some_iff] at hj
      obtain ⟨y, hy, rfl⟩ := hj
      obtain ⟨b, hb, hc⟩ := hO1.at_ hy
      cases hb
      exact hc)
    clear hO1
    go_wp2_with (at_builtin; refine wpList_append_own _ rfl _ _ 39 rfl w.heap.size 3 i0 (.int .i64 0) 1 8 Try.underlying39 hi0 hz0 hz1 hz2 rfl (by decide) _ _ _ rfl (⟨rfl, .inl ⟨rfl, rfl⟩⟩ : w1.ownsRow w.heap.size 3 1 (.slice none 0 0) 0 []) a o.length vc (ics o) rfl ?qo1 ?qo2 ?qo3 ?qo4 ?qo5 ?qo6 ?_)
    case qo1 => simp [ics_len]
    case qo2 => exact HC.out
    case qo3 =>
      intro u hu
      obtain ⟨x, _, rfl⟩ := List.mem_map.1 hu
      rfl
    case qo4 => have := HL.out.2.2.2.2.2; unfold maxLen; omega
    case qo5 => have := HL.out.2.2.2.2.2; omega
    case qo6 => exact hsz
    intro ov w2 hown hgrow hnil2
    have hO2 : Ns w2 ov o := Ns.of_own (B := w.heap.size) (by simpa using hown)
    have k12 : Kp Nu w1 w2 := (Kp.of_grown hgrow).mono (fun i hi e => by simp [Value.ownBlock] at e)
    obtain ⟨oa, oc, eo, _, _⟩ := id hO2
    subst eo
    have kw2 : Kp Nu w w2 := HD.out.2.2.2.andNu k12
    have hlen := HD.out.1
    have halk := HD.out.2.1
    have OB := obeys17 w2 _ (.slice oa o.length oc) D o (HD.out.2.2.1.cls.nu k12) (hO2) (by rw [hlen]; exact HL.out.2.2.2.2.1) HL.out.2.2.2.2.2 (HL.out.2.2.2.1.alk hlen halk)
    have H2 := hide (And.intro kw2 (And.intro (HD.out.2.2.1.cls.nu k12) (hO2)))
    clear kw2 hlen halk hO2 k12 hown hgrow hnil2
    go_wp2_with fail
    refine OB.mono ?_; rintro e w3 ⟨⟨b1, rfl, hb1⟩, hk3⟩
    have kw3 := H2.out.1.andNu hk3
    have OC := obeys22 w3 _ (.slice (some a) o.length vc) L o (HL.out.1.nu kw3) (HL.out.2.1.nu kw3) HL.out.2.2.2.2.1 HL.out.2.2.2.2.2
    have H3 := hide (And.intro hb1 (And.intro kw3 (And.intro (H2.out.2.1.nu hk3) (H2.out.2.2.nu hk3))))
    clear OB hb1 hk3 kw3
    go_wp2_with fail
    refine OC.mono ?_; rintro e w4 ⟨⟨b2, rfl, hb2⟩, hk4⟩
    have hbb : b1 = b2 := by
      have h1 := H3.out.1
      have h2 : Obs D o ↔ Obs L o := ⟨fun h => h.alk HD.out.1.symm (HD.out.2.1.symm HD.out.1), fun h => h.alk HD.out.1 HD.out.2.1⟩
      have h3 : b1 = true ↔ b2 = true := h1.trans (h2.trans hb2.symm)
      cases b1 <;> cases b2 <;> simp_all
    subst hbb
    have kw4 := H3.out.2.1.andNu hk4
    have UN := unchanged13 w4 _ _ D L (H3.out.2.2.1.nu hk4) (HL.out.1.nu kw4) HD.out.1.symm (HD.out.2.1.symm HD.out.1) (by have := HD.out.1; have := HL.out.2.2.2.2.1; omega)
    have eb : (b1 == b1) = true := by simp
    have H4 := hide (And.intro kw4 (H3.out.2.2.2.nu hk4))
    clear OC hb2 hk4 kw4
    go_wp2_with fail
    refine UN.mono ?_; rintro e w5 ⟨rfl, hk5⟩
    have kw5 := H4.out.1.andNu hk5
    have IE := ints_eq w5 (.slice oa o.length oc) (.slice (some a) o.length vc) o (H4.out.2.nu hk5) (HL.out.2.1.nu kw5) (by have := HL.out.2.2.2.2.2; omega)
    have HK5 := hide kw5
    clear UN hk5 kw5
    go_wp2_with fail
    refine IE.mono ?_; rintro e w6 ⟨rfl, hk6⟩
    have HK6 := hide (HK5.out.andNu hk6)
    clear IE hk6
    go_wp2
    go_ret
    exact ⟨rfl, HK6.out⟩
end Go.Proofs.Ytcbonbeogdgogaa.Li
