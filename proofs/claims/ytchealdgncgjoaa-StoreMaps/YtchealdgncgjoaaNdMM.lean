import Derived.Test.YtchealdgncgjoaaRmA
import Derived.Test.YtchealdgncgjoaaNdMI
import Derived.Test.YtchealdgncgjoaaNdKI
import Derived.Test.YtchealdgncgjoaaNdJI
namespace Go.Proofs.Ytchealdgncgjoaa.StM
open Go.RowKit Go.Proofs.Ytchealdgncgjoaa.St Go.Proofs.Ytchealdgncgjoaa.StI
set_option linter.unusedVariables false
set_option linter.unusedSimpArgs false
/-- the last digit (of base m), at least 0 -/
def md (m x : Int) : Int := (x.tmod m + m).tmod m
/-- the document's orders -/
def cmpW (wh a b : Int) : Int := if wh = 2 then cmpI (md 10 a) (md 10 b) else if wh = 3 ∧ md 2 a ≠ md 2 b then md 2 a - md 2 b else if wh = 1 then - cmpI a b else cmpI a b
theorem cmpI_cases (a b : Int) : (a < b ∧ cmpI a b = -1) ∨ (a = b ∧ cmpI a b = 0) ∨ (b < a ∧ cmpI a b = 1) := by
  unfold cmpI
  rcases Int.lt_trichotomy a b with h | h | h
  · exact .inl ⟨h, by rw [if_pos h]⟩
  · exact .inr (.inl ⟨h, by rw [if_neg (by omega), if_neg (by omega)]⟩)
  · exact .inr (.inr ⟨h, by rw [if_neg (by omega), if_pos h]⟩)
theorem cmpW_ord (wh : Int) : OrdL (cmpW wh) := by
  by_cases h2 : wh = 2
  · have e : cmpW wh = fun a b => cmpI (md 10 a) (md 10 b) := by funext a b; unfold cmpW; rw [if_pos h2]
    rw [e]
    exact ⟨fun a b => cmpI_ord.anti _ _, fun a b c => cmpI_ord.tr _ _ _, fun a b c => cmpI_ord.tr' _ _ _⟩
  by_cases h3 : wh = 3
  · have e : cmpW wh = fun a b => if md 2 a ≠ md 2 b then md 2 a - md 2 b else cmpI a b := by
      funext a b; unfold cmpW; rw [if_neg h2]
      by_cases h : md 2 a ≠ md 2 b
      · rw [if_pos ⟨h3, h⟩, if_pos h]
      · rw [if_neg (fun k => h k.2), if_neg h, if_neg (by omega)]
    rw [e]
    refine ⟨fun a b => ?_, fun a b c => ?_, fun a b c => ?_⟩
    · have h := cmpI_cases a b
      have h' := cmpI_cases b a
      generalize md 2 a = x
      generalize md 2 b = y
      by_cases c1 : x = y
      · rw [if_neg (by omega), if_neg (by omega)]; omega
      · rw [if_pos (by omega), if_pos (by omega)]; omega
    · have h := cmpI_cases a b
      have h' := cmpI_cases b c
      have h'' := cmpI_cases a c
      generalize md 2 a = x
      generalize md 2 b = y
      generalize md 2 c = z
      by_cases c1 : x = y <;> by_cases c2 : y = z <;> by_cases c3 : x = z <;> simp only [c1, c2, c3, ne_eq, not_true_eq_false, not_false_eq_true, if_true, if_false] <;> first | omega | (intros; omega)
    · have h := cmpI_cases a b
      have h' := cmpI_cases b c
      have h'' := cmpI_cases a c
      generalize md 2 a = x
      generalize md 2 b = y
      generalize md 2 c = z
      by_cases c1 : x = y <;> by_cases c2 : y = z <;> by_cases c3 : x = z <;> simp only [c1, c2, c3, ne_eq, not_true_eq_false, not_false_eq_true, if_true, if_false] <;> first | omega | (intros; omega)
  by_cases h1 : wh = 1
  · have e : cmpW wh = fun a b => - cmpI a b := by funext a b; unfold cmpW; rw [if_neg h2, if_neg (fun k => h3 k.1), if_pos h1]
    rw [e]
    refine ⟨fun a b => ?_, fun a b c => ?_, fun a b c => ?_⟩
    · have h := cmpI_cases a b
      have h' := cmpI_cases b a
      omega
    · have h := cmpI_cases a b
      have h' := cmpI_cases b c
      have h'' := cmpI_cases a c
      omega
    · have h := cmpI_cases a b
      have h' := cmpI_cases b c
      have h'' := cmpI_cases a c
      omega
  · have e : cmpW wh = cmpI := by funext a b; unfold cmpW; rw [if_neg h2, if_neg (fun k => h3 k.1), if_neg h1]
    rw [e]; exact cmpI_ord
theorem tm_bd (x : Int) (m : Int) (hm : 0 < m) : -m < x.tmod m ∧ x.tmod m < m := by
  constructor
  · have := Int.lt_tmod_of_pos x hm; omega
  · exact Int.tmod_lt_of_pos x hm
theorem md_facts (x : Int) (m : Int) (hm : 0 < m) (hm2 : m ≤ 10) : IntKind.i64.wrap (x.tmod m + m) = x.tmod m + m ∧ wrap64 (x.tmod m + m) = x.tmod m + m ∧ 0 ≤ md m x ∧ md m x < m := by
  have h := tm_bd x m hm
  refine ⟨by rw [IntKind.wrap_i64]; omega, by unfold wrap64; omega, ?_, ?_⟩
  · exact Int.tmod_nonneg m (by omega)
  · exact (tm_bd _ m hm).2
theorem order_of0 (wh : Int) (h : wh = 0) : Oc wh (cmpW wh) := by
  subst h
  have e : cmpW 0 = cmpI := by funext a b; simp [cmpW]
  rw [e]
  exact order_0
set_option maxRecDepth 100000 in
set_option maxHeartbeats 1000000 in
theorem order_of1 (wh : Int) (h : wh = 1) : Oc wh (cmpW wh) := by
  subst h
  intro a b W
  have e : cmpW 1 a b = - cmpI a b := by simp [cmpW]
  rw [e]
  clear e
  rcases cmpI_cases a b with ⟨h, e⟩ | ⟨h, e⟩ | ⟨h, e⟩
  · rw [e]
    have h2 : ¬ b < a := by omega
    clear e
    go_enter Try.func67, Try.ntmps67
    go_wp2
    go_ret
    exact ⟨rfl, rfl⟩
  · rw [e]
    subst h
    clear e
    go_enter Try.func67, Try.ntmps67
    go_wp2
    go_ret
    exact ⟨rfl, rfl⟩
  · rw [e]
    have h2 : ¬ a < b := by omega
    clear e
    go_enter Try.func67, Try.ntmps67
    go_wp2
    go_ret
    exact ⟨rfl, rfl⟩
set_option maxRecDepth 100000 in
set_option maxHeartbeats 1000000 in
theorem order_of2 (wh : Int) (h : wh = 2) : Oc wh (cmpW wh) := by
  subst h
  intro a b W
  have e : cmpW 2 a b = cmpI (md 10 a) (md 10 b) := by simp [cmpW]
  rw [e]
  clear e
  obtain ⟨a1, a2, _, _⟩ := md_facts a 10 (by decide) (by decide)
  obtain ⟨b1, b2, _, _⟩ := md_facts b 10 (by decide) (by decide)
  have ea : (a.tmod 10 + 10).tmod 10 = md 10 a := rfl
  have eb : (b.tmod 10 + 10).tmod 10 = md 10 b := rfl
  rcases cmpI_cases (md 10 a) (md 10 b) with ⟨h, e⟩ | ⟨h, e⟩ | ⟨h, e⟩
  · rw [e]
    have h2 : ¬ md 10 b < md 10 a := by omega
    clear e
    go_enter Try.func67, Try.ntmps67
    go_wp2
    go_ret
    exact ⟨rfl, rfl⟩
  · rw [e]
    have h2 : ¬ md 10 b < md 10 a := by omega
    have h3 : ¬ md 10 a < md 10 b := by omega
    clear e h
    go_enter Try.func67, Try.ntmps67
    go_wp2
    go_ret
    exact ⟨rfl, rfl⟩
  · rw [e]
    have h2 : ¬ md 10 a < md 10 b := by omega
    clear e
    go_enter Try.func67, Try.ntmps67
    go_wp2
    go_ret
    exact ⟨rfl, rfl⟩
set_option maxRecDepth 100000 in
set_option maxHeartbeats 1000000 in
theorem order_of3 (wh : Int) (h : wh = 3) : Oc wh (cmpW wh) := by
  subst h
  intro a b W
  obtain ⟨a1, a2, a3, a4⟩ := md_facts a 2 (by decide) (by decide)
  obtain ⟨b1, b2, b3, b4⟩ := md_facts b 2 (by decide) (by decide)
  have ea : (a.tmod 2 + 2).tmod 2 = md 2 a := rfl
  have eb : (b.tmod 2 + 2).tmod 2 = md 2 b := rfl
  by_cases hne : md 2 a = md 2 b
  · have e : cmpW 3 a b = cmpI a b := by simp [cmpW, hne]
    rw [e]
    clear e
    have hn : (md 2 a != md 2 b) = false := by simpa using hne
    rcases cmpI_cases a b with ⟨h, e⟩ | ⟨h, e⟩ | ⟨h, e⟩
    · rw [e]
      have h2 : ¬ b < a := by omega
      clear e a3 a4 b3 b4 hne
      go_enter Try.func67, Try.ntmps67
      go_wp2
      go_ret
      exact ⟨rfl, rfl⟩
    · rw [e]
      subst h
      clear e a3 a4 b3 b4 hne
      go_enter Try.func67, Try.ntmps67
      go_wp2
      go_ret
      exact ⟨rfl, rfl⟩
    · rw [e]
      have h2 : ¬ a < b := by omega
      clear e a3 a4 b3 b4 hne
      go_enter Try.func67, Try.ntmps67
      go_wp2
      go_ret
      exact ⟨rfl, rfl⟩
  · have e : cmpW 3 a b = md 2 a - md 2 b := by simp [cmpW, hne]
    rw [e]
    have hn : (md 2 a != md 2 b) = true := by simpa using hne
    have w1 : IntKind.i64.wrap (md 2 a - md 2 b) = md 2 a - md 2 b := by rw [IntKind.wrap_i64]; omega
    have w2 : wrap64 (md 2 a - md 2 b) = md 2 a - md 2 b := by unfold wrap64; omega
    clear e a3 a4 b3 b4 hne
    go_enter Try.func67, Try.ntmps67
    go_wp2
    go_ret
    exact ⟨by first | rfl | rw [w2], rfl⟩
theorem order_w (wh : Int) (h0 : 0 ≤ wh) (h3 : wh ≤ 3) : Oc wh (cmpW wh) := by
  by_cases h : wh = 0
  · exact order_of0 wh h
  by_cases h : wh = 1
  · exact order_of1 wh h
  by_cases h : wh = 2
  · exact order_of2 wh h
  · exact order_of3 wh (by omega)
/-- the closure that StoreMaps hands in -/
theorem closure66 (wh : Int) (h0 : 0 ≤ wh) (h3 : wh ≤ 3) (x y : Int) (W : World) (bw : Nat) (hb : W.heap[bw]? = some (.cells #[.int .i64 wh] 3 (0, 0))) :
    Calls Try.prog 66 #[.int .i64 x, .int .i64 y, .pointer (some ⟨bw, 0, none⟩)] W fun e w' => e = .returned (.int .i64 (cmpW wh x y)) ∧ w' = W := by
  have c := cell1 hb
  have OW := order_w wh h0 h3 x y W
  clear hb h0 h3
  go_enter Try.func66, Try.ntmps66
  go_wp2_with (go_at_call 67; refine OW.mono ?_; rintro e w' ⟨rfl, hw⟩; obtain rfl := hw.symm)
  go_ret
  exact ⟨rfl, rfl⟩
end Go.Proofs.Ytchealdgncgjoaa.StM
namespace Go.Proofs.Ytchealdgncgjoaa.StM
open Go.RowKit Go.Proofs.Ytchealdgncgjoaa.St Go.Proofs.Ytchealdgncgjoaa.StI
set_option linter.unusedVariables false

/-- on which side of a pair a key is -/
abbrev sd (wh : Int) (k : Int) : Int × Int → Int := side (cmpW wh) k

set_option maxRecDepth 100000 in
set_option maxHeartbeats 2000000 in
theorem find_any {bw : Nat} {wh : Int} {w : World} {mb : Nat} {rt : Option Addr} (hm : w.heap[mb]? = some (.cells #[.func (.func 66) #[] #[.pointer (some ⟨bw, 0, none⟩)], .pointer rt] 130 (0, 0))) (hx : w.heap[bw]? = some (.cells #[.int .i64 wh] 3 (0, 0)) ∧ 0 ≤ wh ∧ wh ≤ 3) {t : T (Int × Int)} {a : Option Addr} (h : Tr w t a) (k : Int) (hs : t.sz < 2 ^ 62) :
    Calls Try.prog 78 #[.pointer (some ⟨mb, 0, none⟩), .pointer a, .int .i64 (k)] w fun e w' => e = .returned (.tuple #[.int .i64 ((T.fd (sd wh k) t).1 : Int), .bool (T.fd (sd wh k) t).2]) ∧ Kp Nu w w' := by
  have HT : Hid (Tr w t a ∧ t.sz < 2 ^ 62) := ⟨h, hs⟩
  have HM : ∀ W, Kp Nu w W → W.cell? ⟨mb, 0, none⟩ = some (.func (.func 66) #[] #[.pointer (some ⟨bw, 0, none⟩)]) := fun W q => by
    have := (q.block _ (blk_lt hm) (fun h => h)).trans hm
    simp [World.cell?, this]
  have HX := hide hx
  clear h hs hm hx
  go_enter Try.func78, Try.ntmps78
  go_wp2_with fail
  go_loopg [8, 9] t.sz (fun n s8 s9 wr => ∃ (t' : T (Int × Int)) (a' : Option Addr) (c : Nat), s8 = .int .i64 (c : Int) ∧ s9 = .pointer a' ∧ t'.sz ≤ n ∧ Hid (Tr w t' a' ∧ T.fd (sd wh k) t = (c + (T.fd (sd wh k) t').1, (T.fd (sd wh k) t').2) ∧ c + t'.sz < 2 ^ 62 ∧ Kp Nu w wr))
  case atStart => exact ⟨t, a, 0, rfl, rfl, Nat.le_refl _, HT.out.1, by simp, by have := HT.out.2; omega, Kp.refl _ _⟩
  case round =>
    obtain ⟨t', a', c, rfl, rfl, hk, hh⟩ := hrel
    obtain ⟨ht, hf, hsz, kw⟩ := hh.out
    cases t' with
    | nil =>
      cases (show a' = none from ht)
      have HK := hide kw
      have HF : Hid (T.fd (sd wh k) t = (c, false)) := hf
      clear hh HT HM kw ht hf hsz hk
      go_wp2_with fail
      go_ret2
      exact ⟨by rw [HF.out]; rfl, HK.out⟩
    | node l p r =>
      obtain ⟨b, al, ar, ea, hb, hl, hr⟩ := ht
      have hb' := (kw.block _ (blk_lt hb) (fun h => h)).trans hb
      have HS : ∀ W, Kp Nu wr W → W.cell? ⟨mb, 0, none⟩ = some (.func (.func 66) #[] #[.pointer (some ⟨bw, 0, none⟩)]) ∧ W.cell? ⟨b, 0, none⟩ = some (.int .i64 (p.1)) := fun W q =>
        ⟨HM W (kw.andNu q), (cell6 ((q.block _ (blk_lt hb') (fun h => h)).trans hb')).1⟩
      obtain ⟨d0, c0⟩ := HS wr (Kp.refl _ _)
      obtain ⟨_, _, c2, c3, _⟩ := cell6 hb'
      have CM : ∀ W, Kp Nu wr W → Calls Try.prog 66 #[.int .i64 (k), .int .i64 (p.1), .pointer (some ⟨bw, 0, none⟩)] W fun e w' => e = .returned (.int .i64 ((cmpW wh) k p.1)) ∧ w' = W := fun W q => closure66 wh HX.out.2.1 HX.out.2.2 k p.1 W bw (((kw.andNu q).block _ (blk_lt HX.out.1) (fun h => h)).trans HX.out.1)
      have CO : ∀ W, Kp Nu wr W → Calls Try.prog 85 #[.pointer al] W fun e w' => e = .returned (.int .i64 (l.sz : Int)) ∧ w' = W := fun W q => count_any (hl.nu (kw.andNu q))
      subst ea
      have hsl : l.sz + 1 + r.sz ≤ gk := hk
      have hsz' : c + (l.sz + 1 + r.sz) < 2 ^ 62 := hsz
      simp only [T.fd] at hf
      obtain ⟨o, ho⟩ : ∃ o, (cmpW wh) k p.1 = o := ⟨_, rfl⟩
      have ho' : sd wh k p = o := ho
      rw [ho] at CM
      rw [ho'] at hf
      rcases Int.lt_trichotomy o 0 with hc | hc | hc
      · rw [if_pos hc] at hf
        have HN : Hid (l.sz < gk ∧ Tr w l al ∧ T.fd (sd wh k) t = (c + (T.fd (sd wh k) l).1, (T.fd (sd wh k) l).2) ∧ c + l.sz < 2 ^ 62 ∧ Kp Nu w wr) := ⟨by omega, hl, hf, by omega, kw⟩
        have HKK : Kp Nu w wr := kw
        clear hh HT HM kw hb hb' hl hr hf hsz hsz' hk hsl ho ho'
        go_wp2_with fail
        go_region_held (fun W => W.cell? ⟨mb, 0, none⟩ = some (.func (.func 66) #[] #[.pointer (some ⟨bw, 0, none⟩)]) ∧ W.cell? ⟨b, 0, none⟩ = some (.int .i64 (p.1))) (first | (refine HS _ ?_; repeat (first | assumption | exact Kp.refl _ _ | apply Kp.drew)))
          (first | (go_at_call 66; refine (CM _ ?_).mono ?_; (repeat (first | assumption | exact Kp.refl _ _ | apply Kp.drew)); rintro e w' ⟨rfl, hw⟩; obtain rfl := hw.symm))
        go_wp2_with fail
        go_roundg l.sz
        case measure => exact HN.out.1
        case rel => exact ⟨l, al, c, rfl, rfl, Nat.le_refl _, HN.out.2.1, HN.out.2.2.1, HN.out.2.2.2.1, HN.out.2.2.2.2.drew⟩
      · subst hc
        rw [if_neg (by omega), if_neg (by omega)] at hf
        have HF : Hid (T.fd (sd wh k) t = (c + l.sz, true)) := hf
        have q2 : wrap64 ((c : Int) + (l.sz : Int)) = ((c + l.sz : Nat) : Int) := by unfold wrap64; omega
        have HKK := hide kw
        clear hh HT HM kw hb hb' hl hr hf hsz hsz' hk hsl ho ho'
        go_wp2_with fail
        go_region_held (fun W => W.cell? ⟨mb, 0, none⟩ = some (.func (.func 66) #[] #[.pointer (some ⟨bw, 0, none⟩)]) ∧ W.cell? ⟨b, 0, none⟩ = some (.int .i64 (p.1))) (first | (refine HS _ ?_; repeat (first | assumption | exact Kp.refl _ _ | apply Kp.drew)))
          (first | (go_at_call 66; refine (CM _ ?_).mono ?_; (repeat (first | assumption | exact Kp.refl _ _ | apply Kp.drew)); rintro e w' ⟨rfl, hw⟩; obtain rfl := hw.symm))
        go_wp2_with (go_at_call 85; refine (CO _ ?_).mono ?_; (repeat (first | assumption | exact Kp.refl _ _ | apply Kp.drew)); rintro e w' ⟨rfl, hw⟩; obtain rfl := hw.symm)
        go_ret2
        refine ⟨?_, HKK.out.drew⟩
        rw [HF.out]
        simp [q2]
      · rw [if_neg (by omega), if_pos hc] at hf
        have q1 : wrap64 ((l.sz : Int) + 1) = (l.sz : Int) + 1 := by unfold wrap64; omega
        have q2 : wrap64 ((c : Int) + ((l.sz : Int) + 1)) = ((c + l.sz + 1 : Nat) : Int) := by unfold wrap64; omega
        have HN : Hid (r.sz < gk ∧ Tr w r ar ∧ T.fd (sd wh k) t = (c + l.sz + 1 + (T.fd (sd wh k) r).1, (T.fd (sd wh k) r).2) ∧ (c + l.sz + 1) + r.sz < 2 ^ 62 ∧ Kp Nu w wr) := ⟨by omega, hr, by rw [hf]; congr 1; omega, by omega, kw⟩
        have hc2 : ¬ o < 0 := by omega
        clear hh HT HM kw hb hb' hl hr hf hsz hsz' hk hsl ho ho'
        generalize hC : c + l.sz + 1 = C at *
        clear hC
        generalize (l.sz : Int) = L at *
        go_wp2_with fail
        go_region_held (fun W => W.cell? ⟨mb, 0, none⟩ = some (.func (.func 66) #[] #[.pointer (some ⟨bw, 0, none⟩)]) ∧ W.cell? ⟨b, 0, none⟩ = some (.int .i64 (p.1))) (first | (refine HS _ ?_; repeat (first | assumption | exact Kp.refl _ _ | apply Kp.drew)))
          (first | (go_at_call 66; refine (CM _ ?_).mono ?_; (repeat (first | assumption | exact Kp.refl _ _ | apply Kp.drew)); rintro e w' ⟨rfl, hw⟩; obtain rfl := hw.symm))
        go_wp2_with (go_at_call 85; refine (CO _ ?_).mono ?_; (repeat (first | assumption | exact Kp.refl _ _ | apply Kp.drew)); rintro e w' ⟨rfl, hw⟩; obtain rfl := hw.symm)
        go_roundg r.sz
        case measure => exact HN.out.1
        case rel => exact ⟨r, ar, C, by first | rfl | rw [q2], rfl, Nat.le_refl _, HN.out.2.1, HN.out.2.2.1, HN.out.2.2.2.1, HN.out.2.2.2.2.drew⟩
end Go.Proofs.Ytchealdgncgjoaa.StM
