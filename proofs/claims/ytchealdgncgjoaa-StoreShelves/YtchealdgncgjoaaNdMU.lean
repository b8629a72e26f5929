import Derived.Test.YtchealdgncgjoaaNdCU
import Derived.Test.YtchealdgncgjoaaNdDU
import Derived.Test.YtchealdgncgjoaaNdIU
namespace Go.Proofs.Ytchealdgncgjoaa.StU
open Go.RowKit Go.Proofs.Ytchealdgncgjoaa.St
set_option linter.unusedVariables false

/-- on which side of a pair a key is -/
abbrev sd (k : Int) : Int × Sv → Int := side cmpI k

set_option maxRecDepth 100000 in
set_option maxHeartbeats 2000000 in
theorem find_any {w : World} {mb : Nat} {rt : Option Addr} (hm : w.heap[mb]? = some (.cells #[.func (.func 164) #[] #[], .pointer rt] 208 (0, 0))) {t : T (Int × Sv)} {a : Option Addr} (h : Tr w t a) (k : Int) (hs : t.sz < 2 ^ 62) :
    Calls Try.prog 165 #[.pointer (some ⟨mb, 0, none⟩), .pointer a, .int .u64 (k)] w fun e w' => e = .returned (.tuple #[.int .i64 ((T.fd (sd k) t).1 : Int), .bool (T.fd (sd k) t).2]) ∧ Kp Nu w w' := by
  have HT : Hid (Tr w t a ∧ t.sz < 2 ^ 62) := ⟨h, hs⟩
  have HM : ∀ W, Kp Nu w W → W.cell? ⟨mb, 0, none⟩ = some (.func (.func 164) #[] #[]) := fun W q => by
    have := (q.block _ (blk_lt hm) (fun h => h)).trans hm
    simp [World.cell?, this]
  clear h hs hm
  go_enter Try.func165, Try.ntmps165
  go_wp2_with fail
  go_loopg [8, 9] t.sz (fun n s8 s9 wr => ∃ (t' : T (Int × Sv)) (a' : Option Addr) (c : Nat), s8 = .int .i64 (c : Int) ∧ s9 = .pointer a' ∧ t'.sz ≤ n ∧ Hid (Tr w t' a' ∧ T.fd (sd k) t = (c + (T.fd (sd k) t').1, (T.fd (sd k) t').2) ∧ c + t'.sz < 2 ^ 62 ∧ Kp Nu w wr))
  case atStart => exact ⟨t, a, 0, rfl, rfl, Nat.le_refl _, HT.out.1, by simp, by have := HT.out.2; omega, Kp.refl _ _⟩
  case round =>
    obtain ⟨t', a', c, rfl, rfl, hk, hh⟩ := hrel
    obtain ⟨ht, hf, hsz, kw⟩ := hh.out
    cases t' with
    | nil =>
      cases (show a' = none from ht)
      have HK := hide kw
      have HF : Hid (T.fd (sd k) t = (c, false)) := hf
      clear hh HT HM kw ht hf hsz hk
      go_wp2_with fail
      go_ret2
      exact ⟨by rw [HF.out]; rfl, HK.out⟩
    | node l p r =>
      obtain ⟨b, al, ar, ea, hb, hl, hr⟩ := ht
      have hb' := (kw.block _ (blk_lt hb) (fun h => h)).trans hb
      have HS : ∀ W, Kp Nu wr W → W.cell? ⟨mb, 0, none⟩ = some (.func (.func 164) #[] #[]) ∧ W.cell? ⟨b, 0, none⟩ = some (.int .u64 (p.1)) := fun W q =>
        ⟨HM W (kw.andNu q), (cell6 ((q.block _ (blk_lt hb') (fun h => h)).trans hb')).1⟩
      obtain ⟨d0, c0⟩ := HS wr (Kp.refl _ _)
      obtain ⟨_, _, c2, c3, _⟩ := cell6 hb'
      have CM : ∀ W, Calls Try.prog 164 #[.int .u64 (k), .int .u64 (p.1)] W fun e w' => e = .returned (.int .i64 (cmpI k p.1)) ∧ w' = W := fun W => compare_any k p.1 W
      have CO : ∀ W, Kp Nu wr W → Calls Try.prog 177 #[.pointer al] W fun e w' => e = .returned (.int .i64 (l.sz : Int)) ∧ w' = W := fun W q => count_any (hl.nu (kw.andNu q))
      subst ea
      have hsl : l.sz + 1 + r.sz ≤ gk := hk
      have hsz' : c + (l.sz + 1 + r.sz) < 2 ^ 62 := hsz
      simp only [T.fd] at hf
      obtain ⟨o, ho⟩ : ∃ o, cmpI k p.1 = o := ⟨_, rfl⟩
      have ho' : sd k p = o := ho
      rw [ho] at CM
      rw [ho'] at hf
      rcases Int.lt_trichotomy o 0 with hc | hc | hc
      · rw [if_pos hc] at hf
        have HN : Hid (l.sz < gk ∧ Tr w l al ∧ T.fd (sd k) t = (c + (T.fd (sd k) l).1, (T.fd (sd k) l).2) ∧ c + l.sz < 2 ^ 62 ∧ Kp Nu w wr) := ⟨by omega, hl, hf, by omega, kw⟩
        have HKK : Kp Nu w wr := kw
        clear hh HT HM kw hb hb' hl hr hf hsz hsz' hk hsl ho ho'
        go_wp2_with fail
        go_region_held (fun W => W.cell? ⟨mb, 0, none⟩ = some (.func (.func 164) #[] #[]) ∧ W.cell? ⟨b, 0, none⟩ = some (.int .u64 (p.1))) (first | (refine HS _ ?_; repeat (first | assumption | exact Kp.refl _ _ | apply Kp.drew)))
          (first | (go_at_call 164; refine (CM _).mono ?_; rintro e w' ⟨rfl, hw⟩; obtain rfl := hw.symm))
        go_wp2_with fail
        go_roundg l.sz
        case measure => exact HN.out.1
        case rel => exact ⟨l, al, c, rfl, rfl, Nat.le_refl _, HN.out.2.1, HN.out.2.2.1, HN.out.2.2.2.1, HN.out.2.2.2.2.drew⟩
      · subst hc
        rw [if_neg (by omega), if_neg (by omega)] at hf
        have HF : Hid (T.fd (sd k) t = (c + l.sz, true)) := hf
        have q2 : wrap64 ((c : Int) + (l.sz : Int)) = ((c + l.sz : Nat) : Int) := by unfold wrap64; omega
        have HKK := hide kw
        clear hh HT HM kw hb hb' hl hr hf hsz hsz' hk hsl ho ho'
        go_wp2_with fail
        go_region_held (fun W => W.cell? ⟨mb, 0, none⟩ = some (.func (.func 164) #[] #[]) ∧ W.cell? ⟨b, 0, none⟩ = some (.int .u64 (p.1))) (first | (refine HS _ ?_; repeat (first | assumption | exact Kp.refl _ _ | apply Kp.drew)))
          (first | (go_at_call 164; refine (CM _).mono ?_; rintro e w' ⟨rfl, hw⟩; obtain rfl := hw.symm))
        go_wp2_with (go_at_call 177; refine (CO _ ?_).mono ?_; (repeat (first | assumption | exact Kp.refl _ _ | apply Kp.drew)); rintro e w' ⟨rfl, hw⟩; obtain rfl := hw.symm)
        go_ret2
        refine ⟨?_, HKK.out.drew⟩
        rw [HF.out]
        simp [q2]
      · rw [if_neg (by omega), if_pos hc] at hf
        have q1 : wrap64 ((l.sz : Int) + 1) = (l.sz : Int) + 1 := by unfold wrap64; omega
        have q2 : wrap64 ((c : Int) + ((l.sz : Int) + 1)) = ((c + l.sz + 1 : Nat) : Int) := by unfold wrap64; omega
        have HN : Hid (r.sz < gk ∧ Tr w r ar ∧ T.fd (sd k) t = (c + l.sz + 1 + (T.fd (sd k) r).1, (T.fd (sd k) r).2) ∧ (c + l.sz + 1) + r.sz < 2 ^ 62 ∧ Kp Nu w wr) := ⟨by omega, hr, by rw [hf]; congr 1; omega, by omega, kw⟩
        have hc2 : ¬ o < 0 := by omega
        clear hh HT HM kw hb hb' hl hr hf hsz hsz' hk hsl ho ho'
        generalize hC : c + l.sz + 1 = C at *
        clear hC
        generalize (l.sz : Int) = L at *
        go_wp2_with fail
        go_region_held (fun W => W.cell? ⟨mb, 0, none⟩ = some (.func (.func 164) #[] #[]) ∧ W.cell? ⟨b, 0, none⟩ = some (.int .u64 (p.1))) (first | (refine HS _ ?_; repeat (first | assumption | exact Kp.refl _ _ | apply Kp.drew)))
          (first | (go_at_call 164; refine (CM _).mono ?_; rintro e w' ⟨rfl, hw⟩; obtain rfl := hw.symm))
        go_wp2_with (go_at_call 177; refine (CO _ ?_).mono ?_; (repeat (first | assumption | exact Kp.refl _ _ | apply Kp.drew)); rintro e w' ⟨rfl, hw⟩; obtain rfl := hw.symm)
        go_roundg r.sz
        case measure => exact HN.out.1
        case rel => exact ⟨r, ar, C, by first | rfl | rw [q2], rfl, Nat.le_refl _, HN.out.2.1, HN.out.2.2.1, HN.out.2.2.2.1, HN.out.2.2.2.2.drew⟩
end Go.Proofs.Ytchealdgncgjoaa.StU
