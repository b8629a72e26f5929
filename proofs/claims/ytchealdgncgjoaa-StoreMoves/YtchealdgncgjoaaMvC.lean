import Derived.Test.YtchealdgncgjoaaMvB
import Derived.BigQuiet
import Derived.Deep.QuietTactic
import Derived.Deep.RegionHeld3
namespace Go.Proofs.Ytchealdgncgjoaa.StU
open Go.RowKit Go.Proofs.Ytchealdgncgjoaa.St Go.Shelf
set_option linter.unusedVariables false
/-- keys that rise -/
def RisP (S : List Pg) : Prop := ∀ (i : Nat) (a b : Pg), S[i]? = some a → S[i + 1]? = some b → a.k < b.k
/-- what keeps pairs from being laid in -/
def BarR (S : List Pg) (M : List KV) (most : Int) (c : Int) : Prop :=
  (¬ RisP S ∧ c = 72) ∨ (RisP S ∧ (∃ s ∈ S, 64 < s.ys.length) ∧ c = 70) ∨ (RisP S ∧ (∀ s ∈ S, s.ys.length ≤ 64) ∧ (∃ s ∈ S, hs s.k M = true) ∧ c = 73) ∨
    (RisP S ∧ (∀ s ∈ S, s.ys.length ≤ 64) ∧ (∀ s ∈ S, hs s.k M = false) ∧ most < (M.length : Int) + (S.length : Int) ∧ c = 71) ∨
    (RisP S ∧ (∀ s ∈ S, s.ys.length ≤ 64) ∧ (∀ s ∈ S, hs s.k M = false) ∧ (M.length : Int) + (S.length : Int) ≤ most ∧ c = 0)
section
variable {w : World} {sb mb : Nat} {most : Int} {t : T (Int × Sv)} {M : List KV}
set_option maxRecDepth 100000 in
set_option maxHeartbeats 4000000 in
theorem bars_any (h : Sh w sb mb most t M) (v : Value) (S : List Pg) (hS : Wp w v S) (hsl : S.length ≤ 4398046511104) : Calls Try.prog 131 #[.pointer (some ⟨sb, 0, none⟩), v] w fun e w' => ∃ c, e = .returned (.int .i64 c) ∧ BarR S M most c ∧ Kp Nu w w' := by
  have mixed : Try.prog.follows .mixedOrders = true := by kernel_rfl
  obtain ⟨ad, cap, rfl, hc⟩ := hS
  obtain ⟨N, eN⟩ : ∃ N, S.length = N := ⟨_, rfl⟩
  rw [eN] at hsl ⊢
  have HS : Hid (∀ W, Kp Nu w W → ∀ (i : Nat) (s : Pg), S[i]? = some s → ∃ b off, ad = some ⟨b, off, none⟩ ∧ W.cell? ⟨b, off + i * 2, none⟩ = some (.int .u64 s.k) ∧ W.cell? ⟨b, off + i * 2 + 1, none⟩ = some (.slice s.v.a s.v.n s.v.c) ∧ s.v.n = s.ys.length) := hide (fun W k i s h => by
    obtain ⟨b, off, e, c0, c1, c2, c3⟩ := hc i s h
    obtain ⟨ad', cap', e'⟩ := c2.slice
    exact ⟨b, off, e, cell_nu c0 k, cell_nu c1 k, (Value.slice.inj e').2.1⟩)
  have MA := made117 h
  have HH := hide (And.intro h (And.intro eN hsl))
  clear h hc eN hsl
  go_enter Try.func131, Try.ntmps131
  go_wp2_with (go_at_call 117; refine MA.mono ?_; rintro e w' ⟨rfl, hw⟩; obtain rfl := hw.symm)
  go_loopw [18] (fun it wr => ∃ i : Nat, it = .int .i64 (i : Int) ∧ i ≤ N ∧ Hid ((∀ (j : Nat) (a b : Pg), j + 1 < i → S[j]? = some a → S[j + 1]? = some b → a.k < b.k) ∧ Kp Nu w wr)) (fun it _ => N - (intOf it).toNat)
  case atStart => exact ⟨0, rfl, Nat.zero_le _, (fun j a b h => by omega), Kp.refl _ _⟩
  case round =>
    obtain ⟨i, rfl, hi, HI⟩ := hrel
    by_cases hlt : i < N
    · obtain ⟨s, hsi⟩ : ∃ s, S[i]? = some s := ⟨_, List.getElem?_eq_getElem (by rw [HH.out.2.1]; exact hlt)⟩
      obtain ⟨b, off, ead, c0, c1, hvn⟩ := HS.out wr HI.out.2 i s hsi
      obtain ⟨sk, ⟨sa, sn, sc⟩, sy⟩ := s
      clear hvn
      have ka := Kp.alloc wr (.cells #[.int .u64 sk, .slice sa sn sc] 78) Nu
      have x0 := (cell2 (heap_alloc_new wr (.cells #[.int .u64 sk, .slice sa sn sc] 78))).1
      have hltI : (i : Int) < (N : Int) := by omega
      have hi00 : (0 : Int) ≤ (i : Int) := by omega
      have hwi : wrap64 ((i : Int) + 1) = ((i + 1 : Nat) : Int) := by have := HH.out.2.2; unfold wrap64; omega
      have HW := hide (And.intro hlt (And.intro hwi (HI.out.2.andNu ka)))
      cases i with
      | zero =>
        have HF : Hid (∀ W, Kp Nu w W → ((∀ (j : Nat) (a b : Pg), j + 1 < 0 + 1 → S[j]? = some a → S[j + 1]? = some b → a.k < b.k) ∧ Kp Nu w W)) := hide (fun W q => ⟨fun j a b h => by omega, q⟩)
        subst ead
        simp only [Nat.zero_mul, Nat.add_zero] at c0 c1
        clear hwi hsi HI hlt hi ka
        go_wp2_with fail
        go_quiet (fail)
        have HF2 := hide (HF.out _ (kpN HW.out.2.2 nq))
        go_wp2
        exact ⟨⟨0 + 1, by first | rfl | rw [HW.out.2.1], HW.out.1, HF2⟩, by first | exact lt_mi HW.out.2.1 HW.out.1 | exact lt_mi rfl HW.out.1⟩
      | succ i =>
        obtain ⟨r, hri⟩ : ∃ r, S[i]? = some r := ⟨_, List.getElem?_eq_getElem (by rw [HH.out.2.1]; omega)⟩
        obtain ⟨b', off', ead', p0, p1, hvn⟩ := HS.out _ (HI.out.2.andNu ka) i r hri
        obtain ⟨rk, ⟨ra, rn, rcc⟩, ry⟩ := r
        clear hvn
        rw [ead] at ead'
        cases ead'
        have HF : Hid (rk < sk → ∀ W, Kp Nu w W → ((∀ (j : Nat) (a b : Pg), j + 1 < i + 1 + 1 → S[j]? = some a → S[j + 1]? = some b → a.k < b.k) ∧ Kp Nu w W)) := hide (fun hlt2 W q => ⟨fun j a b h ha hb => by
          rcases Nat.lt_or_ge (j + 1) (i + 1) with h1 | h1
          · exact HI.out.1 j a b h1 ha hb
          · have e : j = i := by omega
            subst e
            rw [hri] at ha; rw [hsi] at hb
            cases ha; cases hb; exact hlt2, q⟩)
        have HG : Hid (¬ rk < sk → BarR S M most 72) := hide (fun hn => .inl ⟨fun hr => hn (hr i _ _ hri hsi), rfl⟩)
        subst ead
        obtain ⟨I, eI⟩ : ∃ I : Int, ((i + 1 : Nat) : Int) = I := ⟨_, rfl⟩
        have HEI := hide eI
        have e1 : I.toNat = i + 1 := by omega
        have e2 : I.toNat - 1 = i := by omega
        have e3 : IntKind.i64.wrap (I - 1) = I - 1 := by have := HH.out.2.2; rw [IntKind.wrap_i64]; omega
        have e4 : (0 : Int) ≤ I - 1 := by omega
        have e5 : I - 1 < (N : Int) := by omega
        have e6 : (0 : Int) < I := by omega
        have e7 : (1 : Int) ≤ I := by omega
        have e8 : I ≤ (N : Int) := by omega
        have e9 : I < (N : Int) + 1 := by omega
        rw [eI] at hltI hi00 hwi HW ⊢
        rw [← e1] at c0 c1
        rw [← e2] at p0 p1
        by_cases hcmp : rk < sk
        · have hle : ¬ sk ≤ rk := by omega
          have hleB : decide (sk ≤ rk) = false := decide_eq_false hle
          have HF1 := hide (HF.out hcmp)
          clear hwi hsi hri HI hlt hi ka HF HG hcmp eI e1 e2 hle
          go_wp2_with fail
          go_quiet (fail)
          have HF2 := hide (HF1.out _ (kpN HW.out.2.2 nq))
          go_wp2
          exact ⟨⟨i + 1 + 1, by first | rfl | rw [HW.out.2.1], HW.out.1, HF2⟩, by rw [HW.out.2.1, ← HEI.out]; exact lt_mi rfl HW.out.1⟩
        · have hle : sk ≤ rk := by omega
          have HG1 := hide (HG.out hcmp)
          clear hwi hsi hri HI hlt hi ka HF HG hcmp eI e1 e2
          go_wp2_with fail
          go_quiet (fail)
          have HF2 := hide (kpN HW.out.2.2 nq)
          go_wp2
          go_ret
          exact ⟨_, rfl, HG1.out, HF2.out⟩
    · obtain rfl : i = N := by omega
      have hris : RisP S := fun j a b ha hb => HI.out.1 j a b (by have := (List.getElem?_eq_some_iff.1 hb).1; have := HH.out.2.1; omega) ha hb
      have HR := hide (And.intro hris HI.out.2)
      have hnl : ¬ (i : Int) < (i : Int) := by omega
      clear HI hlt hi hris
      go_wp2_with fail
      obtain ⟨w2, ew2⟩ : ∃ w2 : World, w2 = wr := ⟨_, rfl⟩
      subst ew2
      go_loopw [39] (fun it wr => ∃ j : Nat, it = .int .i64 (j : Int) ∧ j ≤ i ∧ Hid ((∀ (q : Nat) (a : Pg), q < j → S[q]? = some a → a.ys.length ≤ 64) ∧ Kp Nu w wr)) (fun it _ => i - (intOf it).toNat)
      case atStart => exact ⟨0, rfl, Nat.zero_le _, (fun q a h => by omega), HR.out.2⟩
      case round =>
        obtain ⟨j, rfl, hj, HI⟩ := hrel
        by_cases hlt : j < i
        · obtain ⟨s, hsi⟩ : ∃ s, S[j]? = some s := ⟨_, List.getElem?_eq_getElem (by rw [HH.out.2.1]; exact hlt)⟩
          obtain ⟨b, off, ead, c0, c1, hvn⟩ := HS.out wr HI.out.2 j s hsi
          obtain ⟨sk, ⟨sa, sn, sc⟩, sy⟩ := s
          obtain rfl : sn = sy.length := hvn
          obtain ⟨n, en⟩ : ∃ n, sy.length = n := ⟨_, rfl⟩
          have ka := Kp.alloc wr (.cells #[.int .u64 sk, .slice sa n sc] 78) Nu
          have x0 := (cell2 (heap_alloc_new wr (.cells #[.int .u64 sk, .slice sa n sc] 78))).2
          have MY := may_any (wr.alloc (.cells #[.int .u64 sk, .slice sa n sc] 78)) sa n sc
          have hltI : (j : Int) < (i : Int) := by omega
          have hi00 : (0 : Int) ≤ (j : Int) := by omega
          have hwi : wrap64 ((j : Int) + 1) = ((j + 1 : Nat) : Int) := by have := HH.out.2.2; unfold wrap64; omega
          have HW := hide (And.intro hlt (And.intro hwi (HI.out.2.andNu ka)))
          by_cases hn64 : n ≤ 64
          · rw [decide_eq_true (show (n : Int) ≤ 64 by omega)] at MY
            have HF : Hid (∀ W, Kp Nu w W → ((∀ (q : Nat) (a : Pg), q < j + 1 → S[q]? = some a → a.ys.length ≤ 64) ∧ Kp Nu w W)) := hide (fun W k => ⟨fun q a hq ha => by
              rcases Nat.lt_or_ge q j with h1 | h1
              · exact HI.out.1 q a h1 ha
              · obtain rfl : q = j := by omega
                rw [hsi] at ha; cases ha
                show sy.length ≤ 64
                omega, k⟩)
            rw [en] at c1
            subst ead
            clear hwi hsi HI hlt hj ka en hn64
            go_wp2_with (go_at_call 118; refine MY.mono ?_; rintro e w' ⟨rfl, hw⟩; obtain rfl := hw.symm)
            exact ⟨⟨j + 1, by first | rfl | rw [HW.out.2.1], HW.out.1, hide (HF.out _ HW.out.2.2)⟩, by first | exact lt_mi HW.out.2.1 HW.out.1 | exact lt_mi rfl HW.out.1⟩
          · rw [decide_eq_false (show ¬ (n : Int) ≤ 64 by omega)] at MY
            have HG : Hid (BarR S M most 70) := .inr (.inl ⟨HR.out.1, ⟨_, List.mem_of_getElem? hsi, by show 64 < sy.length; omega⟩, rfl⟩)
            rw [en] at c1
            subst ead
            clear hwi hsi HI hlt hj ka en hn64
            go_wp2_with (go_at_call 118; refine MY.mono ?_; rintro e w' ⟨rfl, hw⟩; obtain rfl := hw.symm)
            go_ret
            exact ⟨_, rfl, HG.out, HW.out.2.2⟩
        · obtain rfl : j = i := by omega
          have hall : ∀ s ∈ S, s.ys.length ≤ 64 := fun s hs => by
            obtain ⟨q, hq⟩ := List.mem_iff_getElem?.1 hs
            exact HI.out.1 q s (by have := (List.getElem?_eq_some_iff.1 hq).1; have := HH.out.2.1; omega) hq
          have HA := hide (And.intro hall HI.out.2)
          clear HI hlt hj hall
          go_wp2_with fail
          obtain ⟨w3, ew3⟩ : ∃ w3 : World, w3 = wr := ⟨_, rfl⟩
          subst ew3
          go_loopw [50] (fun it wr => ∃ i : Nat, it = .int .i64 (i : Int) ∧ i ≤ j ∧ Hid ((∀ (q : Nat) (a : Pg), q < i → S[q]? = some a → hs a.k M = false) ∧ Kp Nu w wr)) (fun it _ => j - (intOf it).toNat)
          case atStart => exact ⟨0, rfl, Nat.zero_le _, (fun q a h => by omega), HA.out.2⟩
          case round =>
            obtain ⟨i, rfl, hi, HI⟩ := hrel
            by_cases hlt : i < j
            · obtain ⟨s, hsi⟩ : ∃ s, S[i]? = some s := ⟨_, List.getElem?_eq_getElem (by rw [HH.out.2.1]; exact hlt)⟩
              obtain ⟨b, off, ead, c0, c1, hvn⟩ := HS.out wr HI.out.2 i s hsi
              obtain ⟨sk, ⟨sa, sn, sc⟩, sy⟩ := s
              clear hvn
              have ka := HI.out.2.andNu (Kp.alloc wr (.cells #[.int .u64 sk, .slice sa sn sc] 78) Nu)
              have HSC : Hid (∀ W, Kp Nu (wr.alloc (.cells #[.int .u64 sk, .slice sa sn sc] 78)) W → W.cell? ⟨sb, 2, none⟩ = some (.pointer (some ⟨mb, 0, none⟩)) ∧ W.cell? ⟨wr.heap.size, 0, none⟩ = some (.int .u64 sk)) := hide (fun W k => ⟨(cell3 (HH.out.1.nu (ka.andNu k)).box).2.2, cell_nu (cell2 (heap_alloc_new wr (.cells #[.int .u64 sk, .slice sa sn sc] 78))).1 k⟩)
              have GA : ∀ W, Kp Nu (wr.alloc (.cells #[.int .u64 sk, .slice sa sn sc] 78)) W → Calls Try.prog 115 #[.pointer (some ⟨mb, 0, none⟩), .int .u64 sk] W fun e w' => ∃ o, e = .returned (.tuple #[o, .bool (hs sk M)]) ∧ Kp Nu (wr.alloc (.cells #[.int .u64 sk, .slice sa sn sc] 78)) w' := fun W k => by
                have hh := HH.out.1.nu (ka.andNu k)
                refine (get_any hh.m sk (by have := hh.small; omega)).mono ?_
                rintro e w' ⟨e1, e2⟩
                rw [hh.hs] at e1
                exact ⟨_, e1, k.andNu e2⟩
              have kr0 := Kp.refl Nu (wr.alloc (.cells #[.int .u64 sk, .slice sa sn sc] 78))
              have hltI : (i : Int) < (j : Int) := by omega
              have hi00 : (0 : Int) ≤ (i : Int) := by omega
              have hwi : wrap64 ((i : Int) + 1) = ((i + 1 : Nat) : Int) := by have := HH.out.2.2; unfold wrap64; omega
              have HW := hide (And.intro hlt (And.intro hwi ka))
              subst ead
              cases hb : hs sk M with
              | true =>
                rw [hb] at GA
                have HG : Hid (BarR S M most 73) := .inr (.inr (.inl ⟨HR.out.1, HA.out.1, ⟨_, List.mem_of_getElem? hsi, hb⟩, rfl⟩))
                clear hwi hsi HI hlt hi ka hb
                go_wp2_with fail
                go_region_held3 (fun W => W.cell? ⟨sb, 2, none⟩ = some (.pointer (some ⟨mb, 0, none⟩)) ∧ W.cell? ⟨wr.heap.size, 0, none⟩ = some (.int .u64 sk)) (first | (refine HSC.out _ ?_; repeat (first | assumption | exact Kp.refl _ _ | apply Kp.drew)))
                  (first | (go_at_call 115; refine (GA _ ?_).mono ?_; (repeat (first | assumption | exact Kp.refl _ _ | apply Kp.drew)); rintro e w4 ⟨o, rfl, k4⟩))
                go_wp2
                go_ret
                exact ⟨_, rfl, HG.out, HW.out.2.2.andNu k4⟩
              | false =>
                rw [hb] at GA
                have HF : Hid (∀ W, Kp Nu w W → ((∀ (q : Nat) (a : Pg), q < i + 1 → S[q]? = some a → hs a.k M = false) ∧ Kp Nu w W)) := hide (fun W k => ⟨fun q a hq ha => by
                  rcases Nat.lt_or_ge q i with h1 | h1
                  · exact HI.out.1 q a h1 ha
                  · obtain rfl : q = i := by omega
                    rw [hsi] at ha; cases ha
                    exact hb, k⟩)
                clear hwi hsi HI hlt hi ka hb
                go_wp2_with fail
                go_region_held3 (fun W => W.cell? ⟨sb, 2, none⟩ = some (.pointer (some ⟨mb, 0, none⟩)) ∧ W.cell? ⟨wr.heap.size, 0, none⟩ = some (.int .u64 sk)) (first | (refine HSC.out _ ?_; repeat (first | assumption | exact Kp.refl _ _ | apply Kp.drew)))
                  (first | (go_at_call 115; refine (GA _ ?_).mono ?_; (repeat (first | assumption | exact Kp.refl _ _ | apply Kp.drew)); rintro e w4 ⟨o, rfl, k4⟩))
                have HF2 := hide (HF.out _ (HW.out.2.2.andNu k4))
                go_wp2
                exact ⟨⟨i + 1, by first | rfl | rw [HW.out.2.1], HW.out.1, HF2⟩, by first | exact lt_mi HW.out.2.1 HW.out.1 | exact lt_mi rfl HW.out.1⟩
            · obtain rfl : i = j := by omega
              have hall : ∀ s ∈ S, hs s.k M = false := fun s hs => by
                obtain ⟨q, hq⟩ := List.mem_iff_getElem?.1 hs
                exact HI.out.1 q s (by have := (List.getElem?_eq_some_iff.1 hq).1; have := HH.out.2.1; omega) hq
              have RA := room_any (HH.out.1.nu HI.out.2)
              have HB := hide (And.intro hall HI.out.2)
              clear HI hlt hi hall mixed
              by_cases hfull : most < (M.length : Int) + (i : Int)
              · have HG : Hid (BarR S M most 71) := .inr (.inr (.inr (.inl ⟨HR.out.1, HA.out.1, HB.out.1, by rw [HH.out.2.1]; exact hfull, rfl⟩)))
                have hgt : most - (M.length : Int) < (i : Int) := by omega
                generalize most - (M.length : Int) = z at *
                clear hfull
                go_wp2_with (go_at_call 119; refine RA.mono ?_; rintro e w5 ⟨rfl, n5, h5⟩)
                go_ret
                exact ⟨_, rfl, HG.out, kpN HB.out.2 n5⟩
              · have HG : Hid (BarR S M most 0) := .inr (.inr (.inr (.inr ⟨HR.out.1, HA.out.1, HB.out.1, by rw [HH.out.2.1]; omega, rfl⟩)))
                have hgt : ¬ most - (M.length : Int) < (i : Int) := by omega
                generalize most - (M.length : Int) = z at *
                clear hfull
                go_wp2_with (go_at_call 119; refine RA.mono ?_; rintro e w5 ⟨rfl, n5, h5⟩)
                go_ret
                exact ⟨_, rfl, HG.out, kpN HB.out.2 n5⟩
end
end Go.Proofs.Ytchealdgncgjoaa.StU
