import Derived.Test.YtchealdgncgjoaaMvB
import Derived.BigQuiet
import Derived.Deep.QuietTactic
import Derived.Deep.RegionHeld3
namespace Go.Proofs.Ytchealdgncgjoaa.StU
open Go.RowKit Go.Proofs.Ytchealdgncgjoaa.St Go.Shelf
set_option linter.unusedVariables false
/-- keys that rise -/
def RisP (S : List Pg) : Prop := ∀ (i : Nat) (a b : Pg), S[i]? = some a → S[i + 1]? = some b → a.k < b.k
/-- what keeps pairs from being laid in -/
def BarR (S : List Pg) (M : List KV) (most : Int) (c : Int) : Prop :=
  (¬ RisP S ∧ c = 72) ∨ (RisP S ∧ (∃ s ∈ S, 64 < s.ys.length) ∧ c = 70) ∨ (RisP S ∧ (∀ s ∈ S, s.ys.length ≤ 64) ∧ (∃ s ∈ S, hs s.k M = true) ∧ c = 73) ∨
    (RisP S ∧ (∀ s ∈ S, s.ys.length ≤ 64) ∧ (∀ s ∈ S, hs s.k M = false) ∧ most < (M.length : Int) + (S.length : Int) ∧ c = 71) ∨
    (RisP S ∧ (∀ s ∈ S, s.ys.length ≤ 64) ∧ (∀ s ∈ S, hs s.k M = false) ∧ (M.length : Int) + (S.length : Int) ≤ most ∧ c = 0)
section
variable {w : World} {sb mb : Nat} {most : Int} {t : T (Int × Sv)} {M : List KV}
set_option maxRecDepth 100000 in
set_option maxHeartbeats 4000000 in
theorem bars_any (h : Sh w sb mb most t M) (v : Value) (S : List Pg) (hS : Wp w v S) (hsl : S.length ≤ 4398046511104) : Calls Try.prog 131 #[.pointer (some ⟨sb, 0, none⟩), v] w fun e w' => ∃ c, e = .returned (.int .i64 c) ∧ BarR S M most c ∧ Kp Nu w w' := by
  have mixed : Try.prog.follows .mixedOrders = true := by kernel_rfl
  obtain ⟨ad, cap, rfl, hc⟩ := hS
  obtain ⟨N, eN⟩ : ∃ N, S.length = N := ⟨_, rfl⟩
  rw [eN] at hsl ⊢
  have HS : Hid (∀ W, Kp Nu w W → ∀ (i : Nat) (s : Pg), S[i]? = some s → ∃ b off, ad = some ⟨b, off, none⟩ ∧ W.cell? ⟨b, off + i * 2, none⟩ = some (.int .u64 s.k) ∧ W.cell? ⟨b, off + i * 2 + 1, none⟩ = some (.slice s.v.a s.v.n s.v.c) ∧ s.v.n = s.ys.length) := hide (fun W k i s h => by
    obtain ⟨b, off, e, c0, c1, c2, c3⟩ := hc i s h
    obtain ⟨ad', cap', e'⟩ := c2.slice
    exact ⟨b, off, e, cell_nu c0 k, cell_nu c1 k, (Value.slice.inj e').2.1⟩)
  have MA := made117 h
  have HH := hide (And.intro h (And.intro eN hsl))
  clear h hc eN hsl
  go_enter Try.func131, Try.ntmps131
  go_wp2_with (go_at_call 117; refine MA.mono ?_; rintro e w' ⟨rfl, hw⟩; obtain rfl := hw.symm)
  go_loopw [18] (fun it wr => ∃ i : Nat, it = .int .i64 (i : Int) ∧ i ≤ N ∧ Hid ((∀ (j : Nat) (a b : Pg), j + 1 < i → S[j]? = some a → S[j + 1]? = some b → a.k < b.k) ∧ Kp Nu w wr)) (fun it _ => N - (intOf it).toNat)
  case atStart => exact ⟨0, rfl, Nat.zero_le _, (fun j a b h => by omega), Kp.refl _ _⟩
  case round =>
    obtain ⟨i, rfl, hi, HI⟩ := hrel
    by_cases hlt : i < N
    · obtain ⟨s, hsi⟩ : ∃ s, S[i]? = some s := ⟨_, List.getElem?_eq_getElem (by rw [HH.out.2.1]; exact hlt)⟩
      obtain ⟨b, off, ead, c0, c1, hvn⟩ := HS.out wr HI.out.2 i s hsi
      obtain ⟨sk, ⟨sa, sn, sc⟩, sy⟩ := s
      clear hvn
      have ka := Kp.alloc wr (.cells #[.int .u64 sk, .slice sa sn sc] 78) Nu
      have x0 := (cell2 (heap_alloc_new wr (.cells #[.int .u64 sk, .slice sa sn sc] 78))).1
      have hltI : (i : Int) < (N : Int) := by omega
      have hi00 : (0 : Int) ≤ (i : Int) := by omega
      have hwi : wrap64 ((i : Int) + 1) = ((i + 1 : Nat) : Int) := by have := HH.out.2.2; unfold wrap64; omega
      have HW := hide (And.intro hlt (And.intro hwi (HI.out.2.andNu ka)))
      cases i with
      | zero =>
        have HF : Hid (∀ W, Kp Nu w W → ((∀ (j : Nat) (a b : Pg), j + 1 < 0 + 1 → S[j]? = some a → S[j + 1]? = some b → a.k < b.k) ∧ Kp Nu w W)) := hide (fun W q => ⟨fun j a b h => by omega, q⟩)
        subst ead
        simp only [Nat.zero_mul, Nat.add_zero] at c0 c1
        clear hwi hsi HI hlt hi ka
        go_wp2_with fail
        go_quiet (fail)
        have HF2 := hide (HF.out _ (kpN HW.out.2.2 nq))
        go_wp2
        exact ⟨⟨0 + 1, by first | rfl | rw [HW.out.2.1], HW.out.1, HF2⟩, by first | exact lt_mi HW.out.2.1 HW.out.1 | exact lt_mi rfl HW.out.1⟩
      | succ i =>
        obtain ⟨r, hri⟩ : ∃ r, S[i]? = some r := ⟨_, List.getElem?_eq_getElem (by rw [HH.out.2.1]; omega)⟩
        obtain ⟨b', off', ead', p0, p1, hvn⟩ := HS.out _ (HI.out.2.andNu ka) i r hri
        obtain ⟨rk, ⟨ra, rn, rcc⟩, ry⟩ := r
        clear hvn
        rw [ead] at ead'
        cases ead'
        have HF : Hid (rk < sk → ∀ W, Kp Nu w W → ((∀ (j : Nat) (a b : Pg), j + 1 < i + 1 + 1 → S[j]? = some a → S[j + 1]? = some b → a.k < b.k) ∧ Kp Nu w W)) := hide (fun hlt2 W q => ⟨fun j a b h ha hb => by
          rcases Nat.lt_or_ge (j + 1) (i + 1) with h1 | h1
          · exact HI.out.1 j a b h1 ha hb
          · have e : j = i := by omega
            subst e
            rw [hri] at ha; rw [hsi] at hb
            cases ha; cases hb; exact hlt2, q⟩)
        have HG : Hid (¬ rk < sk → BarR S M most 72) := hide (fun hn => .inl ⟨fun hr => hn (hr i _ _ hri hsi), rfl⟩)
        subst ead
        obtain ⟨I, eI⟩ : ∃ I : Int, ((i + 1 : Nat) : Int) = I := ⟨_, rfl⟩
        have HEI := hide eI
        have e1 : I.toNat = i + 1 := by omega
        have e2 : I.toNat - 1 = i := by omega
        have e3 : IntKind.i64.wrap (I - 1) = I - 1 := by have := HH.out.2.2; rw [IntKind.wrap_i64]; omega
        have e4 : (0 : Int) ≤ I - 1 := by omega
        have e5 : I - 1 < (N : Int) := by omega
        have e6 : (0 : Int) < I := by omega
        have e7 : (1 : Int) ≤ I := by omega
        have e8 : I ≤ (N : Int) := by omega
        have e9 : I < (N : Int) + 1 := by omega
        rw [eI] at hltI hi00 hwi HW ⊢
        rw [← e1] at c0 c1
        rw [← e2] at p0 p1
        by_cases hcmp : rk < sk
        · have hle : ¬ sk ≤ rk := by omega
          have hleB : decide (sk ≤ rk) = false := decide_eq_false hle
          have HF1 := hide (HF.out hcmp)
          clear hwi hsi hri HI hlt hi ka HF HG hcmp eI e1 e2 hle
          go_wp2_with fail
          go_quiet (fail)
          have HF2 := hide (HF1.out _ (kpN HW.out.2.2 nq))
          go_wp2
          exact ⟨⟨i + 1 + 1, by first | rfl | rw [HW.out.2.1], HW.out.1, HF2⟩, by rw [HW.out.2.1, ← HEI.out]; exact lt_mi rfl HW.out.1⟩
        · have hle : sk ≤ rk := by omega
          have HG1 := hide (HG.out hcmp)
          clear hwi hsi hri HI hlt hi ka HF HG hcmp eI e1 e2
          go_wp2_with fail
          go_quiet (fail)
          have HF2 := hide (kpN HW.out.2.2 nq)
          go_wp2
          go_ret
          exact ⟨_, rfl, HG1.out, HF2.out⟩
    · obtain rfl : i = N := by omega
      have hris : RisP S := fun j a b ha hb => HI.out.1 j a b (by have := (List.getElem?_eq_some_iff.1 hb).1; have := HH.out.2.1; omega) ha hb
      have HR := hide (And.intro hris HI.out.2)
      have hnl : ¬ (i : Int) < (i : Int) := by omega
      clear HI hlt hi hris
      go_wp2_with fail
      obtain ⟨w2, ew2⟩ : ∃ w2 : World, w2 = wr := ⟨_, rfl⟩
      subst ew2
      go_loopw [39] (fun it wr => ∃ j : Nat, it = .int .i64 (j : Int) ∧ j ≤ i ∧ Hid ((∀ (q : Nat) (a : Pg), q < j → S[q]? = some a → a.ys.length ≤ 64) ∧ Kp Nu w wr)) (fun it _ => i - (intOf it).toNat)
      case atStart => exact ⟨0, rfl, Nat.zero_le _, (fun q a h => by omega), HR.out.2⟩
      case round =>
        obtain ⟨j, rfl, hj, HI⟩ := hrel
        by_cases hlt : j < i
        · obtain ⟨s, hsi⟩ : ∃ s, S[j]? = some s := ⟨_, List.getElem?_eq_getElem (by rw [HH.out.2.1]; exact hlt)⟩
          obtain ⟨b, off, ead, c0, c1, hvn⟩ := HS.out wr HI.out.2 j s hsi
          obtain ⟨sk, ⟨sa, sn, sc⟩, sy⟩ := s
          obtain rfl : sn = sy.length := hvn
          obtain ⟨n, en⟩ : ∃ n, sy.length = n := ⟨_, rfl⟩
          have ka := Kp.alloc wr (.cells #[.int .u64 sk, .slice sa n sc] 78) Nu
          have x0 := (cell2 (heap_alloc_new wr (.cells #[.int .u64 sk, .slice sa n sc] 78))).2
          have MY := may_any (wr.alloc (.cells #[.int .u64 sk, .slice sa n sc] 78)) sa n sc
          have hltI : (j : Int) < (i : Int) := by omega
          have hi00 : (0 : Int) ≤ (j : Int) := by omega
          have hwi : wrap64 ((j : Int) + 1) = ((j + 1 : Nat) : Int) := by have := HH.out.2.2; unfold wrap64; omega
          have HW := hide (And.intro hlt (And.intro hwi (HI.out.2.andNu ka)))
          by_cases hn64 : n ≤ 64
          · rw [decide_eq_true (show (n : Int) ≤ 64 by omega)] at MY
            have HF : Hid (∀ W, Kp Nu w W → ((∀ (q : Nat) (a : Pg), q < j + 1 → S[q]? = some a → a.ys.length ≤ 64) ∧ Kp Nu w W)) := hide (fun W k => ⟨fun q a hq ha => by
              rcases Nat.lt_or_ge q j with h1 | h1
              · exact HI.out.1 q a h1 ha
              · obtain rfl : q = j := by omega
                rw [hsi] at ha; cases ha
                show sy.length ≤ 64
                omega, k⟩)
            rw [en] at c1
            subst ead
            clear hwi hsi HI hlt hj ka en hn64
            go_wp2_with (go_at_call 118; refine MY.mono ?_; rintro e w' ⟨rfl, hw⟩; obtain rfl := hw.symm)
            exact ⟨⟨j + 1, by first | rfl | rw [HW.out.2.1], HW.out.1, hide (HF.out _ HW.out.2.2)⟩, by first | exact lt_mi HW.out.2.1 HW.out.1 | exact lt_mi rfl HW.out.1⟩
          · rw [decide_eq_false (show ¬ (n : Int) ≤ 64 by omega)] at MY
            have HG : Hid (BarR S M most 70) := .inr (.inl ⟨HR.out.1, ⟨_, List.mem_of_getElem? hsi, by show 64 < sy.length; omega⟩, rfl⟩)
            rw [en] at c1
            subst ead
            clear hwi hsi HI hlt hj ka en hn64
            go_wp2_with (go_at_call 118; refine MY.mono ?_; rintro e w' ⟨rfl, hw⟩; obtain rfl := hw.symm)
            go_ret
            exact ⟨_, rfl, HG.out, HW.out.2.2⟩
        · obtain rfl : j = i := by omega
          have hall : ∀ s ∈ S, s.ys.length ≤ 64 := fun s hs => by
            obtain ⟨q, hq⟩ := List.mem_iff_getElem?.1 hs
            exact HI.out.1 q s (by have := (List.getElem?_eq_some_iff.1 hq).1; have := HH.out.2.1; omega) hq
          have HA := hide (And.intro hall HI.out.2)
          clear HI hlt hj hall
          go_wp2_with fail
          obtain ⟨w3, ew3⟩ : ∃ w3 : World, w3 = wr := ⟨_, rfl⟩
          subst ew3
          go_loopw [50] (fun it wr => ∃ i : Nat, it = .int .i64 (i : Int) ∧ i ≤ j ∧ Hid ((∀ (q : Nat) (a : Pg), q < i → S[q]? = some a → hs a.k M = false) ∧ Kp Nu w wr)) (fun it _ => j - (intOf it).toNat)
          case atStart => exact ⟨0, rfl, Nat.zero_le _, (fun q a h => by omega), HA.out.2⟩
          case round =>
            obtain ⟨i, rfl, hi, HI⟩ := hrel
            by_cases hlt : i < j
            · obtain ⟨s, hsi⟩ : ∃ s, S[i]? = some s := ⟨_, List.getElem?_eq_getElem (by rw [HH.out.2.1]; exact hlt)⟩
              obtain ⟨b, off, ead, c0, c1, hvn⟩ := HS.out wr HI.out.2 i s hsi
              obtain ⟨sk, ⟨sa, sn, sc⟩, sy⟩ := s
              clear hvn
              have ka := HI.out.2.andNu (Kp.alloc wr (.cells #[.int .u64 sk, .slice sa sn sc] 78) Nu)
              have HSC : Hid (∀ W, Kp Nu (wr.alloc (.cells #[.int .u64 sk, .slice sa sn sc] 78)) W → W.cell? ⟨sb, 2, none⟩ = some (.pointer (some ⟨mb, 0, none⟩)) ∧ W.cell? ⟨wr.heap.size, 0, none⟩ = some (.int .u64 sk)) := hide (fun W k => ⟨(cell3 (HH.out.1.nu (ka.andNu k)).box).2.2, cell_nu (cell2 (heap_alloc_new wr (.cells #[.int .u64 sk, .slice sa sn sc] 78))).1 k⟩)
              have GA : ∀ W, Kp Nu (wr.alloc (.cells #[.int .u64 sk, .slice sa sn sc] 78)) W → Calls Try.prog 115 #[.pointer (some ⟨mb, 0, none⟩), .int .u64 sk] W fun e w' => ∃ o, e = .returned (.tuple #[o, .bool (hs sk M)]) ∧ Kp Nu (wr.alloc (.cells #[.int .u64 sk, .slice sa sn sc] 78)) w' := fun W k => by
                have hh := HH.out.1.nu (ka.andNu k)
                refine (get_any hh.m sk (by have := hh.small; omega)).mono ?_
                rintro e w' ⟨e1, e2⟩
                rw [hh.hs] at e1
                exact ⟨_, e1, k.andNu e2⟩
              have kr0 := Kp.refl Nu (wr.alloc (.cells #[.int .u64 sk, .slice sa sn sc] 78))
              have hltI : (i : Int) < (j : Int) := by omega
              have hi00 : (0 : Int) ≤ (i : Int) := by omega
              have hwi : wrap64 ((i : Int) + 1) = ((i + 1 : Nat) : Int) := by have := HH.out.2.2; unfold wrap64; omega
              have HW := hide (And.intro hlt (And.intro hwi ka))
              subst ead
              cases hb : hs sk M with
              | true =>
                rw [hb] at GA
                have HG : Hid (BarR S M most 73) := .inr (.inr (.inl ⟨HR.out.1, HA.out.1, ⟨_, List.mem_of_getElem? hsi, hb⟩, rfl⟩))
                clear hwi hsi HI hlt hi ka hb
                go_wp2_with fail
                go_region_held3 (fun W => W.cell? ⟨sb, 2, none⟩ = some (.pointer (some ⟨mb, 0, none⟩)) ∧ W.cell? ⟨wr.heap.size, 0, none⟩ = some (.int .u64 sk)) (first | (refine HSC.out _ ?_; repeat (first | assumption | exact Kp.refl _ _ | apply Kp.drew)))
                  (first | (go_at_call 115; refine (GA _ ?_).mono ?_; (repeat (first | assumption | exact Kp.refl _ _ | apply Kp.drew)); rintro e w4 ⟨o, rfl, k4⟩))
                go_wp2
                go_ret
                exact ⟨_, rfl, HG.out, HW.out.2.2.andNu k4⟩
              | false =>
                rw [hb] at GA
                have HF : Hid (∀ W, Kp Nu w W → ((∀ (q : Nat) (a : Pg), q < i + 1 → S[q]? = some a → hs a.k M = false) ∧ Kp Nu w W)) := hide (fun W k => ⟨fun q a hq ha => by
                  rcases Nat.lt_or_ge q i with h1 | h1
                  · exact HI.out.1 q a h1 ha
                  · obtain rfl : q = i := by omega
                    rw [hsi] at ha; cases ha
                    exact hb, k⟩)
                clear hwi hsi HI hlt hi ka hb
                go_wp2_with fail
                go_region_held3 (fun W => W.cell? ⟨sb, 2, none⟩ = some (.pointer (some ⟨mb, 0, none⟩)) ∧ W.cell? ⟨wr.heap.size, 0, none⟩ = some (.int .u64 sk)) (first | (refine HSC.out _ ?_; repeat (first | assumption | exact Kp.refl _ _ | apply Kp.drew)))
                  (first | (go_at_call 115; refine (GA _ ?_).mono ?_; (repeat (first | assumption | exact Kp.refl _ _ | apply Kp.drew)); rintro e w4 ⟨o, rfl, k4⟩))
                have HF2 := hide (HF.out _ (HW.out.2.2.andNu k4))
                go_wp2
                exact ⟨⟨i + 1, by first | rfl | rw [HW.out.2.1], HW.out.1, HF2⟩, by first | exact lt_mi HW.out.2.1 HW.out.1 | exact lt_mi rfl HW.out.1⟩
            · obtain rfl : i = j := by omega
              have hall : ∀ s ∈ S, hs s.k M = false := fun s hs => by
                obtain ⟨q, hq⟩ := List.mem_iff_getElem?.1 hs
                exact HI.out.1 q s (by have := (List.getElem?_eq_some_iff.1 hq).1; have := HH.out.2.1; omega) hq
              have RA := room_any (HH.out.1.nu HI.out.2)
              have HB := hide (And.intro hall HI.out.2)
              clear HI hlt hi hall mixed
              by_cases hfull : most < (M.length : Int) + (i : Int)
              · have HG : Hid (BarR S M most 71) := .inr (.inr (.inr (.inl ⟨HR.out.1, HA.out.1, HB.out.1, by rw [HH.out.2.1]; exact hfull, rfl⟩)))
                have hgt : most - (M.length : Int) < (i : Int) := by omega
                generalize most - (M.length : Int) = z at *
                clear hfull
                go_wp2_with (go_at_call 119; refine RA.mono ?_; rintro e w5 ⟨rfl, n5, h5⟩)
                go_ret
                exact ⟨_, rfl, HG.out, kpN HB.out.2 n5⟩
              · have HG : Hid (BarR S M most 0) := .inr (.inr (.inr (.inr ⟨HR.out.1, HA.out.1, HB.out.1, by rw [HH.out.2.1]; omega, rfl⟩)))
                have hgt : ¬ most - (M.length : Int) < (i : Int) := by omega
                generalize most - (M.length : Int) = z at *
                clear hfull
                go_wp2_with (go_at_call 119; refine RA.mono ?_; rintro e w5 ⟨rfl, n5, h5⟩)
                go_ret
                exact ⟨_, rfl, HG.out, kpN HB.out.2 n5⟩
end
end Go.Proofs.Ytchealdgncgjoaa.StU
namespace Go.Proofs.Ytchealdgncgjoaa.StU
open Go.RowKit Go.Proofs.Ytchealdgncgjoaa.St Go.Shelf
set_option linter.unusedVariables false
theorem spot_none1 {w : World} {a : Addr} {u : Value} (h : w.cell? a = some u) : a.spot = none := by
  unfold World.cell? at h
  split at h
  · split at h
    · cases h
    · rename_i _ hs; simpa using hs
  · cases h
/-- what bytes, keys and lists are: no cells of a shelf's own blocks -/
def Frn : Value → Prop
  | .int .u8 _ => True
  | .int .u64 _ => True
  | .slice _ _ _ => True
  | _ => False
theorem Sh.frn {w : World} {sb mb : Nat} {most : Int} {t : T (Int × Sv)} {M : List KV} (h : Sh w sb mb most t M) {a : Addr} {u : Value} (hc : w.cell? a = some u) (hu : Frn u) : ¬ Sm sb mb a.block := fun hs => by
  have hsp := spot_none1 hc
  obtain ⟨b, o, sp⟩ := a
  simp only at hsp
  subst hsp
  obtain ⟨am, hn1, _⟩ := h.m.ex
  rcases hs with e | e
  · have e : b = sb := e
    subst e
    have hb := h.box
    simp only [World.cell?, hb] at hc
    match o, hc with
    | 0, hc => simp at hc; subst hc; exact hu.elim
    | 1, hc => simp at hc; subst hc; exact hu.elim
    | 2, hc => simp at hc; subst hc; exact hu.elim
    | o + 3, hc => simp at hc
  · have e : b = mb := e
    subst e
    simp only [World.cell?, hn1] at hc
    match o, hc with
    | 0, hc => simp at hc; subst hc; exact hu.elim
    | 1, hc => simp at hc; subst hc; exact hu.elim
    | o + 2, hc => simp at hc
theorem Sh.cellk {w w' : World} {sb mb : Nat} {most : Int} {t : T (Int × Sv)} {M : List KV} (h : Sh w sb mb most t M) (k : Kp (Sm sb mb) w w') {a : Addr} {u : Value} (hc : w.cell? a = some u) (hu : Frn u) : w'.cell? a = some u :=
  (World.cell?_of_block (k.block _ (World.block_lt_of_cell? w _ hc) (h.frn hc hu))).trans hc
theorem Sh.rdk {w w' : World} {sb mb : Nat} {most : Int} {t : T (Int × Sv)} {M : List KV} (h : Sh w sb mb most t M) (k : Kp (Sm sb mb) w w') {u : Value} {ys : List Int} (hr : Rd w u ys) : Rd w' u ys := by
  rcases hr with ⟨rfl, rfl⟩ | ⟨a, cap, rfl, hc⟩
  · exact .inl ⟨rfl, rfl⟩
  · refine .inr ⟨a, cap, rfl, fun j x hj => h.cellk k (hc j x hj) ?_⟩
    have : x ∈ cs ys := List.mem_of_getElem? hj
    obtain ⟨y, _, rfl⟩ := List.mem_map.1 this
    trivial
theorem Sh.wpk {w w' : World} {sb mb : Nat} {most : Int} {t : T (Int × Sv)} {M : List KV} (h : Sh w sb mb most t M) (k : Kp (Sm sb mb) w w') {v : Value} {S : List Pg} (hw : Wp w v S) : Wp w' v S := by
  obtain ⟨ad, cap, e, hc⟩ := hw
  refine ⟨ad, cap, e, fun i s hs => ?_⟩
  obtain ⟨b, off, e1, c0, c1, c2, c3⟩ := hc i s hs
  exact ⟨b, off, e1, h.cellk k c0 trivial, h.cellk k c1 trivial, h.rdk k c2, c3⟩
theorem Wp.nu {w w' : World} {v : Value} {S : List Pg} (hw : Wp w v S) (k : Kp Nu w w') : Wp w' v S := by
  obtain ⟨ad, cap, e, hc⟩ := hw
  refine ⟨ad, cap, e, fun i s hs => ?_⟩
  obtain ⟨b, off, e1, c0, c1, c2, c3⟩ := hc i s hs
  exact ⟨b, off, e1, cell_nu c0 k, cell_nu c1 k, c2.nu k, c3⟩
/-- pairs laid in -/
def layM (S : List Pg) (M : List KV) : List KV := S.foldl (fun M s => putM s.k s.ys M) M
theorem layM_snoc (S : List Pg) (s : Pg) (M : List KV) : layM (S ++ [s]) M = putM s.k s.ys (layM S M) := by simp [layM]
theorem layM_le : ∀ (S : List Pg) (M : List KV), (layM S M).length ≤ M.length + S.length
  | [], M => Nat.le_refl _
  | s :: S, M => by
    have h1 := layM_le S (putM s.k s.ys M)
    have h2 := putM_length s.k s.ys M
    show (layM S (putM s.k s.ys M)).length ≤ _
    rw [List.length_cons]
    split at h2 <;> omega
section
variable {w : World} {sb mb : Nat} {most : Int} {t : T (Int × Sv)} {M : List KV}
set_option maxRecDepth 100000 in
set_option maxHeartbeats 2000000 in
theorem lay_any (h : Sh w sb mb most t M) (v : Value) (S : List Pg) (hS : Wp w v S) (hsl : S.length ≤ 4398046511104) : Calls Try.prog 64 #[.pointer (some ⟨sb, 0, none⟩), v] w fun e w' => ∃ c, e = .returned (.int .i64 c) ∧ BarR S M most c ∧ (∃ t', Sh w' sb mb most t' (if c = 0 then layM S M else M)) ∧ Kp (Sm sb mb) w w' := by
  have BA := bars_any h v S hS hsl
  have HW := hS
  obtain ⟨ad, cap, rfl, hc⟩ := hS
  obtain ⟨N, eN⟩ : ∃ N, S.length = N := ⟨_, rfl⟩
  rw [eN] at hsl
  have HH := hide (And.intro h (And.intro eN (And.intro hsl HW)))
  rw [eN] at BA ⊢
  clear h hc hsl HW
  by_cases hz : ∃ c, BarR S M most c ∧ c ≠ 0
  · obtain ⟨c0, hc0, hcn⟩ := hz
    have BA2 : Calls Try.prog 131 #[.pointer (some ⟨sb, 0, none⟩), .slice ad N cap] w fun e w' => e = .returned (.int .i64 c0) ∧ Kp Nu w w' := by
      refine BA.mono ?_
      rintro e w' ⟨c, e1, e2, e3⟩
      have : c = c0 := by
        rcases e2 with ⟨a1, rfl⟩ | ⟨a1, ⟨s, hs1, hs2⟩, rfl⟩ | ⟨a1, a2, ⟨s, hs1, hs2⟩, rfl⟩ | ⟨a1, a2, a3, a4, rfl⟩ | ⟨a1, a2, a3, a4, rfl⟩ <;>
          rcases hc0 with ⟨b1, rfl⟩ | ⟨b1, ⟨q, hq1, hq2⟩, rfl⟩ | ⟨b1, b2, ⟨q, hq1, hq2⟩, rfl⟩ | ⟨b1, b2, b3, b4, rfl⟩ | ⟨b1, b2, b3, b4, rfl⟩ <;>
          first
            | rfl
            | exact absurd b1 a1
            | exact absurd a1 b1
            | exact absurd rfl hcn
            | (have := a2 _ hq1; omega)
            | (have := b2 _ hs1; omega)
            | (have := a3 _ hq1; rw [hq2] at this; cases this)
            | (have := b3 _ hs1; rw [hs2] at this; cases this)
            | omega
      exact ⟨by rw [e1, this], e3⟩
    have hnz : (c0 != 0) = true := by simpa using hcn
    have HC := hide (And.intro hc0 hcn)
    clear BA hc0 hcn
    go_enter Try.func64, Try.ntmps64
    go_wp2_with (go_at_call 131; refine BA2.mono ?_; rintro e w1 ⟨rfl, k1⟩)
    go_ret
    exact ⟨_, rfl, HC.out.1, ⟨t, by rw [if_neg HC.out.2]; exact HH.out.1.nu k1⟩, k1.mono (fun _ _ e => e.elim)⟩
  · have BA2 : Calls Try.prog 131 #[.pointer (some ⟨sb, 0, none⟩), .slice ad N cap] w fun e w' => e = .returned (.int .i64 0) ∧ Hid (BarR S M most 0 ∧ Kp Nu w w') := by
      refine BA.mono ?_
      rintro e w' ⟨c, e1, e2, e3⟩
      have : c = 0 := by
        rcases Decidable.em (c = 0) with h | h
        · exact h
        · exact absurd ⟨c, e2, h⟩ hz
      rw [this] at e1 e2
      exact ⟨e1, e2, e3⟩
    clear BA hz
    go_enter Try.func64, Try.ntmps64
    go_wp2_with (go_at_call 131; refine BA2.mono ?_; rintro e w1 ⟨rfl, H1⟩)
    go_loopw [16] (fun it wr => ∃ i : Nat, it = .int .i64 (i : Int) ∧ i ≤ N ∧ Hid (∃ t', Sh wr sb mb most t' (layM (S.take i) M) ∧ Kp (Sm sb mb) w wr)) (fun it _ => N - (intOf it).toNat)
    case atStart => exact ⟨0, rfl, Nat.zero_le _, t, HH.out.1.nu H1.out.2, H1.out.2.mono (fun _ _ e => e.elim)⟩
    case round =>
      obtain ⟨i, rfl, hi, HI⟩ := hrel
      obtain ⟨t', hsh, kwr⟩ := HI.out
      by_cases hlt : i < N
      · obtain ⟨s, hsi⟩ : ∃ s, S[i]? = some s := ⟨_, List.getElem?_eq_getElem (by rw [HH.out.2.1]; exact hlt)⟩
        obtain ⟨ad', cap', e', hcell⟩ := HH.out.1.wpk kwr HH.out.2.2.2
        cases e'
        obtain ⟨b, off, ead, c0, c1, hrd, hby, hk0, hk1, hyl⟩ := hcell i s hsi
        have hmem := List.mem_of_getElem? hsi
        obtain ⟨sk, ⟨sa, sn, sc⟩, sy⟩ := s
        have hbar : sy.length ≤ 64 ∧ (M.length : Int) + (N : Int) ≤ most := by
          rcases H1.out.1 with ⟨_, h⟩ | ⟨_, _, h⟩ | ⟨_, _, _, h⟩ | ⟨_, _, _, _, h⟩ | ⟨_, h2, _, h4, _⟩
          · cases h
          · cases h
          · cases h
          · cases h
          · rw [HH.out.2.1] at h4; exact ⟨h2 _ hmem, h4⟩
        have ka := Kp.alloc wr (.cells #[.int .u64 sk, .slice sa sn sc] 78) Nu
        obtain ⟨x0, x1⟩ := cell2 (heap_alloc_new wr (.cells #[.int .u64 sk, .slice sa sn sc] 78))
        have e : layM (S.take (i + 1)) M = putM sk sy (layM (S.take i) M) := by
          rw [List.take_add_one, hsi]
          exact layM_snoc _ _ _
        have hll := layM_le (S.take i) M
        have hlti : (S.take i).length ≤ i := by rw [List.length_take]; omega
        have SA := set_ok (hsh.nu ka) sk hk0 hk1 _ sy (hrd.nu ka) hbar.1 hby (.inr (by have := hbar.2; omega))
        rw [← e] at SA
        have hltI : (i : Int) < (N : Int) := by omega
        have hi00 : (0 : Int) ≤ (i : Int) := by omega
        have hwi : wrap64 ((i : Int) + 1) = ((i + 1 : Nat) : Int) := by have := HH.out.2.2.1; unfold wrap64; omega
        have HW := hide (And.intro hlt (And.intro hwi (kwr.andNu ka)))
        subst ead
        generalize (!StU.hs sk (layM (S.take i) M)) = bb at *
        clear hsi hcell hrd hby hk0 hk1 hyl hmem hbar hsh kwr ka e hll hlti HI hlt hi hwi
        go_wp2_with (go_at_call 47; refine SA.mono ?_; rintro e w3 ⟨rfl, h3, k3⟩)
        have HF : Hid (∃ t', Sh w3 sb mb most t' (layM (S.take (i + 1)) M) ∧ Kp (Sm sb mb) w w3) := by
          obtain ⟨v', _, e1⟩ := h3
          exact ⟨_, e1, HW.out.2.2.trans k3 (fun _ _ e => e)⟩
        clear h3 k3 SA
        go_wp2
        exact ⟨⟨i + 1, by rw [HW.out.2.1], HW.out.1, HF⟩, lt_mi HW.out.2.1 HW.out.1⟩
      · obtain rfl : i = N := by omega
        rw [List.take_of_length_le (by rw [HH.out.2.1]; exact Nat.le_refl _)] at hsh
        have hnl : ¬ (i : Int) < (i : Int) := by omega
        have HZ := hide (And.intro hsh kwr)
        clear hsh kwr HI hlt hi
        go_wp2
        go_ret
        exact ⟨0, rfl, H1.out.1, ⟨t', by rw [if_pos rfl]; exact HZ.out.1⟩, HZ.out.2⟩
end
end Go.Proofs.Ytchealdgncgjoaa.StU
