import Derived.Test.YtbifmcadllilhaaGreatOwH
import Derived.Test.YtbifmcadllilhaaGreatPdE
import Derived.Test.YtbifmcadllilhaaGreatPvF
import Derived.Test.YtbifmcadllilhaaGreatEvA
import Derived.BigQuiet
import Derived.Test.YtbifmcadllilhaaGreatPnC
namespace Go.Proofs.YtbifmcadllilhaaGreat.Rg
open Go.RowKit Go.Shelf Go.Sort
open Go.Proofs.YtbifmcadllilhaaGreat.It
set_option linter.unusedVariables false
/-- loads that may be -/
def Lb (N : Nat) (o : List Int) : Prop := o.length = N ∧ ∀ x ∈ o, 0 ≤ x ∧ x ≤ 4096
theorem Lb.mbl {N : Nat} {o : List Int} (h : Lb N o) (h1 : 1 ≤ N) (h2 : N ≤ 16) : Pn.MBL o := ⟨by rw [h.1]; exact h1, by rw [h.1]; exact h2, fun x hx => by have := h.2 x hx; omega⟩
/-- Targets of loads that may be -/
theorem targetsB (w : World) (v : Value) (N : Nat) (o : List Int) (h : Pn.Ns w v o) (hb : Lb N o) (h1 : 1 ≤ N) (h2 : N ≤ 16) : Calls Tryz.prog 40 #[v] w fun e w' => ∃ a c, e = .returned (.tuple #[.slice a N c, .int .i64 0]) ∧ w'.ownsRow w.heap.size 3 1 (.slice a N c) N (Pn.ics (Pn.tgs o N)) ∧ Kp Nu w w' := by
  refine (Pn.targets13 w v o h (by rw [hb.1]; omega)).mono ?_
  rintro e w' (⟨hn, _⟩ | ⟨_, a, c, e1, e2, k⟩)
  · exact absurd (hb.mbl h1 h2) hn
  · rw [hb.1] at e1 e2
    exact ⟨a, c, e1, e2, Kp.ofPn k⟩
theorem own_nu {w w' : World} {B t e n : Nat} {v : Value} {xs : List Value} (k : Kp Nu w w') (h : w.ownsRow B t e v n xs) : w'.ownsRow B t e v n xs := own_keep h (fun g e => k.block g (own_lt h e) (fun x => x))
/-- the first half of placed: loads the other way round -/
theorem half {N i : Nat} (hN : N ≤ 16) (h : i < N / 2) : wrap64 ((N : Int) - 1) = (N : Int) - 1 ∧ wrap64 ((N : Int) - 1 - (i : Int)) = (N : Int) - 1 - (i : Int) ∧ IntKind.i64.wrap ((N : Int) - 1) = (N : Int) - 1 ∧ IntKind.i64.wrap ((N : Int) - 1 - (i : Int)) = (N : Int) - 1 - (i : Int) ∧ (0 : Int) ≤ (N : Int) - 1 - (i : Int) ∧ (N : Int) - 1 - (i : Int) < (N : Int) ∧ ((N : Int) - 1 - (i : Int)).toNat = N - 1 - i ∧ (i : Int) < (N : Int) ∧ i < N - 1 - i ∧ N - 1 - i < N :=
  ⟨w64s (by omega) (by omega), w64s (by omega) (by omega), wi64s (by omega) (by omega), wi64s (by omega) (by omega), by omega, by omega, by omega, by omega, by omega, by omega⟩
theorem cells_set {v : Int} : ∀ {M : List Sg} {i : Nat} {s : Sg}, M[i]? = some s → (cells M).set (i * 3 + 2) (.int .u8 v) = cells (M.set i ⟨s.lo, s.hi, v⟩)
  | [], i, s, h => by simp at h
  | a :: M, 0, s, h => by
    simp only [List.getElem?_cons_zero, Option.some.injEq] at h
    subst h
    simp [cells, cellsG]
  | a :: M, i + 1, s, h => by
    have ih := cells_set (v := v) (M := M) (i := i) (s := s) (by simpa using h)
    have e : (i + 1) * 3 + 2 = i * 3 + 2 + 3 := by omega
    rw [e]
    simp only [cells, List.flatMap_cons, List.set_cons_succ, cellsG, List.cons_append, List.nil_append] at ih ⊢
    rw [ih]
theorem PlR.keep {w w' w2 : World} {M : List Sg} {ms : List Mv} {v : Value} {c : Int} {T : Nat → Prop} (h : PlR w w' M ms v c) (k : Kp T w' w2) (hT : ∀ g, w.heap.size ≤ g → ¬ T g) : PlR w w2 M ms v c := by
  rcases h with h | h | ⟨h1, h2, R, h3, h4, h5⟩
  · exact .inl h
  · exact .inr (.inl h)
  · exact .inr (.inr ⟨h1, h2, R, h3, h4, own_keep h5 (fun g e => k.block g (own_lt h5 e) (hT g (h5.lt g e).1))⟩)
theorem plr_two {w1 w1' w2 w2' W : World} {M : List Sg} {v v' : Value} {c c' : Int} (hM : ∀ s ∈ M, SgB s) (h : PlR w1 w1' M [] v c) (h' : PlR w2 w2' M [] v' c') : c = c' ∧ ∃ R, R.length ≤ 16384 ∧ Sgs w1' v R ∧ Sgs w2' v' R := by
  rcases h with ⟨a1, rfl, rfl⟩ | ⟨_, e, _⟩ | ⟨a1, rfl, R, a2, a3, a4⟩
  · rcases h' with ⟨_, rfl, rfl⟩ | ⟨_, e, _⟩ | ⟨b1, _⟩
    · exact ⟨rfl, [], by simp, .inl ⟨⟨none, 0, rfl⟩, rfl⟩, .inl ⟨⟨none, 0, rfl⟩, rfl⟩⟩
    · cases e
    · exact absurd b1 a1
  · cases e
  · rcases h' with ⟨b1, _⟩ | ⟨_, e, _⟩ | ⟨b1, rfl, R', b2, b3, b4⟩
    · exact absurd a1 b1
    · cases e
    · cases a2; cases b2
      have tab := (lok_good a1.1 a1.2.1 hM).tab
      exact ⟨rfl, _, a3, Sgs.of_own a4 tab.sgb, Sgs.of_own b4 tab.sgb⟩
theorem PlR.slice {w w' : World} {M : List Sg} {ms : List Mv} {v : Value} {c : Int} (h : PlR w w' M ms v c) : ∃ a n k, v = .slice a n k := by
  rcases h with ⟨_, e, _⟩ | ⟨_, _, e, _⟩ | ⟨_, _, R, _, _, h5⟩
  · exact ⟨_, _, _, e⟩
  · exact ⟨_, _, _, e⟩
  · obtain ⟨a, k, e⟩ := own_slice h5
    exact ⟨_, _, _, e⟩
theorem halfS {N i : Nat} (hN : N ≤ 4096) (h : i < N / 2) : wrap64 ((N : Int) - 1) = (N : Int) - 1 ∧ wrap64 ((N : Int) - 1 - (i : Int)) = (N : Int) - 1 - (i : Int) ∧ IntKind.i64.wrap ((N : Int) - 1) = (N : Int) - 1 ∧ IntKind.i64.wrap ((N : Int) - 1 - (i : Int)) = (N : Int) - 1 - (i : Int) ∧ (0 : Int) ≤ (N : Int) - 1 - (i : Int) ∧ (N : Int) - 1 - (i : Int) < (N : Int) ∧ ((N : Int) - 1 - (i : Int)).toNat = N - 1 - i ∧ (i : Int) < (N : Int) :=
  ⟨w64s (by omega) (by omega), w64s (by omega) (by omega), wi64s (by omega) (by omega), wi64s (by omega) (by omega), by omega, by omega, by omega, by omega⟩
theorem half2 {N i : Nat} (h : i < N / 2) : i < N - 1 - i ∧ N - 1 - i < N := by omega
set_option maxRecDepth 100000 in
set_option maxHeartbeats 4000000 in
theorem placed22 (w : World) (ra : Option Addr) (rc : Nat) (sa : Option Addr) (sc : Nat) (o : List Int) (S : List Sg) (N : Nat) (ho : Pn.Ns w (.slice ra N rc) o) (hb : Lb N o) (h1 : 1 ≤ N) (h2 : N ≤ 16) (hra : ra = none → rc = 0) (hS : Sgs w (.slice sa S.length sc) S) (hS1 : 1 ≤ S.length) (hSl : S.length ≤ 4096) (hsa : sa = none → sc = 0) :
    Calls Tryz.prog 22 #[.slice ra N rc, .slice sa S.length sc] w fun e w' => e = .returned (.bool true) ∧ Kp Nu w w' := by
  have mixed : Tryz.prog.follows .mixedOrders = true := by kernel_rfl
  obtain ⟨SL, eSL⟩ : ∃ SL, S.length = SL := ⟨_, rfl⟩
  have HA := hide (And.intro ho (And.intro hb (And.intro hra (And.intro hS (And.intro hsa (And.intro eSL hSl))))))
  rw [eSL] at hSl hS1 ⊢
  have hN0 : (0 : Int) ≤ (N : Int) := nz N
  clear ho hb hra hS hsa eSL
  go_enter Tryz.func22, Tryz.ntmps22
  go_wp2_with (at_builtin; refine unhid ?_)
  have hol := HA.out.2.1.1
  refine Pn.append_ns rfl _ _ rfl w.heap.size ra rc o (by rw [hol]; omega) rfl (by rw [hol]; rfl) (by rw [hol]; exact HA.out.1) HA.out.2.2.1 (Nat.le_refl _) ?_
  intro la lc w1 hl1 hk1'
  rw [hol] at hl1 ⊢
  have hk1 : Kp Nu w w1 := Kp.ofPn hk1'
  obtain ⟨lg, lc', el⟩ := own_blk hl1 h1
  simp only [Value.slice.injEq, true_and] at el
  obtain ⟨ela, elc⟩ := el
  subst ela
  have TG := targetsB w1 _ N o (Pn.Ns.of_own (B := w.heap.size) (by rw [hol]; exact hl1)) HA.out.2.1 h1 h2
  have H1 := hide (And.intro hl1 hk1)
  clear hl1 hk1 hk1' elc hol
  go_wp2_with fail
  refine TG.mono ?_; rintro e w2 ⟨ta, tc, rfl, ht2, hk2⟩
  have H2 := hide (And.intro ht2 hk2)
  have HI : Hid (∃ o', Lb N o' ∧ w2.ownsRow w.heap.size 3 1 (.slice (some ⟨lg, 0, none⟩) N lc) N (Pn.ics o')) := hide ⟨o, HA.out.2.1, own_nu hk2 H1.out.1⟩
  clear TG ht2 hk2
  have eq2 : wrap64 ((N : Int) / 2) = (N : Int) / 2 := w64s (by omega) (by omega)
  have hq2 : N / 2 ≤ 8 := by omega
  go_wp2
  go_loopw [8] (fun iv wr => ∃ i : Nat, iv = .int .i64 (i : Int) ∧ i ≤ N / 2 ∧ Hid ((∃ o', Lb N o' ∧ wr.ownsRow w.heap.size 3 1 (.slice (some ⟨lg, 0, none⟩) N lc) N (Pn.ics o')) ∧ Kp (fun q => q = lg) w2 wr)) (fun iv _ => N / 2 - (intOf iv).toNat)
  case atStart => exact ⟨0, rfl, Nat.zero_le _, hide ⟨HI.out, Kp.refl _ _⟩⟩
  case round =>
    obtain ⟨i, rfl, hi, hQ⟩ := hrel
    have hi0 := nz i
    by_cases hlt : i < N / 2
    · have hltI : (i : Int) < (N : Int) / 2 := by omega
      obtain ⟨n9, n10⟩ := half2 hlt
      have eti := tn i
      obtain ⟨o', hLb, hrow⟩ := hQ.out.1
      obtain ⟨x, hx⟩ : ∃ x, o'[i]? = some x := ⟨_, List.getElem?_eq_getElem (by rw [hLb.1]; exact Nat.lt_trans n9 n10)⟩
      obtain ⟨y, hy⟩ : ∃ y, o'[N - 1 - i]? = some y := ⟨_, List.getElem?_eq_getElem (by rw [hLb.1]; exact n10)⟩
      obtain ⟨cx, fx⟩ := num_at hrow hLb.1 hx
      obtain ⟨cy, fy⟩ := num_at hrow hLb.1 hy
      have HX := hide (And.intro hLb (And.intro hrow (And.intro hx (And.intro hy (And.intro n9 n10)))))
      have hfin := hide (fin20 hlt)
      have cy2 : (wr.setCell ⟨lg, i, none⟩ (.int .i64 y)).cell? ⟨lg, N - 1 - i, none⟩ = some (.int .i64 y) := by rw [World.cell?_setCell_other _ _ _ _ (by intro h; simp at h <;> omega)]; exact cy
      have cx2 : (wr.setCell ⟨lg, i, none⟩ (.int .i64 y)).cell? ⟨lg, i, none⟩ = some (.int .i64 y) := World.cell?_setCell_same _ _ _ cx
      obtain ⟨eK1, eK2⟩ := wk1 (k := i) (Nat.le_trans (Nat.le_of_lt hlt) (Nat.le_trans hq2 (by decide)))
      obtain ⟨n1, n2, n3, n4, n5, n6, n7, n8, _, _⟩ := half h2 hlt
      clear hLb hrow hx hy n9 n10 hi hlt hq2 h1 h2 hSl
      go_wp2_with fail
      go_region
      go_wp2
      obtain ⟨hLb, hrow, hx, hy, n9, n10⟩ := HX.out
      have hl := hLb.1
      refine ⟨⟨i + 1, ins i, hfin.out.1, hide ⟨⟨(o'.set i y).set (N - 1 - i) x, ⟨by rw [List.length_set, List.length_set]; exact hl, fun z hz => ?_⟩, ?_⟩, ((hQ.out.2.andSet _ _ (.inr rfl)).andSet _ _ (.inr rfl)).drew⟩⟩, by simp only [intOf]; rw [tns, tn]; exact hfin.out.2⟩
      · rcases List.mem_or_eq_of_mem_set hz with hz | hz
        · rcases List.mem_or_eq_of_mem_set hz with hz | hz
          · exact hLb.2 z hz
          · rw [hz]; exact hLb.2 y (List.mem_of_getElem? hy)
        · rw [hz]; exact hLb.2 x (List.mem_of_getElem? hx)
      · have h1 := own_put hrow i (.int .i64 y) (by rw [Pn.ics_len, hl]; exact Nat.lt_trans n9 n10)
        rw [ics_set] at h1
        have h2 := own_put h1 (N - 1 - i) (.int .i64 x) (by rw [Pn.ics_len, List.length_set, hl]; exact n10)
        rw [ics_set] at h2
        exact h2
    · have hltI : ¬ (i : Int) < (N : Int) / 2 := by omega
      obtain ⟨o', hLb, hrow⟩ := hQ.out.1
      have TG := targetsB wr _ N o' (Pn.Ns.of_own (B := w.heap.size) (by rw [hLb.1]; exact hrow)) hLb h1 h2
      have hAr : wr.ownsRow w1.heap.size 3 1 (.slice ta N tc) N (Pn.ics (Pn.tgs o N)) := own_keep H2.out.1 (fun g e => hQ.out.2.block g (own_lt H2.out.1 e) (fun e2 => by
        have h1 := (H2.out.1.lt g e).1
        have h2 := own_lt H1.out.1 (g := lg) rfl
        have e3 : g = lg := e2
        omega))
      have kwr : Kp Nu w wr := ((H1.out.2.andNu H2.out.2).trans hQ.out.2 (fun g hg e => by
        have e3 : g = lg := e
        have h1 := (H1.out.1.lt lg rfl).1
        omega))
      have H3 := hide (And.intro hLb (And.intro hrow (And.intro hAr kwr)))
      clear hLb hrow hAr kwr hQ HI hi
      go_wp2_with fail
      refine TG.mono ?_; rintro e w3 ⟨ba, bc, rfl, hb3, hk3⟩
      have H4 := hide (And.intro hb3 hk3)
      have hol' := H3.out.1.1
      clear TG hb3 hk3 hltI
      go_wp2_with (at_builtin; refine unhid ?_)
      refine Pn.append_ns rfl _ _ rfl w3.heap.size (some ⟨lg, 0, none⟩) lc o' (by rw [hol']; omega) rfl (by rw [hol']; rfl) (by rw [hol']; exact Pn.Ns.of_own (B := w.heap.size) (by rw [hol']; exact own_nu H4.out.2 H3.out.2.1)) (fun e => by cases e) (Nat.le_refl _) ?_
      intro ca cc w4 hc4 hk4'
      rw [hol'] at hc4 ⊢
      have TG := targetsB w4 _ N o' (Pn.Ns.of_own (B := w3.heap.size) (by rw [hol']; exact hc4)) H3.out.1 h1 h2
      have H5 := hide (And.intro hc4 (Kp.ofPn hk4'))
      clear hc4 hk4' hol'
      go_wp2_with fail
      refine TG.mono ?_; rintro e w5 ⟨da, dc, rfl, hd5, hk5⟩
      have H6 := hide (And.intro hd5 hk5)
      have hol := HA.out.2.1.1
      have k05 : Kp Nu w w5 := ((H3.out.2.2.2.andNu H4.out.2).andNu H5.out.2).andNu hk5
      have H05 := hide k05
      clear TG hd5 hk5
      go_wp2_with (at_builtin; refine unhid ?_)
      refine Pn.append_ns rfl _ _ rfl w5.heap.size ra rc o (by rw [hol]; omega) rfl (by rw [hol]; rfl) (by rw [hol]; exact HA.out.1.nu H05.out.toPn) HA.out.2.2.1 (Nat.le_refl _) ?_
      intro ea ec w6 he6 hk6'
      rw [hol] at he6 ⊢
      have TG := targetsB w6 _ N o (Pn.Ns.of_own (B := w5.heap.size) (by rw [hol]; exact he6)) HA.out.2.1 h1 h2
      have H7 := hide (Kp.ofPn hk6')
      clear he6 hk6' hol k05
      go_wp2_with fail
      refine TG.mono ?_; rintro e w7 ⟨fa, fc, rfl, hf7, hk7⟩
      have k57 : Kp Nu w5 w7 := H7.out.andNu hk7
      have k07 : Kp Nu w w7 := H05.out.andNu k57
      have tl : ∀ o, (Pn.tgs o N).length = N := fun o => Pn.tgs_len o N
      have S1 := Pn.same11 w7 (.slice ba N bc) (.slice da N dc) (Pn.tgs o' N) (Pn.Ns.of_own (B := wr.heap.size) (by rw [tl]; exact own_nu k57 (own_nu H6.out.2 (own_nu H5.out.2 H4.out.1)))) (Pn.Ns.of_own (B := w4.heap.size) (by rw [tl]; exact own_nu k57 H6.out.1)) (by rw [tl]; omega)
      have S2 : ∀ W, Kp Nu w7 W → Calls Tryz.prog 18 #[.slice ta N tc, .slice fa N fc] W fun e w' => e = .returned (.bool true) ∧ Pn.Kp Pn.Nu W w' := fun W k =>
        Pn.same11 W _ _ (Pn.tgs o N) (Pn.Ns.of_own (B := w1.heap.size) (by rw [tl]; exact own_nu k (own_nu k57 (own_nu H6.out.2 (own_nu H5.out.2 (own_nu H4.out.2 H3.out.2.2.1)))))) (Pn.Ns.of_own (B := w6.heap.size) (by rw [tl]; exact own_nu k hf7)) (by rw [tl]; omega)
      have H8 := hide (And.intro k07 S2)
      have NU := fun W => Pn.num12 W 0
      clear TG hf7 hk7 k57 k07 tl S2
      go_wp2_with (first | (go_at_call 10; refine (NU _).mono ?_; rintro e w' ⟨rfl, hw'⟩; obtain rfl := hw'.symm))
      refine S1.mono ?_; rintro e w8 ⟨rfl, hk8⟩
      have S2 := H8.out.2 w8 (Kp.ofPn hk8)
      have H9 := hide (Kp.ofPn hk8)
      clear S1 hk8
      go_wp2_with fail
      refine S2.mono ?_; rintro e w9 ⟨rfl, hk9⟩
      have K9 : Hid (Kp Nu w w9) := hide ((H8.out.1.andNu H9.out).andNu (Kp.ofPn hk9))
      clear S2 hk9 H1 H2 H3 H4 H5 H6 H7 H8 H9 H05 eq2 hq2 h1 h2 hN0 hi0
      go_wp2_with (at_builtin; refine unhid ?_)
      obtain ⟨hS, hsa, eSL, hSl'⟩ := HA.out.2.2.2
      refine append_sg rfl _ _ rfl w9.heap.size sa sc S (by omega) rfl (by rw [eSL]; rfl) (hS.nu K9.out) hsa (Nat.le_refl _) ?_
      intro pa pc wA hpA hkA
      have hsb := hS.sgb
      rw [eSL] at hpA ⊢
      obtain ⟨pg, pc', el⟩ := own_blk hpA hS1
      simp only [Value.slice.injEq, true_and] at el
      obtain ⟨ela, elc⟩ := el
      subst ela
      have hSA : Sgs wA (.slice (some ⟨pg, 0, none⟩) SL pc) S := Sgs.of_own (B := w9.heap.size) (by rw [eSL]; exact hpA) hsb
      have PL := play15 wA _ (.slice none 0 0) S [] hSA (by omega) (mvs_nil _) (by simp)
      have HB := hide (And.intro hpA (And.intro hkA (And.intro hsb eSL)))
      clear hpA hkA elc hSA hS hsa eSL hSl' hsb
      go_wp2_with fail
      refine PL.mono ?_; rintro e wB ⟨pv, cp, rfl, hP, hkB⟩
      obtain ⟨qa, qn, qk, eq⟩ := hP.slice
      subst eq
      have HP := hide (And.intro hP hkB)
      have HI2 : Hid (∃ S', S'.length = SL ∧ (∀ s ∈ S', SgB s) ∧ wB.ownsRow w9.heap.size 38 3 (.slice (some ⟨pg, 0, none⟩) SL pc) SL (cells S')) := hide ⟨S, HB.out.2.2.2, HB.out.2.2.1, own_nu hkB HB.out.1⟩
      have eq3 : wrap64 ((SL : Int) / 2) = (SL : Int) / 2 := w64s (by omega) (by omega)
      have hq3 : SL / 2 ≤ 2048 := by omega
      clear PL hP hkB
      go_wp2
      go_loopw [18] (fun iv wr => ∃ i : Nat, iv = .int .i64 (i : Int) ∧ i ≤ SL / 2 ∧ Hid ((∃ S', S'.length = SL ∧ (∀ s ∈ S', SgB s) ∧ wr.ownsRow w9.heap.size 38 3 (.slice (some ⟨pg, 0, none⟩) SL pc) SL (cells S')) ∧ Kp (fun q => q = pg) wB wr)) (fun iv _ => SL / 2 - (intOf iv).toNat)
      case atStart => exact ⟨0, rfl, Nat.zero_le _, hide ⟨HI2.out, Kp.refl _ _⟩⟩
      case round =>
        obtain ⟨i, rfl, hi, hQ⟩ := hrel
        have hi0 := nz i
        by_cases hlt : i < SL / 2
        · have hltI : (i : Int) < (SL : Int) / 2 := by omega
          obtain ⟨n9, n10⟩ := half2 hlt
          have eti := tn i
          obtain ⟨S', hl', hb', hrow⟩ := hQ.out.1
          obtain ⟨x, hx⟩ : ∃ x, S'[i]? = some x := ⟨_, List.getElem?_eq_getElem (by rw [hl']; exact Nat.lt_trans n9 n10)⟩
          obtain ⟨y, hy⟩ : ∃ y, S'[SL - 1 - i]? = some y := ⟨_, List.getElem?_eq_getElem (by rw [hl']; exact n10)⟩
          have cx : wr.cell? ⟨pg, i * 3 + 2, none⟩ = some (.int .u8 x.h) := own_cell hrow (by rw [cells_at S' i x hx 2 (by decide)]; rfl)
          have cy : wr.cell? ⟨pg, (SL - 1 - i) * 3 + 2, none⟩ = some (.int .u8 y.h) := own_cell hrow (by rw [cells_at S' (SL - 1 - i) y hy 2 (by decide)]; rfl)
          have fx := own_free hrow (i * 3 + 2)
          have fy := own_free hrow ((SL - 1 - i) * 3 + 2)
          have HX := hide (And.intro hl' (And.intro hb' (And.intro hrow (And.intro hx (And.intro hy (And.intro n9 n10))))))
          have hfin := hide (fin20 hlt)
          have cy2 : (wr.setCell ⟨pg, i * 3 + 2, none⟩ (.int .u8 y.h)).cell? ⟨pg, (SL - 1 - i) * 3 + 2, none⟩ = some (.int .u8 y.h) := by rw [World.cell?_setCell_other _ _ _ _ (by intro h; simp at h <;> omega)]; exact cy
          have cx2 : (wr.setCell ⟨pg, i * 3 + 2, none⟩ (.int .u8 y.h)).cell? ⟨pg, i * 3 + 2, none⟩ = some (.int .u8 y.h) := World.cell?_setCell_same _ _ _ cx
          obtain ⟨eK1, eK2⟩ := wk1 (k := i) (Nat.le_trans (Nat.le_of_lt hlt) (Nat.le_trans hq3 (by decide)))
          obtain ⟨n1, n2, n3, n4, n5, n6, n7, n8⟩ := halfS hSl hlt
          generalize hXh : x.h = xh at cx
          generalize hYh : y.h = yh at cy cy2 cx2
          have HXY := hide (And.intro hXh hYh)
          clear hl' hb' hrow hx hy n9 n10 hi hlt hq3 hSl hS1 hXh hYh
          go_wp2_with fail
          go_region
          go_wp2
          obtain ⟨hl', hb', hrow, hx, hy, n9, n10⟩ := HX.out
          obtain ⟨eX, eY⟩ := HXY.out
          refine ⟨⟨i + 1, ins i, hfin.out.1, hide ⟨⟨(S'.set i ⟨x.lo, x.hi, yh⟩).set (SL - 1 - i) ⟨y.lo, y.hi, xh⟩, by rw [List.length_set, List.length_set]; exact hl', fun z hz => ?_, ?_⟩, ((hQ.out.2.andSet _ _ (.inr rfl)).andSet _ _ (.inr rfl)).drew⟩⟩, by simp only [intOf]; rw [tns, tn]; exact hfin.out.2⟩
          · have bx := hb' x (List.mem_of_getElem? hx)
            have by_ := hb' y (List.mem_of_getElem? hy)
            rcases List.mem_or_eq_of_mem_set hz with hz | hz
            · rcases List.mem_or_eq_of_mem_set hz with hz | hz
              · exact hb' z hz
              · rw [hz, ← eY]; exact ⟨bx.1, bx.2, bx.3, bx.4, by_.5, by_.6⟩
            · rw [hz, ← eX]; exact ⟨by_.1, by_.2, by_.3, by_.4, bx.5, bx.6⟩
          · have h1 := own_put hrow (i * 3 + 2) (.int .u8 yh) (by rw [cells_length, hl']; omega)
            rw [cells_set hx] at h1
            have hy2 : (S'.set i ⟨x.lo, x.hi, yh⟩)[SL - 1 - i]? = some y := by rw [List.getElem?_set_ne (by omega)]; exact hy
            have h2 := own_put h1 ((SL - 1 - i) * 3 + 2) (.int .u8 xh) (by rw [cells_length, List.length_set, hl']; omega)
            rw [cells_set hy2] at h2
            exact h2
        · have hltI : ¬ (i : Int) < (SL : Int) / 2 := by omega
          obtain ⟨S', hl', hb', hrow⟩ := hQ.out.1
          have PL := play15 wr _ (.slice none 0 0) S' [] (Sgs.of_own (B := w9.heap.size) (by rw [hl']; exact hrow) hb') (by omega) (mvs_nil _) (by simp)
          have hPr : PlR wA wr S [] (.slice qa qn qk) cp := HP.out.1.keep hQ.out.2 (fun g hg e => by
            have h2 := own_lt HB.out.1 (g := pg) rfl
            have e3 : g = pg := e
            omega)
          have kr : Kp Nu w wr := ((K9.out.andNu HB.out.2.1).andNu HP.out.2).trans hQ.out.2 (fun g hg e => by
            have h2 := (HB.out.1.lt pg rfl).1
            have e3 : g = pg := e
            have := K9.out.size
            omega)
          have H1 := hide (And.intro hl' (And.intro hb' (And.intro hrow (And.intro hPr kr))))
          clear hl' hb' hrow hPr kr hQ HI2 hi hq3
          go_wp2_with fail
          refine PL.mono ?_; rintro e wC ⟨qv, cq, rfl, hq, hkC⟩
          obtain ⟨ba, bn, bk, eb⟩ := hq.slice
          subst eb
          have H2 := hide (And.intro hq hkC)
          have hl' := H1.out.1
          clear PL hq hkC hltI eq3
          go_wp2_with (at_builtin; refine unhid ?_)
          refine append_sg rfl _ _ rfl wC.heap.size (some ⟨pg, 0, none⟩) pc S' (by omega) rfl (by rw [hl']; rfl) (by rw [hl']; exact Sgs.of_own (B := w9.heap.size) (by rw [hl']; exact own_nu H2.out.2 H1.out.2.2.1) H1.out.2.1) (fun e => by cases e) (Nat.le_refl _) ?_
          intro ca cc wD hcD hkD
          have PL := play15 wD _ (.slice none 0 0) S' [] (Sgs.of_own hcD H1.out.2.1) (by omega) (mvs_nil _) (by simp)
          rw [hl'] at PL ⊢
          have H3 := hide hkD
          clear hcD hkD hl'
          go_wp2_with fail
          refine PL.mono ?_; rintro e wE ⟨rv, cr, rfl, hr, hkE⟩
          obtain ⟨da, dn, dk, ed⟩ := hr.slice
          subst ed
          have kE : Kp Nu w wE := ((H1.out.2.2.2.2.andNu H2.out.2).andNu H3.out).andNu hkE
          have H4 := hide (And.intro hr (And.intro hkE kE))
          obtain ⟨hS, hsa, eSL, hSl'⟩ := HA.out.2.2.2
          have hsb := hS.sgb
          have hSE := hS.nu kE
          clear PL hr hkE kE
          go_wp2_with (at_builtin; refine unhid ?_)
          refine append_sg rfl _ _ rfl wE.heap.size sa sc S (by omega) rfl (by rw [eSL]; rfl) hSE hsa (Nat.le_refl _) ?_
          intro ea ec wF heF hkF
          have PL := play15 wF _ (.slice none 0 0) S [] (Sgs.of_own heF hsb) (by omega) (mvs_nil _) (by simp)
          rw [eSL] at PL ⊢
          have H5 := hide (And.intro hkF hsb)
          clear heF hkF hS hsa eSL hSl' hSE hsb
          go_wp2_with fail
          refine PL.mono ?_; rintro e wG ⟨tv, ct, rfl, ht, hkG⟩
          obtain ⟨fa, fn, fk, ef⟩ := ht.slice
          subst ef
          have kEG : Kp Nu wE wG := H5.out.1.andNu hkG
          have kCG : Kp Nu wC wG := (H3.out.andNu H4.out.2.1).andNu kEG
          have hp1 : PlR wA wG S [] (.slice qa qn qk) cp := H1.out.2.2.2.1.keep (H2.out.2.andNu kCG) (fun _ _ e => e)
          have hq1 : PlR wr wG S' [] (.slice ba bn bk) cq := H2.out.1.keep kCG (fun _ _ e => e)
          have hr1 : PlR wD wG S' [] (.slice da dn dk) cr := H4.out.1.keep kEG (fun _ _ e => e)
          obtain ⟨rfl, R1, l1, s1, s2⟩ := plr_two (W := wG) H5.out.2 hp1 ht
          obtain ⟨rfl, R2, l2, s3, s4⟩ := plr_two (W := wG) H1.out.2.1 hq1 hr1
          have SS1 := sameSegments17 wG _ _ R2 s3 s4 (by omega)
          have SS2 : ∀ W, Kp Nu wG W → Calls Tryz.prog 13 #[.slice qa qn qk, .slice fa fn fk] W fun e w' => e = .returned (.bool true) ∧ Kp Nu W w' := fun W k => sameSegments17 W _ _ R1 (s1.nu k) (s2.nu k) (by omega)
          have H6 := hide (And.intro (H4.out.2.2.andNu kEG) SS2)
          have NU := fun W x => Pn.num12 W x
          have e1 : (cp == cp) = true := by simp
          have e2 : (cq == cq) = true := by simp
          clear PL ht hkG kEG kCG hp1 hq1 hr1 l1 s1 s2 l2 s3 s4 SS2
          go_wp2_with (first | (go_at_call 10; refine (NU _ _).mono ?_; rintro e w' ⟨rfl, hw'⟩; obtain rfl := hw'.symm))
          refine SS1.mono ?_; rintro e wH ⟨rfl, hkH⟩
          have SS2 := H6.out.2 wH hkH
          have H7 := hide hkH
          clear SS1 hkH
          go_wp2_with fail
          refine SS2.mono ?_; rintro e wI ⟨rfl, hkI⟩
          have H8 := hide hkI
          clear SS2 hkI
          go_wp2
          go_ret
          exact ⟨rfl, (H6.out.1.andNu H7.out).andNu H8.out⟩
end Go.Proofs.YtbifmcadllilhaaGreat.Rg
namespace Go.Proofs.YtbifmcadllilhaaGreat.Pn
open Go.RowKit Ieee
set_option linter.unusedVariables false
set_option linter.unusedSimpArgs false
/-- a whole number, read from its word -/
theorem read_int (m : Nat) (h0 : 0 < m) (h1 : m < 2 ^ 41) : double.read (double.nearest false m 0) = .number false (m * 2 ^ (52 - m.log2)) ((m.log2 : Int) - 52) := by
  have hl : m.log2 < 41 := (Nat.log2_lt (by omega)).2 h1
  have hm := Nat.lt_log2_self (n := m)
  have hm2 := Nat.log2_self_le (n := m) (by omega)
  have e1 : max ((0 : Int) + (m.log2 : Int) - (double.fractionBits : Int)) double.leastPlace = (m.log2 : Int) - 52 := by
    have : double.leastPlace = -1074 := rfl
    have h2 : double.fractionBits = 52 := rfl
    rw [this, h2]
    omega
  have e2 : ((m.log2 : Int) - 52 - 0).toNat = 0 := by omega
  have e3 : ((0 : Int) - ((m.log2 : Int) - 52)).toNat = 52 - m.log2 := by omega
  have e4 : ((m.log2 : Int) - 52 - double.leastPlace).toNat = 1022 + m.log2 := by
    have : double.leastPlace = -1074 := rfl
    rw [this]
    omega
  have hb : double.binade = 2 ^ 52 := rfl
  have hi : double.infRung = 2047 * 2 ^ 52 := rfl
  have hs : double.signWeight = 2 ^ 63 := rfl
  have hlp : double.leastPlace = -1074 := rfl
  have hk : m * 2 ^ (52 - m.log2) < 2 ^ 53 := by
    have : m * 2 ^ (52 - m.log2) < 2 ^ (m.log2 + 1) * 2 ^ (52 - m.log2) := Nat.mul_lt_mul_of_pos_right hm (Nat.pow_pos (by decide))
    rw [← Nat.pow_add] at this
    have e : m.log2 + 1 + (52 - m.log2) = 53 := by omega
    rw [e] at this
    exact this
  have hk2 : 2 ^ 52 ≤ m * 2 ^ (52 - m.log2) := by
    have : 2 ^ m.log2 * 2 ^ (52 - m.log2) ≤ m * 2 ^ (52 - m.log2) := Nat.mul_le_mul_right _ hm2
    rw [← Nat.pow_add] at this
    have e : m.log2 + (52 - m.log2) = 52 := by omega
    rw [e] at this
    exact this
  have eN : double.nearest false m 0 = (1022 + m.log2) * 2 ^ 52 + m * 2 ^ (52 - m.log2) := by
    unfold Format.nearest
    rw [if_neg (by omega)]
    simp only [e1, e2, e3, e4, hb, hi, cut0, Nat.shiftLeft_eq]
    rw [Nat.min_eq_left]
    · simp [Format.word]
    · omega
  rw [eN]
  generalize m * 2 ^ (52 - m.log2) = K at hk hk2
  unfold Format.read
  simp only [hb, hi, hs, hlp]
  have q1 : ((1022 + m.log2) * 2 ^ 52 + K) % 2 ^ 63 = (1022 + m.log2) * 2 ^ 52 + K := Nat.mod_eq_of_lt (by omega)
  have q2 : ((1022 + m.log2) * 2 ^ 52 + K) / 2 ^ 63 = 0 := Nat.div_eq_of_lt (by omega)
  rw [q1, q2]
  rw [if_neg (by omega), if_pos (by omega)]
  have q3 : ((1022 + m.log2) * 2 ^ 52 + K) % 2 ^ 52 = K - 2 ^ 52 := by omega
  have q4 : ((1022 + m.log2) * 2 ^ 52 + K) / 2 ^ 52 = 1023 + m.log2 := by omega
  have q5 : 2 ^ 52 + (K - 2 ^ 52) = K := by omega
  have q6 : (-1074 : Int) + ((1023 + m.log2 - 1 : Nat) : Int) = (m.log2 : Int) - 52 := by omega
  rw [q3, q4, q5, q6]
  rfl
/-- to the nearest, between two the even one -/
theorem cut_near (M d : Nat) (hd : d ≤ M.log2 + 2) : 2 * (Toward.even.cut false M d * 2 ^ d) ≤ 2 * M + 2 ^ d ∧ 2 * M ≤ 2 * (Toward.even.cut false M d * 2 ^ d) + 2 ^ d ∧
    (2 * (Toward.even.cut false M d * 2 ^ d) = 2 * M + 2 ^ d → Toward.even.cut false M d % 2 = 0) ∧ (2 * M = 2 * (Toward.even.cut false M d * 2 ^ d) + 2 ^ d → Toward.even.cut false M d % 2 = 0) := by
  unfold Toward.cut
  rw [Nat.min_eq_left hd, Nat.shiftLeft_eq, Nat.one_mul]
  have hg : 0 < 2 ^ d := Nat.pow_pos (by decide)
  generalize 2 ^ d = g at hg
  have h1 := Nat.div_add_mod M g
  have h2 := Nat.mod_lt M hg
  simp only
  generalize M / g = lo at h1
  generalize M % g = r at h1 h2
  have h3 : lo * g = g * lo := Nat.mul_comm _ _
  by_cases c1 : g < 2 * r
  · simp only [c1, decide_true, Bool.true_or, Bool.toNat_true, Nat.add_mul, Nat.one_mul]
    generalize lo * g = X at h3
    refine ⟨by omega, by omega, by omega, by omega⟩
  · by_cases c2 : g = 2 * r
    · by_cases c3 : lo % 2 = 1
      · simp only [c1, c2, c3, decide_false, beq_self_eq_true, Bool.and_self, Bool.or_true, Bool.toNat_true, Nat.add_mul, Nat.one_mul]
        rw [← c2]
        generalize lo * g = X at h3
        refine ⟨by omega, by omega, by omega, by omega⟩
      · have c4 : (lo % 2 == 1) = false := by simpa using c3
        simp only [c1, c4, decide_false, Bool.and_false, Bool.or_false, Bool.toNat_false, Nat.add_zero]
        generalize lo * g = X at h3
        refine ⟨by omega, by omega, by omega, by omega⟩
    · have c4 : (g == 2 * r) = false := by simpa using c2
      simp only [c1, c4, decide_false, Bool.false_and, Bool.or_false, Bool.toNat_false, Nat.add_zero]
      generalize lo * g = X at h3
      refine ⟨by omega, by omega, by omega, by omega⟩
theorem log_of {x k : Nat} (h1 : 2 ^ k ≤ x) (h2 : x < 2 ^ (k + 1)) : x.log2 = k := by
  have hx : x ≠ 0 := by have := Nat.pow_pos (n := k) (show 0 < 2 by decide); omega
  have a := (Nat.le_log2 hx).2 h1
  have b := (Nat.log2_lt hx).2 h2
  omega
/-- the nearest to a quotient: 2^d n K against 2 D, of the digits and the sticky one -/
theorem sticky {D n d q s K r : Nat} (hn : 0 < n) (hd : 2 ≤ d) (hD : D = n * q + r) (hr : r < n) (hs : s = (r != 0).toNat)
    (h1 : 2 * (K * 2 ^ d) ≤ 2 * (2 * q + s) + 2 ^ d) (h2 : 2 * (2 * q + s) ≤ 2 * (K * 2 ^ d) + 2 ^ d) (h3 : 2 * (K * 2 ^ d) = 2 * (2 * q + s) + 2 ^ d → K % 2 = 0) (h4 : 2 * (2 * q + s) = 2 * (K * 2 ^ d) + 2 ^ d → K % 2 = 0) :
    2 * K * (n * 2 ^ d) ≤ 4 * D + n * 2 ^ d ∧ 4 * D ≤ 2 * K * (n * 2 ^ d) + n * 2 ^ d ∧ (2 * K * (n * 2 ^ d) = 4 * D + n * 2 ^ d → K % 2 = 0) ∧ (4 * D = 2 * K * (n * 2 ^ d) + n * 2 ^ d → K % 2 = 0) := by
  obtain ⟨e, rfl⟩ : ∃ e, d = e + 2 := ⟨d - 2, by omega⟩
  have hp : 2 ^ (e + 2) = 4 * 2 ^ e := by rw [Nat.pow_add]; omega
  rw [hp] at h1 h2 h3 h4 ⊢
  generalize 2 ^ e = g at h1 h2 h3 h4 ⊢
  have e1 : K * (4 * g) = 4 * (K * g) := by rw [Nat.mul_left_comm]
  rw [e1] at h1 h2 h3 h4
  have e2 : 2 * K * (n * (4 * g)) = n * (8 * (K * g)) := by
    rw [Nat.mul_left_comm n 4 g, Nat.mul_assoc 2 K, Nat.mul_left_comm K 4, Nat.mul_left_comm K n g, ← Nat.mul_assoc 2 4, Nat.mul_left_comm]
  rw [e2, hD]
  generalize K * g = X at h1 h2 h3 h4 ⊢
  have e3 : 4 * (n * q + r) = n * (4 * q) + 4 * r := by rw [Nat.mul_add, Nat.mul_left_comm]
  rw [e3]
  have hs2 : (r = 0 ∧ s = 0) ∨ (0 < r ∧ s = 1) := by
    by_cases c : r = 0
    · exact .inl ⟨c, by rw [hs, c]; rfl⟩
    · have : (r != 0) = true := by simpa using c
      exact .inr ⟨by omega, by rw [hs, this]; rfl⟩
  have m1 : 8 * X ≤ 4 * q + 4 * g := by omega
  have m1' := Nat.mul_le_mul_left n m1
  rw [Nat.mul_add] at m1'
  rcases hs2 with ⟨r0, s0⟩ | ⟨r0, s1⟩
  · subst r0 s0
    have m2 : 4 * q ≤ 8 * X + 4 * g := by omega
    have m2' := Nat.mul_le_mul_left n m2
    rw [Nat.mul_add] at m2'
    refine ⟨by omega, by omega, fun h => h3 ?_, fun h => h4 ?_⟩
    · have : n * (8 * X) = n * (4 * q + 4 * g) := by rw [Nat.mul_add]; omega
      have := Nat.eq_of_mul_eq_mul_left hn this
      omega
    · have : n * (4 * q) = n * (8 * X + 4 * g) := by rw [Nat.mul_add]; omega
      have := Nat.eq_of_mul_eq_mul_left hn this
      omega
  · subst s1
    have m2 : 4 * q + 4 ≤ 8 * X + 4 * g := by omega
    have m2' := Nat.mul_le_mul_left n m2
    rw [Nat.mul_add, Nat.mul_add] at m2'
    refine ⟨by omega, by omega, fun h => ?_, fun h => ?_⟩
    · omega
    · omega
end Go.Proofs.YtbifmcadllilhaaGreat.Pn
