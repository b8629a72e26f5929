import Derived.Test.YtgaehpdlljlliaaRdC
namespace Go.Proofs.Ytgaehpdlljlliaa.Cd
open Go.RowKit
set_option linter.unusedVariables false

set_option maxRecDepth 100000 in
set_option maxHeartbeats 1600000 in
theorem grouped_any {w : World} {u : Value} {D : List Int} (h : Rd w u D) (hB : Byt D) (hl : D.length ≤ 16777216) (A : Nat) (hA : A ≤ D.length) :
    Calls Try.prog 81 #[u, .int .i64 (A : Int)] w fun e w' => e = .returned (.tuple #[.int .u64 (gv 0 0 (D.drop A)).1, .int .i64 (gv 0 0 (D.drop A)).2.1, .int .i64 (gv 0 0 (D.drop A)).2.2]) ∧ Kp Nu w w' := by
  obtain ⟨xs, hxs⟩ : ∃ xs, D.drop A = xs := ⟨_, rfl⟩
  have hxl : xs.length = D.length - A := by rw [← hxs, List.length_drop]
  have hBx : Byt xs := hxs ▸ hB.drop A
  have HC : Hid (∀ k (hk : k < xs.length), ∃ ab ao cap, u = .slice (some ⟨ab, ao, none⟩) D.length cap ∧ w.cell? ⟨ab, ao + (A + k), none⟩ = some (.int .u8 xs[k]) ∧ 0 ≤ xs[k] ∧ xs[k] ≤ 255) := by
    intro k hk
    have hk2 : A + k < D.length := by omega
    rcases h with ⟨_, e⟩ | ⟨a, cap, e, hc⟩
    · subst e; simp at hk2
    · obtain ⟨ab, ao, e1, _, h3⟩ := addr_of hc hk2
      subst e1
      have e2 : xs[k] = D[A + k] := by
        subst hxs
        simp
      rw [e2]
      exact ⟨ab, ao, cap, e, h3, hB D[A + k] (List.getElem_mem hk2)⟩
  obtain ⟨ad, cap, hu⟩ := h.slice
  subst hu
  have HL : Hid (xs.length = D.length - A) := hxl
  have hDl : (D.length : Int) ≤ 16777216 := by omega
  have hAI : (A : Int) ≤ (D.length : Int) := by omega
  have HBX := hide hBx
  rw [hxs]
  obtain ⟨r, hr⟩ : ∃ r, gv 0 0 xs = r := ⟨_, rfl⟩
  have HR := hide hr
  rw [hr]
  generalize D.length = L at *
  clear h hB hxs hxl hBx hl hr
  go_enter Try.func81, Try.ntmps81
  go_wp2_with fail
  go_loop [7] (fun i => ∃ e : Nat, e ≤ 9 ∧ i = .int .i64 ((A : Int) + (e : Int)) ∧ A + e ≤ L ∧ Hid (gv 0 0 xs = gv e (hor (xs.take e)) (xs.drop e))) (fun i => L - (intOf i).toNat)
  case atStart => exact ⟨0, by omega, by simp, hA, by simp [Hid, hor]⟩
  case round =>
    obtain ⟨e, he9, rfl, heL, HG⟩ := hrel
    by_cases hend : A + e = L
    · have hs := gr_short (by have := HL.out; omega) HG.out
      have HS : Hid (r = (0, 0, 21)) := HR.out.symm.trans hs
      have h1 : (A : Int) + (e : Int) = (L : Int) := by omega
      rw [h1]
      clear HG hs
      go_wp2
      exact bodyPost_ret (v := .tuple #[.int .u64 0, .int .i64 0, .int .i64 21]) (by simp [results, Try.results81, go_sem]) rfl ⟨by rw [HS.out], Kp.refl _ _⟩
    · have hex : e < xs.length := by have := HL.out; omega
      obtain ⟨ab, ao, cp, ea, hcell, z0, z1⟩ := HC.out e hex
      simp only [Value.slice.injEq] at ea
      obtain ⟨e1, _, e3⟩ := ea
      subst e1 e3
      have hltI : (A : Int) + (e : Int) < (L : Int) := by omega
      have hneI : ¬ (A : Int) + (e : Int) = (L : Int) := by omega
      have hge0 : (0 : Int) ≤ (A : Int) + (e : Int) := by omega
      by_cases hgo : e < 9 ∧ xs[e] ≥ 128
      · have hs := gr_step hgo.1 hex HG.out hgo.2
        have HS := hide hs
        have h9 : (A : Int) + (e : Int) < (A : Int) + 9 := by omega
        have hz := hgo.2
        clear hs HG hgo
        generalize xs[e] = z at *
        go_wp2
        exact ⟨⟨e + 1, by omega, by go_num, by omega, HS.out⟩, by simp [intOf]; omega⟩
      · by_cases hw : e = 9 ∧ xs[e] > 1
        · obtain ⟨rfl, hw⟩ := hw
          have hs := gr_wide hex HG.out hw
          have HS : Hid (r = (0, 0, 23)) := HR.out.symm.trans hs
          clear hs HG hgo
          generalize xs[9] = z at *
          go_wp2
          exact bodyPost_ret (v := .tuple #[.int .u64 0, .int .i64 0, .int .i64 23]) (by simp [results, Try.results81, go_sem]) rfl ⟨by rw [HS.out], Kp.refl _ _⟩
        · have hz : xs[e] < 128 := by
            by_cases h9 : e = 9
            · have : ¬ xs[e] > 1 := fun h => hw ⟨h9, h⟩
              omega
            · have : ¬ xs[e] ≥ 128 := fun h => hgo ⟨by omega, h⟩
              omega
          obtain ⟨hXb, hfin⟩ := gr_end HBX.out he9 hex HG.out hw hz
          have HFIN := hide (HR.out.symm.trans hfin)
          have hX0 := hor_nn (xs.take (e + 1))
          have GR := fun w => groups_any w (hor (xs.take (e + 1))).toNat (by omega)
          rw [show (((hor (xs.take (e + 1))).toNat : Nat) : Int) = hor (xs.take (e + 1)) by omega] at GR
          have hvl := va_le (hor (xs.take (e + 1))).toNat
          have HST : Hid (∀ j (hj : j < e + 1), hor ((xs.take (e + 1)).drop j) = hor ((xs.take (e + 1)).drop (j + 1)) * 128 + (xs[j]'(by omega)) % 128 ∧ 0 ≤ hor ((xs.take (e + 1)).drop (j + 1)) ∧ hor ((xs.take (e + 1)).drop j) < 18446744073709551616) := by
            intro j hj
            have hj2 : j < (xs.take (e + 1)).length := by rw [List.length_take]; omega
            refine ⟨?_, hor_nn _, Int.lt_of_le_of_lt (hor_drop_le _ _) hXb⟩
            rw [drop_cons hj2, hor, List.getElem_take]
            omega
          have HXE : Hid (hor ((xs.take (e + 1)).drop (e + 1)) = 0) := by
            show _ = _
            rw [List.drop_of_length_le (by rw [List.length_take]; omega)]
            rfl
          have HX0 : Hid (hor ((xs.take (e + 1)).drop 0) = hor (xs.take (e + 1))) := rfl
          have hexL : (e : Int) ≤ 9 := by omega
          have hzz : ¬ xs[e] ≥ 128 := by omega
          have hwf : e = 9 → ¬ xs[e] > 1 := fun h9 h => hw ⟨h9, h⟩
          have HCC : Hid (∀ k (hk : k < e + 1), w.cell? ⟨ab, ao + (A + k), none⟩ = some (.int .u8 (xs[k]'(by omega))) ∧ 0 ≤ xs[k]'(by omega) ∧ xs[k]'(by omega) ≤ 255) := by
            intro k hk
            obtain ⟨ab', ao', cp', ea, h3, h4⟩ := HC.out k (by omega)
            simp only [Value.slice.injEq, Option.some.injEq, Addr.mk.injEq] at ea
            obtain ⟨⟨rfl, rfl, _⟩, _, rfl⟩ := ea
            exact ⟨h3, h4⟩
          have HEX := hide hex
          clear hfin HG hgo hw HBX HC
          generalize hse : xs.take (e + 1) = seg at *
          generalize hxe : xs[e] = ze at *
          by_cases he9' : e = 9
          · have hw1 := hwf he9'
            have hlt9 : ¬ (A : Int) + (e : Int) < (A : Int) + 9 := by omega
            have heq9 : ((A : Int) + (e : Int) == (A : Int) + 9) = true := by simp; omega
            have hcell9 : w.cell? ⟨ab, ao + (A + 9), none⟩ = some (.int .u8 ze) := by rw [← he9']; exact hcell
            clear hwf
            go_wp2_with fail
            go_loop [8, 9] (fun x i => ∃ j : Nat, j ≤ e + 1 ∧ x = .int .u64 (hor (seg.drop j)) ∧ i = .int .i64 ((A : Int) + (j : Int) - 1)) (fun _ i => (intOf i + 1 - (A : Int)).toNat)
            case atStart => exact ⟨e + 1, by omega, by rw [HXE.out], by first | go_num | (congr 1; omega)⟩
            case round =>
              obtain ⟨j, hj, rfl, rfl⟩ := hrel
              match j, hj with
              | 0, hj =>
                have hi : ¬ (A : Int) + ((0 : Nat) : Int) - 1 ≥ (A : Int) := by omega
                rw [HX0.out]
                by_cases hv : (va (hor seg).toNat).length = e + 1
                · have HRR : Hid (r = (hor seg, (e : Int) + 1, 0)) := by
                    have := HFIN.out
                    rw [if_pos hv] at this
                    exact this
                  have hv2 : ((va (hor seg).toNat).length : Int) = (e : Int) + 1 := by omega
                  generalize hor seg = X at *
                  clear HST HFIN HCC HXE HX0
                  go_wp2_with fail
                  refine (GR _).mono ?_; rintro e' w2 ⟨g, rfl, hg⟩
                  obtain ⟨ag, cg, hgs⟩ := hg.1.slice
                  have hkg := hg.2.2
                  subst hgs
                  rw [hv]
                  have hq : (((e + 1 : Nat) : Int) != (A : Int) + (e : Int) + 1 - (A : Int)) = false := by
                    simp
                    omega
                  have hq3 : ((e : Int) + 1 != (A : Int) + (e : Int) + 1 - (A : Int)) = false := by
                    simp
                    omega
                  have hq5 : (((e + 1 : Nat) : Int) != (A : Int) + 9 + 1 - (A : Int)) = false := by
                    simp
                    omega
                  have hq6 : ((e : Int) + 1 != (A : Int) + 9 + 1 - (A : Int)) = false := by
                    simp
                    omega
                  clear hg GR
                  go_wp2
                  exact bodyPost_ret (v := .tuple #[.int .u64 X, .int .i64 ((e : Int) + 1), .int .i64 0]) (by simp [results, Try.results81, go_sem] <;> omega) rfl ⟨by rw [HRR.out], hkg⟩
                · have HRR : Hid (r = (0, 0, 22)) := by
                    have := HFIN.out
                    rw [if_neg hv] at this
                    exact this
                  generalize hor seg = X at *
                  generalize hvv : (va X.toNat).length = V at *
                  have HVV := hide hvv
                  clear HST HFIN HCC HXE HX0
                  go_wp2_with fail
                  refine (GR _).mono ?_; rintro e' w2 ⟨g, rfl, hg⟩
                  obtain ⟨ag, cg, hgs⟩ := hg.1.slice
                  have hkg := hg.2.2
                  subst hgs
                  rw [HVV.out]
                  have hvI : (V : Int) ≤ 10 := by omega
                  have hq : ((V : Int) != (A : Int) + (e : Int) + 1 - (A : Int)) = true := by
                    simp
                    omega
                  have hq5 : ((V : Int) != (A : Int) + 9 + 1 - (A : Int)) = true := by
                    simp
                    omega
                  clear hg GR hvv
                  go_wp2
                  exact bodyPost_ret (v := .tuple #[.int .u64 0, .int .i64 0, .int .i64 22]) (by simp [results, Try.results81, go_sem]) rfl ⟨by rw [HRR.out], hkg⟩
              | j + 1, hj =>
                have hje : j < e + 1 := by omega
                obtain ⟨hc1, y0, y1⟩ := HST.out j hje
                obtain ⟨hcl, q0, q1⟩ := HCC.out j hje
                have HY := hide hc1
                have e1 : (A : Int) + ((j + 1 : Nat) : Int) - 1 = (A : Int) + (j : Int) := by omega
                rw [e1]
                have hjI : (A : Int) + (j : Int) ≥ (A : Int) := by omega
                have hjL : (A : Int) + (j : Int) < (L : Int) := by omega
                have hj0 : (0 : Int) ≤ (A : Int) + (j : Int) := by omega
                rw [hc1] at y1
                generalize hor (seg.drop (j + 1)) = y at *
                generalize xs[j]'(by have := HEX.out; omega) = zj at *
                clear HST HCC hc1 e1 HXE HX0 HFIN GR
                go_wp2
                exact ⟨⟨j, by omega, by rw [HY.out], by go_num⟩, by simp [intOf]; omega⟩
          · have hlt9 : (A : Int) + (e : Int) < (A : Int) + 9 := by omega
            have hne9 : ((A : Int) + (e : Int) == (A : Int) + 9) = false := by simp; omega
            clear hwf
            go_wp2_with fail
            go_loop [8, 9] (fun x i => ∃ j : Nat, j ≤ e + 1 ∧ x = .int .u64 (hor (seg.drop j)) ∧ i = .int .i64 ((A : Int) + (j : Int) - 1)) (fun _ i => (intOf i + 1 - (A : Int)).toNat)
            case atStart => exact ⟨e + 1, by omega, by rw [HXE.out], by go_num⟩
            case round =>
              obtain ⟨j, hj, rfl, rfl⟩ := hrel
              match j, hj with
              | 0, hj =>
                have hi : ¬ (A : Int) + ((0 : Nat) : Int) - 1 ≥ (A : Int) := by omega
                rw [HX0.out]
                by_cases hv : (va (hor seg).toNat).length = e + 1
                · have HRR : Hid (r = (hor seg, (e : Int) + 1, 0)) := by
                    have := HFIN.out
                    rw [if_pos hv] at this
                    exact this
                  have hv2 : ((va (hor seg).toNat).length : Int) = (e : Int) + 1 := by omega
                  generalize hor seg = X at *
                  clear HST HFIN HCC HXE HX0
                  go_wp2_with fail
                  refine (GR _).mono ?_; rintro e' w2 ⟨g, rfl, hg⟩
                  obtain ⟨ag, cg, hgs⟩ := hg.1.slice
                  have hkg := hg.2.2
                  subst hgs
                  rw [hv]
                  have hq : (((e + 1 : Nat) : Int) != (A : Int) + (e : Int) + 1 - (A : Int)) = false := by
                    simp
                    omega
                  have hq3 : ((e : Int) + 1 != (A : Int) + (e : Int) + 1 - (A : Int)) = false := by
                    simp
                    omega
                  clear hg GR
                  go_wp2
                  exact bodyPost_ret (v := .tuple #[.int .u64 X, .int .i64 ((e : Int) + 1), .int .i64 0]) (by simp [results, Try.results81, go_sem]) rfl ⟨by rw [HRR.out], hkg⟩
                · have HRR : Hid (r = (0, 0, 22)) := by
                    have := HFIN.out
                    rw [if_neg hv] at this
                    exact this
                  generalize hor seg = X at *
                  generalize hvv : (va X.toNat).length = V at *
                  have HVV := hide hvv
                  clear HST HFIN HCC HXE HX0
                  go_wp2_with fail
                  refine (GR _).mono ?_; rintro e' w2 ⟨g, rfl, hg⟩
                  obtain ⟨ag, cg, hgs⟩ := hg.1.slice
                  have hkg := hg.2.2
                  subst hgs
                  rw [HVV.out]
                  have hvI : (V : Int) ≤ 10 := by omega
                  have hq : ((V : Int) != (A : Int) + (e : Int) + 1 - (A : Int)) = true := by
                    simp
                    omega
                  clear hg GR hvv
                  go_wp2
                  exact bodyPost_ret (v := .tuple #[.int .u64 0, .int .i64 0, .int .i64 22]) (by simp [results, Try.results81, go_sem]) rfl ⟨by rw [HRR.out], hkg⟩
              | j + 1, hj =>
                have hje : j < e + 1 := by omega
                obtain ⟨hc1, y0, y1⟩ := HST.out j hje
                obtain ⟨hcl, q0, q1⟩ := HCC.out j hje
                have HY := hide hc1
                have e1 : (A : Int) + ((j + 1 : Nat) : Int) - 1 = (A : Int) + (j : Int) := by omega
                rw [e1]
                have hjI : (A : Int) + (j : Int) ≥ (A : Int) := by omega
                have hjL : (A : Int) + (j : Int) < (L : Int) := by omega
                have hj0 : (0 : Int) ≤ (A : Int) + (j : Int) := by omega
                rw [hc1] at y1
                generalize hor (seg.drop (j + 1)) = y at *
                generalize xs[j]'(by have := HEX.out; omega) = zj at *
                clear HST HCC hc1 e1 HXE HX0 HFIN GR
                go_wp2
                exact ⟨⟨j, by omega, by rw [HY.out], by go_num⟩, by simp [intOf]; omega⟩
end Go.Proofs.Ytgaehpdlljlliaa.Cd
