import Derived.Test.YtfpaagdiogdnoaaAcE
namespace Go.Proofs.Ytfpaagdiogdnoaa.Cd
open Go.RowKit
set_option linter.unusedVariables false
set_option maxRecDepth 100000 in
set_option maxHeartbeats 4000000 in
theorem samePairs6 (w : World) (u v : Value) (L D : List Pq) (hL : Prs w u L) (hD : Prs w v D) (hA : Alk L D) (hN : L.length ≤ 1048576) :
    Calls Try.prog 6 #[v, u] w fun e w' => e = .returned (.bool true) ∧ Kp Nu w w' := by
  have hl : D.length = L.length := by have := congrArg List.length hA; simpa using this.symm
  obtain ⟨ua, uc, hu, hdm⟩ := id hL
  clear hdm
  obtain ⟨va, vc, hv, hdm⟩ := id hD
  clear hdm
  obtain ⟨N, eN⟩ : ∃ N, L.length = N := ⟨_, rfl⟩
  rw [hl] at hv
  rw [eN] at hu hv hN
  subst hu hv
  have HL := hide (And.intro hL (And.intro hD (And.intro hA (And.intro eN (hl.trans eN)))))
  have hNI : (N : Int) ≤ 1048576 := by omega
  have hne : ((N : Int) != (N : Int)) = false := by simp
  clear hL hD hA hl eN
  go_enter Try.func6, Try.ntmps6
  go_wp2
  go_loopw [5] (fun iv wr => ∃ i : Nat, iv = .int .i64 (i : Int) ∧ i ≤ N ∧ Hid (Kp Nu w wr)) (fun iv _ => N - (intOf iv).toNat)
  case atStart => exact ⟨0, rfl, Nat.zero_le _, Kp.refl _ _⟩
  case round =>
    obtain ⟨i, rfl, hi, hK⟩ := hrel
    have hii : (0 : Int) ≤ (i : Int) := by omega
    by_cases hlt : i < N
    · have hltI : (i : Int) < (N : Int) := by omega
      obtain ⟨p, hp⟩ : ∃ p, L[i]? = some p := ⟨_, List.getElem?_eq_getElem (by rw [HL.out.2.2.2.1]; exact hlt)⟩
      obtain ⟨q, hq⟩ : ∃ q, D[i]? = some q := ⟨_, List.getElem?_eq_getElem (by rw [HL.out.2.2.2.2]; exact hlt)⟩
      have hpq : (p.k, p.xs) = (q.k, q.xs) := by
        have h1 : (L.map (fun p => (p.k, p.xs)))[i]? = some (p.k, p.xs) := by simp [hp]
        have h2 : (D.map (fun p => (p.k, p.xs)))[i]? = some (q.k, q.xs) := by simp [hq]
        have h3 : L.map (fun p => (p.k, p.xs)) = D.map (fun p => (p.k, p.xs)) := HL.out.2.2.1
        rw [h3, h2] at h1
        exact (Option.some.inj h1).symm
      obtain ⟨e1, e2⟩ := Prod.mk.inj hpq
      obtain ⟨b, o, rfl, x0, x1, hok⟩ := (HL.out.1.nu hK.out).at_ hp
      obtain ⟨b', o', rfl, y0, y1, hok'⟩ := (HL.out.2.1.nu hK.out).at_ hq
      have eti : (i : Int).toNat = i := by omega
      obtain ⟨k, ek⟩ : ∃ k, p.k = k := ⟨_, rfl⟩
      obtain ⟨s1, es1⟩ : ∃ s1, Value.slice p.a p.xs.length p.c = s1 := ⟨_, rfl⟩
      obtain ⟨s2, es2⟩ : ∃ s2, Value.slice q.a q.xs.length q.c = s2 := ⟨_, rfl⟩
      have SB : ∀ W, Kp Nu wr W → Calls Try.prog 12 #[.slice q.a q.xs.length q.c, .slice p.a p.xs.length p.c] W fun e w' => e = .returned (.bool true) ∧ Kp Nu wr w' := fun W kk => (sameBytes12 W _ _ q.xs p.xs (hok'.rd.nu kk) (hok.rd.nu kk) hok'.fine.byt hok.fine.byt).mono (fun e w' ⟨h1, h2⟩ => ⟨by rw [h1, e2]; simp, kk.andNu h2⟩)
      rw [ek] at x0
      rw [← e1, ek] at y0
      generalize p.xs.length = pn at x1 SB
      generalize q.xs.length = qn at y1 SB
      generalize p.a = pa at x1 SB
      generalize q.a = qa at y1 SB
      generalize p.c = pc at x1 SB
      generalize q.c = qc at y1 SB
      have HS : ∀ W, Kp Nu wr W → W.cell? ⟨b, o + i * 2 + 1, none⟩ = some (.slice pa pn pc) ∧ W.cell? ⟨b', o' + i * 2 + 1, none⟩ = some (.slice qa qn qc) := fun W kk => ⟨cell_nu x1 kk, cell_nu y1 kk⟩
      have HX : ∀ W, Kp Nu wr W → W.cell? ⟨b, o + i * 2, none⟩ = some (.int .u64 k) ∧ W.cell? ⟨b', o' + i * 2, none⟩ = some (.int .u64 k) := fun W kk => ⟨cell_nu x0 kk, cell_nu y0 kk⟩
      have hkk : (k != k) = false := by simp
      clear hp hq hpq e1 e2 hok hok' ek es1 es2 x0 y0
      go_wp2_with fail
      go_region_held3 (fun W => W.cell? ⟨b, o + i * 2 + 1, none⟩ = some (.slice pa pn pc) ∧ W.cell? ⟨b', o' + i * 2 + 1, none⟩ = some (.slice qa qn qc)) (first | (refine HS _ ?_; repeat (first | assumption | exact Kp.refl _ _ | apply Kp.drew))) (first | (go_at_call 12; refine (SB _ ?_).mono ?_; (repeat (first | assumption | exact Kp.refl _ _ | apply Kp.drew)); rintro e w2 ⟨rfl, hk2⟩))
      obtain ⟨z0, z1⟩ := HX _ hk2
      have HK2 := hide hk2
      clear HS HX SB x1 y1
      go_wp2_with fail
      go_region
      go_wp2
      exact ⟨⟨i + 1, by go_num, by omega, hide ((hK.out.andNu HK2.out).drew)⟩, by simp [intOf]; omega⟩
    · have hge : ¬ (i : Int) < (N : Int) := by omega
      go_wp2
      go_ret
      exact ⟨rfl, hK.out⟩
end Go.Proofs.Ytfpaagdiogdnoaa.Cd
