import Derived.Test.YtffcnonhhfhlhaaDoorLdD
namespace Go.Proofs.YtffcnonhhfhlhaaDoor.Rg
open Go.RowKit Go.Shelf Go.Sort
open Go.Proofs.YtffcnonhhfhlhaaDoor.It
set_option linter.unusedVariables false

/-- what the document's Fault answers -/
def Frs (M : List Sg) (p c : Int) : Prop :=
  (∃ k s, Lok M k ∧ M[k]? = some s ∧ flt (lays [] (M.take k)) s = c ∧ c ≠ 0 ∧ p = (k : Int)) ∨
  (Lok M M.length ∧ c = 62 ∧ endF (lays [] M) = false ∧ p = (M.length : Int)) ∨
  (c = 0 ∧ Lok M M.length ∧ endF (lays [] M) = true ∧ p = 0)
theorem flt_62 {A : List Sg} {s : Sg} (h : fol A s = false) : flt A s = 62 := by simp [flt, h]
theorem flt_60 {A : List Sg} {s : Sg} (h : fol A s = true) (h2 : s.hi < s.lo) : flt A s = 60 := by simp [flt, h, h2]
theorem flt_2 {A : List Sg} {s : Sg} (h : fol A s = true) (h2 : ¬ s.hi < s.lo) (h3 : 16 ≤ s.h) : flt A s = 2 := by simp [flt, h, h2, h3]
theorem flt_0 {A : List Sg} {s : Sg} (h : fol A s = true) (h2 : ¬ s.hi < s.lo) (h3 : ¬ 16 ≤ s.h) : flt A s = 0 := by simp [flt, h, h2, h3]
theorem fol_ne {A : List Sg} {s : Sg} {m : Int} (hc : Cov 0 A m) (h : s.lo ≠ m) : fol A s = false := by
  cases hf : fol A s with
  | false => rfl
  | true => exact absurd (fol_cov hc hf) h
theorem fol_eq {A : List Sg} {s : Sg} {m : Int} (hc : Cov 0 A m) (h : s.lo = m) : fol A s = true := by
  rcases List.eq_nil_or_concat A with rfl | ⟨A', t, rfl⟩
  · have e : (0 : Int) = m := hc
    simp only [fol, List.getLast?_nil, beq_iff_eq]
    omega
  · rw [List.concat_eq_append] at hc ⊢
    have hl := cov_last hc
    have hm := cov_mem hc t (by simp)
    simp only [fol, List.getLast?_append, List.getLast?_singleton, Option.some_or, Bool.and_eq_true, decide_eq_true_eq, beq_iff_eq]
    omega
theorem lok_step {M : List Sg} {k : Nat} {s : Sg} (h : Lok M k) (hs : M[k]? = some s) (hf : flt (lays [] (M.take k)) s = 0) : Lok M (k + 1) := fun i hi x hx => by
  by_cases e : i = k
  · subst e
    rw [hs] at hx
    cases hx
    exact hf
  · exact h i (by omega) x hx
theorem end_of {M : List Sg} {E : Int} (hc : Cov 0 M E) : endF (lays [] M) = decide (E = 18446744073709551616) := by
  have hc2 := (lays_cov (A := []) (a := 0) (m := 0) rfl hc).1
  rcases List.eq_nil_or_concat (lays [] M) with e | ⟨A', t, e⟩
  · rw [e] at hc2 ⊢
    have e2 : (0 : Int) = E := hc2
    have : ¬ E = 18446744073709551616 := by omega
    simp [endF, this]
  · rw [List.concat_eq_append] at e
    rw [e] at hc2 ⊢
    have hl := cov_last hc2
    simp only [endF, List.getLast?_append, List.getLast?_singleton, Option.some_or]
    by_cases h : E = 18446744073709551616
    · rw [decide_eq_true h]; simp; omega
    · rw [decide_eq_false h]; simp; omega

set_option maxRecDepth 100000 in
set_option maxHeartbeats 2000000 in
theorem fault_refA (w : World) (u : Value) (M : List Sg) (hM : Sgs w u M) (hlen : (M.length : Int) ≤ 5864062014634) :
    Calls Tryd.prog 30 #[u] w fun e w' => ∃ p c : Int, e = .returned (.tuple #[.int .i64 p, .int .i64 c]) ∧ Frs M p c ∧ Kp Nu w w' := by
  have mixed : Tryd.prog.follows .mixedOrders = true := by kernel_rfl
  obtain ⟨ad, cap, hu⟩ := hM.slice
  obtain ⟨N, hN⟩ : ∃ N, M.length = N := ⟨_, rfl⟩
  have HM := hide hM
  have HN := hide hN
  rw [hN] at hu hlen
  subst hu
  clear hM hN
  go_enter Tryd.func30, Tryd.ntmps30
  go_wp2_with fail
  go_loopw [4, 5, 6] (fun nx ov i wr => ∃ (k : Nat) (E : Int), i = .int .i64 (k : Int) ∧ k ≤ N ∧ nx = .int .u64 (if E = 18446744073709551616 then 0 else E) ∧ ov = .bool (decide (E = 18446744073709551616)) ∧ Hid (Lok M k ∧ 0 ≤ E ∧ E ≤ 18446744073709551616 ∧ Cov 0 (M.take k) E ∧ (∀ s ∈ M.take k, 0 ≤ s.h ∧ s.h < 16) ∧ Kp Nu w wr)) (fun _ _ i _ => N - (intOf i).toNat)
  case atStart => exact ⟨0, 0, rfl, Nat.zero_le _, by simp, by simp, ⟨fun i hi => by omega, by omega, by omega, rfl, by simp, Kp.refl _ _⟩⟩
  case round =>
    obtain ⟨k, E, rfl, hk, rfl, rfl, hI⟩ := hrel
    by_cases hlt : k < N
    · have hkM : k < M.length := by rw [HN.out]; exact hlt
      obtain ⟨s, hs⟩ : ∃ s, M[k]? = some s := ⟨_, List.getElem?_eq_getElem hkM⟩
      have hcell : ∃ bs off cp, (.slice ad N cap : Value) = .slice (some ⟨bs, off, none⟩) N cp ∧ SgAt w bs (off + k * 3) s := by
        rcases HM.out with ⟨_, h0⟩ | ⟨bs, off, cp, h0, h3⟩
        · rw [h0] at hs; simp at hs
        · rw [HN.out] at h0
          exact ⟨bs, off, cp, h0, h3 k s hs⟩
      obtain ⟨bs, off, cp, hq, hsg⟩ := hcell
      simp only [Value.slice.injEq] at hq
      obtain ⟨rfl, hq1⟩ := hq
      clear hq1
      obtain ⟨hok, E0, E1, hc, hh, hkp⟩ := hI.out
      have hcA := (lays_cov (A := []) (a := 0) (m := 0) rfl hc).1
      have HOK := hide hok
      have HS := hide hs
      clear hok
      obtain ⟨c0, c1, c2, F1⟩ := hsg
      replace c0 := cell_nu c0 hkp
      replace c1 := cell_nu c1 hkp
      replace c2 := cell_nu c2 hkp
      have hltI : (k : Int) < (N : Int) := by omega
      have hk0 : (0 : Int) ≤ (k : Int) := by omega
      have HK := hide hkp
      have HTK : Hid (M.take (k + 1) = M.take k ++ [s]) := by
        show _ = _
        rw [List.take_add_one, hs]; rfl
      by_cases hE : E = 18446744073709551616
      · rw [if_pos hE, decide_eq_true hE]
        have HFL : Hid (flt (lays [] (M.take k)) s = 62) := flt_62 (fol_ne hcA (by omega))
        clear hI hc hh hkp hs hkM hcA
        go_wp2
        go_ret2
        exact ⟨_, _, rfl, .inl ⟨k, s, HOK.out, HS.out, HFL.out, by omega, rfl⟩, HK.out⟩
      rw [if_neg hE, decide_eq_false hE]
      by_cases hlo : s.lo = E
      · have y1 : (s.lo != E) = false := by simp [hlo]
        have y1' : (E != E) = false := by simp
        by_cases hgt : s.lo > s.hi
        · have hgd : decide (s.hi < s.lo) = true := decide_eq_true hgt
          have d0 : wr.drew.cell? ⟨bs, off + k * 3, none⟩ = some (.int .u64 s.lo) := c0
          have d1 : wr.drew.cell? ⟨bs, off + k * 3 + 1, none⟩ = some (.int .u64 s.hi) := c1
          have HK2 : Hid (Kp Nu w wr.drew) := HK.out.drew
          have HFL : Hid (flt (lays [] (M.take k)) s = 60) := flt_60 (fol_eq hcA hlo) (by omega)
          clear hI hc hh hkp hs hkM hlo hcA
          go_wp2_with fail
          go_region
          go_wp2
          go_ret2
          exact ⟨_, _, rfl, .inl ⟨k, s, HOK.out, HS.out, HFL.out, by omega, rfl⟩, HK2.out⟩
        · have hgd : decide (s.hi < s.lo) = false := decide_eq_false hgt
          have d0 : wr.drew.cell? ⟨bs, off + k * 3, none⟩ = some (.int .u64 s.lo) := c0
          have d1 : wr.drew.cell? ⟨bs, off + k * 3 + 1, none⟩ = some (.int .u64 s.hi) := c1
          have d2 : wr.drew.cell? ⟨bs, off + k * 3 + 2, none⟩ = some (.int .u8 s.h) := c2
          have HK2 : Hid (Kp Nu w wr.drew) := HK.out.drew
          have RH := refHost_any s.h wr.drew
          by_cases hho : s.h ≤ 15
          · rw [decide_eq_true hho] at RH
            have HF : Hid (Lok M (k + 1) ∧ 0 ≤ s.hi + 1 ∧ s.hi + 1 ≤ 18446744073709551616 ∧ Cov 0 (M.take (k + 1)) (s.hi + 1) ∧ (∀ t ∈ M.take (k + 1), 0 ≤ t.h ∧ t.h < 16) ∧ Kp Nu w wr.drew) := by
              refine ⟨lok_step HOK.out HS.out (flt_0 (fol_eq hcA hlo) (by omega) (by omega)), by omega, by omega, ?_, ?_, HK2.out⟩
              · rw [HTK.out]; exact cov_snoc hc hlo (by omega)
              · rw [HTK.out]; intro t ht
                rcases List.mem_append.1 ht with h | h
                · exact hh t h
                · simp at h; subst h; omega
            have hwp : IntKind.u64.wrap (s.hi + 1) = if s.hi + 1 = 18446744073709551616 then 0 else s.hi + 1 := by
              rw [IntKind.wrap_u64]; split <;> omega
            have hov : (s.hi == 18446744073709551615) = decide (s.hi + 1 = 18446744073709551616) := by
              by_cases e : s.hi = 18446744073709551615
              · simp [e]
              · have : ¬ s.hi + 1 = 18446744073709551616 := by omega
                simp [e, this]
            have HWP := hide (And.intro hwp hov)
            clear hI hc hh hkp hs hkM hlo hwp hov hcA
            go_wp2_with fail
            go_region
            go_wp2_with fail
            refine RH.mono ?_; rintro e w2 ⟨rfl, hw2⟩
            obtain rfl := hw2.symm
            clear RH hw2
            go_wp2
            go_roundw
            case rel => exact ⟨k + 1, s.hi + 1, by go_num, by omega, by first | rw [HWP.out.1] | (rw [← HWP.out.1]), by rw [HWP.out.2], HF⟩
            case measure => simp [intOf]; omega
          · rw [decide_eq_false hho] at RH
            have HFL : Hid (flt (lays [] (M.take k)) s = 2) := flt_2 (fol_eq hcA hlo) (by omega) (by omega)
            clear hI hc hh hkp hs hkM hlo hcA
            go_wp2_with fail
            go_region
            go_wp2_with fail
            refine RH.mono ?_; rintro e w2 ⟨rfl, hw2⟩
            obtain rfl := hw2.symm
            clear RH hw2
            go_wp2
            go_ret2
            exact ⟨_, _, rfl, .inl ⟨k, s, HOK.out, HS.out, HFL.out, by omega, rfl⟩, HK2.out⟩
      · have y1 : (s.lo != E) = true := by simp [hlo]
        have HFL : Hid (flt (lays [] (M.take k)) s = 62) := flt_62 (fol_ne hcA hlo)
        clear hI hc hh hkp hs hkM hcA
        go_wp2
        go_ret2
        exact ⟨_, _, rfl, .inl ⟨k, s, HOK.out, HS.out, HFL.out, by omega, rfl⟩, HK.out⟩
    · have hge : ¬ (k : Int) < (N : Int) := by omega
      obtain rfl : k = N := by omega
      obtain ⟨hok, E0, E1, hc, hh, hkp⟩ := hI.out
      have HOK : Hid (Lok M M.length) := by show Lok M M.length; rw [HN.out]; exact hok
      clear hok
      rw [List.take_of_length_le (by rw [HN.out]; omega)] at hc hh
      have HK := hide hkp
      by_cases hE : E = 18446744073709551616
      · subst hE
        have HG : Hid (endF (lays [] M) = true) := by show _ = _; rw [end_of hc]; rfl
        clear hI hc hh hkp
        simp only [if_true, decide_true]
        go_wp2
        go_ret2
        exact ⟨_, _, rfl, .inr (.inr ⟨rfl, HOK.out, HG.out, rfl⟩), HK.out⟩
      · rw [if_neg hE, decide_eq_false hE]
        have HG : Hid (endF (lays [] M) = false) := by show _ = _; rw [end_of hc]; exact decide_eq_false hE
        clear hI hc hh hkp
        go_wp2
        go_ret2
        exact ⟨_, _, rfl, .inr (.inl ⟨HOK.out, rfl, HG.out, by rw [HN.out]⟩), HK.out⟩
end Go.Proofs.YtffcnonhhfhlhaaDoor.Rg
