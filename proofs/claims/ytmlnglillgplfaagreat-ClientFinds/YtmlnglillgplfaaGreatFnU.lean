import Derived.Test.YtmlnglillgplfaaGreatRgV
import Derived.Test.YtmlnglillgplfaaGreatNwA
namespace Go.Proofs.YtmlnglillgplfaaGreat.Rg
open Go.RowKit Go.Shelf Go.Sort
open Go.Proofs.YtmlnglillgplfaaGreat.It
set_option linter.unusedVariables false
structure SgAt (W : World) (b o : Nat) (s : Sg) : Prop where
  c0 : W.cell? ⟨b, o, none⟩ = some (.int .u64 s.lo)
  c1 : W.cell? ⟨b, o + 1, none⟩ = some (.int .u64 s.hi)
  c2 : W.cell? ⟨b, o + 2, none⟩ = some (.int .u8 s.h)
  fit : 0 ≤ s.lo ∧ s.lo < 18446744073709551616 ∧ 0 ≤ s.hi ∧ s.hi < 18446744073709551616 ∧ 0 ≤ s.h ∧ s.h < 256
/-- segments that came in -/
def Sgs (W : World) (v : Value) (S : List Sg) : Prop :=
  ((∃ ad cap, v = .slice ad 0 cap) ∧ S = []) ∨ ∃ b off cap, v = .slice (some ⟨b, off, none⟩) S.length cap ∧ ∀ i s, S[i]? = some s → SgAt W b (off + i * 3) s
theorem cell_nu {w w' : World} {a : Addr} {u : Value} (h : w.cell? a = some u) (k : Kp Nu w w') : w'.cell? a = some u :=
  (World.cell?_of_block (k.block _ (World.block_lt_of_cell? w _ h) (fun h => h))).trans h
theorem Sgs.slice {w : World} {v : Value} {S : List Sg} (h : Sgs w v S) : ∃ ad cap, v = .slice ad S.length cap := by
  rcases h with ⟨⟨ad, cap, rfl⟩, rfl⟩ | ⟨b, off, cap, rfl, _⟩
  · exact ⟨ad, cap, rfl⟩
  · exact ⟨_, cap, rfl⟩
theorem cov_snoc : ∀ {A : List Sg} {a m : Int} {t : Sg}, Cov a A m → t.lo = m → t.lo ≤ t.hi → Cov a (A ++ [t]) (t.hi + 1) := fun h h1 h2 => cov_append h ⟨h1, by omega, rfl⟩
/-- does a segment stand behind those that are laid? -/
def fol (A : List Sg) (s : Sg) : Bool := match A.getLast? with
  | none => s.lo == 0
  | some t => decide (0 < s.lo) && (s.lo - 1 == t.hi)
/-- what bars it -/
def flt (A : List Sg) (s : Sg) : Int := if fol A s = false then 62 else if s.hi < s.lo then 60 else if 16 ≤ s.h then 2 else 0

/-- nothing bars the first k -/
def Lok (M : List Sg) (k : Nat) : Prop := ∀ i, i < k → ∀ s, M[i]? = some s → flt (lays [] (M.take i)) s = 0
/-- what is laid ends at the highest key -/
def endF (A : List Sg) : Bool := match A.getLast? with
  | none => false
  | some t => t.hi == 18446744073709551615
/-- a segment's fields as they come in -/
structure SgB (s : Sg) : Prop where
  l0 : 0 ≤ s.lo
  l1 : s.lo < 18446744073709551616
  h0 : 0 ≤ s.hi
  h1 : s.hi < 18446744073709551616
  o0 : 0 ≤ s.h
  o1 : s.h < 256
theorem flt_zero {A : List Sg} {s : Sg} (h : flt A s = 0) : fol A s = true ∧ s.lo ≤ s.hi ∧ s.h < 16 := by
  unfold flt at h
  split at h
  · cases h
  · split at h
    · cases h
    · split at h
      · cases h
      · rename_i h1 h2 h3
        exact ⟨by simpa using h1, by omega, by omega⟩
theorem fol_cov {A : List Sg} {s : Sg} {m : Int} (hc : Cov 0 A m) (h : fol A s = true) : s.lo = m := by
  rcases List.eq_nil_or_concat A with rfl | ⟨A', t, rfl⟩
  · have e : (0 : Int) = m := hc
    simp only [fol, List.getLast?_nil, beq_iff_eq] at h
    omega
  · rw [List.concat_eq_append] at hc h
    have hl := cov_last hc
    simp only [fol, List.getLast?_append, List.getLast?_singleton, Option.some_or, Bool.and_eq_true, decide_eq_true_eq, beq_iff_eq] at h
    omega
theorem lok_cov {M : List Sg} : ∀ k, k ≤ M.length → Lok M k → ∃ m, Cov 0 (M.take k) m ∧ (∀ s ∈ M.take k, s.h < 16)
  | 0, _, _ => ⟨0, by simp [Cov], by simp⟩
  | k + 1, hk, hl => by
    obtain ⟨m, hc, hh⟩ := lok_cov k (by omega) (fun i hi => hl i (by omega))
    obtain ⟨s, hs⟩ : ∃ s, M[k]? = some s := ⟨_, List.getElem?_eq_getElem (by omega)⟩
    obtain ⟨f1, f2, f3⟩ := flt_zero (hl k (by omega) s hs)
    have e := fol_cov (lays_cov (A := []) (a := 0) (m := 0) rfl hc).1 f1
    have et : M.take (k + 1) = M.take k ++ [s] := by rw [List.take_add_one, hs]; rfl
    refine ⟨s.hi + 1, ?_, ?_⟩
    · rw [et]
      exact cov_append hc ⟨e, by omega, rfl⟩
    · rw [et]
      intro x hx
      rcases List.mem_append.1 hx with hx | hx
      · exact hh x hx
      · simp only [List.mem_singleton] at hx
        subst hx
        exact f3
/-- a list that nothing bars, and that ends at the highest key, may be loaded -/
theorem lok_good {M : List Sg} (h : Lok M M.length) (he : endF (lays [] M) = true) (hb : ∀ s ∈ M, SgB s) : Good M := by
  obtain ⟨m, hc, hh⟩ := lok_cov M.length (Nat.le_refl _) h
  rw [List.take_length] at hc hh
  refine ⟨?_, fun s hs => ⟨(hb s hs).o0, hh s hs⟩⟩
  have hc2 := (lays_cov (A := []) (a := 0) (m := 0) rfl hc).1
  rcases List.eq_nil_or_concat (lays [] M) with e | ⟨A', t, e⟩
  · rw [e] at he
    simp [endF] at he
  · rw [List.concat_eq_append] at e
    rw [e] at he hc2
    have hl := cov_last hc2
    simp only [endF, List.getLast?_append, List.getLast?_singleton, Option.some_or, beq_iff_eq] at he
    have em : m = 18446744073709551616 := by omega
    rw [← em]
    exact hc
theorem good_lok {M : List Sg} (h : Good M) : endF (lays [] M) = true := by
  have hc2 := h.tab.cov
  rcases List.eq_nil_or_concat (lays [] M) with e | ⟨A', t, e⟩
  · rw [e] at hc2
    have e2 : (0 : Int) = 18446744073709551616 := hc2
    omega
  · rw [List.concat_eq_append] at e
    rw [e] at hc2 ⊢
    have hl := cov_last hc2
    simp only [endF, List.getLast?_append, List.getLast?_singleton, Option.some_or, beq_iff_eq]
    omega
/-- what the document's Fault answers -/
def Frs (M : List Sg) (p c : Int) : Prop :=
  (∃ k s, Lok M k ∧ M[k]? = some s ∧ flt (lays [] (M.take k)) s = c ∧ c ≠ 0 ∧ p = (k : Int)) ∨
  (Lok M M.length ∧ c = 62 ∧ endF (lays [] M) = false ∧ p = (M.length : Int)) ∨
  (c = 0 ∧ Lok M M.length ∧ endF (lays [] M) = true ∧ p = 0)
theorem flt_62 {A : List Sg} {s : Sg} (h : fol A s = false) : flt A s = 62 := by simp [flt, h]
theorem flt_60 {A : List Sg} {s : Sg} (h : fol A s = true) (h2 : s.hi < s.lo) : flt A s = 60 := by simp [flt, h, h2]
theorem flt_2 {A : List Sg} {s : Sg} (h : fol A s = true) (h2 : ¬ s.hi < s.lo) (h3 : 16 ≤ s.h) : flt A s = 2 := by simp [flt, h, h2, h3]
theorem flt_0 {A : List Sg} {s : Sg} (h : fol A s = true) (h2 : ¬ s.hi < s.lo) (h3 : ¬ 16 ≤ s.h) : flt A s = 0 := by simp [flt, h, h2, h3]
theorem fol_ne {A : List Sg} {s : Sg} {m : Int} (hc : Cov 0 A m) (h : s.lo ≠ m) : fol A s = false := by
  cases hf : fol A s with
  | false => rfl
  | true => exact absurd (fol_cov hc hf) h
theorem fol_eq {A : List Sg} {s : Sg} {m : Int} (hc : Cov 0 A m) (h : s.lo = m) : fol A s = true := by
  rcases List.eq_nil_or_concat A with rfl | ⟨A', t, rfl⟩
  · have e : (0 : Int) = m := hc
    simp only [fol, List.getLast?_nil, beq_iff_eq]
    omega
  · rw [List.concat_eq_append] at hc ⊢
    have hl := cov_last hc
    have hm := cov_mem hc t (by simp)
    simp only [fol, List.getLast?_append, List.getLast?_singleton, Option.some_or, Bool.and_eq_true, decide_eq_true_eq, beq_iff_eq]
    omega
theorem lok_step {M : List Sg} {k : Nat} {s : Sg} (h : Lok M k) (hs : M[k]? = some s) (hf : flt (lays [] (M.take k)) s = 0) : Lok M (k + 1) := fun i hi x hx => by
  by_cases e : i = k
  · subst e
    rw [hs] at hx
    cases hx
    exact hf
  · exact h i (by omega) x hx
theorem end_of {M : List Sg} {E : Int} (hc : Cov 0 M E) : endF (lays [] M) = decide (E = 18446744073709551616) := by
  have hc2 := (lays_cov (A := []) (a := 0) (m := 0) rfl hc).1
  rcases List.eq_nil_or_concat (lays [] M) with e | ⟨A', t, e⟩
  · rw [e] at hc2 ⊢
    have e2 : (0 : Int) = E := hc2
    have : ¬ E = 18446744073709551616 := by omega
    simp [endF, this]
  · rw [List.concat_eq_append] at e
    rw [e] at hc2 ⊢
    have hl := cov_last hc2
    simp only [endF, List.getLast?_append, List.getLast?_singleton, Option.some_or]
    by_cases h : E = 18446744073709551616
    · rw [decide_eq_true h]; simp; omega
    · rw [decide_eq_false h]; simp; omega

def refC (lim : Int) (M : List Sg) (f : Int) : Int := if f ≠ 0 then f else if lim < ((lays [] M).length : Int) then 61 else 0
end Go.Proofs.YtmlnglillgplfaaGreat.Rg
namespace Go.Proofs.YtmlnglillgplfaaGreat.Rg
open Go.RowKit Go.Shelf Go.Sort
open Go.Proofs.YtmlnglillgplfaaGreat.It
set_option linter.unusedVariables false
set_option maxHeartbeats 400000 in
theorem refHost_any (a : Int) (w : World) : Calls Tryz.prog 100 #[.int .u8 a] w fun e w' => e = .returned (.bool (decide (a ≤ 15))) ∧ w' = w := by
  go_enter Tryz.func100, Tryz.ntmps100
  go_wp2
  go_ret
  exact ⟨rfl, rfl⟩

set_option maxRecDepth 100000 in
set_option maxHeartbeats 2000000 in
theorem fault_refA (w : World) (u : Value) (M : List Sg) (hM : Sgs w u M) (hlen : (M.length : Int) ≤ 5864062014634) :
    Calls Tryz.prog 98 #[u] w fun e w' => ∃ p c : Int, e = .returned (.tuple #[.int .i64 p, .int .i64 c]) ∧ Frs M p c ∧ Kp Nu w w' := by
  have mixed : Tryz.prog.follows .mixedOrders = true := by kernel_rfl
  obtain ⟨ad, cap, hu⟩ := hM.slice
  obtain ⟨N, hN⟩ : ∃ N, M.length = N := ⟨_, rfl⟩
  have HM := hide hM
  have HN := hide hN
  rw [hN] at hu hlen
  subst hu
  clear hM hN
  go_enter Tryz.func98, Tryz.ntmps98
  go_wp2_with fail
  go_loopw [4, 5, 6] (fun nx ov i wr => ∃ (k : Nat) (E : Int), i = .int .i64 (k : Int) ∧ k ≤ N ∧ nx = .int .u64 (if E = 18446744073709551616 then 0 else E) ∧ ov = .bool (decide (E = 18446744073709551616)) ∧ Hid (Lok M k ∧ 0 ≤ E ∧ E ≤ 18446744073709551616 ∧ Cov 0 (M.take k) E ∧ (∀ s ∈ M.take k, 0 ≤ s.h ∧ s.h < 16) ∧ Kp Nu w wr)) (fun _ _ i _ => N - (intOf i).toNat)
  case atStart => exact ⟨0, 0, rfl, Nat.zero_le _, by simp, by simp, ⟨fun i hi => by omega, by omega, by omega, rfl, by simp, Kp.refl _ _⟩⟩
  case round =>
    obtain ⟨k, E, rfl, hk, rfl, rfl, hI⟩ := hrel
    by_cases hlt : k < N
    · have hkM : k < M.length := by rw [HN.out]; exact hlt
      obtain ⟨s, hs⟩ : ∃ s, M[k]? = some s := ⟨_, List.getElem?_eq_getElem hkM⟩
      have hcell : ∃ bs off cp, (.slice ad N cap : Value) = .slice (some ⟨bs, off, none⟩) N cp ∧ SgAt w bs (off + k * 3) s := by
        rcases HM.out with ⟨_, h0⟩ | ⟨bs, off, cp, h0, h3⟩
        · rw [h0] at hs; simp at hs
        · rw [HN.out] at h0
          exact ⟨bs, off, cp, h0, h3 k s hs⟩
      obtain ⟨bs, off, cp, hq, hsg⟩ := hcell
      simp only [Value.slice.injEq] at hq
      obtain ⟨rfl, hq1⟩ := hq
      clear hq1
      obtain ⟨hok, E0, E1, hc, hh, hkp⟩ := hI.out
      have hcA := (lays_cov (A := []) (a := 0) (m := 0) rfl hc).1
      have HOK := hide hok
      have HS := hide hs
      clear hok
      obtain ⟨c0, c1, c2, F1⟩ := hsg
      replace c0 := cell_nu c0 hkp
      replace c1 := cell_nu c1 hkp
      replace c2 := cell_nu c2 hkp
      have hltI : (k : Int) < (N : Int) := by omega
      have hk0 : (0 : Int) ≤ (k : Int) := by omega
      have HK := hide hkp
      have HTK : Hid (M.take (k + 1) = M.take k ++ [s]) := by
        show _ = _
        rw [List.take_add_one, hs]; rfl
      by_cases hE : E = 18446744073709551616
      · rw [if_pos hE, decide_eq_true hE]
        have HFL : Hid (flt (lays [] (M.take k)) s = 62) := flt_62 (fol_ne hcA (by omega))
        clear hI hc hh hkp hs hkM hcA
        go_wp2
        go_ret2
        exact ⟨_, _, rfl, .inl ⟨k, s, HOK.out, HS.out, HFL.out, by omega, rfl⟩, HK.out⟩
      rw [if_neg hE, decide_eq_false hE]
      by_cases hlo : s.lo = E
      · have y1 : (s.lo != E) = false := by simp [hlo]
        have y1' : (E != E) = false := by simp
        by_cases hgt : s.lo > s.hi
        · have hgd : decide (s.hi < s.lo) = true := decide_eq_true hgt
          have d0 : wr.drew.cell? ⟨bs, off + k * 3, none⟩ = some (.int .u64 s.lo) := c0
          have d1 : wr.drew.cell? ⟨bs, off + k * 3 + 1, none⟩ = some (.int .u64 s.hi) := c1
          have HK2 : Hid (Kp Nu w wr.drew) := HK.out.drew
          have HFL : Hid (flt (lays [] (M.take k)) s = 60) := flt_60 (fol_eq hcA hlo) (by omega)
          clear hI hc hh hkp hs hkM hlo hcA
          go_wp2_with fail
          go_region
          go_wp2
          go_ret2
          exact ⟨_, _, rfl, .inl ⟨k, s, HOK.out, HS.out, HFL.out, by omega, rfl⟩, HK2.out⟩
        · have hgd : decide (s.hi < s.lo) = false := decide_eq_false hgt
          have d0 : wr.drew.cell? ⟨bs, off + k * 3, none⟩ = some (.int .u64 s.lo) := c0
          have d1 : wr.drew.cell? ⟨bs, off + k * 3 + 1, none⟩ = some (.int .u64 s.hi) := c1
          have d2 : wr.drew.cell? ⟨bs, off + k * 3 + 2, none⟩ = some (.int .u8 s.h) := c2
          have HK2 : Hid (Kp Nu w wr.drew) := HK.out.drew
          have RH := refHost_any s.h wr.drew
          by_cases hho : s.h ≤ 15
          · rw [decide_eq_true hho] at RH
            have HF : Hid (Lok M (k + 1) ∧ 0 ≤ s.hi + 1 ∧ s.hi + 1 ≤ 18446744073709551616 ∧ Cov 0 (M.take (k + 1)) (s.hi + 1) ∧ (∀ t ∈ M.take (k + 1), 0 ≤ t.h ∧ t.h < 16) ∧ Kp Nu w wr.drew) := by
              refine ⟨lok_step HOK.out HS.out (flt_0 (fol_eq hcA hlo) (by omega) (by omega)), by omega, by omega, ?_, ?_, HK2.out⟩
              · rw [HTK.out]; exact cov_snoc hc hlo (by omega)
              · rw [HTK.out]; intro t ht
                rcases List.mem_append.1 ht with h | h
                · exact hh t h
                · simp at h; subst h; omega
            have hwp : IntKind.u64.wrap (s.hi + 1) = if s.hi + 1 = 18446744073709551616 then 0 else s.hi + 1 := by
              rw [IntKind.wrap_u64]; split <;> omega
            have hov : (s.hi == 18446744073709551615) = decide (s.hi + 1 = 18446744073709551616) := by
              by_cases e : s.hi = 18446744073709551615
              · simp [e]
              · have : ¬ s.hi + 1 = 18446744073709551616 := by omega
                simp [e, this]
            have HWP := hide (And.intro hwp hov)
            clear hI hc hh hkp hs hkM hlo hwp hov hcA
            go_wp2_with fail
            go_region
            go_wp2_with fail
            refine RH.mono ?_; rintro e w2 ⟨rfl, hw2⟩
            obtain rfl := hw2.symm
            clear RH hw2
            go_wp2
            go_roundw
            case rel => exact ⟨k + 1, s.hi + 1, by go_num, by omega, by first | rw [HWP.out.1] | (rw [← HWP.out.1]), by rw [HWP.out.2], HF⟩
            case measure => simp [intOf]; omega
          · rw [decide_eq_false hho] at RH
            have HFL : Hid (flt (lays [] (M.take k)) s = 2) := flt_2 (fol_eq hcA hlo) (by omega) (by omega)
            clear hI hc hh hkp hs hkM hlo hcA
            go_wp2_with fail
            go_region
            go_wp2_with fail
            refine RH.mono ?_; rintro e w2 ⟨rfl, hw2⟩
            obtain rfl := hw2.symm
            clear RH hw2
            go_wp2
            go_ret2
            exact ⟨_, _, rfl, .inl ⟨k, s, HOK.out, HS.out, HFL.out, by omega, rfl⟩, HK2.out⟩
      · have y1 : (s.lo != E) = true := by simp [hlo]
        have HFL : Hid (flt (lays [] (M.take k)) s = 62) := flt_62 (fol_ne hcA hlo)
        clear hI hc hh hkp hs hkM hcA
        go_wp2
        go_ret2
        exact ⟨_, _, rfl, .inl ⟨k, s, HOK.out, HS.out, HFL.out, by omega, rfl⟩, HK.out⟩
    · have hge : ¬ (k : Int) < (N : Int) := by omega
      obtain rfl : k = N := by omega
      obtain ⟨hok, E0, E1, hc, hh, hkp⟩ := hI.out
      have HOK : Hid (Lok M M.length) := by show Lok M M.length; rw [HN.out]; exact hok
      clear hok
      rw [List.take_of_length_le (by rw [HN.out]; omega)] at hc hh
      have HK := hide hkp
      by_cases hE : E = 18446744073709551616
      · subst hE
        have HG : Hid (endF (lays [] M) = true) := by show _ = _; rw [end_of hc]; rfl
        clear hI hc hh hkp
        simp only [if_true, decide_true]
        go_wp2
        go_ret2
        exact ⟨_, _, rfl, .inr (.inr ⟨rfl, HOK.out, HG.out, rfl⟩), HK.out⟩
      · rw [if_neg hE, decide_eq_false hE]
        have HG : Hid (endF (lays [] M) = false) := by show _ = _; rw [end_of hc]; exact decide_eq_false hE
        clear hI hc hh hkp
        go_wp2
        go_ret2
        exact ⟨_, _, rfl, .inr (.inl ⟨HOK.out, rfl, HG.out, by rw [HN.out]⟩), HK.out⟩
end Go.Proofs.YtmlnglillgplfaaGreat.Rg
namespace Go.Proofs.YtmlnglillgplfaaGreat.Rg
open Go.RowKit Go.Shelf Go.Sort
open Go.Proofs.YtmlnglillgplfaaGreat.It
set_option linter.unusedVariables false
theorem unhid {p : Prop} (h : Hid p) : p := h

set_option maxRecDepth 100000 in
set_option maxHeartbeats 2000000 in
theorem join_any (w : World) (u : Value) (M : List Sg) (hM : Sgs w u M) (hlen : (M.length : Int) ≤ 5864062014634) :
    Calls Tryz.prog 99 #[u] w fun e w' => ∃ u', e = .returned u' ∧ w'.ownsRow w.heap.size 76 3 u' (lays [] M).length (cells (lays [] M)) ∧ Kp Nu w w' := by
  have mixed : Tryz.prog.follows .mixedOrders = true := by kernel_rfl
  obtain ⟨i0, hi, hz0, hz1, hz2⟩ := info_parts info40
  obtain ⟨ad, cap, hu⟩ := hM.slice
  obtain ⟨N, hN⟩ : ∃ N, M.length = N := ⟨_, rfl⟩
  have HM := hide hM
  have HN := hide hN
  rw [hN] at hu hlen
  subst hu
  clear hM hN
  go_enter Tryz.func99, Tryz.ntmps99
  go_wp2_with fail
  go_loopw [3, 4] (fun l i wr => ∃ (k n : Nat) (adl : Option Addr) (cpl : Nat), k ≤ N ∧ i = .int .i64 (k : Int) ∧ l = .slice adl n cpl ∧ (n : Int) ≤ 5864062014634 ∧ Hid ((lays [] (M.take k)).length = n ∧ wr.ownsRow w.heap.size 76 3 (.slice adl n cpl) n (cells (lays [] (M.take k))) ∧ Kp Nu w wr)) (fun _ i _ => N - (intOf i).toNat)
  case atStart => exact ⟨0, 0, none, 0, by omega, rfl, rfl, by omega, ⟨rfl, ⟨rfl, .inl ⟨rfl, rfl⟩⟩, Kp.refl _ _⟩⟩
  case round =>
    obtain ⟨k, n, adl, cpl, hk, rfl, rfl, hn8, hI⟩ := hrel
    by_cases hlt : k < N
    · have hkM : k < M.length := by rw [HN.out]; exact hlt
      obtain ⟨s, hs⟩ : ∃ s, M[k]? = some s := ⟨_, List.getElem?_eq_getElem hkM⟩
      have hcell : ∃ bs off cp, (.slice ad N cap : Value) = .slice (some ⟨bs, off, none⟩) N cp ∧ SgAt w bs (off + k * 3) s := by
        rcases HM.out with ⟨_, h0⟩ | ⟨bs, off, cp, h0, h3⟩
        · rw [h0] at hs; simp at hs
        · rw [HN.out] at h0
          exact ⟨bs, off, cp, h0, h3 k s hs⟩
      obtain ⟨bs, off, cp, hq, hsg⟩ := hcell
      simp only [Value.slice.injEq] at hq
      obtain ⟨rfl, hq1⟩ := hq
      clear hq1
      obtain ⟨hl, hown, hkp⟩ := hI.out
      obtain ⟨c0, c1, c2, F1⟩ := hsg
      have hbw : bs < w.heap.size := World.block_lt_of_cell? w _ c0
      replace c0 := cell_nu c0 hkp
      replace c1 := cell_nu c1 hkp
      replace c2 := cell_nu c2 hkp
      have hltI : (k : Int) < (N : Int) := by omega
      have hk0 : (0 : Int) ≤ (k : Int) := by omega
      have hkN : (k : Int) ≤ 5864062014634 := by omega
      have hsz := hkp.size
      have e1 : lays [] (M.take (k + 1)) = lay (lays [] (M.take k)) s := by rw [List.take_add_one, hs, Option.toList_some, lays_snoc]
      have hle2 := lays_le (M.take (k + 1)) []
      have hn9 : ((lays [] (M.take (k + 1))).length : Int) ≤ 5864062014634 := by simp at hle2; omega
      rcases List.eq_nil_or_concat (lays [] (M.take k)) with e | ⟨A', t, e⟩
      · have hn0 : n = 0 := by rw [← hl, e]; rfl
        subst hn0
        have e2 : lays [] (M.take (k + 1)) = [s] := by rw [e1, e]; rfl
        have HE := hide e2
        have HD : Hid (wr.drew.ownsRow w.heap.size 76 3 (.slice adl 0 cpl) 0 (cells [])) := by
          have h1 := hown
          rw [e] at h1
          exact h1
        have HK := hide hkp
        have d0 : wr.drew.cell? ⟨bs, off + k * 3, none⟩ = some (.int .u64 s.lo) := c0
        have d1 : wr.drew.cell? ⟨bs, off + k * 3 + 1, none⟩ = some (.int .u64 s.hi) := c1
        have d2 : wr.drew.cell? ⟨bs, off + k * 3 + 2, none⟩ = some (.int .u8 s.h) := c2
        clear hI hl hown hkp hs hkM e e1 e2 hle2 hn9
        go_wp2_with fail
        go_region
        go_wp2_with (at_builtin; refine unhid ?_)
        refine wpList_append_own_at _ rfl (.tmp 40) (.tmp 45) 58 rfl w.heap.size 76 i0 (.agg #[.int .u64 0, .int .u64 0, .int .u8 0]) 3 24 Tryz.underlying58 hi hz0 hz1 hz2 rfl (by decide) (.slice adl 0 cpl) 0 (cells []) rfl (HD.out.alloc _) ⟨wr.heap.size, 0, none⟩ 1 1 [.int .u64 s.lo, .int .u64 s.hi, .int .u8 s.h] rfl rfl (cell_three_new wr.drew _ _ _ _) (by simp [Value.oneCell']) (by unfold maxLen; omega) (by omega) (by show _ ≤ (wr.drew.alloc _).heap.size; rw [World.size_alloc]; exact Nat.le_trans hsz (Nat.le_succ _)) ?_
        intro v' w4 ho hg hnil hat
        obtain ⟨ad4, cp4, ev⟩ := own_slice ho
        subst ev
        have HO : Hid ((lays [] (M.take (k + 1))).length = 0 + 1 ∧ w4.ownsRow w.heap.size 76 3 (.slice ad4 (0 + 1) cp4) (0 + 1) (cells (lays [] (M.take (k + 1)))) ∧ Kp Nu w w4) := by
          refine ⟨by rw [HE.out]; simp, by rw [HE.out, show cells [s] = cells [] ++ [.int .u64 s.lo, .int .u64 s.hi, .int .u8 s.h] from rfl]; exact ho, ?_⟩
          refine ((HK.out.drew.andAlloc _).trans (Kp.of_grown hg) (fun i hi e => ?_))
          have := (HD.out.lt i e.symm).1
          omega
        clear ho hg hnil hat HD HK
        go_wp2_with fail
        exact ⟨⟨k + 1, _, _, _, by omega, by go_num, rfl, by omega, HO⟩, by simp [intOf]; omega⟩
      · rw [List.concat_eq_append] at e
        obtain ⟨q, hq⟩ : ∃ q, A'.length = q := ⟨_, rfl⟩
        have hl3 : n = q + 1 := by rw [← hl, e, ← hq]; simp
        have hlt2 : (A' ++ [t])[A'.length]? = some t := by simp
        have hown2 : wr.ownsRow w.heap.size 76 3 (.slice adl n cpl) (A'.length + 1) (cells (A' ++ [t])) := by
          rw [← e, hq, ← hl3]; exact hown
        have hown3 : wr.ownsRow w.heap.size 76 3 (.slice adl n cpl) (A' ++ [t]).length (cells (A' ++ [t])) := by
          rw [← e, hl]; exact hown
        obtain ⟨r3, cap3, hu3, x0, x1, x2⟩ := row_at hown3 hlt2
        obtain ⟨r4, cap4, hu4, o1, o2⟩ := own_end hown2 s.hi
        have h34 : r4 = r3 := by
          rw [hu3] at hu4
          simp only [Value.slice.injEq, Option.some.injEq, Addr.mk.injEq, and_true] at hu4
          exact hu4.1.symm
        subst h34
        rw [hq] at x1 x2 o1 o2
        simp only [Value.slice.injEq] at hu3
        obtain ⟨rfl, hy1, hy2⟩ := hu3
        clear hy1 hy2 hu4
        have hr3 : w.heap.size ≤ r4 := (hown.lt r4 rfl).1
        have hq0 : (q : Int) + 1 > 0 := by omega
        have hq8 : (q : Int) + 1 ≤ 5864062014634 := by omega
        have hq9 : (0 : Int) ≤ (q : Int) := by omega
        have d0 : wr.drew.cell? ⟨bs, off + k * 3, none⟩ = some (.int .u64 s.lo) := c0
        have d1 : wr.drew.cell? ⟨bs, off + k * 3 + 1, none⟩ = some (.int .u64 s.hi) := c1
        have d2 : wr.drew.cell? ⟨bs, off + k * 3 + 2, none⟩ = some (.int .u8 s.h) := c2
        have HK := hide hkp
        by_cases hh : t.h = s.h
        · have e2 : lays [] (M.take (k + 1)) = A' ++ [⟨t.lo, s.hi, t.h⟩] := by rw [e1, e, lay_snoc, if_pos hh]
          have heq : (t.h == s.h) = true := by simpa using hh
          have d3 : wr.drew.cell? ⟨r4, q * 3 + 1, none⟩ = some (.int .u64 t.hi) := x1
          have d4 : wr.drew.frozen? ⟨r4, q * 3 + 1, none⟩ = false := o2
          have HO : Hid ((lays [] (M.take (k + 1))).length = q + 1 ∧ (wr.drew.setCell ⟨r4, q * 3 + 1, none⟩ (.int .u64 s.hi)).ownsRow w.heap.size 76 3 (.slice (some ⟨r4, 0, none⟩) (q + 1) cpl) (q + 1) (cells (lays [] (M.take (k + 1)))) ∧ Kp Nu w (wr.drew.setCell ⟨r4, q * 3 + 1, none⟩ (.int .u64 s.hi))) := by
            refine ⟨by rw [e2]; simp [hq], ?_, HK.out.drew.andSet _ _ (.inl hr3)⟩
            rw [e2]
            have h1 := o1
            rw [hl3] at h1
            exact h1
          subst hl3
          clear hI hl hown hown2 hown3 o1 hkp hs hkM e e1 e2 hle2 hn9 hlt2 x0 x1 hh
          go_wp2_with fail
          go_region
          go_wp2_with fail
          exact ⟨⟨k + 1, _, _, _, by omega, by go_num, rfl, by omega, HO⟩, by simp [intOf]; omega⟩
        · have e2 : lays [] (M.take (k + 1)) = A' ++ [t] ++ [s] := by rw [e1, e, lay_snoc, if_neg hh]
          have heq : (t.h == s.h) = false := by simpa using hh
          have hb9 : (q : Int) + 1 + 1 ≤ 5864062014634 := by
            rw [e2] at hn9
            simp [hq] at hn9
            omega
          have HE := hide e2
          have HQ := hide hq
          have HD : Hid (wr.drew.ownsRow w.heap.size 76 3 (.slice (some ⟨r4, 0, none⟩) (q + 1) cpl) (q + 1) (cells (A' ++ [t]))) := by
            have h1 := hown2
            rw [hq, hl3] at h1
            exact h1
          subst hl3
          clear hI hl hown hown2 hown3 o1 hkp hs hkM e e1 e2 hle2 hn9 hlt2 x0 x1 hh hq
          go_wp2_with fail
          go_region
          go_wp2_with (at_builtin; refine unhid ?_)
          refine wpList_append_own_at _ rfl (.tmp 40) (.tmp 45) 58 rfl w.heap.size 76 i0 (.agg #[.int .u64 0, .int .u64 0, .int .u8 0]) 3 24 Tryz.underlying58 hi hz0 hz1 hz2 rfl (by decide) (.slice (some ⟨r4, 0, none⟩) (q + 1) cpl) (q + 1) (cells (A' ++ [t])) rfl (HD.out.alloc _) ⟨wr.heap.size, 0, none⟩ 1 1 [.int .u64 s.lo, .int .u64 s.hi, .int .u8 s.h] rfl rfl (cell_three_new wr.drew _ _ _ _) (by simp [Value.oneCell']) (by unfold maxLen; omega) (by omega) (by show _ ≤ (wr.drew.alloc _).heap.size; rw [World.size_alloc]; exact Nat.le_trans hsz (Nat.le_succ _)) ?_
          intro v' w4 ho hg hnil hat
          obtain ⟨ad4, cp4, ev⟩ := own_slice ho
          subst ev
          have HO : Hid ((lays [] (M.take (k + 1))).length = q + 1 + 1 ∧ w4.ownsRow w.heap.size 76 3 (.slice ad4 (q + 1 + 1) cp4) (q + 1 + 1) (cells (lays [] (M.take (k + 1)))) ∧ Kp Nu w w4) := by
            refine ⟨by rw [HE.out]; simp [HQ.out], by rw [HE.out, cells_append (A' ++ [t]) [s]]; exact ho, ?_⟩
            refine ((HK.out.drew.andAlloc _).trans (Kp.of_grown hg) (fun i hi e => ?_))
            have := (HD.out.lt i e.symm).1
            omega
          clear ho hg hnil hat HD HK
          go_wp2_with fail
          exact ⟨⟨k + 1, _, _, _, by omega, by go_num, rfl, by omega, HO⟩, by simp [intOf]; omega⟩
    · have hge : ¬ (k : Int) < (N : Int) := by omega
      obtain rfl : k = N := by omega
      obtain ⟨hl, hown, hkp⟩ := hI.out
      rw [List.take_of_length_le (by rw [HN.out]; omega)] at hl hown
      have HO : Hid (wr.ownsRow w.heap.size 76 3 (.slice adl n cpl) (lays [] M).length (cells (lays [] M)) ∧ Kp Nu w wr) := ⟨by rw [hl]; exact hown, hkp⟩
      clear hI hl hown hkp
      go_wp2
      go_ret
      exact ⟨_, rfl, HO.out.1, HO.out.2⟩
end Go.Proofs.YtmlnglillgplfaaGreat.Rg
namespace Go.Proofs.YtmlnglillgplfaaGreat.Rg
open Go.RowKit Go.Shelf Go.Sort
open Go.Proofs.YtmlnglillgplfaaGreat.It
set_option linter.unusedVariables false
/-- what the document's Load answers -/
def Rrs (w w' : World) (lim : Int) (M : List Sg) (L : Int) (v : Value) (f : Int) : Prop :=
  (¬ (1 ≤ lim ∧ lim ≤ 8192) ∧ f = 63 ∧ L = 0 ∧ v = .slice none 0 0) ∨
  ((1 ≤ lim ∧ lim ≤ 8192) ∧ ∃ p f', Frs M p f' ∧ f = refC lim M f' ∧ ((f ≠ 0 ∧ L = 0 ∧ v = .slice none 0 0) ∨ (f = 0 ∧ L = lim ∧ w'.ownsRow w.heap.size 76 3 v (lays [] M).length (cells (lays [] M)))))

theorem cell2' {w : World} {b : Nat} {x0 x1 : Value} {t : TypeId} (h : w.heap[b]? = some (.cells #[x0, x1] t (0, 0))) : w.cell? ⟨b, 0, none⟩ = some x0 ∧ w.cell? ⟨b, 1, none⟩ = some x1 := by
  refine ⟨?_, ?_⟩ <;> simp [World.cell?, h]

set_option maxRecDepth 100000 in
set_option maxHeartbeats 1000000 in
theorem refLoad_any (w : World) (u : Value) (M : List Sg) (hM : Sgs w u M) (hlen : (M.length : Int) ≤ 5864062014634) (lim : Int) :
    Calls Tryz.prog 65 #[u, .int .i64 lim] w fun e w' => ∃ L v f, e = .returned (.tuple #[.agg #[.int .i64 L, v], .int .i64 f]) ∧ Rrs w w' lim M L v f ∧ Kp Nu w w' := by
  obtain ⟨ad, cap, hu⟩ := hM.slice
  have K0 := Kp.alloc w (.cells #[.int .i64 0, .slice none 0 0] 73) Nu
  by_cases h1 : lim < 1
  · generalize M.length = N at hu hlen
    subst hu
    clear hM
    go_enter Tryz.func65, Tryz.ntmps65
    go_wp2
    exact bodyPost_ret (v := .tuple #[.agg #[.int .i64 0, .slice none 0 0], .int .i64 63]) (by simp [results, Tryz.results65, go_sem]) rfl ⟨0, _, _, rfl, .inl ⟨by omega, rfl, rfl, rfl⟩, K0⟩
  by_cases h2 : lim > 8192
  · generalize M.length = N at hu hlen
    subst hu
    clear hM
    go_enter Tryz.func65, Tryz.ntmps65
    go_wp2
    exact bodyPost_ret (v := .tuple #[.agg #[.int .i64 0, .slice none 0 0], .int .i64 63]) (by simp [results, Tryz.results65, go_sem]) rfl ⟨0, _, _, rfl, .inl ⟨by omega, rfl, rfl, rfl⟩, K0⟩
  have hl : 1 ≤ lim ∧ lim ≤ 8192 := ⟨by omega, by omega⟩
  have nuS : ∀ {W W' : World}, Sgs W u M → Kp Nu W W' → Sgs W' u M := fun {W W'} h k => by
    rcases h with h | ⟨b, off, cp, h0, h3⟩
    · exact .inl h
    · exact .inr ⟨b, off, cp, h0, fun i s hs => ⟨cell_nu (h3 i s hs).c0 k, cell_nu (h3 i s hs).c1 k, cell_nu (h3 i s hs).c2 k, (h3 i s hs).fit⟩⟩
  have FA := fault_refA _ u M (nuS hM K0) (by omega)
  have HM := hide (nuS hM K0)
  have HL := hide hlen
  have HNS : Hid (∀ (W W' : World), Sgs W u M → Kp Nu W W' → Sgs W' u M) := fun W W' h k => nuS h k
  have hb0 : (w.alloc (.cells #[.int .i64 0, .slice none 0 0] 73)).heap[w.heap.size]? = some (.cells #[.int .i64 0, .slice none 0 0] 73 (0, 0)) := heap_alloc_new w _
  have HB := hide hb0
  have HK0 := hide K0
  have HUU := hide hu
  generalize hN : M.length = N at hu hlen
  have HNN := hide hN
  subst hu
  clear hM nuS hb0 K0 hN
  go_enter Tryz.func65, Tryz.ntmps65
  go_wp2_with fail
  refine FA.mono ?_; rintro e w2 ⟨p, f, rfl, hF, hk2⟩
  have HF := hide hF
  have hb2 := (hk2.block _ (blk_lt HB.out) (fun h => h)).trans HB.out
  obtain ⟨a0, a1⟩ := cell2' hb2
  have g0 := free3 hb2 0
  have g1 := free3 hb2 1
  clear FA hF
  by_cases hf : f = 0
  · subst hf
    have JO := join_any w2 _ M (HNS.out _ _ HM.out hk2) HL.out
    have HB2 := hide hb2
    have HK2 := hide (HK0.out.andNu hk2)
    clear hb2 hk2 a0 a1 g0 g1
    go_wp2_with fail
    refine JO.mono ?_; rintro e w3 ⟨u', rfl, ho, hk3⟩
    obtain ⟨ad3, cp3, hu3⟩ := own_slice ho
    have hb3 := (hk3.block _ (blk_lt HB2.out) (fun h => h)).trans HB2.out
    obtain ⟨a0, a1⟩ := cell2' hb3
    have g0 := free3 hb3 0
    have g1 := free3 hb3 1
    have HK3 := hide (HK2.out.andNu hk3)
    have hsz : w.heap.size ≤ w2.heap.size := HK2.out.size
    have HO := hide ho
    obtain ⟨NL, hNL⟩ : ∃ NL, (lays [] M).length = NL := ⟨_, rfl⟩
    have HNL := hide hNL
    rw [hNL] at hu3
    subst hu3
    have HB3 := hide hb3
    clear JO ho hk3 hNL hb3
    by_cases hgt : (NL : Int) > lim
    · go_wp2
      have hb4 := set3 (set3 HB3.out 0 (.int .i64 0)) 1 (.slice none 0 0)
      obtain ⟨y0, y1⟩ := cell2' (show ((w3.setCell ⟨w.heap.size, 0, none⟩ (.int .i64 0)).setCell ⟨w.heap.size, 1, none⟩ (.slice none 0 0)).heap[w.heap.size]? = some (.cells #[.int .i64 0, .slice none 0 0] 73 (0, 0)) from hb4)
      exact bodyPost_ret (v := .tuple #[.agg #[.int .i64 0, .slice none 0 0], .int .i64 61]) (by simp [results, Tryz.results65, go_sem, y0, y1]) rfl ⟨0, _, _, rfl, .inr ⟨hl, p, 0, HF.out, by unfold refC; rw [if_neg (by omega), HNL.out, if_pos (by omega)], .inl ⟨by omega, rfl, rfl⟩⟩, (HK3.out.andSet _ _ (.inl (Nat.le_refl _))).andSet _ _ (.inl (Nat.le_refl _))⟩
    · go_wp2
      have hb4 := set3 (set3 HB3.out 0 (.int .i64 lim)) 1 (.slice ad3 NL cp3)
      obtain ⟨y0, y1⟩ := cell2' (show ((w3.setCell ⟨w.heap.size, 0, none⟩ (.int .i64 lim)).setCell ⟨w.heap.size, 1, none⟩ (.slice ad3 NL cp3)).heap[w.heap.size]? = some (.cells #[.int .i64 lim, .slice ad3 NL cp3] 73 (0, 0)) from hb4)
      refine bodyPost_ret (v := .tuple #[.agg #[.int .i64 lim, .slice ad3 NL cp3], .int .i64 0]) (by simp [results, Tryz.results65, go_sem, y0, y1]) rfl ⟨lim, _, _, rfl, .inr ⟨hl, p, 0, HF.out, by unfold refC; rw [if_neg (by omega), HNL.out, if_neg (by omega)], .inr ⟨rfl, rfl, ?_⟩⟩, (HK3.out.andSet _ _ (.inl (Nat.le_refl _))).andSet _ _ (.inl (Nat.le_refl _))⟩
      have kk : Kp (fun k => k = w.heap.size) w3 ((w3.setCell ⟨w.heap.size, 0, none⟩ (.int .i64 lim)).setCell ⟨w.heap.size, 1, none⟩ (.slice ad3 NL cp3)) := ((Kp.setCell w3 ⟨w.heap.size, 0, none⟩ _).trans (Kp.setCell _ ⟨w.heap.size, 1, none⟩ _) (fun _ _ h => h))
      have h2sz : w.heap.size < w2.heap.size := blk_lt HB2.out
      refine own_base (base := w2.heap.size) ?_ hsz
      exact own_keep HO.out (fun g hg => kk.block g (own_lt HO.out hg) (fun e => by have e2 : g = w.heap.size := e; have := (HO.out.lt g hg).1; omega))
  · have hfb : (f != 0) = true := by simpa using hf
    have HK2 := hide (HK0.out.andNu hk2)
    have HB2 := hide hb2
    clear hk2 hb2
    go_wp2
    have hb4 := set3 (set3 HB2.out 0 (.int .i64 0)) 1 (.slice none 0 0)
    obtain ⟨y0, y1⟩ := cell2' (show ((w2.setCell ⟨w.heap.size, 0, none⟩ (.int .i64 0)).setCell ⟨w.heap.size, 1, none⟩ (.slice none 0 0)).heap[w.heap.size]? = some (.cells #[.int .i64 0, .slice none 0 0] 73 (0, 0)) from hb4)
    exact bodyPost_ret (v := .tuple #[.agg #[.int .i64 0, .slice none 0 0], .int .i64 f]) (by simp [results, Tryz.results65, go_sem, y0, y1]) rfl ⟨0, _, _, rfl, .inr ⟨hl, p, f, HF.out, by unfold refC; rw [if_pos hf], .inl ⟨hf, rfl, rfl⟩⟩, (HK2.out.andSet _ _ (.inl (Nat.le_refl _))).andSet _ _ (.inl (Nat.le_refl _))⟩
end Go.Proofs.YtmlnglillgplfaaGreat.Rg
namespace Go.Proofs.YtmlnglillgplfaaGreat.Cl
open Go.RowKit Go.Maps
set_option linter.unusedVariables false
theorem info76 : (Tryz.prog.info? 76).map (·.size) = some 3 := by kernel_rfl
theorem cov_has {key : Int} : ∀ {L : List Rg.Sg} {a m : Int}, Rg.Cov a L m → a ≤ key → key < m → ∃ s ∈ L, s.lo ≤ key ∧ key ≤ s.hi
  | [], a, m, h, h0, h1 => by have e : a = m := h; omega
  | s :: r, a, m, h, h0, h1 => by
    obtain ⟨e, h2, h3⟩ := h
    by_cases hk : key ≤ s.hi
    · exact ⟨s, by simp, by omega, hk⟩
    · obtain ⟨t, ht, h4⟩ := cov_has h3 (by omega) h1
      exact ⟨t, by simp [ht], h4⟩
theorem cov_fit : ∀ {L : List Rg.Sg} {a m : Int}, Rg.Cov a L m → 0 ≤ a → m ≤ 18446744073709551616 → ∀ s ∈ L, 0 ≤ s.lo ∧ s.lo ≤ s.hi ∧ s.hi < 18446744073709551616
  | [], a, m, h, h0, h1, s, hs => by cases hs
  | t :: r, a, m, h, h0, h1, s, hs => by
    obtain ⟨e, h2, h3⟩ := h
    have hle : t.hi + 1 ≤ m := by
      clear hs
      have : ∀ {L : List Rg.Sg} {a m : Int}, Rg.Cov a L m → a ≤ m := fun {L} => by
        induction L with
        | nil => intro a m h; have e : a = m := h; omega
        | cons x y ih => intro a m h; obtain ⟨e1, e2, e3⟩ := h; have := ih e3; omega
      exact this h3
    rcases List.mem_cons.1 hs with rfl | hs
    · omega
    · exact cov_fit h3 (by omega) h1 s hs
/-- the document's table in memory -/
structure Dt (w : World) (s : Value) (L : List Rg.Sg) : Prop where
  tab : Rg.Tab L
  len : L.length ≤ 64
  mem : ∃ r off cap, s = .slice (some ⟨r, off, none⟩) L.length cap ∧ ∀ i g, L[i]? = some g → Rg.SgAt w r (off + i * 3) g
theorem Dt.nu {w w' : World} {s : Value} {L : List Rg.Sg} (h : Dt w s L) (k : Kp Nu w w') : Dt w' s L := by
  obtain ⟨r, off, cap, e, hc⟩ := h.mem
  exact ⟨h.tab, h.len, r, off, cap, e, fun i g hg => ⟨Rg.cell_nu (hc i g hg).c0 (kpR' k), Rg.cell_nu (hc i g hg).c1 (kpR' k), Rg.cell_nu (hc i g hg).c2 (kpR' k), (hc i g hg).fit⟩⟩
theorem tab_fit {L : List Rg.Sg} (h : Rg.Tab L) {s : Rg.Sg} (hs : s ∈ L) : 0 ≤ s.lo ∧ s.lo < 18446744073709551616 ∧ 0 ≤ s.hi ∧ s.hi < 18446744073709551616 ∧ 0 ≤ s.h ∧ s.h < 256 := by
  have h1 := cov_fit h.cov (Int.le_refl _) (Int.le_refl _) s hs
  have h2 := h.hs s hs
  omega
theorem dt_own {w : World} {B : Nat} {v : Value} {L : List Rg.Sg} (h : w.ownsRow B 76 3 v L.length (Rg.cells L)) (ht : Rg.Tab L) (hl : L.length ≤ 64) : Dt w v L := by
  have hne : 0 < L.length := by
    cases L with
    | nil => have e : (0 : Int) = 18446744073709551616 := ht.cov; omega
    | cons x y => simp
  obtain ⟨g0, hg0⟩ : ∃ g, L[0]? = some g := ⟨_, List.getElem?_eq_getElem hne⟩
  obtain ⟨r, cap, e, _, _, _⟩ := Rg.row_at h hg0
  refine ⟨ht, hl, r, 0, cap, e, fun i g hg => ?_⟩
  obtain ⟨r', cap', e', c0, c1, c2⟩ := Rg.row_at h hg
  rw [e] at e'
  simp only [Value.slice.injEq, Option.some.injEq, Addr.mk.injEq, and_true, true_and] at e'
  obtain ⟨rfl, _⟩ := e'
  rw [Nat.zero_add]
  exact ⟨c0, c1, c2, tab_fit ht (List.mem_of_getElem? hg)⟩
set_option maxRecDepth 100000 in
set_option maxHeartbeats 1000000 in
/-- the segment of a key -/
theorem segAt_ok (w : World) (lim : Int) (s : Value) (L : List Rg.Sg) (h : Dt w s L) (key : Int) (k0 : 0 ≤ key) (k1 : key < 18446744073709551616) :
    Calls Tryz.prog 33 #[.agg #[.int .i64 lim, s], .int .u64 key] w fun e w' => ∃ g, e = .returned (.agg #[.int .u64 g.lo, .int .u64 g.hi, .int .u8 g.h]) ∧ Hid (g ∈ L ∧ g.lo ≤ key ∧ key ≤ g.hi) ∧ Kp Nu w w' := by
  obtain ⟨r, off, cap, rfl, hc⟩ := h.mem
  obtain ⟨N, hN⟩ : ∃ N, L.length = N := ⟨_, rfl⟩
  have hl := h.len
  rw [hN] at hl ⊢
  have HC := hide (And.intro hc (And.intro h.tab hN))
  have hkk : (0 : Int) ≤ key := k0
  clear h hc hN
  obtain ⟨w2, e2⟩ : ∃ w2, (w.alloc (.cells #[.int .i64 lim, .slice (some ⟨r, off, none⟩) N cap] 73)).alloc (.cells #[.int .u64 0, .int .u64 0, .int .u8 0] 76) = w2 := ⟨_, rfl⟩
  have k2 : Kp Nu w w2 := by rw [← e2]; exact (Kp.alloc _ _ _).andAlloc _
  have hb : w2.heap[w.heap.size]? = some (.cells #[.int .i64 lim, .slice (some ⟨r, off, none⟩) N cap] 73 (0, 0)) := by rw [← e2]; exact new12 w _ _
  have hz : w2.heap[w.heap.size + 1]? = some (.cells #[.int .u64 0, .int .u64 0, .int .u8 0] 76 (0, 0)) := by rw [← e2]; exact new2 w _ _
  have x1 := cellAt hb 1 (v := .slice (some ⟨r, off, none⟩) N cap) rfl
  have z0 := cellAt hz 0 (v := .int .u64 0) rfl
  have z1 := cellAt hz 1 (v := .int .u64 0) rfl
  have z2 := cellAt hz 2 (v := .int .u8 0) rfl
  have f0 := free3 hz 0
  have f1 := free3 hz 1
  have f2 := free3 hz 2
  have HZ := hide (And.intro k2 hz)
  clear hb hz k2
  go_enter Tryz.func33, Tryz.ntmps33
  go_wp2_with fail
  go_loopw [5] (fun iv wr => ∃ i : Nat, iv = .int .i64 (i : Int) ∧ i ≤ N ∧ wr = w2 ∧ Hid (∀ j g, j < i → L[j]? = some g → ¬ (g.lo ≤ key ∧ key ≤ g.hi))) (fun iv _ => N - (intOf iv).toNat)
  case atStart => exact ⟨0, rfl, Nat.zero_le _, rfl, hide (fun j g hj => by omega)⟩
  case round =>
    obtain ⟨i, rfl, hi, rfl, hI⟩ := hrel
    have hi0 : (0 : Int) ≤ (i : Int) := by omega
    by_cases hlt : i < N
    · have hltI : (i : Int) < (N : Int) := by omega
      obtain ⟨g, hg⟩ : ∃ g, L[i]? = some g := ⟨_, List.getElem?_eq_getElem (by rw [HC.out.2.2]; exact hlt)⟩
      obtain ⟨c0, c1, c2, _⟩ := HC.out.1 i g hg
      replace c0 := Rg.cell_nu c0 (kpR' HZ.out.1)
      replace c1 := Rg.cell_nu c1 (kpR' HZ.out.1)
      replace c2 := Rg.cell_nu c2 (kpR' HZ.out.1)
      have HG := hide hg
      clear hg
      by_cases h1 : g.lo ≤ key
      · have d1 : decide (g.lo ≤ key) = true := by simpa using h1
        by_cases h2 : key ≤ g.hi
        · have d2 : decide (key ≤ g.hi) = true := by simpa using h2
          have hz := HZ.out.2
          have hS : (((wr.setCell ⟨w.heap.size + 1, 0, none⟩ (.int .u64 g.lo)).setCell ⟨w.heap.size + 1, 1, none⟩ (.int .u64 g.hi)).setCell ⟨w.heap.size + 1, 2, none⟩ (.int .u8 g.h)).heap[w.heap.size + 1]? = some (.cells #[.int .u64 g.lo, .int .u64 g.hi, .int .u8 g.h] 76 (0, 0)) := set3 (set3 (set3 hz 0 _) 1 _) 2 _
          have kS : Kp Nu w (((wr.setCell ⟨w.heap.size + 1, 0, none⟩ (.int .u64 g.lo)).setCell ⟨w.heap.size + 1, 1, none⟩ (.int .u64 g.hi)).setCell ⟨w.heap.size + 1, 2, none⟩ (.int .u8 g.h)) := ((HZ.out.1.andSet _ _ (.inl (by show w.heap.size ≤ w.heap.size + 1; omega))).andSet _ _ (.inl (by show w.heap.size ≤ w.heap.size + 1; omega))).andSet _ _ (.inl (by show w.heap.size ≤ w.heap.size + 1; omega))
          have HS := hide (And.intro hS kS)
          have H12 := hide (And.intro h1 h2)
          clear hz hS kS
          go_wp2
          refine bodyPost_ret (results_cell_row rfl _ _ (w.heap.size + 1) 76 _ _ _ rfl HS.out.1 Tryz.underlying76 rfl info76) rfl ?_
          exact ⟨g, rfl, hide ⟨List.mem_of_getElem? HG.out, H12.out.1, H12.out.2⟩, HS.out.2⟩
        · have d2 : decide (key ≤ g.hi) = false := by simpa using h2
          go_wp2
          exact ⟨⟨i + 1, by go_num, by omega, by simp, hide (fun j g' hj hg' => by
            by_cases e : j = i
            · subst e; rw [HG.out] at hg'; cases hg'; omega
            · exact hI.out j g' (by omega) hg')⟩, by simp [intOf]; omega⟩
      · have d1 : decide (g.lo ≤ key) = false := by simpa using h1
        go_wp2
        exact ⟨⟨i + 1, by go_num, by omega, by simp, hide (fun j g' hj hg' => by
          by_cases e : j = i
          · subst e; rw [HG.out] at hg'; cases hg'; omega
          · exact hI.out j g' (by omega) hg')⟩, by simp [intOf]; omega⟩
    · exfalso
      obtain ⟨s, hs, h2⟩ := cov_has HC.out.2.1.cov k0 k1
      obtain ⟨j, hj, rfl⟩ := List.mem_iff_getElem.1 hs
      exact hI.out j _ (by have := HC.out.2.2; omega) (List.getElem?_eq_getElem hj) h2
end Go.Proofs.YtmlnglillgplfaaGreat.Cl
namespace Go.Proofs.YtmlnglillgplfaaGreat.Cl
open Go.RowKit Go.Maps
set_option linter.unusedVariables false
theorem sgs_fit {w : World} {u : Value} {M : List Rg.Sg} (h : Rg.Sgs w u M) : ∀ s ∈ M, Rg.SgB s := by
  intro s hs
  rcases h with ⟨_, rfl⟩ | ⟨b, off, cap, _, hc⟩
  · cases hs
  · obtain ⟨i, hi, rfl⟩ := List.mem_iff_getElem.1 hs
    obtain ⟨h0, h1, h2, h3, h4, h5⟩ := (hc i _ (List.getElem?_eq_getElem hi)).fit
    exact ⟨h0, h1, h2, h3, h4, h5⟩
theorem frs_tab {M : List Rg.Sg} {p f : Int} (hb : ∀ s ∈ M, Rg.SgB s) (h : Rg.Frs M p f) (hc : Rg.refC 64 M f = 0) : Rg.Tab (Rg.lays [] M) ∧ (Rg.lays [] M).length ≤ 64 := by
  unfold Rg.refC at hc
  by_cases hf : f = 0
  · rw [if_neg (by simpa using hf)] at hc
    have hl : ¬ (64 : Int) < ((Rg.lays [] M).length : Int) := by
      intro q
      rw [if_pos q] at hc
      omega
    rcases h with ⟨k, s, _, _, h1, h2, _⟩ | ⟨_, h1, _⟩ | ⟨_, h1, h2, _⟩
    · exact absurd hf h2
    · omega
    · exact ⟨(Rg.lok_good h1 h2 hb).tab, by omega⟩
  · rw [if_pos (by simpa using hf)] at hc
    exact absurd hc hf
theorem one_tab : Rg.Tab [⟨0, 18446744073709551615, 0⟩] := ⟨⟨rfl, by show (0 : Int) ≤ 18446744073709551615; omega, rfl⟩, by simp [Rg.Alt], fun s hs => by simp only [List.mem_singleton] at hs; subst hs; exact ⟨by show (0 : Int) ≤ 0; omega, by show (0 : Int) < 16; omega⟩⟩
set_option maxRecDepth 100000 in
set_option maxHeartbeats 1000000 in
theorem good_ok (w : World) (u : Value) (M : List Rg.Sg) (hM : Rg.Sgs w u M) (hlen : (M.length : Int) ≤ 5864062014634) :
    Calls Tryz.prog 31 #[u] w fun e w' => ∃ s L, e = .returned (.agg #[.int .i64 64, s]) ∧ Hid (Dt w' s L) ∧ Kp Nu w w' := by
  have hfit := sgs_fit hM
  obtain ⟨ad, cap, hu⟩ := hM.slice
  have K0 : Kp Nu w (w.alloc (.cells #[.int .i64 0, .slice none 0 0] 73)) := Kp.alloc _ _ _
  have hM0 : Rg.Sgs (w.alloc (.cells #[.int .i64 0, .slice none 0 0] 73)) u M := by
    rcases hM with h | ⟨b, off, cp, h0, h3⟩
    · exact .inl h
    · exact .inr ⟨b, off, cp, h0, fun i s hs => ⟨Rg.cell_nu (h3 i s hs).c0 (kpR' K0), Rg.cell_nu (h3 i s hs).c1 (kpR' K0), Rg.cell_nu (h3 i s hs).c2 (kpR' K0), (h3 i s hs).fit⟩⟩
  have RL := Rg.refLoad_any _ u M hM0 hlen 64
  have RT := refTab
  generalize M.length = N at hu hlen
  subst hu
  have HF := hide hfit
  clear hM hM0 hfit K0
  go_enter Tryz.func31, Tryz.ntmps31
  go_wp2_with fail
  refine RL.mono ?_; rintro e w1 ⟨Lm, v, f, rfl, hR, hk1⟩
  have hz1 := new_at w _ (kpR hk1)
  rcases hR with ⟨hx, _⟩ | ⟨_, p, f', hFr, hf, hR⟩
  · exact absurd ⟨by omega, by omega⟩ hx
  rcases hR with ⟨hf0, rfl, rfl⟩ | ⟨hf0, rfl, ho⟩
  · have hfb : (f != 0) = true := by simpa using hf0
    have hfd : decide (f = 0) = false := by simpa using hf0
    have hfe : (f == 0) = false := by simpa using hf0
    have H1 := hide (And.intro hz1 (kpR hk1))
    clear RL hFr hf hk1 hz1
    go_wp2_with fail
    refine (RT _).mono ?_; rintro e w2 ⟨r, rfl, hr, hrl, hk2⟩
    obtain ⟨hz1, hk1⟩ := H1.out
    have hb2 := new_at w1 _ hk2
    have hz2 := box_k hz1 ((Kp.alloc w1 _ Nu).andNu hk2)
    have y0 := cellAt hb2 0 (v := .int .i64 0) rfl
    have y1 := cellAt hb2 1 (v := .slice none 0 0) rfl
    have g0 := free3 hb2 0
    have g1 := free3 hb2 1
    have z0 := cellAt hz2 0 (v := .int .i64 0) rfl
    have z1 := cellAt hz2 1 (v := .slice none 0 0) rfl
    have j0 := free3 hz2 0
    have j1 := free3 hz2 1
    have hlt1 := blk_lt hz1
    have hne : w.heap.size ≠ w1.heap.size := by omega
    have hne' : w1.heap.size ≠ w.heap.size := fun e => hne e.symm
    have kk : Kp (fun i => i = w1.heap.size ∨ i = w.heap.size) w2 ((((w2.setCell ⟨w1.heap.size, 0, none⟩ (.int .i64 64)).setCell ⟨w1.heap.size, 1, none⟩ (.slice (some ⟨r, 0, none⟩) 1 1)).setCell ⟨w.heap.size, 0, none⟩ (.int .i64 64)).setCell ⟨w.heap.size, 1, none⟩ (.slice (some ⟨r, 0, none⟩) 1 1)) :=
      ((((Kp.refl _ w2).andSet _ _ (.inr (.inl rfl))).andSet _ _ (.inr (.inl rfl))).andSet _ _ (.inr (.inr rfl))).andSet _ _ (.inr (.inr rfl))
    have kp1 : Kp (fun i => i = w1.heap.size) w2 ((w2.setCell ⟨w1.heap.size, 0, none⟩ (.int .i64 64)).setCell ⟨w1.heap.size, 1, none⟩ (.slice (some ⟨r, 0, none⟩) 1 1)) := (Kp.setCell w2 ⟨w1.heap.size, 0, none⟩ _).trans (Kp.setCell _ ⟨w1.heap.size, 1, none⟩ _) (fun _ _ e => e)
    have hz3 := (kp1.block _ (blk_lt hz2) (fun e => hne e)).trans hz2
    have hS : ((((w2.setCell ⟨w1.heap.size, 0, none⟩ (.int .i64 64)).setCell ⟨w1.heap.size, 1, none⟩ (.slice (some ⟨r, 0, none⟩) 1 1)).setCell ⟨w.heap.size, 0, none⟩ (.int .i64 64)).setCell ⟨w.heap.size, 1, none⟩ (.slice (some ⟨r, 0, none⟩) 1 1)).heap[w.heap.size]? = some (.cells #[.int .i64 64, .slice (some ⟨r, 0, none⟩) 1 1] 73 (0, 0)) := set3 (set3 hz3 0 _) 1 _
    have hrl' : w1.heap.size + 1 ≤ r := by simpa using hrl
    have hr4 := (kk.block _ (blk_lt hr) (fun e => by rcases e with e | e <;> omega)).trans hr
    have kw2 : Kp Nu w w2 := (((Kp.alloc w _ Nu).andNu hk1).andNu ((Kp.alloc w1 _ Nu).andNu hk2))
    have kw4 := kw2.trans kk (fun q hq e => by have e' : q = w1.heap.size ∨ q = w.heap.size := e; omega)
    have H2 := hide (And.intro hS (And.intro hr4 kw4))
    clear RT hz1 hk1 hb2 hz2 hr hrl hk2 H1 hlt1 kk kp1 hz3 hS hrl' hr4 kw2 kw4
    go_wp2
    refine bodyPost_ret (results_cell_row rfl _ _ w.heap.size 73 _ _ _ rfl H2.out.1 Tryz.underlying73 rfl info73) rfl ?_
    refine ⟨_, [⟨0, 18446744073709551615, 0⟩], rfl, hide ⟨one_tab, by simp, r, 0, 1, rfl, fun i g hg => ?_⟩, H2.out.2.2⟩
    have hi0 : i = 0 := by
      have := (List.getElem?_eq_some_iff.1 hg).1
      simp at this
      exact this
    subst hi0
    simp only [List.getElem?_cons_zero, Option.some.injEq] at hg
    subst hg
    exact ⟨cellAt H2.out.2.1 0 rfl, cellAt H2.out.2.1 1 rfl, cellAt H2.out.2.1 2 rfl, by simp⟩
  · obtain ⟨adv, cpv, ev⟩ := own_slice ho
    subst hf0
    have hT := frs_tab HF.out hFr hf.symm
    have DT := dt_own ho hT.1 hT.2
    obtain ⟨NL, hNL⟩ : ∃ NL, (Rg.lays [] M).length = NL := ⟨_, rfl⟩
    rw [hNL] at ev
    subst ev
    have k1 := kpR hk1
    have hlt1 := blk_lt hz1
    have ka : Kp Nu w1 (w1.alloc (.cells #[.int .i64 64, .slice adv NL cpv] 73)) := Kp.alloc _ _ _
    have hz2 := box_k hz1 ka
    have z0 := cellAt hz2 0 (v := .int .i64 0) rfl
    have z1 := cellAt hz2 1 (v := .slice none 0 0) rfl
    have j0 := free3 hz2 0
    have j1 := free3 hz2 1
    have hS : (((w1.alloc (.cells #[.int .i64 64, .slice adv NL cpv] 73)).setCell ⟨w.heap.size, 0, none⟩ (.int .i64 64)).setCell ⟨w.heap.size, 1, none⟩ (.slice adv NL cpv)).heap[w.heap.size]? = some (.cells #[.int .i64 64, .slice adv NL cpv] 73 (0, 0)) := set3 (set3 hz2 0 _) 1 _
    have kk : Kp (fun i => i = w.heap.size) w1 (((w1.alloc (.cells #[.int .i64 64, .slice adv NL cpv] 73)).setCell ⟨w.heap.size, 0, none⟩ (.int .i64 64)).setCell ⟨w.heap.size, 1, none⟩ (.slice adv NL cpv)) := (ka.mono (fun _ _ h => h.elim)).trans ((Kp.setCell _ ⟨w.heap.size, 0, none⟩ _).trans (Kp.setCell _ ⟨w.heap.size, 1, none⟩ _) (fun _ _ e => e)) (fun _ _ e => e)
    have kw := ((Kp.alloc w (.cells #[.int .i64 0, .slice none 0 0] 73) Nu).andNu k1).trans kk (fun q hq e => by have e' : q = w.heap.size := e; omega)
    have ho4 := own_keep ho (fun g hg => kk.block g (own_lt ho hg) (fun e => by have e' : g = w.heap.size := e; have h5 := (ho.lt g hg).1; simp at h5; omega))
    have DT4 := dt_own ho4 hT.1 hT.2
    have H2 := hide (And.intro hS (And.intro DT4 kw))
    clear RL RT hFr hf ho hT DT k1 hlt1 ka hz2 hS kk kw ho4 DT4 hz1 hk1
    go_wp2
    refine bodyPost_ret (results_cell_row rfl _ _ w.heap.size 73 _ _ _ rfl H2.out.1 Tryz.underlying73 rfl info73) rfl ?_
    exact ⟨_, _, rfl, hide H2.out.2.1, H2.out.2.2⟩
end Go.Proofs.YtmlnglillgplfaaGreat.Cl
