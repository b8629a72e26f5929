import Derived.Test.YtbifmcadllilhaaGreatLdD
import Derived.Test.YtbifmcadllilhaaGreatPnC
import Derived.Sort.Defs
import Derived.StillTailTactics
import Derived.Sort.Grow
import Derived.Deep.Draws
namespace Go.Proofs.YtbifmcadllilhaaGreat.Rg
open Go.RowKit Go.Shelf Go.Sort
open Go.Proofs.YtbifmcadllilhaaGreat.It
set_option linter.unusedVariables false

/-- what the document's Fault answers -/
def Frs (M : List Sg) (p c : Int) : Prop :=
  (∃ k s, Lok M k ∧ M[k]? = some s ∧ flt (lays [] (M.take k)) s = c ∧ c ≠ 0 ∧ p = (k : Int)) ∨
  (Lok M M.length ∧ c = 62 ∧ endF (lays [] M) = false ∧ p = (M.length : Int)) ∨
  (c = 0 ∧ Lok M M.length ∧ endF (lays [] M) = true ∧ p = 0)
theorem flt_62 {A : List Sg} {s : Sg} (h : fol A s = false) : flt A s = 62 := by simp [flt, h]
theorem flt_60 {A : List Sg} {s : Sg} (h : fol A s = true) (h2 : s.hi < s.lo) : flt A s = 60 := by simp [flt, h, h2]
theorem flt_2 {A : List Sg} {s : Sg} (h : fol A s = true) (h2 : ¬ s.hi < s.lo) (h3 : 16 ≤ s.h) : flt A s = 2 := by simp [flt, h, h2, h3]
theorem flt_0 {A : List Sg} {s : Sg} (h : fol A s = true) (h2 : ¬ s.hi < s.lo) (h3 : ¬ 16 ≤ s.h) : flt A s = 0 := by simp [flt, h, h2, h3]
theorem fol_ne {A : List Sg} {s : Sg} {m : Int} (hc : Cov 0 A m) (h : s.lo ≠ m) : fol A s = false := by
  cases hf : fol A s with
  | false => rfl
  | true => exact absurd (fol_cov hc hf) h
theorem fol_eq {A : List Sg} {s : Sg} {m : Int} (hc : Cov 0 A m) (h : s.lo = m) : fol A s = true := by
  rcases List.eq_nil_or_concat A with rfl | ⟨A', t, rfl⟩
  · have e : (0 : Int) = m := hc
    simp only [fol, List.getLast?_nil, beq_iff_eq]
    omega
  · rw [List.concat_eq_append] at hc ⊢
    have hl := cov_last hc
    have hm := cov_mem hc t (by simp)
    simp only [fol, List.getLast?_append, List.getLast?_singleton, Option.some_or, Bool.and_eq_true, decide_eq_true_eq, beq_iff_eq]
    omega
theorem lok_step {M : List Sg} {k : Nat} {s : Sg} (h : Lok M k) (hs : M[k]? = some s) (hf : flt (lays [] (M.take k)) s = 0) : Lok M (k + 1) := fun i hi x hx => by
  by_cases e : i = k
  · subst e
    rw [hs] at hx
    cases hx
    exact hf
  · exact h i (by omega) x hx
theorem end_of {M : List Sg} {E : Int} (hc : Cov 0 M E) : endF (lays [] M) = decide (E = 18446744073709551616) := by
  have hc2 := (lays_cov (A := []) (a := 0) (m := 0) rfl hc).1
  rcases List.eq_nil_or_concat (lays [] M) with e | ⟨A', t, e⟩
  · rw [e] at hc2 ⊢
    have e2 : (0 : Int) = E := hc2
    have : ¬ E = 18446744073709551616 := by omega
    simp [endF, this]
  · rw [List.concat_eq_append] at e
    rw [e] at hc2 ⊢
    have hl := cov_last hc2
    simp only [endF, List.getLast?_append, List.getLast?_singleton, Option.some_or]
    by_cases h : E = 18446744073709551616
    · rw [decide_eq_true h]; simp; omega
    · rw [decide_eq_false h]; simp; omega

set_option maxRecDepth 100000 in
set_option maxHeartbeats 2000000 in
theorem fault_refA (w : World) (u : Value) (M : List Sg) (hM : Sgs w u M) (hlen : (M.length : Int) ≤ 5864062014634) :
    Calls Tryz.prog 24 #[u] w fun e w' => ∃ p c : Int, e = .returned (.tuple #[.int .i64 p, .int .i64 c]) ∧ Frs M p c ∧ Kp Nu w w' := by
  have mixed : Tryz.prog.follows .mixedOrders = true := by kernel_rfl
  obtain ⟨ad, cap, hu⟩ := hM.slice
  obtain ⟨N, hN⟩ : ∃ N, M.length = N := ⟨_, rfl⟩
  have HM := hide hM
  have HN := hide hN
  rw [hN] at hu hlen
  subst hu
  clear hM hN
  go_enter Tryz.func24, Tryz.ntmps24
  go_wp2_with fail
  go_loopw [4, 5, 6] (fun nx ov i wr => ∃ (k : Nat) (E : Int), i = .int .i64 (k : Int) ∧ k ≤ N ∧ nx = .int .u64 (if E = 18446744073709551616 then 0 else E) ∧ ov = .bool (decide (E = 18446744073709551616)) ∧ Hid (Lok M k ∧ 0 ≤ E ∧ E ≤ 18446744073709551616 ∧ Cov 0 (M.take k) E ∧ (∀ s ∈ M.take k, 0 ≤ s.h ∧ s.h < 16) ∧ Kp Nu w wr)) (fun _ _ i _ => N - (intOf i).toNat)
  case atStart => exact ⟨0, 0, rfl, Nat.zero_le _, by simp, by simp, ⟨fun i hi => by omega, by omega, by omega, rfl, by simp, Kp.refl _ _⟩⟩
  case round =>
    obtain ⟨k, E, rfl, hk, rfl, rfl, hI⟩ := hrel
    by_cases hlt : k < N
    · have hkM : k < M.length := by rw [HN.out]; exact hlt
      obtain ⟨s, hs⟩ : ∃ s, M[k]? = some s := ⟨_, List.getElem?_eq_getElem hkM⟩
      have hcell : ∃ bs off cp, (.slice ad N cap : Value) = .slice (some ⟨bs, off, none⟩) N cp ∧ SgAt w bs (off + k * 3) s := by
        rcases HM.out with ⟨_, h0⟩ | ⟨bs, off, cp, h0, h3⟩
        · rw [h0] at hs; simp at hs
        · rw [HN.out] at h0
          exact ⟨bs, off, cp, h0, h3 k s hs⟩
      obtain ⟨bs, off, cp, hq, hsg⟩ := hcell
      simp only [Value.slice.injEq] at hq
      obtain ⟨rfl, hq1⟩ := hq
      clear hq1
      obtain ⟨hok, E0, E1, hc, hh, hkp⟩ := hI.out
      have hcA := (lays_cov (A := []) (a := 0) (m := 0) rfl hc).1
      have HOK := hide hok
      have HS := hide hs
      clear hok
      obtain ⟨c0, c1, c2, F1⟩ := hsg
      replace c0 := cell_nu c0 hkp
      replace c1 := cell_nu c1 hkp
      replace c2 := cell_nu c2 hkp
      have hltI : (k : Int) < (N : Int) := by omega
      have hk0 : (0 : Int) ≤ (k : Int) := by omega
      have HK := hide hkp
      have HTK : Hid (M.take (k + 1) = M.take k ++ [s]) := by
        show _ = _
        rw [List.take_add_one, hs]; rfl
      by_cases hE : E = 18446744073709551616
      · rw [if_pos hE, decide_eq_true hE]
        have HFL : Hid (flt (lays [] (M.take k)) s = 62) := flt_62 (fol_ne hcA (by omega))
        clear hI hc hh hkp hs hkM hcA
        go_wp2
        go_ret2
        exact ⟨_, _, rfl, .inl ⟨k, s, HOK.out, HS.out, HFL.out, by omega, rfl⟩, HK.out⟩
      rw [if_neg hE, decide_eq_false hE]
      by_cases hlo : s.lo = E
      · have y1 : (s.lo != E) = false := by simp [hlo]
        have y1' : (E != E) = false := by simp
        by_cases hgt : s.lo > s.hi
        · have hgd : decide (s.hi < s.lo) = true := decide_eq_true hgt
          have d0 : wr.drew.cell? ⟨bs, off + k * 3, none⟩ = some (.int .u64 s.lo) := c0
          have d1 : wr.drew.cell? ⟨bs, off + k * 3 + 1, none⟩ = some (.int .u64 s.hi) := c1
          have HK2 : Hid (Kp Nu w wr.drew) := HK.out.drew
          have HFL : Hid (flt (lays [] (M.take k)) s = 60) := flt_60 (fol_eq hcA hlo) (by omega)
          clear hI hc hh hkp hs hkM hlo hcA
          go_wp2_with fail
          go_region
          go_wp2
          go_ret2
          exact ⟨_, _, rfl, .inl ⟨k, s, HOK.out, HS.out, HFL.out, by omega, rfl⟩, HK2.out⟩
        · have hgd : decide (s.hi < s.lo) = false := decide_eq_false hgt
          have d0 : wr.drew.cell? ⟨bs, off + k * 3, none⟩ = some (.int .u64 s.lo) := c0
          have d1 : wr.drew.cell? ⟨bs, off + k * 3 + 1, none⟩ = some (.int .u64 s.hi) := c1
          have d2 : wr.drew.cell? ⟨bs, off + k * 3 + 2, none⟩ = some (.int .u8 s.h) := c2
          have HK2 : Hid (Kp Nu w wr.drew) := HK.out.drew
          have RH := refHost_any s.h wr.drew
          by_cases hho : s.h ≤ 15
          · rw [decide_eq_true hho] at RH
            have HF : Hid (Lok M (k + 1) ∧ 0 ≤ s.hi + 1 ∧ s.hi + 1 ≤ 18446744073709551616 ∧ Cov 0 (M.take (k + 1)) (s.hi + 1) ∧ (∀ t ∈ M.take (k + 1), 0 ≤ t.h ∧ t.h < 16) ∧ Kp Nu w wr.drew) := by
              refine ⟨lok_step HOK.out HS.out (flt_0 (fol_eq hcA hlo) (by omega) (by omega)), by omega, by omega, ?_, ?_, HK2.out⟩
              · rw [HTK.out]; exact cov_snoc hc hlo (by omega)
              · rw [HTK.out]; intro t ht
                rcases List.mem_append.1 ht with h | h
                · exact hh t h
                · simp at h; subst h; omega
            have hwp : IntKind.u64.wrap (s.hi + 1) = if s.hi + 1 = 18446744073709551616 then 0 else s.hi + 1 := by
              rw [IntKind.wrap_u64]; split <;> omega
            have hov : (s.hi == 18446744073709551615) = decide (s.hi + 1 = 18446744073709551616) := by
              by_cases e : s.hi = 18446744073709551615
              · simp [e]
              · have : ¬ s.hi + 1 = 18446744073709551616 := by omega
                simp [e, this]
            have HWP := hide (And.intro hwp hov)
            clear hI hc hh hkp hs hkM hlo hwp hov hcA
            go_wp2_with fail
            go_region
            go_wp2_with fail
            refine RH.mono ?_; rintro e w2 ⟨rfl, hw2⟩
            obtain rfl := hw2.symm
            clear RH hw2
            go_wp2
            go_roundw
            case rel => exact ⟨k + 1, s.hi + 1, by go_num, by omega, by first | rw [HWP.out.1] | (rw [← HWP.out.1]), by rw [HWP.out.2], HF⟩
            case measure => simp [intOf]; omega
          · rw [decide_eq_false hho] at RH
            have HFL : Hid (flt (lays [] (M.take k)) s = 2) := flt_2 (fol_eq hcA hlo) (by omega) (by omega)
            clear hI hc hh hkp hs hkM hlo hcA
            go_wp2_with fail
            go_region
            go_wp2_with fail
            refine RH.mono ?_; rintro e w2 ⟨rfl, hw2⟩
            obtain rfl := hw2.symm
            clear RH hw2
            go_wp2
            go_ret2
            exact ⟨_, _, rfl, .inl ⟨k, s, HOK.out, HS.out, HFL.out, by omega, rfl⟩, HK2.out⟩
      · have y1 : (s.lo != E) = true := by simp [hlo]
        have HFL : Hid (flt (lays [] (M.take k)) s = 62) := flt_62 (fol_ne hcA hlo)
        clear hI hc hh hkp hs hkM hcA
        go_wp2
        go_ret2
        exact ⟨_, _, rfl, .inl ⟨k, s, HOK.out, HS.out, HFL.out, by omega, rfl⟩, HK.out⟩
    · have hge : ¬ (k : Int) < (N : Int) := by omega
      obtain rfl : k = N := by omega
      obtain ⟨hok, E0, E1, hc, hh, hkp⟩ := hI.out
      have HOK : Hid (Lok M M.length) := by show Lok M M.length; rw [HN.out]; exact hok
      clear hok
      rw [List.take_of_length_le (by rw [HN.out]; omega)] at hc hh
      have HK := hide hkp
      by_cases hE : E = 18446744073709551616
      · subst hE
        have HG : Hid (endF (lays [] M) = true) := by show _ = _; rw [end_of hc]; rfl
        clear hI hc hh hkp
        simp only [if_true, decide_true]
        go_wp2
        go_ret2
        exact ⟨_, _, rfl, .inr (.inr ⟨rfl, HOK.out, HG.out, rfl⟩), HK.out⟩
      · rw [if_neg hE, decide_eq_false hE]
        have HG : Hid (endF (lays [] M) = false) := by show _ = _; rw [end_of hc]; exact decide_eq_false hE
        clear hI hc hh hkp
        go_wp2
        go_ret2
        exact ⟨_, _, rfl, .inr (.inl ⟨HOK.out, rfl, HG.out, by rw [HN.out]⟩), HK.out⟩
end Go.Proofs.YtbifmcadllilhaaGreat.Rg
namespace Go.Proofs.YtbifmcadllilhaaGreat.Rg
open Go.RowKit Go.Shelf Go.Sort
open Go.Proofs.YtbifmcadllilhaaGreat.It
set_option linter.unusedVariables false

theorem unhid {p : Prop} (h : Hid p) : p := h

end Go.Proofs.YtbifmcadllilhaaGreat.Rg
namespace Go.Proofs.YtbifmcadllilhaaGreat.Rg
open Go.RowKit Go.Shelf Go.Sort
open Go.Proofs.YtbifmcadllilhaaGreat.It
set_option linter.unusedVariables false

theorem lok_no {M : List Sg} {k : Nat} {s : Sg} {n : Nat} (h : Lok M n) (hk : k < n) (hs : M[k]? = some s) (hf : flt (lays [] (M.take k)) s ≠ 0) : False := hf (h k hk s hs)
/-- the document's code, of what its Fault says -/
def refC (lim : Int) (M : List Sg) (f : Int) : Int := if f ≠ 0 then f else if lim < ((lays [] M).length : Int) then 61 else 0
/-- both answer the same -/
theorem code_same {w w' : World} {lim : Int} {M : List Sg} {p : Value} {i c p' f : Int} (h : Lrs w w' lim M p i c) (g : Frs M p' f) : c = refC lim M f := by
  unfold refC
  rcases h with ⟨_, k, s, h1, h2, h3, h4, _⟩ | ⟨_, h1, _, h2⟩ | ⟨h0, _, h1, h2, h3, _⟩
  · have hk : k < M.length := (List.getElem?_eq_some_iff.1 h2).1
    rcases g with ⟨k', s', g1, g2, g3, g4, _⟩ | ⟨g1, _⟩ | ⟨_, g1, _⟩
    · have hk' : k' < M.length := (List.getElem?_eq_some_iff.1 g2).1
      have e : k = k' := by
        rcases Nat.lt_trichotomy k k' with l | l | l
        · exact (lok_no g1 l h2 (by rw [h3]; exact h4)).elim
        · exact l
        · exact (lok_no h1 l g2 (by rw [g3]; exact g4)).elim
      subst e
      rw [h2] at g2
      cases g2
      rw [if_pos g4, ← g3, h3]
    · exact (lok_no g1 hk h2 (by rw [h3]; exact h4)).elim
    · exact (lok_no g1 hk h2 (by rw [h3]; exact h4)).elim
  · rcases g with ⟨k', s', g1, g2, g3, g4, _⟩ | ⟨g1, g2, g3, _⟩ | ⟨g0, g1, g2, _⟩
    · exact (lok_no h1 (List.getElem?_eq_some_iff.1 g2).1 g2 (by rw [g3]; exact g4)).elim
    · rcases h2 with ⟨rfl, _⟩ | ⟨_, h2, _⟩
      · rw [if_pos (by omega), g2]
      · rw [g3] at h2; cases h2
    · rcases h2 with ⟨_, h2⟩ | ⟨rfl, _, h3⟩
      · rw [g2] at h2; cases h2
      · rw [if_neg (by omega), if_pos h3]
  · rcases g with ⟨k', s', g1, g2, g3, g4, _⟩ | ⟨g1, g2, g3, _⟩ | ⟨g0, g1, g2, _⟩
    · exact (lok_no h1 (List.getElem?_eq_some_iff.1 g2).1 g2 (by rw [g3]; exact g4)).elim
    · rw [g3] at h2; cases h2
    · rw [if_neg (by omega), if_neg (by omega), h0]

set_option maxRecDepth 100000 in
set_option maxHeartbeats 1000000 in
theorem load_lim (w : World) (ad : Option Addr) (n cap : Nat) (lim : Int) (hl : ¬ (1 ≤ lim ∧ lim ≤ 8192)) :
    Calls Tryz.prog 52 #[.slice ad n cap, .int .i64 lim] w fun e w' => e = .returned (.tuple #[.pointer none, .int .i64 0, .int .i64 63]) ∧ Kp Nu w w' := by
  have LI := limit_bad lim w hl
  clear hl
  go_enter Tryz.func52, Tryz.ntmps52
  go_wp2_with fail
  refine LI.mono ?_; rintro e w1 ⟨rfl, hw1⟩
  obtain rfl := hw1.symm
  clear LI hw1
  go_wp2
  go_ret3
  exact ⟨rfl, Kp.refl _ _⟩
/-- what Load answers -/
def Lrt (w w' : World) (lim : Int) (M : List Sg) (p : Value) (c : Int) : Prop := (¬ (1 ≤ lim ∧ lim ≤ 8192) ∧ p = .pointer none ∧ c = 63) ∨ ((1 ≤ lim ∧ lim ≤ 8192) ∧ ∃ i, Lrs w w' lim M p i c)
theorem Lrt.ptr {w w' : World} {lim : Int} {M : List Sg} {p : Value} {c : Int} (h : Lrt w w' lim M p c) : (p = .pointer none ∧ c ≠ 0) ∨ (c = 0 ∧ ∃ b, p = .pointer (some ⟨b, 0, none⟩)) := by
  rcases h with ⟨_, h1, h2⟩ | ⟨_, i, ⟨h1, _, _, _, _, _, h2, _⟩ | ⟨h1, _, _, ⟨h2, _⟩ | ⟨h2, _⟩⟩ | ⟨h1, _, _, _, _, b, v, h2, _⟩⟩
  · exact .inl ⟨h1, by omega⟩
  · exact .inl ⟨h1, h2⟩
  · exact .inl ⟨h1, by omega⟩
  · exact .inl ⟨h1, by omega⟩
  · exact .inr ⟨h1, b, h2⟩
set_option maxRecDepth 100000 in
set_option maxHeartbeats 1000000 in
theorem Load_any (w : World) (u : Value) (M : List Sg) (hrd : Rz w u M) (hb : ∀ s ∈ M, SgB s) (hM : M.length ≤ 5864062014634) (lim : Int) :
    Calls Tryz.prog 30 #[u, .int .i64 lim] w fun e w' => ∃ p c, e = .returned (.tuple #[p, .int .i64 c]) ∧ Lrt w w' lim M p c ∧ Kp Nu w w' := by
  obtain ⟨ad, cap, hu⟩ := hrd.slice
  by_cases hl : 1 ≤ lim ∧ lim ≤ 8192
  · have LO := load_any w u M hrd hb hM lim hl.1 hl.2
    generalize M.length = N at hu hM
    subst hu
    clear hrd hb
    go_enter Tryz.func30, Tryz.ntmps30
    go_wp2_with fail
    refine LO.mono ?_; rintro e w2 ⟨p, i, c, rfl, hL, hk⟩
    have HL := hide (And.intro hL hk)
    clear LO hL hk
    go_wp2
    go_ret2
    exact ⟨_, _, rfl, .inr ⟨hl, i, HL.out.1⟩, HL.out.2⟩
  · generalize M.length = N at hu hM
    subst hu
    have LO := load_lim w ad N cap lim hl
    clear hrd hb
    go_enter Tryz.func30, Tryz.ntmps30
    go_wp2_with fail
    refine LO.mono ?_; rintro e w2 ⟨rfl, hk⟩
    have HL := hide hk
    clear LO hk
    go_wp2
    go_ret2
    exact ⟨_, _, rfl, .inl ⟨hl, rfl, rfl⟩, HL.out⟩
end Go.Proofs.YtbifmcadllilhaaGreat.Rg
namespace Go.Proofs.YtbifmcadllilhaaGreat.Rg
open Go.RowKit Go.Shelf Go.Sort
open Go.Proofs.YtbifmcadllilhaaGreat.It
set_option linter.unusedVariables false

/-- what the document's Load answers -/
def Rrs (w w' : World) (lim : Int) (M : List Sg) (L : Int) (v : Value) (f : Int) : Prop :=
  (¬ (1 ≤ lim ∧ lim ≤ 8192) ∧ f = 63 ∧ L = 0 ∧ v = .slice none 0 0) ∨
  ((1 ≤ lim ∧ lim ≤ 8192) ∧ ∃ p f', Frs M p f' ∧ f = refC lim M f' ∧ ((f ≠ 0 ∧ L = 0 ∧ v = .slice none 0 0) ∨ (f = 0 ∧ L = lim ∧ w'.ownsRow w.heap.size 38 3 v (lays [] M).length (cells (lays [] M)))))

theorem cell2' {w : World} {b : Nat} {x0 x1 : Value} {t : TypeId} (h : w.heap[b]? = some (.cells #[x0, x1] t (0, 0))) : w.cell? ⟨b, 0, none⟩ = some x0 ∧ w.cell? ⟨b, 1, none⟩ = some x1 := by
  refine ⟨?_, ?_⟩ <;> simp [World.cell?, h]

end Go.Proofs.YtbifmcadllilhaaGreat.Rg
namespace Go.Proofs.YtbifmcadllilhaaGreat.Pn
open Go.RowKit
set_option linter.unusedVariables false
/-- host a comes ahead of host b -/
def ahd (o : List Int) (a b : Nat) : Bool := decide (o.getD b 0 < o.getD a 0 ∨ o.getD a 0 = o.getD b 0 ∧ a < b)
theorem ahd_self (o : List Int) (a : Nat) : ahd o a a = false := by simp [ahd]
theorem ahd_asymm {o : List Int} {a b : Nat} (h : ahd o a b = true) : ahd o b a = false := by
  simp only [ahd, decide_eq_true_eq, decide_eq_false_iff_not] at *
  omega
/-- how many of the first n come ahead -/
def nAhd (o : List Int) (b n : Nat) : Nat := (List.range n).countP (fun a => ahd o a b)
theorem nAhd_succ (o : List Int) (b n : Nat) : nAhd o b (n + 1) = nAhd o b n + (if ahd o n b = true then 1 else 0) := by
  unfold nAhd
  rw [List.range_succ, List.countP_append, List.countP_singleton]
theorem nAhd_le (o : List Int) (b n : Nat) : nAhd o b n ≤ n := by
  unfold nAhd
  have := List.countP_le_length (p := fun a => ahd o a b) (l := List.range n)
  simpa using this
/-- a host's target -/
def tgt (o : List Int) (b : Nat) : Int := o.sum / (o.length : Int) + (if (nAhd o b o.length : Int) < o.sum % (o.length : Int) then 1 else 0)
/-- the hosts in their order -/
structure Srt (o : List Int) (s : List Nat) : Prop where
  perm : s.Perm (List.range o.length)
  pair : s.Pairwise (fun a b => ahd o a b = true)
theorem Srt.len {o : List Int} {s : List Nat} (h : Srt o s) : s.length = o.length := by have := h.perm.length_eq; simpa using this
theorem Srt.lt {o : List Int} {s : List Nat} (h : Srt o s) {p x : Nat} (hx : s[p]? = some x) : x < o.length := by
  have := h.perm.mem_iff.1 (List.mem_of_getElem? hx)
  simpa using this
theorem Srt.place {o : List Int} {s : List Nat} (h : Srt o s) {p x : Nat} (hx : s[p]? = some x) : nAhd o x o.length = p := by
  have hp := (List.getElem?_eq_some_iff.1 hx).1
  have e : s = s.take p ++ x :: s.drop (p + 1) := by
    have h1 : s.drop p = x :: s.drop (p + 1) := by
      rw [List.drop_eq_getElem_cons hp]
      congr 1
      exact (List.getElem?_eq_some_iff.1 hx).2
    rw [← h1, List.take_append_drop]
  have hpair := h.pair
  rw [e, List.pairwise_append] at hpair
  obtain ⟨_, h2, h3⟩ := hpair
  rw [List.pairwise_cons] at h2
  unfold nAhd
  rw [← h.perm.countP_eq]
  conv => lhs; rw [e]
  rw [List.countP_append, List.countP_cons, ahd_self]
  have c1 : (s.take p).countP (fun a => ahd o a x) = (s.take p).length := List.countP_eq_length.2 (fun a ha => h3 a ha x (by simp))
  have c2 : (s.drop (p + 1)).countP (fun a => ahd o a x) = 0 := List.countP_eq_zero.2 (fun a ha => by rw [ahd_asymm (h2.1 a ha)]; simp)
  rw [c1, c2, List.length_take]
  simp
  omega
theorem Srt.nodup {o : List Int} {s : List Nat} (h : Srt o s) {p q x : Nat} (hp : s[p]? = some x) (hq : s[q]? = some x) : p = q := by
  rw [← h.place hp, ← h.place hq]
/-- every host has a place -/
theorem Srt.has {o : List Int} {s : List Nat} (h : Srt o s) {x : Nat} (hx : x < o.length) : ∃ p : Nat, s[p]? = some x := by
  have : x ∈ s := h.perm.mem_iff.2 (by simpa using hx)
  exact List.getElem?_of_mem this
end Go.Proofs.YtbifmcadllilhaaGreat.Pn
namespace Go.Proofs.YtbifmcadllilhaaGreat.Pn
open Go.RowKit
set_option linter.unusedVariables false
def cmpI (x y : Int) : Int := if x < y then -1 else if x > y then 1 else 0
set_option maxHeartbeats 1000000 in
theorem nan100 (x : Int) (w : World) : Calls Tryz.prog 97 #[.int .i64 x] w fun e w' => e = .returned (.bool false) ∧ w' = w := by
  have hx : (x != x) = false := by simp
  go_enter Tryz.func97, Tryz.ntmps97
  go_wp2
  go_ret
  exact ⟨by simp, rfl⟩
set_option maxHeartbeats 1000000 in
theorem compare81 (x y : Int) (w : World) : Calls Tryz.prog 86 #[.int .i64 x, .int .i64 y] w fun e w' => e = .returned (.int .i64 (cmpI x y)) ∧ w' = w := by
  have n1 := nan100 x w
  have n2 := nan100 y w
  unfold cmpI
  by_cases h1 : x < y
  · rw [if_pos h1]
    go_enter Tryz.func86, Tryz.ntmps86
    go_wp2_with fail
    refine n1.mono ?_; rintro e w2 ⟨rfl, hw⟩; obtain rfl := hw.symm; clear n1 hw
    go_wp2_with fail
    refine n2.mono ?_; rintro e w2 ⟨rfl, hw⟩; obtain rfl := hw.symm; clear n2 hw
    go_wp2
    go_ret
    exact ⟨rfl, rfl⟩
  · rw [if_neg h1]
    by_cases h2 : x > y
    · rw [if_pos h2]
      go_enter Tryz.func86, Tryz.ntmps86
      go_wp2_with fail
      refine n1.mono ?_; rintro e w2 ⟨rfl, hw⟩; obtain rfl := hw.symm; clear n1 hw
      go_wp2_with fail
      refine n2.mono ?_; rintro e w2 ⟨rfl, hw⟩; obtain rfl := hw.symm; clear n2 hw
      go_wp2
      go_ret
      exact ⟨rfl, rfl⟩
    · rw [if_neg h2]
      go_enter Tryz.func86, Tryz.ntmps86
      go_wp2_with fail
      refine n1.mono ?_; rintro e w2 ⟨rfl, hw⟩; obtain rfl := hw.symm; clear n1 hw
      go_wp2_with fail
      refine n2.mono ?_; rintro e w2 ⟨rfl, hw⟩; obtain rfl := hw.symm; clear n2 hw
      go_wp2
      go_ret
      exact ⟨rfl, rfl⟩
def orI (a b : Int) : Int := if a = 0 then b else a
set_option maxHeartbeats 1000000 in
theorem or80 (a b : Int) (g : Nat) (w : World) (c0 : w.cell? ⟨g, 0, none⟩ = some (.int .i64 a)) (c1 : w.cell? ⟨g, 1, none⟩ = some (.int .i64 b)) : Calls Tryz.prog 85 #[.slice (some ⟨g, 0, none⟩) 2 2] w fun e w' => e = .returned (.int .i64 (orI a b)) ∧ w' = w := by
  have HC := hide (And.intro c0 c1)
  clear c0 c1
  go_enter Tryz.func85, Tryz.ntmps85
  go_wp2
  go_loopw [8] (fun iv wr => ∃ i : Nat, iv = .int .i64 (i : Int) ∧ i ≤ 2 ∧ wr = w ∧ Hid ((1 ≤ i → a = 0) ∧ (2 ≤ i → b = 0))) (fun iv _ => 2 - (intOf iv).toNat)
  case atStart => exact ⟨0, rfl, by omega, rfl, hide ⟨fun h => by omega, fun h => by omega⟩⟩
  case round =>
    obtain ⟨i, rfl, hi, hw, hI⟩ := hrel
    obtain rfl := hw
    have hcase : i = 0 ∨ i = 1 ∨ i = 2 := by omega
    rcases hcase with h | h | h
    · subst h
      have c0 := HC.out.1
      by_cases ha : a = 0
      · have e0 : (a != 0) = false := by simpa using ha
        have HA := hide ha
        clear ha
        go_wp2
        exact ⟨⟨1, rfl, by omega, trivial, hide ⟨fun _ => HA.out, fun h => by omega⟩⟩, by simp [intOf]⟩
      · have e0 : (a != 0) = true := by simpa using ha
        have HA := hide ha
        clear ha
        go_wp2
        go_ret
        exact ⟨by unfold orI; rw [if_neg HA.out]; rfl, rfl⟩
    · subst h
      have c1 := HC.out.2
      have HA := hide (hI.out.1 (by omega))
      by_cases ha : b = 0
      · have e0 : (b != 0) = false := by simpa using ha
        have HB := hide ha
        clear ha
        go_wp2
        exact ⟨⟨2, rfl, by omega, trivial, hide ⟨fun _ => HA.out, fun h => HB.out⟩⟩, by simp [intOf]⟩
      · have e0 : (b != 0) = true := by simpa using ha
        clear ha
        go_wp2
        go_ret
        exact ⟨by unfold orI; rw [if_pos HA.out]; rfl, rfl⟩
    · subst h
      have HA := hide (And.intro (hI.out.1 (by omega)) (hI.out.2 (by omega)))
      go_wp2
      go_ret
      exact ⟨by unfold orI; rw [if_pos HA.out.1, HA.out.2]; rfl, rfl⟩
set_option maxRecDepth 100000 in
set_option maxHeartbeats 1000000 in
theorem less79 (x y : Nat) (p q : Int) (bx : Nat) (b : Addr) (N cap : Nat) (w : World) (hx : x < N) (hy : y < N) (cb : w.cell? ⟨bx, 0, none⟩ = some (.slice (some b) N cap)) (cx : w.cell? (b.add x) = some (.int .i64 p)) (cy : w.cell? (b.add y) = some (.int .i64 q)) :
    Calls Tryz.prog 84 #[.int .i64 (x : Int), .int .i64 (y : Int), .pointer (some ⟨bx, 0, none⟩)] w fun e w' => e = .returned (.int .i64 (orI (cmpI q p) (cmpI (x : Int) (y : Int)))) ∧ w' = (w.alloc (.cells #[.int .i64 (cmpI q p), .int .i64 (cmpI (x : Int) (y : Int))] 3)).drew := by
  have mixed : Tryz.prog.follows .mixedOrders = true := by kernel_rfl
  have C1 := compare81 q p w.drew
  have C2 := compare81 (x : Int) (y : Int) w.drew
  have hx0 : (0 : Int) ≤ (x : Int) := by omega
  have hy0 : (0 : Int) ≤ (y : Int) := by omega
  have hxN : (x : Int) < (N : Int) := by omega
  have hyN : (y : Int) < (N : Int) := by omega
  have etx : (x : Int).toNat = x := by omega
  have ety : (y : Int).toNat = y := by omega
  generalize cmpI q p = A at *
  generalize cmpI (x : Int) (y : Int) = B at *
  have OR := or80 A B w.heap.size (w.alloc (.cells #[.int .i64 A, .int .i64 B] 3)).drew (cellAt (heap_new w _) 0 rfl) (cellAt (heap_new w _) 1 rfl)
  go_enter Tryz.func84, Tryz.ntmps84
  go_wp2_with fail
  refine wp_region_still_tail 12 mixed (by kernel_rfl) ?_
  simp only [List.take_succ_cons, List.take_zero, List.drop_succ_cons, List.drop_zero]
  still_step
  still_step
  still_step
  still_step
  still_step
  still_step
  still_step
  still_step
  still_call C1
  still_step
  still_step
  still_call C2
  refine wpStill_nil ?_
  go_wp2_with fail
  refine OR.mono ?_; rintro e w2 ⟨rfl, hw⟩
  obtain rfl := hw
  clear OR C1 C2
  go_wp2
  go_ret
  exact ⟨rfl, rfl⟩
end Go.Proofs.YtbifmcadllilhaaGreat.Pn
namespace Go.Proofs.YtbifmcadllilhaaGreat.Pn
open Go.RowKit
set_option linter.unusedVariables false
/-- a host's number -/
structure Ho (N : Nat) where
  val : Nat
  lt : val < N
def rng (N : Nat) : List (Ho N) := (List.range N).pmap (fun x h => (⟨x, h⟩ : Ho N)) (fun x hx => List.mem_range.1 hx)
theorem rng_val (N : Nat) : (rng N).map (fun x => x.1) = List.range N := by
  unfold rng
  rw [List.map_pmap]
  simp
theorem rng_len (N : Nat) : (rng N).length = N := by simp [rng]
theorem rng_at (N j : Nat) (h : j < (rng N).length) : (rng N)[j].1 = j := by
  have e := congrArg (fun l => l[j]?) (rng_val N)
  simp only [List.getElem?_map, List.getElem?_eq_getElem h] at e
  rw [rng_len] at h
  simpa [h] using e
def cfH (o : List Int) {N : Nat} (x y : Ho N) : Int := orI (cmpI (o.getD y.1 0) (o.getD x.1 0)) (cmpI (x.1 : Int) (y.1 : Int))
theorem cfH_lt (o : List Int) {N : Nat} (x y : Ho N) : decide (cfH o x y < 0) = ahd o x.1 y.1 := by
  unfold cfH orI cmpI ahd
  generalize o.getD x.1 0 = p
  generalize o.getD y.1 0 = q
  rcases Int.lt_trichotomy q p with h | h | h
  · have h1 : ¬ p < q := by omega
    simp [h]
  · subst h
    simp
    by_cases h2 : x.1 < y.1
    · simp [h2]
    · by_cases h3 : x.1 > y.1 <;> simp [h2, h3]
  · have h1 : ¬ q < p := by omega
    have h2 : ¬ p = q := by omega
    simp [h1, h2, h]
/-- sorted, no two the same: each ahead of the next -/
theorem srt_of {o : List Int} {N : Nat} (hN : o.length = N) (l : List (Ho N)) (hp : l.Perm (rng N)) (hs : l.Pairwise (fun a b => (!decide (cfH o b a < 0)) = true)) : Srt o (l.map (fun x => x.1)) := by
  have hperm : (l.map (fun x => x.1)).Perm (List.range o.length) := by rw [hN, ← rng_val]; exact hp.map _
  refine ⟨hperm, ?_⟩
  have hnd : (l.map (fun x => x.1)).Nodup := hperm.nodup_iff.2 List.nodup_range
  rw [List.pairwise_map]
  have h2 : l.Pairwise (fun a b => a.1 ≠ b.1) := by
    have := hnd
    rw [List.Nodup, List.pairwise_map] at this
    exact this
  refine (hs.and h2).imp (fun {a b} h => ?_)
  obtain ⟨h3, h4⟩ := h
  rw [cfH_lt] at h3
  have h5 : ahd o b.1 a.1 = false := by simpa using h3
  simp only [ahd, decide_eq_false_iff_not, decide_eq_true_eq] at h5 ⊢
  omega
structure Gw (w w' : World) : Prop where
  out : ∃ q os, w' = Sort.grow (w.drewN q) os
theorem Gw.refl (w : World) : Gw w w := ⟨⟨0, #[], by rw [Sort.grow_empty]; rfl⟩⟩
theorem Gw.andAlloc {w w' : World} (h : Gw w w') (o : Obj) : Gw w (w'.alloc o) := by
  obtain ⟨q, os, rfl⟩ := h.out
  exact ⟨⟨q, _, by rw [Sort.alloc_eq_grow, Sort.grow_grow]⟩⟩
theorem Gw.drew {w w' : World} (h : Gw w w') : Gw w w'.drew := by
  obtain ⟨q, os, rfl⟩ := h.out
  exact ⟨⟨q + 1, os, rfl⟩⟩
end Go.Proofs.YtbifmcadllilhaaGreat.Pn
