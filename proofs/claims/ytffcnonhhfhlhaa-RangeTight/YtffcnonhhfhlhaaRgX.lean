import Derived.Test.YtffcnonhhfhlhaaRgW
namespace Go.Proofs.Ytffcnonhhfhlhaa.Rg
open Go.RowKit Go.Shelf Go.Sort
open Go.Proofs.Ytffcnonhhfhlhaa.It
set_option linter.unusedVariables false

/-- the table while it is handed back: from cur on to hi it is still the other's -/
structure Bk (L : List Sg) (hi o cur : Int) (Lc : List Sg) : Prop where
  tab : Tab Lc
  own : ∀ k, 0 ≤ k → k < 18446744073709551616 → ow Lc k = if cur ≤ k ∧ k ≤ hi then o else ow L k
theorem Bk.len {L Lc : List Sg} {hi o cur : Int} (h : Bk L hi o cur Lc) (hL : Tab L) (c0 : 0 ≤ cur) (h1 : hi < 18446744073709551616) (o0 : 0 ≤ o) (o1 : o < 16) : (Lc.length : Int) ≤ L.length + 2 := by
  by_cases e : cur ≤ hi
  · obtain ⟨t1, t2, t3⟩ := asg_facts hL c0 e h1 o0 o1
    have : Lc = asg L cur hi o := cov_unique h.tab.cov t1.cov h.tab.alt t1.alt fun k k0 k1 => by rw [h.own k k0 k1, t2 k k0 k1]
    have c := cost_range hL o c0 e h1
    rw [this]; omega
  · have : Lc = L := cov_unique h.tab.cov hL.cov h.tab.alt hL.alt fun k k0 k1 => by rw [h.own k k0 k1, if_neg (by omega)]
    rw [this]; omega
theorem Bk.done {L Lc : List Sg} {hi o cur : Int} (h : Bk L hi o cur Lc) (hL : Tab L) (e : hi < cur) : Lc = L :=
  cov_unique h.tab.cov hL.cov h.tab.alt hL.alt fun k k0 k1 => by rw [h.own k k0 k1, if_neg (by omega)]
def crv (lo hi a : Int) : Int := min (max lo a) (hi + 1)
theorem ow_in {L : List Sg} (hL : Tab L) {i : Nat} {t : Sg} (ht : L[i]? = some t) {k : Int} (h1 : t.lo ≤ k) (h2 : k ≤ t.hi) : ow L k = t.h := by
  have key : ∀ {L : List Sg} {a b : Int} (i : Nat), Cov a L b → L[i]? = some t → ow L k = t.h := by
    intro L
    induction L with
    | nil => intro a b i h hi; simp at hi
    | cons s r ih =>
      intro a b i h hi
      cases i with
      | zero => simp at hi; subst hi; simp only [ow]; rw [if_pos h2]
      | succ i =>
        have hm := cov_mem h.2.2 t (List.mem_of_getElem? (by simpa using hi))
        simp only [ow]
        rw [if_neg (by omega)]
        exact ih i h.2.2 (by simpa using hi)
  exact key i hL.cov ht
/-- a piece is handed back -/
theorem Bk.step {L Lc : List Sg} {lo hi o : Int} (hL : Tab L) (l0 : 0 ≤ lo) (h1 : hi < 18446744073709551616) (o0 : 0 ≤ o) (o1 : o < 16) {i : Nat} {t : Sg} (ht : L[i]? = some t) (h : Bk L hi o (crv lo hi t.lo) Lc) (hp : max t.lo lo ≤ min t.hi hi) :
    Bk L hi o (crv lo hi (t.hi + 1)) (asg Lc (max t.lo lo) (min t.hi hi) t.h) ∧ (Lc.length : Int) + costB Lc (max t.lo lo) (min t.hi hi) t.h ≤ L.length + 2 := by
  have hm := cov_mem hL.cov t (List.mem_of_getElem? ht)
  have hh := hL.hs t (List.mem_of_getElem? ht)
  obtain ⟨t1, t2, t3⟩ := asg_facts h.tab (lo := max t.lo lo) (hi := min t.hi hi) (o := t.h) (by omega) hp (by omega) hh.1 hh.2
  have hb : Bk L hi o (crv lo hi (t.hi + 1)) (asg Lc (max t.lo lo) (min t.hi hi) t.h) := by
    refine ⟨t1, fun k k0 k1 => ?_⟩
    rw [t2 k k0 k1]
    unfold crv
    by_cases e : max t.lo lo ≤ k ∧ k ≤ min t.hi hi
    · rw [if_pos e, if_neg (by omega), ow_in hL ht (by omega) (by omega)]
    · rw [if_neg e, h.own k k0 k1]
      unfold crv
      by_cases e2 : min (max lo t.lo) (hi + 1) ≤ k ∧ k ≤ hi
      · rw [if_pos e2, if_pos (by omega)]
      · rw [if_neg e2, if_neg (by omega)]
  refine ⟨hb, ?_⟩
  have := hb.len hL (by unfold crv; omega) h1 o0 o1
  omega
theorem Bk.skip {L Lc : List Sg} {lo hi o : Int} (hlh : lo ≤ hi) {t : Sg} (htt : t.lo ≤ t.hi) (h : Bk L hi o (crv lo hi t.lo) Lc) (hp : ¬ max t.lo lo ≤ min t.hi hi) : Bk L hi o (crv lo hi (t.hi + 1)) Lc := by
  have e : crv lo hi (t.hi + 1) = crv lo hi t.lo := by unfold crv; omega
  rw [e]; exact h
theorem Bk.start {L : List Sg} {lo hi o : Int} (hL : Tab L) (l0 : 0 ≤ lo) (hlh : lo ≤ hi) (h1 : hi < 18446744073709551616) (o0 : 0 ≤ o) (o1 : o < 16) : Bk L hi o (crv lo hi 0) (asg L lo hi o) := by
  obtain ⟨t1, t2, t3⟩ := asg_facts hL l0 hlh h1 o0 o1
  refine ⟨t1, fun k k0 k1 => ?_⟩
  rw [t2 k k0 k1, show crv lo hi 0 = lo by unfold crv; omega]
/-- all of the range is the owner's behind an Assign -/
theorem owns_asg {L : List Sg} (hL : Tab L) {lo hi o : Int} (l0 : 0 ≤ lo) (hlh : lo ≤ hi) (h1 : hi < 18446744073709551616) (ho : ∀ k, lo ≤ k → k ≤ hi → ow L k = o) : ownsB L lo hi o = true := by
  unfold ownsB
  rw [List.all_eq_true]
  intro x hx
  have key : ∀ {L : List Sg} {a b : Int}, Cov a L b → (∀ k, a ≤ k → lo ≤ k → k ≤ hi → ow L k = o) → lo < b → x ∈ tk lo hi (L.drop (plc L lo)) → x.h = o := by
    intro L
    induction L with
    | nil => intro a b h hk hb hx; simp [tk] at hx
    | cons s r ih =>
      intro a b h hk hb hx
      obtain ⟨g1, g2, g3⟩ := h
      have rest : ∀ {A : List Sg} {c d : Int}, Cov c A d → lo ≤ c → (∀ k, c ≤ k → k ≤ hi → ow A k = o) → x ∈ tk lo hi A → x.h = o := by
        intro A
        induction A with
        | nil => intro c d h1 h2 h3 h4; simp [tk] at h4
        | cons y A ih2 =>
          intro c d h1 h2 h3 h4
          simp only [tk] at h4
          split at h4
          · simp at h4
          · rename_i e
            rcases List.mem_cons.1 h4 with rfl | h4
            · have := h3 y.lo (by have := h1.1; omega) (by omega)
              simp only [ow] at this
              rw [if_pos (by have := h1.1; have := h1.2.1; omega)] at this
              exact this
            · refine ih2 h1.2.2 (by have := h1.2.1; omega) (fun k hk1 hk2 => ?_) h4
              have := h3 k (by have := h1.2.1; omega) hk2
              simp only [ow] at this
              rwa [if_neg (by omega)] at this
      simp only [plc] at hx
      by_cases e : lo ≤ s.hi
      · rw [if_pos e] at hx
        simp only [List.drop_zero, tk] at hx
        split at hx
        · simp at hx
        · rename_i e2
          rcases List.mem_cons.1 hx with rfl | hx
          · have := hk (max s.lo lo) (by omega) (by omega) (by omega)
            simp only [ow] at this
            rw [if_pos (by omega)] at this
            exact this
          · refine rest g3 (by omega) (fun k hk1 hk2 => ?_) hx
            have := hk k (by omega) (by omega) hk2
            simp only [ow] at this
            rwa [if_neg (by omega)] at this
      · rw [if_neg e] at hx
        refine ih g3 (fun k hk1 hk2 hk3 => ?_) hb (by simpa using hx)
        have := hk k (by omega) hk2 hk3
        simp only [ow] at this
        rwa [if_neg (by omega)] at this
  have := key hL.cov (fun k _ h2 h3 => ho k h2 h3) (by omega) hx
  simp [this]
end Go.Proofs.Ytffcnonhhfhlhaa.Rg
