import Derived.Test.YtffcnonhhfhlhaaRgY
namespace Go.Proofs.Ytffcnonhhfhlhaa.Rg
set_option linter.unusedVariables false

structure Cg where
  lo : Int
  hi : Int
  f : Int
  t : Int
def dx (x : Sg) : List Sg → List Cg × Nat
  | [] => ([], 0)
  | y :: r => if y.hi < x.lo then ((dx x r).1, (dx x r).2 + 1) else
      if x.hi ≤ y.hi then ((if x.h = y.h then [] else [⟨max x.lo y.lo, min x.hi y.hi, x.h, y.h⟩]), 0)
      else ((if x.h = y.h then [] else [⟨max x.lo y.lo, min x.hi y.hi, x.h, y.h⟩]) ++ (dx x r).1, (dx x r).2 + 1)
def dst (E : List Sg) (A : List Sg) : Nat × List Cg := A.foldl (fun s x => (s.1 + (dx x (E.drop s.1)).2, s.2 ++ (dx x (E.drop s.1)).1)) (0, [])
theorem dst_snoc (E A : List Sg) (x : Sg) : dst E (A ++ [x]) = ((dst E A).1 + (dx x (E.drop (dst E A).1)).2, (dst E A).2 ++ (dx x (E.drop (dst E A).1)).1) := by
  simp [dst]
/-- what a change says -/
structure Chg (x : Sg) (F : List Sg) (m : Int) (c : Cg) : Prop where
  lo : m ≤ c.lo
  le : c.lo ≤ c.hi
  hi : c.hi ≤ x.hi
  f : c.f = x.h
  ne : c.f ≠ c.t
  own : ∀ k, c.lo ≤ k → k ≤ c.hi → ow F k = c.t
  max : c.hi = x.hi ∨ ow F (c.hi + 1) ≠ c.t
def Rise : List Cg → Prop
  | [] => True
  | [_] => True
  | c :: d :: r => c.hi < d.lo ∧ Rise (d :: r)
theorem rise_cons {c : Cg} {r : List Cg} (h : ∀ d ∈ r, c.hi < d.lo) (hr : Rise r) : Rise (c :: r) := by
  cases r with
  | nil => exact trivial
  | cons d r => exact ⟨h d (by simp), hr⟩
theorem rise_append : ∀ {a b : List Cg}, Rise a → Rise b → (∀ c ∈ a, ∀ d ∈ b, c.hi < d.lo) → Rise (a ++ b)
  | [], b, ha, hb, h => hb
  | [c], b, ha, hb, h => rise_cons (fun d hd => h c (by simp) d hd) hb
  | c :: d :: a, b, ha, hb, h => ⟨ha.1, rise_append (a := d :: a) ha.2 hb (fun x hx => h x (List.mem_cons_of_mem _ hx))⟩
theorem dx_facts (x : Sg) : ∀ {F : List Sg} {e b : Int}, Cov e F b → Alt F → x.lo ≤ x.hi → e ≤ x.hi → x.hi < b →
    (∀ c ∈ (dx x F).1, Chg x F (max x.lo e) c) ∧ Rise (dx x F).1 ∧ (∀ k, max x.lo e ≤ k → k ≤ x.hi → ow F k ≠ x.h → ∃ c ∈ (dx x F).1, c.lo ≤ k ∧ k ≤ c.hi) ∧ (dx x F).2 < F.length ∧ (∃ e', Cov e' (F.drop (dx x F).2) b ∧ e' ≤ x.hi)
  | [], e, b, h, hA, hl, he, hb => by have q : e = b := h; omega
  | y :: r, e, b, h, hA, hl, he, hb => by
    obtain ⟨g1, g2, g3⟩ := h
    have gl := cov_le g3
    have hAr : Alt r := by cases r with
      | nil => exact trivial
      | cons z r => exact hA.2
    have hnext : y.hi + 1 < b → ow r (y.hi + 1) ≠ y.h := by
      intro hlt
      cases r with
      | nil => have q : y.hi + 1 = b := g3; omega
      | cons z r =>
        simp only [ow]
        rw [if_pos (by have := g3.2.1; omega)]
        exact fun q => hA.1 q.symm
    simp only [dx]
    by_cases e1 : y.hi < x.lo
    · rw [if_pos e1]
      obtain ⟨i1, i2, i3, i4, e', i5, i6⟩ := dx_facts x g3 hAr hl (by omega) hb
      refine ⟨fun c hc => ?_, i2, fun k h1 h2 h3 => ?_, by simp; omega, e', by simpa using i5, i6⟩
      · obtain ⟨j1, j2, j3, j4, j5, j6, j7⟩ := i1 c hc
        refine ⟨by omega, j2, j3, j4, j5, fun k k1 k2 => ?_, ?_⟩
        · simp only [ow]; rw [if_neg (by omega)]; exact j6 k k1 k2
        · rcases j7 with j7 | j7
          · exact .inl j7
          · right; simp only [ow]; rw [if_neg (by omega)]; exact j7
      · simp only [ow] at h3
        rw [if_neg (by omega)] at h3
        exact i3 k (by omega) h2 h3
    · rw [if_neg e1]
      have own0 : ∀ k, k ≤ y.hi → ow (y :: r) k = y.h := fun k hk => by simp only [ow]; rw [if_pos hk]
      by_cases e2 : x.hi ≤ y.hi
      · rw [if_pos e2]
        by_cases e3 : x.h = y.h
        · rw [if_pos e3]
          exact ⟨by simp, trivial, fun k h1 h2 h3 => absurd (by rw [own0 k (by omega), e3]) h3, by simp, e, ⟨g1, g2, g3⟩, he⟩
        · rw [if_neg e3]
          refine ⟨fun c hc => ?_, trivial, fun k h1 h2 h3 => ⟨⟨max x.lo y.lo, min x.hi y.hi, x.h, y.h⟩, by simp, by simp only; omega, by simp only; omega⟩, by simp, e, ⟨g1, g2, g3⟩, he⟩
          simp at hc
          subst hc
          exact ⟨by simp only; omega, by simp only; omega, by simp only; omega, rfl, e3, fun k k1 k2 => own0 k (by simp only at k2; omega), .inl (by simp only; omega)⟩
      · rw [if_neg e2]
        obtain ⟨i1, i2, i3, i4, e', i5, i6⟩ := dx_facts x g3 hAr hl (by omega) hb
        have i1' : ∀ c ∈ (dx x r).1, Chg x (y :: r) (max x.lo e) c := fun c hc => by
          obtain ⟨j1, j2, j3, j4, j5, j6, j7⟩ := i1 c hc
          refine ⟨by omega, j2, j3, j4, j5, fun k k1 k2 => ?_, ?_⟩
          · simp only [ow]; rw [if_neg (by omega)]; exact j6 k k1 k2
          · rcases j7 with j7 | j7
            · exact .inl j7
            · right; simp only [ow]; rw [if_neg (by omega)]; exact j7
        have d1 : ∀ k, max x.lo e ≤ k → k ≤ x.hi → y.hi < k → ow (y :: r) k ≠ x.h → ∃ c ∈ (dx x r).1, c.lo ≤ k ∧ k ≤ c.hi := fun k h1 h2 h4 h3 => by
          simp only [ow] at h3
          rw [if_neg (by omega)] at h3
          exact i3 k (by omega) h2 h3
        by_cases e3 : x.h = y.h
        · rw [if_pos e3]
          refine ⟨i1', i2, fun k h1 h2 h3 => ?_, by simp; omega, e', by simpa using i5, i6⟩
          by_cases h4 : k ≤ y.hi
          · exact absurd (by rw [own0 k h4, e3]) h3
          · exact d1 k h1 h2 (by omega) h3
        · rw [if_neg e3]
          refine ⟨fun c hc => ?_, rise_append trivial i2 (fun c hc d hd => ?_), fun k h1 h2 h3 => ?_, by simp; omega, e', by simpa using i5, i6⟩
          · rcases List.mem_append.1 hc with hc | hc
            · simp at hc
              subst hc
              refine ⟨by simp only; omega, by simp only; omega, by simp only; omega, rfl, e3, fun k k1 k2 => own0 k (by simp only at k2; omega), .inr ?_⟩
              have q : min x.hi y.hi = y.hi := by omega
              simp only [q, ow]
              rw [if_neg (by omega)]
              exact hnext (by omega)
            · exact i1' c hc
          · simp at hc
            subst hc
            have := (i1 d hd).lo
            simp only; omega
          · by_cases h4 : k ≤ y.hi
            · exact ⟨⟨max x.lo y.lo, min x.hi y.hi, x.h, y.h⟩, List.mem_append_left _ (by simp), by simp only; omega, by simp only; omega⟩
            · obtain ⟨c, hc, h5⟩ := d1 k h1 h2 (by omega) h3
              exact ⟨c, List.mem_append_right _ hc, h5⟩
/-- the changes from A to E -/
structure Chs (A E : List Sg) (m : Int) (C : List Cg) : Prop where
  rise : Rise C
  all : ∀ c ∈ C, 0 ≤ c.lo ∧ c.lo ≤ c.hi ∧ c.hi < m ∧ c.f ≠ c.t ∧ (∀ k, c.lo ≤ k → k ≤ c.hi → ow A k = c.f ∧ ow E k = c.t) ∧ (c.hi + 1 < 18446744073709551616 → ow A (c.hi + 1) ≠ c.f ∨ ow E (c.hi + 1) ≠ c.t)
  cover : ∀ k, 0 ≤ k → k < m → ow A k ≠ ow E k → ∃ c ∈ C, c.lo ≤ k ∧ k ≤ c.hi
theorem ow_drop : ∀ {E : List Sg} {a b : Int} (p : Nat) {e : Int}, Cov a E b → Cov e (E.drop p) b → p < E.length → ∀ k, e ≤ k → ow (E.drop p) k = ow E k
  | [], a, b, p, e, h, h2, hp, k, hk => by simp at hp
  | y :: r, a, b, 0, e, h, h2, hp, k, hk => rfl
  | y :: r, a, b, p + 1, e, h, h2, hp, k, hk => by
    have ih := ow_drop (E := r) p h.2.2 (by simpa using h2) (by simpa using hp) k hk
    have hle : y.hi + 1 ≤ e := by
      have key : ∀ {F : List Sg} {x z d : Int} (q : Nat), Cov x F z → Cov d (F.drop q) z → q < F.length → x ≤ d := by
        intro F
        induction F with
        | nil => intro x z d q h1 h2 h3; simp at h3
        | cons s F ih =>
          intro x z d q h1 h2 h3
          cases q with
          | zero => have := h2.1; have := h1.1; simp at *; omega
          | succ q => have := ih q h1.2.2 (by simpa using h2) (by simpa using h3); have := h1.2.1; omega
      exact key p h.2.2 (by simpa using h2) (by simpa using hp)
    simp only [List.drop_succ_cons, ow]
    rw [if_neg (by omega)]
    exact ih
theorem alt_drop : ∀ {E : List Sg} (p : Nat), Alt E → Alt (E.drop p)
  | E, 0, h => h
  | [], p + 1, h => trivial
  | [y], p + 1, h => by simp; exact trivial
  | y :: z :: r, p + 1, h => by simpa using alt_drop (E := z :: r) p h.2
theorem dst_facts {A E : List Sg} (hA : Tab A) (hE : Tab E) : ∀ (n : Nat), n ≤ A.length → ∃ m, Cov 0 (A.take n) m ∧ Chs A E m (dst E (A.take n)).2 ∧ (dst E (A.take n)).1 < E.length ∧ (∃ e, Cov e (E.drop (dst E (A.take n)).1) 18446744073709551616 ∧ e ≤ m)
  | 0, h => ⟨0, rfl, ⟨trivial, by simp [dst], fun k h1 h2 => by omega⟩, by simpa [dst] using hE.ne, 0, by simpa [dst] using hE.cov, by omega⟩
  | n + 1, h => by
    obtain ⟨m, c1, c2, c3, e, c4, c5⟩ := dst_facts hA hE n (by omega)
    obtain ⟨x, hx⟩ : ∃ x, A[n]? = some x := ⟨_, List.getElem?_eq_getElem (by omega)⟩
    obtain ⟨t1, t2, t3⟩ := cov_take hA.cov hx
    have em : m = x.lo := by
      have key : ∀ {F : List Sg} {a b c : Int}, Cov a F b → Cov a F c → b = c := by
        intro F
        induction F with
        | nil => intro a b c h1 h2; have e1 : a = b := h1; have e2 : a = c := h2; omega
        | cons q F ih => intro a b c h1 h2; exact ih h1.2.2 h2.2.2
      exact key c1 t1
    subst em
    have et : A.take (n + 1) = A.take n ++ [x] := by rw [List.take_add_one, hx]; rfl
    have hm0 := cov_le c1
    obtain ⟨i1, i2, i3, i4, e', i5, i6⟩ := dx_facts x c4 (alt_drop _ hE.alt) t2 (by omega) t3
    have hod := ow_drop _ hE.cov c4 c3
    rw [et, dst_snoc]
    refine ⟨x.hi + 1, cov_snoc c1 rfl t2, ⟨?_, ?_, ?_⟩, ?_, e', ?_, by omega⟩
    · refine rise_append c2.rise i2 (fun c hc d hd => ?_)
      have h1 := (c2.all c hc).2.2.1
      have h2 := (i1 d hd).lo
      omega
    · intro c hc
      rcases List.mem_append.1 hc with hc | hc
      · obtain ⟨a1, a2, a3, a4, a5, a6⟩ := c2.all c hc
        exact ⟨a1, a2, by omega, a4, a5, a6⟩
      · obtain ⟨j1, j2, j3, j4, j5, j6, j7⟩ := i1 c hc
        refine ⟨by omega, j2, by omega, j5, fun k k1 k2 => ⟨?_, ?_⟩, fun hlt => ?_⟩
        · rw [j4]; exact ow_in hA hx (by omega) (by omega)
        · rw [← hod k (by omega)]; exact j6 k k1 k2
        · by_cases q : c.hi = x.hi
          · left
            rw [j4, q]
            have hAx : A[n + 1]? ≠ none := by
              intro hn
              have hlen : A.length = n + 1 := by
                have := List.getElem?_eq_none_iff.1 hn
                omega
              have hc2 := hA.cov
              rw [← List.take_of_length_le (by omega : A.length ≤ n + 1), et] at hc2
              have := cov_last hc2
              omega
            obtain ⟨z, hz⟩ : ∃ z, A[n + 1]? = some z := by
              cases hzz : A[n + 1]? with
              | none => exact absurd hzz hAx
              | some z => exact ⟨z, rfl⟩
            obtain ⟨z1, z2, z3⟩ := cov_take hA.cov hz
            have ez : z.lo = x.hi + 1 := by
              rw [et] at z1
              have := cov_last z1
              omega
            rw [ow_in hA hz (by omega) (by omega)]
            have key : ∀ {F : List Sg} (i : Nat), Alt F → F[i]? = some x → F[i + 1]? = some z → z.h ≠ x.h := by
              intro F
              induction F with
              | nil => intro i h1 h2; simp at h2
              | cons s F ih =>
                intro i h1 h2 h3
                cases i with
                | zero =>
                  cases F with
                  | nil => simp at h3
                  | cons s2 F => simp at h2 h3; subst h2 h3; exact fun q => h1.1 q.symm
                | succ i =>
                  cases F with
                  | nil => simp at h2
                  | cons s2 F => exact ih i h1.2 (by simpa using h2) (by simpa using h3)
            exact key n hA.alt hx hz
          · right
            rcases j7 with j7 | j7
            · exact absurd j7 q
            · rw [hod (c.hi + 1) (by omega)] at j7; exact j7
    · intro k k0 k1 k2
      by_cases q : k < x.lo
      · obtain ⟨c, hc, h5⟩ := c2.cover k k0 q k2
        exact ⟨c, List.mem_append_left _ hc, h5⟩
      · obtain ⟨c, hc, h5⟩ := i3 k (by omega) (by omega) (by rw [hod k (by omega)]; exact fun z => k2 ((ow_in hA hx (by omega) (by omega)).trans z.symm))
        exact ⟨c, List.mem_append_right _ hc, h5⟩
    · rw [List.length_drop] at i4; omega
    · rw [← List.drop_drop]; exact i5
theorem diff_facts {A E : List Sg} (hA : Tab A) (hE : Tab E) : Chs A E 18446744073709551616 (dst E A).2 := by
  obtain ⟨m, c1, c2, c3, _⟩ := dst_facts hA hE A.length (Nat.le_refl _)
  rw [List.take_of_length_le (Nat.le_refl _)] at c1 c2
  have key : ∀ {F : List Sg} {a b c : Int}, Cov a F b → Cov a F c → b = c := by
    intro F
    induction F with
    | nil => intro a b c h1 h2; have e1 : a = b := h1; have e2 : a = c := h2; omega
    | cons q F ih => intro a b c h1 h2; exact ih h1.2.2 h2.2.2
  rw [key c1 hA.cov] at c2
  exact c2
end Go.Proofs.Ytffcnonhhfhlhaa.Rg
