import Derived.Test.YtbifmcadllilhaaGreatPmK
import Derived.Test.YtbifmcadllilhaaGreatPnC
import Derived.Deep.RegionHeld3
namespace Go.Proofs.YtbifmcadllilhaaGreat.Rg
set_option linter.unusedVariables false
/-- a stretch that is wholly the host's, and as long as may be -/
structure Mxl (f : Int → Int) (g lo hi : Int) : Prop where
  l0 : 0 ≤ lo
  lh : lo ≤ hi
  h1 : hi < 18446744073709551616
  all : ∀ k, lo ≤ k → k ≤ hi → f k = g
  dn : lo = 0 ∨ f (lo - 1) ≠ g
  up : hi + 1 = 18446744073709551616 ∨ f (hi + 1) ≠ g
theorem Mxl.unique {f : Int → Int} {g lo hi lo' hi' k : Int} (h : Mxl f g lo hi) (h' : Mxl f g lo' hi') (k1 : lo ≤ k) (k2 : k ≤ hi) (k3 : lo' ≤ k) (k4 : k ≤ hi') : lo = lo' ∧ hi = hi' := by
  refine ⟨?_, ?_⟩
  · rcases Int.lt_trichotomy lo lo' with e | e | e
    · rcases h'.dn with q | q
      · have := h.l0; omega
      · exact absurd (h.all (lo' - 1) (by omega) (by omega)) q
    · exact e
    · rcases h.dn with q | q
      · have := h'.l0; omega
      · exact absurd (h'.all (lo - 1) (by omega) (by omega)) q
  · rcases Int.lt_trichotomy hi hi' with e | e | e
    · rcases h.up with q | q
      · have := h'.h1; omega
      · exact absurd (h'.all (hi + 1) (by omega) (by omega)) q
    · exact e
    · rcases h'.up with q | q
      · have := h.h1; omega
      · exact absurd (h.all (hi' + 1) (by omega) (by omega)) q
theorem seg_max : ∀ {L : List Sg} {a b : Int}, Cov a L b → Alt L → ∀ s ∈ L, (s.lo = a ∨ ow L (s.lo - 1) ≠ s.h) ∧ (s.hi + 1 = b ∨ ow L (s.hi + 1) ≠ s.h)
  | [], a, b, _, _, s, hs => by cases hs
  | t :: r, a, b, h, ha, s, hs => by
    obtain ⟨h1, h2, h3⟩ := h
    rcases List.mem_cons.1 hs with rfl | hs
    · refine ⟨.inl h1, ?_⟩
      cases r with
      | nil => exact .inl h3
      | cons u r =>
        refine .inr ?_
        have q1 := h3.1
        have q2 := h3.2.1
        rw [ow_cons, if_neg (by omega), ow_cons, if_pos (by omega)]
        exact fun e => ha.1 e.symm
    · have ha' : Alt r := by
        cases r with
        | nil => trivial
        | cons u r => exact ha.2
      have hm := cov_mem h3 s hs
      obtain ⟨i1, i2⟩ := seg_max h3 ha' s hs
      refine ⟨.inr ?_, ?_⟩
      · rcases i1 with e | e
        · rw [ow_cons, if_pos (by omega)]
          cases r with
          | nil => cases hs
          | cons u r =>
            rcases List.mem_cons.1 hs with rfl | hs
            · exact ha.1
            · have := cov_mem h3.2.2 s hs
              have := h3.2.1
              omega
        · by_cases e2 : s.lo = t.hi + 1
          · rw [ow_cons, if_pos (by omega)]
            cases r with
            | nil => cases hs
            | cons u r =>
              rcases List.mem_cons.1 hs with rfl | hs
              · exact ha.1
              · have := cov_mem h3.2.2 s hs
                have := h3.2.1
                omega
          · rw [ow_cons, if_neg (by omega)]
            exact e
      · rcases i2 with e | e
        · exact .inl e
        · refine .inr ?_
          rw [ow_cons, if_neg (by omega)]
          exact e
theorem Tab.mxl {L : List Sg} (h : Tab L) {s : Sg} (hs : s ∈ L) : Mxl (ow L) s.h s.lo s.hi := by
  have hm := cov_mem h.cov s hs
  have hx := seg_max h.cov h.alt s hs
  exact ⟨hm.1, hm.2.1, hm.2.2, fun k k1 k2 => ow_mem h.cov hs k1 k2, hx.1, hx.2⟩
/-- a stretch of a pile: its segment, where its keys begin, how many -/
structure Pc where
  s : Sg
  a : Nat
  c : Nat
structure PcOk (f : Int → Int) (ks : List Int) (g : Int) (p : Pc) : Prop where
  m : Mxl f g p.s.lo p.s.hi
  c1 : 1 ≤ p.c
  le : p.a + p.c ≤ ks.length
  k : ∀ (j : Nat) x, ks[j]? = some x → (p.s.lo ≤ x ∧ x ≤ p.s.hi ↔ p.a ≤ j ∧ j < p.a + p.c)
/-- what a host has, lowest first -/
structure Pil (f : Int → Int) (ks : List Int) (g : Int) (P : List Pc) : Prop where
  each : ∀ p ∈ P, PcOk f ks g p
  up : P.Pairwise (fun p q => p.a + p.c ≤ q.a)
  all : ∀ (j : Nat) x, ks[j]? = some x → f x = g → ∃ p ∈ P, p.a ≤ j ∧ j < p.a + p.c
theorem get_of_lt {l : List Int} {j : Nat} (h : j < l.length) : ∃ x, l[j]? = some x := ⟨_, List.getElem?_eq_getElem h⟩
theorem lt_of_get {l : List Int} {j : Nat} {x : Int} (h : l[j]? = some x) : j < l.length := by
  rcases Nat.lt_or_ge j l.length with q | q
  · exact q
  · rw [List.getElem?_eq_none q] at h; cases h
/-- the top of a pile -/
theorem Pil.top {f : Int → Int} {ks : List Int} {g : Int} {P : List Pc} {p : Pc} (h : Pil f ks g (P ++ [p])) : ∃ x, ks[p.a + p.c - 1]? = some x ∧ f x = g ∧ p.s.lo ≤ x ∧ x ≤ p.s.hi ∧ ∀ (j : Nat) y, p.a + p.c - 1 < j → ks[j]? = some y → f y ≠ g := by
  have hp := h.each p (by simp)
  have c1 := hp.c1
  have le := hp.le
  obtain ⟨x, hx⟩ := get_of_lt (l := ks) (j := p.a + p.c - 1) (by omega)
  have hk := (hp.k _ x hx).2 ⟨by omega, by omega⟩
  refine ⟨x, hx, hp.m.all x hk.1 hk.2, hk.1, hk.2, fun j y hj hy e => ?_⟩
  obtain ⟨q, hq, q1, q2⟩ := h.all j y hy e
  rcases List.mem_append.1 hq with hq | hq
  · have := (List.pairwise_append.1 h.up).2.2 q hq p (by simp)
    omega
  · simp only [List.mem_singleton] at hq
    subst hq
    omega
/-- what the document takes of it -/
theorem Pil.tkn {f : Int → Int} {ks : List Int} {g : Int} {P : List Pc} {p : Pc} (h : Pil f ks g (P ++ [p])) (hr : Ris ks) {s : Sg} (e1 : s.lo = p.s.lo) (e2 : s.hi = p.s.hi) {n q : Nat} {lo : Int} (ht : Tkn ks s (p.a + p.c - 1) n q lo) :
    (p.c ≤ n ∧ q = p.c ∧ lo = p.s.lo) ∨ (n < p.c ∧ q = n ∧ ks[p.a + p.c - n]? = some lo) := by
  have hp := h.each p (by simp)
  have c1 := hp.c1
  have le := hp.le
  have p1 := ht.p1
  have pT := ht.pT
  have pn := ht.pn
  obtain ⟨x, hx⟩ := get_of_lt (l := ks) (j := p.a + p.c - 1) (by omega)
  have hk := (hp.k _ x hx).2 ⟨by omega, by omega⟩
  have low : ∀ j y, j ≤ p.a + p.c - 1 → ks[p.a + p.c - 1 - j]? = some y → (s.lo ≤ y ↔ p.a ≤ p.a + p.c - 1 - j) := fun j y hj hy => by
    have h1 := hp.k _ y hy
    have h2 : y ≤ x := hr.le (by omega) hy hx
    rw [e1]
    constructor
    · intro h3; exact (h1.1 ⟨h3, by omega⟩).1
    · intro h3; exact (h1.2 ⟨h3, by omega⟩).1
  have qc : q ≤ p.c := by
    obtain ⟨y, hy⟩ := get_of_lt (l := ks) (j := p.a + p.c - 1 - (q - 1)) (by omega)
    have := (low (q - 1) y (by omega) hy).1 (ht.all (q - 1) y (by omega) hy)
    omega
  rcases ht.how with ⟨h1, h2⟩ | ⟨h1, h2, h3, h4⟩
  · have hqc : q = p.c := by
      rcases h2 with h2 | ⟨h2, h3⟩
      · omega
      · obtain ⟨y, hy⟩ := get_of_lt (l := ks) (j := p.a + p.c - 1 - q) (by omega)
        have h4 := h3 y hy
        have h5 := low q y h2 hy
        by_cases e : p.a ≤ p.a + p.c - 1 - q
        · have := h5.2 e; omega
        · omega
    exact .inl ⟨by omega, hqc, by rw [h1, e1]⟩
  · obtain ⟨y, hy⟩ := get_of_lt (l := ks) (j := p.a + p.c - 1 - q) (by omega)
    have h5 := (low q y h2 hy).1 (h3 y hy)
    refine .inr ⟨by omega, h1, ?_⟩
    have e : p.a + p.c - n = p.a + p.c - 1 - q + 1 := by omega
    rw [e]; exact h4
def mv (f : Int → Int) (lo hi k : Int) : Int → Int := fun x => if lo ≤ x ∧ x ≤ hi then k else f x
theorem Pil.other {f : Int → Int} {ks : List Int} {g g' k lo hi : Int} {P : List Pc} (h : Pil f ks g' P) (n1 : g' ≠ g) (n2 : g' ≠ k) (hO : ∀ x, lo ≤ x → x ≤ hi → f x = g) : Pil (mv f lo hi k) ks g' P := by
  refine ⟨fun p hp => ?_, h.up, fun j x hx hf => ?_⟩
  · have q := h.each p hp
    refine ⟨⟨q.m.l0, q.m.lh, q.m.h1, fun x x1 x2 => ?_, ?_, ?_⟩, q.c1, q.le, q.k⟩
    · have e := q.m.all x x1 x2
      unfold mv
      rw [if_neg (fun c => n1 (e.symm.trans (hO x c.1 c.2)))]
      exact e
    · rcases q.m.dn with e | e
      · exact .inl e
      · refine .inr ?_
        unfold mv
        split
        · exact fun c => n2 c.symm
        · exact e
    · rcases q.m.up with e | e
      · exact .inl e
      · refine .inr ?_
        unfold mv
        split
        · exact fun c => n2 c.symm
        · exact e
  · unfold mv at hf
    split at hf
    · exact absurd hf.symm n2
    · exact h.all j x hx hf
/-- the rest of a pile keeps off what its top has -/
theorem Pil.apart {f : Int → Int} {ks : List Int} {g : Int} {P : List Pc} {p : Pc} (h : Pil f ks g (P ++ [p])) {q : Pc} (hq : q ∈ P) (x : Int) (x1 : q.s.lo ≤ x) (x2 : x ≤ q.s.hi) : ¬ (p.s.lo ≤ x ∧ x ≤ p.s.hi) := fun c => by
  have hp := h.each p (by simp)
  have hq' := h.each q (by simp [hq])
  have e := Mxl.unique hp.m hq'.m c.1 c.2 x1 x2
  have u := (List.pairwise_append.1 h.up).2.2 q hq p (by simp)
  have c1 := hq'.c1
  have le := hq'.le
  obtain ⟨y, hy⟩ := get_of_lt (l := ks) (j := q.a) (by omega)
  have k1 := (hq'.k _ y hy).2 ⟨Nat.le_refl _, by omega⟩
  have k2 := (hp.k _ y hy).1 (by rw [e.1, e.2]; exact k1)
  omega
theorem PcOk.keep {f : Int → Int} {ks : List Int} {g k lo hi : Int} {q : Pc} (h : PcOk f ks g q) (hk : k ≠ g) (ha : ∀ x, q.s.lo ≤ x → x ≤ q.s.hi → ¬ (lo ≤ x ∧ x ≤ hi)) : PcOk (mv f lo hi k) ks g q := by
  refine ⟨⟨h.m.l0, h.m.lh, h.m.h1, fun x x1 x2 => ?_, ?_, ?_⟩, h.c1, h.le, h.k⟩
  · unfold mv; rw [if_neg (ha x x1 x2)]; exact h.m.all x x1 x2
  · rcases h.m.dn with e | e
    · exact .inl e
    · refine .inr ?_
      unfold mv
      split
      · exact hk
      · exact e
  · rcases h.m.up with e | e
    · exact .inl e
    · refine .inr ?_
      unfold mv
      split
      · exact hk
      · exact e
theorem Pil.whole {f : Int → Int} {ks : List Int} {g k : Int} {P : List Pc} {p : Pc} (h : Pil f ks g (P ++ [p])) (hk : k ≠ g) : Pil (mv f p.s.lo p.s.hi k) ks g P := by
  refine ⟨fun q hq => (h.each q (by simp [hq])).keep hk (fun x x1 x2 => h.apart hq x x1 x2), (List.pairwise_append.1 h.up).1, fun j x hx hf => ?_⟩
  unfold mv at hf
  split at hf
  · exact absurd hf hk
  · rename_i hn
    obtain ⟨q, hq, q1, q2⟩ := h.all j x hx hf
    rcases List.mem_append.1 hq with hq | hq
    · exact ⟨q, hq, q1, q2⟩
    · simp only [List.mem_singleton] at hq
      subst hq
      exact absurd (((h.each q (by simp)).k j x hx).2 ⟨q1, q2⟩) hn
theorem Pil.part {f : Int → Int} {ks : List Int} {g k : Int} {P : List Pc} {p : Pc} (h : Pil f ks g (P ++ [p])) (hr : Ris ks) (hk : k ≠ g) {n : Nat} (n1 : 1 ≤ n) (n2 : n < p.c) {lo : Int} (hlo : ks[p.a + p.c - n]? = some lo) (hh : Int) :
    Pil (mv f lo p.s.hi k) ks g (P ++ [⟨⟨p.s.lo, lo - 1, hh⟩, p.a, p.c - n⟩]) := by
  have hp := h.each p (by simp)
  have le := hp.le
  have kl := (hp.k _ lo hlo).2 ⟨by omega, by omega⟩
  obtain ⟨y, hy⟩ := get_of_lt (l := ks) (j := p.a) (by omega)
  have ky := (hp.k _ y hy).2 ⟨Nat.le_refl _, by omega⟩
  have lt : ∀ (j : Nat) x, ks[j]? = some x → (x < lo ↔ j < p.a + p.c - n) := fun j x hx => by
    constructor
    · intro h1
      rcases Nat.lt_or_ge j (p.a + p.c - n) with e | e
      · exact e
      · have := hr.le e hlo hx; omega
    · intro h1
      obtain ⟨d, hd⟩ : ∃ d, p.a + p.c - n = j + d + 1 := ⟨p.a + p.c - n - j - 1, by omega⟩
      rw [hd] at hlo
      exact hr.lt d j x lo hx hlo
  have hyl := (lt _ y hy).2 (by omega)
  refine ⟨fun q hq => ?_, ?_, fun j x hx hf => ?_⟩
  · rcases List.mem_append.1 hq with hq | hq
    · exact (h.each q (by simp [hq])).keep hk (fun x x1 x2 c => h.apart hq x x1 x2 ⟨by omega, c.2⟩)
    · simp only [List.mem_singleton] at hq
      subst hq
      refine ⟨⟨hp.m.l0, by show p.s.lo ≤ lo - 1; omega, by show lo - 1 < _; have := hp.m.h1; omega, fun x x1 x2 => ?_, ?_, .inr ?_⟩, by show 1 ≤ p.c - n; omega, by show p.a + (p.c - n) ≤ _; omega, fun j x hx => ?_⟩
      · have x2' : x ≤ lo - 1 := x2
        have x1' : p.s.lo ≤ x := x1
        unfold mv
        rw [if_neg (by omega)]
        exact hp.m.all x x1' (by omega)
      · rcases hp.m.dn with e | e
        · exact .inl e
        · refine .inr ?_
          show mv f lo p.s.hi k (p.s.lo - 1) ≠ g
          unfold mv
          rw [if_neg (by omega)]
          exact e
      · show mv f lo p.s.hi k (lo - 1 + 1) ≠ g
        unfold mv
        rw [if_pos (by omega)]
        exact hk
      · have h1 := hp.k j x hx
        have h2 := lt j x hx
        show p.s.lo ≤ x ∧ x ≤ lo - 1 ↔ p.a ≤ j ∧ j < p.a + (p.c - n)
        constructor
        · rintro ⟨a1, a2⟩
          have := h1.1 ⟨a1, by omega⟩
          have := h2.1 (by omega)
          omega
        · rintro ⟨a1, a2⟩
          have := h1.2 ⟨a1, by omega⟩
          have := h2.2 (by omega)
          omega
  · refine List.pairwise_append.2 ⟨(List.pairwise_append.1 h.up).1, List.pairwise_singleton _ _, fun q hq r hr' => ?_⟩
    simp only [List.mem_singleton] at hr'
    subst hr'
    exact (List.pairwise_append.1 h.up).2.2 q hq p (by simp)
  · unfold mv at hf
    split at hf
    · exact absurd hf hk
    · rename_i hn
      obtain ⟨q, hq, q1, q2⟩ := h.all j x hx hf
      rcases List.mem_append.1 hq with hq | hq
      · exact ⟨q, by simp [hq], q1, q2⟩
      · simp only [List.mem_singleton] at hq
        subst hq
        have h1 := (hp.k j x hx).2 ⟨q1, q2⟩
        have h2 := (lt j x hx).1 (by omega)
        exact ⟨⟨⟨q.s.lo, lo - 1, hh⟩, q.a, q.c - n⟩, by simp, q1, by show j < q.a + (q.c - n); omega⟩
end Go.Proofs.YtbifmcadllilhaaGreat.Rg
namespace Go.Proofs.YtbifmcadllilhaaGreat.Rg
set_option linter.unusedVariables false
/-- a host that waits -/
structure Wt where
  h : Int
  p : Int
/-- comes ahead of -/
def wlt (x y : Wt) : Prop := x.p > y.p ∨ (x.p = y.p ∧ x.h < y.h)
instance (x y : Wt) : Decidable (wlt x y) := by unfold wlt; infer_instance
theorem wlt_asym {x y : Wt} (h : wlt x y) : ¬ wlt y x := by unfold wlt at *; omega
theorem wle_trans {x y z : Wt} (h1 : ¬ wlt x y) (h2 : ¬ wlt y z) : ¬ wlt x z := by unfold wlt at *; omega
theorem wlt_le {x y z : Wt} (h1 : ¬ wlt x y) (h2 : wlt z y) : ¬ wlt x z := wle_trans h1 (wlt_asym h2)
def we (l : List Wt) (k : Nat) : Wt := l.getD k ⟨0, 0⟩
def swp (l : List Wt) (i j : Nat) : List Wt := (l.set i (we l j)).set j (we l i)
theorem swp_len (l : List Wt) (i j : Nat) : (swp l i j).length = l.length := by simp [swp]
theorem we_get {l : List Wt} {k : Nat} (h : k < l.length) : l[k]? = some (we l k) := by
  unfold we
  rw [List.getD_eq_getElem?_getD, List.getElem?_eq_getElem h]
  rfl
theorem swp_at {l : List Wt} {i j : Nat} (hi : i < l.length) (hj : j < l.length) (k : Nat) : we (swp l i j) k = if k = j then we l i else if k = i then we l j else we l k := by
  unfold we swp
  rw [List.getD_eq_getElem?_getD, List.getElem?_set, List.getElem?_set]
  by_cases h1 : j = k
  · subst h1
    simp [hj, we]
  · by_cases h2 : i = k
    · subst h2
      simp [h1, hi, we, Ne.symm h1]
    · simp [h1, h2, Ne.symm h1, Ne.symm h2, List.getD_eq_getElem?_getD]
theorem swp_perm {l : List Wt} {i j : Nat} (hi : i < l.length) (hj : j < l.length) : (swp l i j).Perm l := by
  have e1 : we l j = l[j] := by unfold we; rw [List.getD_eq_getElem?_getD, List.getElem?_eq_getElem hj]; rfl
  have e2 : we l i = l[i] := by unfold we; rw [List.getD_eq_getElem?_getD, List.getElem?_eq_getElem hi]; rfl
  unfold swp
  rw [e1, e2]
  exact List.set_set_perm hi hj
/-- no child comes ahead of its parent -/
def Hok (l : List Wt) (n : Nat) : Prop := ∀ c, 1 ≤ c → c < n → ¬ wlt (we l c) (we l ((c - 1) / 2))
structure Hup (l : List Wt) (n j : Nat) : Prop where
  a : ∀ c, 1 ≤ c → c < n → c ≠ j → ¬ wlt (we l c) (we l ((c - 1) / 2))
  b : ∀ c, 1 ≤ c → c < n → (c - 1) / 2 = j → 1 ≤ j → ¬ wlt (we l c) (we l ((j - 1) / 2))
theorem Hup.zero {l : List Wt} {n : Nat} (h : Hup l n 0) : Hok l n := fun c h1 h2 => h.a c h1 h2 (by omega)
theorem Hup.stop {l : List Wt} {n j : Nat} (h : Hup l n j) (hs : ¬ wlt (we l j) (we l ((j - 1) / 2))) : Hok l n := fun c h1 h2 => by
  by_cases e : c = j
  · rw [e]; exact hs
  · exact h.a c h1 h2 e
theorem Hup.step {l : List Wt} {n j i : Nat} (h : Hup l n j) (hn : n ≤ l.length) (hj : j < n) (hj1 : 1 ≤ j) (hi : (j - 1) / 2 = i) (hs : wlt (we l j) (we l i)) : Hup (swp l i j) n i := by
  have il : i < l.length := by omega
  have jl : j < l.length := by omega
  have sa := swp_at il jl
  refine ⟨fun c h1 h2 hne => ?_, fun c h1 h2 he hi1 => ?_⟩
  · rw [sa, sa]
    by_cases q1 : c = j
    · subst q1
      rw [if_pos rfl, hi, if_neg (by omega), if_pos rfl]
      exact wlt_asym hs
    · rw [if_neg q1, if_neg hne]
      by_cases q2 : (c - 1) / 2 = j
      · rw [if_pos q2]
        have := h.b c h1 h2 q2 hj1
        rw [hi] at this
        exact this
      · rw [if_neg q2]
        have q0 := h.a c h1 h2 q1
        by_cases q3 : (c - 1) / 2 = i
        · rw [if_pos q3]
          rw [q3] at q0
          exact wlt_le q0 hs
        · rw [if_neg q3]
          exact q0
  · rw [sa, sa]
    have p1 : (i - 1) / 2 ≠ j := by omega
    have p2 : (i - 1) / 2 ≠ i := by omega
    rw [if_neg p1, if_neg p2]
    have hp := h.a i hi1 (by omega) (by omega)
    by_cases q1 : c = j
    · rw [if_pos q1]; exact hp
    · rw [if_neg q1, if_neg (by omega)]
      have q0 := h.a c h1 h2 q1
      rw [he] at q0
      exact wle_trans q0 hp
structure Hdn (l : List Wt) (n i : Nat) : Prop where
  a : ∀ c, 1 ≤ c → c < n → (c - 1) / 2 ≠ i → ¬ wlt (we l c) (we l ((c - 1) / 2))
  b : ∀ c, 1 ≤ c → c < n → (c - 1) / 2 = i → 1 ≤ i → ¬ wlt (we l c) (we l ((i - 1) / 2))
theorem Hdn.leaf {l : List Wt} {n i : Nat} (h : Hdn l n i) (hs : n ≤ 2 * i + 1) : Hok l n := fun c h1 h2 => h.a c h1 h2 (by omega)
/-- the child that comes first -/
def Best (l : List Wt) (n i j : Nat) : Prop := (j = 2 * i + 1 ∨ j = 2 * i + 2) ∧ j < n ∧ ∀ c, 1 ≤ c → c < n → (c - 1) / 2 = i → ¬ wlt (we l c) (we l j)
theorem Hdn.stop {l : List Wt} {n i j : Nat} (h : Hdn l n i) (hb : Best l n i j) (hs : ¬ wlt (we l j) (we l i)) : Hok l n := fun c h1 h2 => by
  by_cases e : (c - 1) / 2 = i
  · rw [e]; exact wle_trans (hb.2.2 c h1 h2 e) hs
  · exact h.a c h1 h2 e
theorem Hdn.step {l : List Wt} {n i j : Nat} (h : Hdn l n i) (hn : n ≤ l.length) (hb : Best l n i j) (hs : wlt (we l j) (we l i)) : Hdn (swp l i j) n j := by
  have hj := hb.2.1
  have hjj := hb.1
  have il : i < l.length := by omega
  have jl : j < l.length := by omega
  have sa := swp_at il jl
  have hpj : (j - 1) / 2 = i := by omega
  refine ⟨fun c h1 h2 hne => ?_, fun c h1 h2 he hj1 => ?_⟩
  · rw [sa, sa]
    by_cases q1 : c = j
    · subst q1
      rw [if_pos rfl, hpj, if_neg (by omega), if_pos rfl]
      exact wlt_asym hs
    · rw [if_neg q1, if_neg hne]
      by_cases q2 : (c - 1) / 2 = i
      · rw [if_pos q2, if_neg (by omega)]
        exact hb.2.2 c h1 h2 q2
      · rw [if_neg q2]
        by_cases q3 : c = i
        · rw [if_pos q3]
          subst q3
          exact h.b j (by omega) hj hpj h1
        · rw [if_neg q3]
          exact h.a c h1 h2 q2
  · rw [sa, sa, hpj, if_neg (by omega : i ≠ j), if_pos rfl, if_neg (by omega), if_neg (by omega)]
    have := h.a c h1 h2 (by omega)
    rw [he] at this
    exact this
/-- the first one comes ahead of all -/
theorem Hok.root {l : List Wt} {n : Nat} (h : Hok l n) : ∀ k, k < n → ¬ wlt (we l k) (we l 0) := by
  intro k
  induction k using Nat.strongRecOn with
  | _ k ih =>
    intro hk
    by_cases h0 : k = 0
    · subst h0; intro hh; exact wlt_asym hh hh
    · exact wle_trans (h k (by omega) hk) (ih ((k - 1) / 2) (by omega) (by omega))
end Go.Proofs.YtbifmcadllilhaaGreat.Rg
namespace Go.Proofs.YtbifmcadllilhaaGreat.Rg
open Go.RowKit Go.Shelf Go.Sort
set_option linter.unusedVariables false
/-- a cell of one's own row is written -/
theorem own_put {w : World} {B e size n g cap : Nat} {xs : List Value} (h : w.ownsRow B e size (.slice (some ⟨g, 0, none⟩) n cap) n xs) (o : Nat) (u : Value) (ho : o < xs.length) : (w.setCell ⟨g, o, none⟩ u).ownsRow B e size (.slice (some ⟨g, 0, none⟩) n cap) n (xs.set o u) := by
  rcases h.2 with ⟨e0, _⟩ | ⟨g', cap', cur, e0, hb, hg, h1, h2, h3, h4⟩
  · cases e0
  · cases e0
    refine ⟨by rw [List.length_set]; exact h.1, .inr ⟨g, cap, cur.setIfInBounds o u, rfl, hb, set3 hg o u, h1, h2, by rw [Array.size_setIfInBounds]; exact h3, ?_⟩⟩
    rw [Array.toList_setIfInBounds, ← h4, List.take_set]
theorem row1_at {w : World} {B e : Nat} {v : Value} {xs : List Value} (h : w.ownsRow B e 1 v xs.length xs) {i : Nat} {x : Value} (hi : xs[i]? = some x) : ∃ r cap, v = .slice (some ⟨r, 0, none⟩) xs.length cap ∧ B ≤ r ∧ w.cell? ⟨r, i, none⟩ = some x ∧ ∃ cur, w.heap[r]? = some (.cells cur e (0, 0)) := by
  rcases h.2 with ⟨e0, hn⟩ | ⟨g', cap', cur, e0, hb, hg, h1, h2, h3, h4⟩
  · have : i < xs.length := (List.getElem?_eq_some_iff.1 hi).1
    omega
  · refine ⟨g', cap', e0, hb, ?_, cur, hg⟩
    have hlt : i < xs.length := (List.getElem?_eq_some_iff.1 hi).1
    rw [← h4] at hi
    rw [List.getElem?_take] at hi
    split at hi
    · simp [World.cell?, hg]
      rw [← hi]; simp
    · cases hi
def cellsMs (ms : List Mv) : List Value := ms.flatMap cellsM
theorem cellsMs_snoc (l : List Mv) (s : Mv) : cellsMs (l ++ [s]) = cellsMs l ++ cellsM s := by simp [cellsMs]
theorem cellsMs_at : ∀ (l : List Mv) (k : Nat) (x : Mv), l[k]? = some x → ∀ j, j < 5 → (cellsMs l)[k * 5 + j]? = (cellsM x)[j]?
  | [], k, x, h, j, _ => by simp at h
  | a :: l, 0, x, h, j, hj => by
    simp at h; subst h
    simp only [cellsMs, List.flatMap_cons, Nat.zero_mul, Nat.zero_add]
    rw [List.getElem?_append_left (by simp [cellsM]; omega)]
  | a :: l, k + 1, x, h, j, hj => by
    have ih := cellsMs_at l k x (by simpa using h) j hj
    simp only [cellsMs, List.flatMap_cons]
    rw [List.getElem?_append_right (by simp [cellsM]; omega)]
    have : (k + 1) * 5 + j - (cellsM a).length = k * 5 + j := by simp [cellsM]; omega
    rw [this]; exact ih
theorem mvs_of_own {w : World} {B : Nat} {v : Value} {ms : List Mv} (h : w.ownsRow B 41 5 v ms.length (cellsMs ms)) (hb : ∀ m ∈ ms, MvB m) : Mvs w v ms := by
  obtain ⟨va, vc, ev⟩ := own_slice h
  refine ⟨va, vc, ev, fun i m hm => ?_⟩
  have hlt : i < ms.length := (List.getElem?_eq_some_iff.1 hm).1
  rcases h.2 with ⟨_, h0⟩ | ⟨r, cap, cur, e, hB, hg, h1, h2, h3, h4⟩
  · omega
  · have key : ∀ j, j < 5 → cur[i * 5 + j]? = (cellsM m)[j]? := by
      intro j hj
      have e1 := cellsMs_at ms i m hm j hj
      rw [← h4, List.getElem?_take_of_lt (by omega)] at e1
      simpa using e1
    rw [ev] at e
    simp only [Value.slice.injEq] at e
    refine ⟨r, 0, e.1, ?_, ?_, ?_, ?_, ?_, hb m (List.mem_of_getElem? hm)⟩
    · have := key 0 (by omega)
      simpa [World.cell?, hg, cellsM] using this
    · have := key 1 (by omega)
      simpa [World.cell?, hg, cellsM] using this
    · have := key 2 (by omega)
      simpa [World.cell?, hg, cellsM] using this
    · have := key 3 (by omega)
      simpa [World.cell?, hg, cellsM] using this
    · have := key 4 (by omega)
      simpa [World.cell?, hg, cellsM] using this
theorem mvs_nil (w : World) : Mvs w (.slice none 0 0) [] := ⟨none, 0, rfl, fun i m hm => by simp at hm⟩
theorem info59 : (Tryz.prog.info? 41).map (fun i => (i.zero, i.size, i.bytes)) = some (some (.agg #[.int .u8 0, .int .u8 0, .int .u64 0, .int .u64 0, .int .i64 0]), 5, 32) := by kernel_rfl
end Go.Proofs.YtbifmcadllilhaaGreat.Rg
namespace Go.Proofs.YtbifmcadllilhaaGreat.Rg
open Go.RowKit Go.Shelf Go.Sort
set_option linter.unusedVariables false
def cellsQ (x : Wt) : List Value := [.int .u8 x.h, .int .i64 x.p]
def cellsW (l : List Wt) : List Value := l.flatMap cellsQ
theorem cellsW_snoc (l : List Wt) (x : Wt) : cellsW (l ++ [x]) = cellsW l ++ cellsQ x := by simp [cellsW]
theorem cellsW_len : ∀ l : List Wt, (cellsW l).length = l.length * 2
  | [] => rfl
  | x :: l => by
    have := cellsW_len l
    simp only [cellsW, List.flatMap_cons, List.length_append] at this ⊢
    simp [cellsQ, this]; omega
theorem cellsW_at : ∀ (l : List Wt) (k : Nat) (x : Wt), l[k]? = some x → ∀ j, j < 2 → (cellsW l)[k * 2 + j]? = (cellsQ x)[j]?
  | [], k, x, h, j, _ => by simp at h
  | a :: l, 0, x, h, j, hj => by
    simp at h; subst h
    simp only [cellsW, List.flatMap_cons, Nat.zero_mul, Nat.zero_add]
    rw [List.getElem?_append_left (by simp [cellsQ]; omega)]
  | a :: l, k + 1, x, h, j, hj => by
    have ih := cellsW_at l k x (by simpa using h) j hj
    simp only [cellsW, List.flatMap_cons]
    rw [List.getElem?_append_right (by simp [cellsQ]; omega)]
    have : (k + 1) * 2 + j - (cellsQ a).length = k * 2 + j := by simp [cellsQ]; omega
    rw [this]; exact ih
theorem cellsW_set : ∀ (l : List Wt) (k : Nat) (x : Wt), k < l.length → cellsW (l.set k x) = ((cellsW l).set (k * 2) (.int .u8 x.h)).set (k * 2 + 1) (.int .i64 x.p)
  | [], k, x, h => by simp at h
  | a :: l, 0, x, h => by simp [cellsW, cellsQ]
  | a :: l, k + 1, x, h => by
    have ih := cellsW_set l k x (by simpa using h)
    simp only [cellsW, List.set_cons_succ, List.flatMap_cons] at ih ⊢
    rw [ih]
    have e1 : (k + 1) * 2 = k * 2 + 1 + 1 := by omega
    rw [e1]
    simp [cellsQ]
/-- a queue's row -/
def Wr (w : World) (B : Nat) (v : Value) (l : List Wt) : Prop := w.ownsRow B 105 2 v l.length (cellsW l)
theorem Wr.nu {w w' : World} {B : Nat} {v : Value} {l : List Wt} (h : Wr w B v l) (k : Kp Nu w w') : Wr w' B v l := own_keep h (fun g e => k.block g (own_lt h e) (fun h => h))
theorem Wr.at_ {w : World} {B : Nat} {v : Value} {l : List Wt} (h : Wr w B v l) {k : Nat} (hk : k < l.length) : ∃ g cap, v = .slice (some ⟨g, 0, none⟩) l.length cap ∧ B ≤ g ∧ w.cell? ⟨g, k * 2, none⟩ = some (.int .u8 (we l k).h) ∧ w.cell? ⟨g, k * 2 + 1, none⟩ = some (.int .i64 (we l k).p) ∧ ∃ cur, w.heap[g]? = some (.cells cur 105 (0, 0)) := by
  rcases h.2 with ⟨_, h0⟩ | ⟨g, cap, cur, e, hB, hg, h1, h2, h3, h4⟩
  · omega
  · have key : ∀ j, j < 2 → cur[k * 2 + j]? = (cellsQ (we l k))[j]? := by
      intro j hj
      have e1 := cellsW_at l k _ (we_get hk) j hj
      rw [← h4, List.getElem?_take_of_lt (by omega)] at e1
      simpa using e1
    refine ⟨g, cap, e, hB, ?_, ?_, ⟨cur, hg⟩⟩
    · have := key 0 (by omega)
      simpa [World.cell?, hg, cellsQ] using this
    · have := key 1 (by omega)
      simpa [World.cell?, hg, cellsQ] using this
theorem len50 (w : World) (a : Option Addr) (n cap : Nat) : Calls Tryz.prog 28 #[.slice a n cap] w fun e w' => e = .returned (.int .i64 (n : Int)) ∧ w' = w := by
  go_enter Tryz.func28, Tryz.ntmps28
  go_wp2
  go_ret
  exact ⟨rfl, rfl⟩
set_option maxRecDepth 100000 in
set_option maxHeartbeats 1000000 in
theorem less160 (w : World) (B : Nat) (v : Value) (l : List Wt) (h : Wr w B v l) (i j : Nat) (hi : i < l.length) (hj : j < l.length) (hl : l.length ≤ 100000) : Calls Tryz.prog 145 #[v, .int .i64 (i : Int), .int .i64 (j : Int)] w fun e w' => e = .returned (.bool (decide (wlt (we l i) (we l j)))) ∧ Kp Nu w w' := by
  have mixed : Tryz.prog.follows .mixedOrders = true := by kernel_rfl
  obtain ⟨g, cap, rfl, _, x0, x1, _⟩ := h.at_ hi
  obtain ⟨g', cap', e, _, y0, y1, _⟩ := h.at_ hj
  cases e
  obtain ⟨N, eN⟩ : ∃ N, l.length = N := ⟨_, rfl⟩
  rw [eN] at hi hj hl ⊢
  have hiI : (i : Int) < (N : Int) := by omega
  have hjI : (j : Int) < (N : Int) := by omega
  have hi0 : (0 : Int) ≤ (i : Int) := by omega
  have hj0 : (0 : Int) ≤ (j : Int) := by omega
  have eti : (i : Int).toNat = i := by omega
  have etj : (j : Int).toNat = j := by omega
  generalize we l i = X at x0 x1 ⊢
  generalize we l j = Y at y0 y1 ⊢
  have HW : Hid (wlt X Y ↔ (X.p > Y.p ∨ (X.p = Y.p ∧ X.h < Y.h))) := hide Iff.rfl
  obtain ⟨b, hb⟩ : ∃ b, decide (wlt X Y) = b := ⟨_, rfl⟩
  rw [hb]
  have HB := hide hb
  clear hb h eN
  have k2 : Kp Nu w (w.drew).drew := (Kp.refl Nu w).drew.drew
  by_cases q : X.p = Y.p
  · have d1 : (X.p != Y.p) = false := by simpa using q
    have HB2 : Hid (b = decide (X.h < Y.h)) := by
      show _ = _
      rw [← HB.out]; unfold wlt
      by_cases q2 : X.h < Y.h
      · simp [q, q2]
      · simp [q, q2]
    clear HB HW q
    go_enter Tryz.func145, Tryz.ntmps145
    go_wp2_with fail
    go_region
    go_wp2_with fail
    go_region
    go_wp2
    go_ret
    exact ⟨by rw [HB2.out]; rfl, k2⟩
  · have d1 : (X.p != Y.p) = true := by simpa using q
    have HB2 : Hid (b = decide (X.p > Y.p)) := by
      show _ = _
      rw [← HB.out]; unfold wlt
      by_cases q2 : X.p > Y.p
      · simp [q2]
      · simp [q, q2]
    clear HB HW q
    go_enter Tryz.func145, Tryz.ntmps145
    go_wp2_with fail
    go_region
    go_wp2_with fail
    go_region
    go_wp2
    go_ret
    exact ⟨by rw [HB2.out]; rfl, k2⟩
set_option maxRecDepth 100000 in
set_option maxHeartbeats 2000000 in
theorem swap161 (w : World) (B : Nat) (v : Value) (l : List Wt) (h : Wr w B v l) (i j : Nat) (hi : i < l.length) (hj : j < l.length) (hl : l.length ≤ 100000) : Calls Tryz.prog 146 #[v, .int .i64 (i : Int), .int .i64 (j : Int)] w fun e w' => e = .returned (.tuple #[]) ∧ Wr w' B v (swp l i j) ∧ Kp (fun g => some g = v.ownBlock) w w' := by
  have mixed : Tryz.prog.follows .mixedOrders = true := by kernel_rfl
  obtain ⟨g, cap, rfl, _, x0, x1, cur, hcur⟩ := h.at_ hi
  obtain ⟨g', cap', e, _, y0, y1, _⟩ := h.at_ hj
  cases e
  have f0 := free3 hcur (i * 2)
  have f1 := free3 hcur (i * 2 + 1)
  have f2 := free3 hcur (j * 2)
  have f3 := free3 hcur (j * 2 + 1)
  obtain ⟨N, eN⟩ : ∃ N, l.length = N := ⟨_, rfl⟩
  have HH := hide (And.intro h (And.intro hi (And.intro hj eN)))
  rw [eN] at hi hj hl ⊢
  have hiI : (i : Int) < (N : Int) := by omega
  have hjI : (j : Int) < (N : Int) := by omega
  have hi0 : (0 : Int) ≤ (i : Int) := by omega
  have hj0 : (0 : Int) ≤ (j : Int) := by omega
  have eti : (i : Int).toNat = i := by omega
  have etj : (j : Int).toNat = j := by omega
  have HCU := hide hcur
  clear h eN hcur
  generalize hX : we l i = X at x0 x1
  generalize hY : we l j = Y at y0 y1
  have HXY := hide (And.intro hX hY)
  have s1 : (w.setCell ⟨g, i * 2, none⟩ (.int .u8 Y.h)).cell? ⟨g, j * 2, none⟩ = some (.int .u8 Y.h) := by
    by_cases e : i = j
    · subst e
      exact World.cell?_setCell_same _ _ _ x0
    · rw [World.cell?_setCell_other _ _ _ _ (by intro h; simp at h <;> omega)]
      exact y0
  have z1 : (w.setCell ⟨g, i * 2, none⟩ (.int .u8 Y.h)).cell? ⟨g, i * 2 + 1, none⟩ = some (.int .i64 X.p) := by
    rw [World.cell?_setCell_other _ _ _ _ (by intro h; simp at h)]
    exact x1
  have s2 : ((w.setCell ⟨g, i * 2, none⟩ (.int .u8 Y.h)).setCell ⟨g, i * 2 + 1, none⟩ (.int .i64 Y.p)).cell? ⟨g, j * 2 + 1, none⟩ = some (.int .i64 Y.p) := by
    by_cases e : i = j
    · subst e
      exact World.cell?_setCell_same _ _ _ z1
    · rw [World.cell?_setCell_other _ _ _ _ (by intro h; simp at h <;> omega), World.cell?_setCell_other _ _ _ _ (by intro h; simp at h <;> omega)]
      exact y1
  clear z1
  clear hX hY
  go_enter Tryz.func146, Tryz.ntmps146
  go_wp2_with fail
  go_region
  go_end0
  obtain ⟨h, hi, hj, eN⟩ := HH.out
  refine ⟨rfl, ?_, ?_⟩
  · have hc : cellsW (swp l i j) = ((((cellsW l).set (i * 2) (.int .u8 Y.h)).set (i * 2 + 1) (.int .i64 Y.p)).set (j * 2) (.int .u8 X.h)).set (j * 2 + 1) (.int .i64 X.p) := by
      unfold swp
      rw [cellsW_set _ j _ (by rw [List.length_set]; exact hj), cellsW_set l i _ hi, HXY.out.1, HXY.out.2]
    unfold Wr
    rw [swp_len, hc]
    unfold Wr at h
    rw [eN] at h ⊢
    have cl := cellsW_len l
    rw [eN] at cl hi hj
    have p1 := own_put h (i * 2) (.int .u8 Y.h) (by omega)
    have p2 := own_put p1 (i * 2 + 1) (.int .i64 Y.p) (by rw [List.length_set]; omega)
    have p3 := own_put p2 (j * 2) (.int .u8 X.h) (by rw [List.length_set, List.length_set]; omega)
    have p4 := own_put p3 (j * 2 + 1) (.int .i64 X.p) (by rw [List.length_set, List.length_set, List.length_set]; omega)
    exact p4
  · refine Kp.drew (Kp.andSet ?_ _ _ (.inr rfl))
    refine Kp.andSet ?_ _ _ (.inr rfl)
    refine Kp.andSet ?_ _ _ (.inr rfl)
    exact Kp.andSet (Kp.refl _ w) _ _ (.inr rfl)
end Go.Proofs.YtbifmcadllilhaaGreat.Rg
