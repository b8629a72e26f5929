import Derived.Test.YtbifmcadllilhaaGreatPmQ
namespace Go.Proofs.YtbifmcadllilhaaGreat.Rg
set_option linter.unusedVariables false
/-- where the planning stands -/
structure Sig where
  P : List (List Pc)
  gv : List Int
  tk : List Int
/-- the next move -/
def Stp (ks : List Int) (most : Int) (σ : Sig) (m : Mv) (σ' : Sig) : Prop :=
  ∃ (g k : Nat) (x y : Int) (P0 : List Pc) (p : Pc) (n : Nat), Pn.Gst σ.gv (g : Int) ∧ Pn.Gst σ.tk (k : Int) ∧ σ.gv[g]? = some x ∧ σ.tk[k]? = some y ∧ σ.P[g]? = some (P0 ++ [p]) ∧ (n : Int) = min (min x y) most ∧ m.f = (g : Int) ∧ m.t = (k : Int) ∧ m.hi = p.s.hi ∧
    ((p.c ≤ n ∧ m.n = (p.c : Int) ∧ m.lo = p.s.lo ∧ σ'.P = σ.P.set g P0) ∨ (n < p.c ∧ m.n = (n : Int) ∧ ks[p.a + p.c - n]? = some m.lo ∧ σ'.P = σ.P.set g (P0 ++ [⟨⟨p.s.lo, m.lo - 1, p.s.h⟩, p.a, p.c - n⟩]))) ∧
    σ'.gv = σ.gv.set g (x - m.n) ∧ σ'.tk = σ.tk.set k (y - m.n)
theorem Stp.det {ks : List Int} {most : Int} {σ σ1 σ2 : Sig} {m1 m2 : Mv} (h1 : Stp ks most σ m1 σ1) (h2 : Stp ks most σ m2 σ2) : m1 = m2 ∧ σ1 = σ2 := by
  obtain ⟨g, k, x, y, P0, p, n, a1, a2, a3, a4, a5, a6, a7, a8, a9, a10, a11, a12⟩ := h1
  obtain ⟨g', k', x', y', P0', p', n', b1, b2, b3, b4, b5, b6, b7, b8, b9, b10, b11, b12⟩ := h2
  have eg : g = g' := by have := a1.unique b1; omega
  have ek : k = k' := by have := a2.unique b2; omega
  subst eg
  subst ek
  rw [a3] at b3
  rw [a4] at b4
  rw [a5] at b5
  cases b3
  cases b4
  obtain ⟨e1, e2⟩ := List.append_inj' (Option.some.inj b5) rfl
  cases e2
  subst e1
  have en : n = n' := by omega
  subst en
  obtain ⟨f1, t1, lo1, hi1, n1⟩ := m1
  obtain ⟨f2, t2, lo2, hi2, n2⟩ := m2
  obtain ⟨q1, q2, q3⟩ := σ1
  obtain ⟨r1, r2, r3⟩ := σ2
  simp only at *
  rcases a10 with ⟨c1, c2, c3, c4⟩ | ⟨c1, c2, c3, c4⟩
  · rcases b10 with ⟨d1, d2, d3, d4⟩ | ⟨d1, d2, d3, d4⟩
    · subst a7 a8 a9 b7 b8 b9 c2 d2 c3 d3 c4 d4 a11 a12 b11 b12
      exact ⟨rfl, rfl⟩
    · omega
  · rcases b10 with ⟨d1, d2, d3, d4⟩ | ⟨d1, d2, d3, d4⟩
    · omega
    · rw [c3] at d3
      cases d3
      subst a7 a8 a9 b7 b8 b9 c2 d2 c4 d4 a11 a12 b11 b12
      exact ⟨rfl, rfl⟩
inductive Stps (ks : List Int) (most : Int) : Sig → List Mv → Sig → Prop
  | nil (σ : Sig) : Stps ks most σ [] σ
  | cons {σ σ1 σ2 : Sig} {m : Mv} {ms : List Mv} : Stp ks most σ m σ1 → Stps ks most σ1 ms σ2 → Stps ks most σ (m :: ms) σ2
theorem Stps.snoc {ks : List Int} {most : Int} {σ σ1 σ2 : Sig} {m : Mv} {ms : List Mv} (h : Stps ks most σ ms σ1) (h2 : Stp ks most σ1 m σ2) : Stps ks most σ (ms ++ [m]) σ2 := by
  induction h with
  | nil σ => exact .cons h2 (.nil _)
  | cons h1 _ ih => exact .cons h1 (ih h2)
def Fin (σ : Sig) : Prop := Pn.Gst σ.gv (-1)
theorem Stp.notFin {ks : List Int} {most : Int} {σ σ1 : Sig} {m : Mv} (h : Stp ks most σ m σ1) : ¬ Fin σ := fun hf => by
  obtain ⟨g, _, _, _, _, _, _, a1, _⟩ := h
  have := a1.unique hf
  omega
theorem Stps.same {ks : List Int} {most : Int} {σ σ1 σ2 : Sig} {ms ms' : List Mv} (h : Stps ks most σ ms σ1) (h' : Stps ks most σ ms' σ2) (f1 : Fin σ1) (f2 : Fin σ2) : ms = ms' := by
  induction h generalizing ms' with
  | nil σ =>
    cases h' with
    | nil => rfl
    | cons a _ => exact absurd f1 a.notFin
  | cons a _ ih =>
    cases h' with
    | nil => exact absurd f2 a.notFin
    | cons b h2 =>
      obtain ⟨e1, e2⟩ := a.det b
      subst e1
      subst e2
      rw [ih h2 f1]
def sumc (P : List Pc) : Int := (P.map (fun p => (p.c : Int))).sum
theorem sumc_snoc (P : List Pc) (p : Pc) : sumc (P ++ [p]) = sumc P + (p.c : Int) := by simp [sumc]
theorem Pil.congr {f f' : Int → Int} {ks : List Int} {g : Int} {P : List Pc} (h : Pil f ks g P) (hk : ∀ x ∈ ks, 0 ≤ x ∧ x < 18446744073709551616) (e : ∀ k, 0 ≤ k → k < 18446744073709551616 → f' k = f k) : Pil f' ks g P := by
  refine ⟨fun p hp => ?_, h.up, fun j x hx hf => ?_⟩
  · have q := h.each p hp
    have l0 := q.m.l0
    have lh := q.m.lh
    have h1 := q.m.h1
    refine ⟨⟨q.m.l0, q.m.lh, q.m.h1, fun x x1 x2 => ?_, ?_, ?_⟩, q.c1, q.le, q.k⟩
    · rw [e x (by omega) (by omega)]; exact q.m.all x x1 x2
    · rcases q.m.dn with d | d
      · exact .inl d
      · by_cases z : p.s.lo = 0
        · exact .inl z
        · exact .inr (by rw [e _ (by omega) (by omega)]; exact d)
    · rcases q.m.up with d | d
      · exact .inl d
      · by_cases z : p.s.hi + 1 = 18446744073709551616
        · exact .inl z
        · exact .inr (by rw [e _ (by omega) (by omega)]; exact d)
  · have := hk x (List.mem_of_getElem? hx)
    rw [e x this.1 this.2] at hf
    exact h.all j x hx hf
/-- what holds all along -/
structure Inv (ks : List Int) (L : List Sg) (σ : Sig) : Prop where
  tab : Tab L
  n16 : σ.gv.length ≤ 16
  lt : σ.tk.length = σ.gv.length
  lP : σ.P.length = σ.gv.length
  pil : ∀ (h : Nat) x, σ.gv[h]? = some x → 0 < x → ∃ P, σ.P[h]? = some P ∧ Pil (ow L) ks (h : Int) P ∧ x ≤ sumc P
  bal : Pn.sp σ.gv = Pn.sp σ.tk
  dis : ∀ (h : Nat) x y, σ.gv[h]? = some x → σ.tk[h]? = some y → ¬ (0 < x ∧ 0 < y)
theorem gst_pos {v : List Int} {k : Nat} {x : Int} (h : Pn.Gst v (k : Int)) (hx : v[k]? = some x) : 0 < x := by
  rcases h with ⟨e, _⟩ | ⟨k', x', e, h1, h2, _⟩
  · omega
  · have : k = k' := by omega
    rw [← this, hx] at h1
    cases h1
    exact h2
theorem Inv.top {ks : List Int} {L : List Sg} {σ : Sig} (h : Inv ks L σ) {g : Nat} {x : Int} (hx : σ.gv[g]? = some x) (h0 : 0 < x) : ∃ P0 p, σ.P[g]? = some (P0 ++ [p]) ∧ Pil (ow L) ks (g : Int) (P0 ++ [p]) ∧ x ≤ sumc (P0 ++ [p]) := by
  obtain ⟨P, e1, e2, e3⟩ := h.pil g x hx h0
  rcases List.eq_nil_or_concat P with e | ⟨P0, p, e⟩
  · rw [e] at e3
    simp [sumc] at e3
    omega
  · rw [List.concat_eq_append] at e
    subst e
    exact ⟨P0, p, e1, e2, e3⟩
structure Mvd (L : List Sg) (m : Mv) : Prop where
  own : Own L m.lo m.hi m.f
  l0 : 0 ≤ m.lo
  lh : m.lo ≤ m.hi
  h1 : m.hi < 18446744073709551616
  f0 : 0 ≤ m.f
  f1 : m.f < 16
  t0 : 0 ≤ m.t
  t1 : m.t < 16
  ne : m.f ≠ m.t
  n1 : 1 ≤ m.n
theorem Inv.step {ks : List Int} {L : List Sg} {σ σ' : Sig} {most : Int} {m : Mv} (hI : Inv ks L σ) (hr : Ris ks) (hk : ∀ x ∈ ks, 0 ≤ x ∧ x < 18446744073709551616) (hm : 1 ≤ most) (hs : Stp ks most σ m σ') : Inv ks (asg L m.lo m.hi m.t) σ' ∧ Mvd L m := by
  obtain ⟨g, k, x, y, P0, p, n, a1, a2, a3, a4, a5, a6, a7, a8, a9, a10, a11, a12⟩ := hs
  have x0 := gst_pos a1 a3
  have y0 := gst_pos a2 a4
  obtain ⟨P, b1, b2, b3⟩ := hI.pil g x a3 x0
  rw [a5] at b1
  cases b1
  have hp := b2.each p (by simp)
  have hgk : g ≠ k := fun e => by subst e; exact hI.dis g x y a3 a4 ⟨x0, y0⟩
  have hgl : g < σ.gv.length := (List.getElem?_eq_some_iff.1 a3).1
  have hkl : k < σ.tk.length := (List.getElem?_eq_some_iff.1 a4).1
  have n1 : 1 ≤ n := by omega
  have hkg : (k : Int) ≠ (g : Int) := by omega
  have c1 := hp.c1
  have hmn : 1 ≤ m.n ∧ m.n ≤ (n : Int) := by
    rcases a10 with ⟨c1, c2, _⟩ | ⟨c1, c2, _⟩ <;> omega
  have hlo : p.s.lo ≤ m.lo ∧ m.lo ≤ p.s.hi := by
    rcases a10 with ⟨_, _, c3, _⟩ | ⟨c1, _, c3, _⟩
    · rw [c3]; exact ⟨Int.le_refl _, hp.m.lh⟩
    · exact (hp.k _ _ c3).2 ⟨by omega, by omega⟩
  have hl0 : 0 ≤ m.lo := by have := hp.m.l0; omega
  have hh1 : m.hi < 18446744073709551616 := by rw [a9]; exact hp.m.h1
  have hlh : m.lo ≤ m.hi := by rw [a9]; exact hlo.2
  have own : ∀ z, m.lo ≤ z → z ≤ m.hi → ow L z = (g : Int) := fun z z1 z2 => hp.m.all z (by omega) (by rw [← a9]; exact z2)
  have n16 := hI.n16
  have llt := hI.lt
  have af := asg_facts hI.tab hl0 hlh hh1 (o := m.t) (by omega) (by omega)
  have eqf : ∀ z, 0 ≤ z → z < 18446744073709551616 → ow (asg L m.lo m.hi m.t) z = mv (ow L) m.lo m.hi (k : Int) z := fun z z0 z1 => by
    rw [af.2.1 z z0 z1, a8]; rfl
  refine ⟨⟨af.1, by rw [a11, List.length_set]; exact hI.n16, by rw [a11, a12, List.length_set, List.length_set]; exact hI.lt, ?_, ?_, ?_, ?_⟩, ⟨by rw [a7]; exact own, hl0, hlh, hh1, by omega, by omega, by omega, by omega, by omega, hmn.1⟩⟩
  · rcases a10 with ⟨_, _, _, c4⟩ | ⟨_, _, _, c4⟩ <;> rw [c4, a11, List.length_set, List.length_set] <;> exact hI.lP
  · intro h z hz z0
    have lP := hI.lP
    rw [a11] at hz
    by_cases e : g = h
    · subst e
      rw [List.getElem?_set_self hgl] at hz
      cases hz
      rcases a10 with ⟨c1, c2, c3, c4⟩ | ⟨c1, c2, c3, c4⟩
      · refine ⟨P0, by rw [c4, List.getElem?_set_self (by omega)], ?_, ?_⟩
        · refine Pil.congr ?_ hk eqf
          rw [c3, a9]
          exact b2.whole hkg
        · rw [sumc_snoc] at b3; omega
      · refine ⟨_, by rw [c4, List.getElem?_set_self (by omega)], ?_, ?_⟩
        · refine Pil.congr ?_ hk eqf
          rw [a9]
          exact b2.part hr hkg n1 c1 c3 _
        · rw [sumc_snoc] at b3 ⊢
          show x - m.n ≤ sumc P0 + ((p.c - n : Nat) : Int)
          omega
    · rw [List.getElem?_set_ne e] at hz
      obtain ⟨Q, q1, q2, q3⟩ := hI.pil h z hz z0
      have hhk : h ≠ k := fun e2 => by subst e2; exact hI.dis h z y hz a4 ⟨z0, y0⟩
      refine ⟨Q, ?_, Pil.congr (q2.other (g := (g : Int)) (by omega) (by omega) own) hk eqf, q3⟩
      rcases a10 with ⟨_, _, _, c4⟩ | ⟨_, _, _, c4⟩ <;> rw [c4, List.getElem?_set_ne e] <;> exact q1
  · rw [a11, a12, Pn.sp_set a3 x0 (by omega), Pn.sp_set a4 y0 (by omega), hI.bal]
  · intro h u v hu hv
    rw [a11] at hu
    rw [a12] at hv
    have hu' : ∃ u', σ.gv[h]? = some u' ∧ u ≤ u' := by
      by_cases e : g = h
      · subst e
        rw [List.getElem?_set_self hgl] at hu
        cases hu
        exact ⟨x, a3, by omega⟩
      · rw [List.getElem?_set_ne e] at hu
        exact ⟨u, hu, Int.le_refl _⟩
    have hv' : ∃ v', σ.tk[h]? = some v' ∧ v ≤ v' := by
      by_cases e : k = h
      · subst e
        rw [List.getElem?_set_self hkl] at hv
        cases hv
        exact ⟨y, a4, by omega⟩
      · rw [List.getElem?_set_ne e] at hv
        exact ⟨v, hv, Int.le_refl _⟩
    obtain ⟨u', e1, e2⟩ := hu'
    obtain ⟨v', e3, e4⟩ := hv'
    intro c
    exact hI.dis h u' v' e1 e3 ⟨by omega, by omega⟩
end Go.Proofs.YtbifmcadllilhaaGreat.Rg
namespace Go.Proofs.YtbifmcadllilhaaGreat.Rg
set_option linter.unusedVariables false
/-- the stretches with where their keys begin -/
def pk : List Sg → List Int → Nat → List Pc
  | [], _, _ => []
  | s :: r, ks, off => ⟨s, off, wth ks s.hi⟩ :: pk r (ks.drop (wth ks s.hi)) (off + wth ks s.hi)
theorem wth_iff {ks : List Int} (hr : Ris ks) {i : Nat} {x : Int} (hx : ks[i]? = some x) (hi : Int) : x ≤ hi ↔ i < wth ks hi := by
  constructor
  · intro h
    rcases Nat.lt_or_ge i (wth ks hi) with e | e
    · exact e
    · have hm : x ∈ ks.drop (wth ks hi) := List.mem_of_getElem? (i := i - wth ks hi) (by rw [List.getElem?_drop, Nat.add_sub_cancel' e]; exact hx)
      have := drop_wth ks hi hr x hm
      omega
  · intro h
    have hm : x ∈ ks.take (wth ks hi) := List.mem_of_getElem? (i := i) (by rw [List.getElem?_take, if_pos h]; exact hx)
    exact take_wth ks hi x hm
structure PkOk (K : List Int) (off : Nat) (L : List Sg) (p : Pc) : Prop where
  mem : p.s ∈ L
  off : off ≤ p.a
  le : p.a + p.c ≤ K.length
  k : ∀ (j : Nat) x, K[j]? = some x → (p.s.lo ≤ x ∧ x ≤ p.s.hi ↔ p.a ≤ j ∧ j < p.a + p.c)
theorem pk_facts : ∀ {L : List Sg} {a b : Int} {K : List Int} {off : Nat}, Cov a L b → Ris K → off ≤ K.length → (∀ (j : Nat) x, K[j]? = some x → (off ≤ j ↔ a ≤ x)) →
    (∀ p ∈ pk L (K.drop off) off, PkOk K off L p) ∧ (pk L (K.drop off) off).Pairwise (fun p q => p.a + p.c ≤ q.a) ∧ ∀ (j : Nat) x, K[j]? = some x → off ≤ j → x < b → ∃ p ∈ pk L (K.drop off) off, p.a ≤ j ∧ j < p.a + p.c
  | [], a, b, K, off, h, hr, ho, hk => by
    have e : a = b := h
    refine ⟨fun p hp => (by cases hp), List.Pairwise.nil, fun j x hx hj hxb => ?_⟩
    have := (hk j x hx).1 hj
    omega
  | s :: r, a, b, K, off, h, hr, ho, hk => by
    obtain ⟨h1, h2, h3⟩ := h
    obtain ⟨W, eW⟩ : ∃ W, wth (K.drop off) s.hi = W := ⟨_, rfl⟩
    have hW : W ≤ K.length - off := by
      have := wth_le (K.drop off) s.hi
      rw [eW, List.length_drop] at this
      exact this
    have key : ∀ (j : Nat) x, K[j]? = some x → (off + W ≤ j ↔ s.hi + 1 ≤ x) := fun j x hx => by
      have hj := hk j x hx
      by_cases e : off ≤ j
      · have q := wth_iff (hr.drop off) (i := j - off) (x := x) (by rw [List.getElem?_drop, Nat.add_sub_cancel' e]; exact hx) s.hi
        rw [eW] at q
        omega
      · omega
    have e1 : pk (s :: r) (K.drop off) off = ⟨s, off, W⟩ :: pk r (K.drop (off + W)) (off + W) := by
      rw [pk, eW, List.drop_drop]
    obtain ⟨i1, i2, i3⟩ := pk_facts (L := r) h3 hr (by omega : off + W ≤ K.length) key
    rw [e1]
    refine ⟨fun p hp => ?_, List.pairwise_cons.2 ⟨fun q hq => (i1 q hq).off, i2⟩, fun j x hx hj hxb => ?_⟩
    · rcases List.mem_cons.1 hp with rfl | hp
      · refine ⟨by simp, Nat.le_refl _, by show off + W ≤ _; omega, fun j x hx => ?_⟩
        have q1 := hk j x hx
        have q2 := key j x hx
        show s.lo ≤ x ∧ x ≤ s.hi ↔ off ≤ j ∧ j < off + W
        omega
      · have q := i1 p hp
        have := q.off
        exact ⟨by simp [q.mem], by omega, q.le, q.k⟩
    · by_cases e : off + W ≤ j
      · obtain ⟨p, hp, p1, p2⟩ := i3 j x hx e hxb
        exact ⟨p, by simp [hp], p1, p2⟩
      · exact ⟨⟨s, off, W⟩, by simp, hj, by show j < off + W; omega⟩
/-- a host's stretches that have a key -/
def plh (L : List Sg) (K : List Int) (h : Nat) : List Pc := (pk L K 0).filter (fun p => decide (p.s.h = (h : Int)) && decide (0 < p.c))
theorem pil_init {L : List Sg} {K : List Int} (hT : Tab L) (hr : Ris K) (hk : ∀ x ∈ K, 0 ≤ x ∧ x < 18446744073709551616) (h : Nat) : Pil (ow L) K (h : Int) (plh L K h) := by
  obtain ⟨i1, i2, i3⟩ := pk_facts (off := 0) hT.cov hr (Nat.zero_le _) (fun j x hx => by have := (hk x (List.mem_of_getElem? hx)).1; omega)
  rw [List.drop_zero] at i1 i2 i3
  refine ⟨fun p hp => ?_, List.Pairwise.sublist List.filter_sublist i2, fun j x hx hf => ?_⟩
  · obtain ⟨q1, q2⟩ := List.mem_filter.1 hp
    simp only [Bool.and_eq_true, decide_eq_true_eq] at q2
    have q := i1 p q1
    have m := hT.mxl q.mem
    rw [q2.1] at m
    exact ⟨m, q2.2, q.le, q.k⟩
  · obtain ⟨p, hp, p1, p2⟩ := i3 j x hx (Nat.zero_le _) (hk x (List.mem_of_getElem? hx)).2
    have q := i1 p hp
    have hx2 := (q.k j x hx).2 ⟨p1, p2⟩
    have e := ow_mem hT.cov q.mem hx2.1 hx2.2
    refine ⟨p, List.mem_filter.2 ⟨hp, ?_⟩, p1, p2⟩
    simp only [Bool.and_eq_true, decide_eq_true_eq]
    exact ⟨e.symm.trans hf, by omega⟩
theorem sumc_plh (h : Nat) : ∀ (L : List Sg) (ks : List Int) (off : Nat), sumc ((pk L ks off).filter (fun p => decide (p.s.h = (h : Int)) && decide (0 < p.c))) = sm L (dl L ks) h
  | [], ks, off => rfl
  | s :: r, ks, off => by
    have ih := sumc_plh h r (ks.drop (wth ks s.hi)) (off + wth ks s.hi)
    simp only [pk, dl, sm, List.filter_cons]
    rw [← ih]
    by_cases e : s.h = (h : Int)
    · by_cases e2 : 0 < wth ks s.hi
      · simp [e, e2, sumc]
      · have e3 : wth ks s.hi = 0 := by omega
        simp [e, e3, sumc]
    · simp [e, sumc]
/-- where the planning begins -/
def sg0 (N : Nat) (L : List Sg) (K : List Int) : Sig :=
  ⟨(List.range N).map (plh L K), (List.range N).map (fun h => Pn.cnt (K.map (ow L)) h - Pn.tgt (Pn.lds N (K.map (ow L))) h), (List.range N).map (fun h => Pn.tgt (Pn.lds N (K.map (ow L))) h - Pn.cnt (K.map (ow L)) h)⟩
theorem lds_sum_nonneg (n : Nat) (os : List Int) : 0 ≤ (Pn.lds n os).sum := by
  unfold Pn.lds
  induction n with
  | zero => simp
  | succ n ih =>
    rw [List.range_succ, List.map_append, List.sum_append]
    have := (Pn.cnt_le os n).1
    simp only [List.map_cons, List.map_nil, List.sum_cons, List.sum_nil]
    omega
theorem tgt_nonneg {o : List Int} (h : 0 ≤ o.sum) (b : Nat) : 0 ≤ Pn.tgt o b := by
  unfold Pn.tgt
  have := Int.ediv_nonneg h (by omega : (0 : Int) ≤ (o.length : Int))
  split <;> omega
theorem sub_sum (f g : Nat → Int) : ∀ n, ((List.range n).map (fun h => f h - g h)).sum = ((List.range n).map f).sum - ((List.range n).map g).sum
  | 0 => by simp
  | n + 1 => by
    simp only [List.range_succ, List.map_append, List.sum_append, sub_sum f g n, List.map_cons, List.map_nil, List.sum_cons, List.sum_nil]
    omega
theorem inv0 {N : Nat} {L : List Sg} {K : List Int} (hT : Tab L) (hr : Ris K) (hk : ∀ x ∈ K, 0 ≤ x ∧ x < 18446744073709551616) (n1 : 1 ≤ N) (n16 : N ≤ 16) : Inv K L (sg0 N L K) := by
  have hls := lds_sum_nonneg N (K.map (ow L))
  refine ⟨hT, by simp [sg0]; exact n16, by simp [sg0], by simp [sg0], fun h x hx x0 => ?_, ?_, fun h x y hx hy => ?_⟩
  · have hN : h < N := by
      have := (List.getElem?_eq_some_iff.1 hx).1
      simpa [sg0] using this
    simp only [sg0, List.getElem?_map, List.getElem?_range hN, Option.map_some, Option.some.injEq] at hx
    refine ⟨plh L K h, by simp [sg0, hN], pil_init hT hr hk h, ?_⟩
    have e := sumc_plh h L K 0
    rw [sm_dl hT.cov hr hk] at e
    unfold plh
    rw [e]
    have := tgt_nonneg hls h
    omega
  · have e := Pn.sp_neg (sg0 N L K).gv
    have e2 : (sg0 N L K).gv.map (fun x => -x) = (sg0 N L K).tk := by
      simp only [sg0, List.map_map]
      apply List.map_congr_left
      intro h _
      show -(_ - _) = _ - _
      omega
    have e3 : (sg0 N L K).gv.sum = 0 := by
      show ((List.range N).map (fun h => Pn.cnt (K.map (ow L)) h - Pn.tgt (Pn.lds N (K.map (ow L))) h)).sum = 0
      rw [sub_sum]
      have t := Pn.tgs_sum (Pn.lds N (K.map (ow L))) (by rw [Pn.lds_len]; omega)
      rw [Pn.lds_len] at t
      unfold Pn.tgs at t
      rw [t]
      unfold Pn.lds
      omega
    rw [e2, e3] at e
    omega
  · have hN : h < N := by
      have := (List.getElem?_eq_some_iff.1 hx).1
      simpa [sg0] using this
    simp only [sg0, List.getElem?_map, List.getElem?_range hN, Option.map_some, Option.some.injEq] at hx hy
    omega
end Go.Proofs.YtbifmcadllilhaaGreat.Rg
namespace Go.Proofs.YtbifmcadllilhaaGreat.Rg
open Go.RowKit Go.Shelf Go.Sort
set_option linter.unusedVariables false
/-- piles in memory: a row of rows -/
structure Pls (w : World) (B : Nat) (pv : Value) (vs : List Value) (ls : List (List St)) : Prop where
  row : w.ownsRow B 68 1 pv vs.length vs
  len : ls.length = vs.length
  each : ∀ (h : Nat) v l, vs[h]? = some v → ls[h]? = some l → w.ownsRow B 99 4 v l.length (cellsT l)
  apart : ∀ (h h' : Nat) v v' g, vs[h]? = some v → vs[h']? = some v' → h ≠ h' → v.ownBlock = some g → v'.ownBlock ≠ some g
theorem row4_in {w : World} {B : Nat} {v : Value} {l : List St} (h : w.ownsRow B 99 4 v l.length (cellsT l)) {i : Nat} {s : St} (hi : l[i]? = some s) : ∃ r cap, v = .slice (some ⟨r, 0, none⟩) l.length cap ∧ B ≤ r ∧ l.length ≤ cap ∧ ∃ cur, w.heap[r]? = some (.cells cur 99 (0, 0)) := by
  rcases h.2 with ⟨e0, hn⟩ | ⟨g', cap', cur, e0, hb, hg, h1, h2, h3, h4⟩
  · have : i < l.length := (List.getElem?_eq_some_iff.1 hi).1
    omega
  · exact ⟨g', cap', e0, hb, by omega, cur, hg⟩
theorem cellsT_take (l : List St) (n : Nat) : (cellsT l).take (n * 4) = cellsT (l.take n) := by
  induction n generalizing l with
  | zero => simp [cellsT]
  | succ n ih =>
    cases l with
    | nil => simp [cellsT]
    | cons a l =>
      have e : (n + 1) * 4 = n * 4 + 1 + 1 + 1 + 1 := by omega
      have := ih l
      simp only [cellsT, List.flatMap_cons, List.take_succ_cons] at this ⊢
      rw [e]
      simp [cellsS, this]
theorem Pls.pop {w w' : World} {B : Nat} {pv : Value} {vs : List Value} {ls : List (List St)} (hP : Pls w B pv vs ls) {h K q cq r cr : Nat} {l : List St} {s : St} {curr : Array Value} (hv : vs[h]? = some (.slice (some ⟨q, 0, none⟩) (K + 1) cq)) (hl : ls[h]? = some (l ++ [s])) (eK : l.length = K) (epv : pv = .slice (some ⟨r, 0, none⟩) vs.length cr) (hrr : w.heap[r]? = some (.cells curr 68 (0, 0)))
    (kp : Kp (fun g => g = r) w w') (hr' : w'.heap[r]? = some (.cells (curr.setIfInBounds h (.slice (some ⟨q, 0, none⟩) K cq)) 68 (0, 0))) : Pls w' B pv (vs.set h (.slice (some ⟨q, 0, none⟩) K cq)) (ls.set h l) := by
  have hh : h < vs.length := (List.getElem?_eq_some_iff.1 hv).1
  have hh2 : h < ls.length := (List.getElem?_eq_some_iff.1 hl).1
  have ob : (Value.slice (some ⟨q, 0, none⟩) K cq).ownBlock = (Value.slice (some ⟨q, 0, none⟩) (K + 1) cq).ownBlock := rfl
  have keep : ∀ {v : Value} {m : List St}, w.ownsRow B 99 4 v m.length (cellsT m) → w'.ownsRow B 99 4 v m.length (cellsT m) := fun {v m} ho => own_keep ho (fun g e => kp.block g (own_lt ho e) (fun e2 => by
    obtain ⟨c, hc⟩ := own_obj ho e
    rw [e2, hrr] at hc; cases hc))
  refine ⟨?_, by rw [List.length_set, List.length_set]; exact hP.len, fun h' v m hv' hm' => ?_, fun h1 h2 v1 v2 g e1 e2 hne eg => ?_⟩
  · have h0 := hP.row
    rw [epv] at h0 ⊢
    have h1 := own_put h0 h (.slice (some ⟨q, 0, none⟩) K cq) hh
    rw [List.length_set]
    refine own_keep h1 (fun g e => ?_)
    have e2 : r = g := by simpa [Value.ownBlock] using e
    subst e2
    rw [hr', set3 hrr h _]
  · by_cases e : h = h'
    · subst e
      rw [List.getElem?_set_self hh] at hv'
      rw [List.getElem?_set_self hh2] at hm'
      cases hv'
      cases hm'
      have h0 := hP.each h _ _ hv hl
      rw [List.length_append, List.length_singleton, eK] at h0
      have h1 := own_less h0
      rw [cellsT_take] at h1
      have e1 : (l ++ [s]).take K = l := by rw [← eK]; simp
      rw [e1, ← eK] at h1
      rw [← eK]
      exact keep h1
    · rw [List.getElem?_set_ne e] at hv' hm'
      exact keep (hP.each h' v m hv' hm')
  · have f : ∀ (i : Nat) u, (vs.set h (.slice (some ⟨q, 0, none⟩) K cq))[i]? = some u → ∃ u', vs[i]? = some u' ∧ u.ownBlock = u'.ownBlock := fun i u hu => by
      by_cases e : h = i
      · subst e
        rw [List.getElem?_set_self hh] at hu
        cases hu
        exact ⟨_, hv, ob⟩
      · rw [List.getElem?_set_ne e] at hu
        exact ⟨u, hu, rfl⟩
    obtain ⟨u1, a1, b1⟩ := f h1 v1 e1
    obtain ⟨u2, a2, b2⟩ := f h2 v2 e2
    rw [b2]
    exact hP.apart h1 h2 u1 u2 g a1 a2 hne (b1 ▸ eg)
theorem cell4 {w : World} {b : Nat} {x0 x1 x2 x3 : Value} {t : TypeId} (h : w.heap[b]? = some (.cells #[x0, x1, x2, x3] t (0, 0))) : w.cell? ⟨b, 0, none⟩ = some x0 ∧ w.cell? ⟨b, 1, none⟩ = some x1 ∧ w.cell? ⟨b, 2, none⟩ = some x2 ∧ w.cell? ⟨b, 3, none⟩ = some x3 := by
  simp [World.cell?, h]
set_option maxRecDepth 100000 in
set_option maxHeartbeats 2000000 in
theorem takeOff76a (w : World) (B pb : Nat) (pv gv tv : Value) (vs : List Value) (ls : List (List St)) (h : Nat) (l : List St) (s : St) (n : Int) (hb : w.heap[pb]? = some (.cells #[pv, gv, tv] 77 (0, 0))) (hP : Pls w B pv vs ls) (hh : h < 16) (hl : ls[h]? = some (l ++ [s])) (hn : 1 ≤ n) (hn2 : n ≤ 100000) (hll : l.length ≤ 8192) (hsn : (s.n : Int) ≤ n) :
    Calls Tryz.prog 50 #[.pointer (some ⟨pb, 0, none⟩), .int .u8 (h : Int), .int .i64 n] w fun e w' => e = .returned (.agg #[.int .u64 s.sg.lo, .int .u64 s.sg.hi, .int .u8 s.sg.h, .slice s.a s.n s.c]) ∧ ∃ vs', Pls w' B pv vs' (ls.set h l) ∧ Kp (fun g => some g = pv.ownBlock) w w' := by
  have mixed : Tryz.prog.follows .mixedOrders = true := by kernel_rfl
  have hlt : h < vs.length := by rw [← hP.len]; exact (List.getElem?_eq_some_iff.1 hl).1
  obtain ⟨v, hv⟩ : ∃ v, vs[h]? = some v := ⟨_, List.getElem?_eq_getElem hlt⟩
  have hr := hP.each h v _ hv hl
  have hsk : (l ++ [s])[l.length]? = some s := by simp
  obtain ⟨q, cq, ev, c0, c1, c2, c3⟩ := row4_at hr hsk
  obtain ⟨q', cq', ev', hBq, hcq, curq, hq⟩ := row4_in hr hsk
  rw [ev] at ev'
  cases ev'
  obtain ⟨r, cr, epv, hBr, x0, curr, hrr⟩ := row1_at hP.row hv
  have hlen : (l ++ [s]).length = l.length + 1 := by simp
  rw [hlen] at ev hcq
  obtain ⟨N, eN⟩ : ∃ N, vs.length = N := ⟨_, rfl⟩
  obtain ⟨K, eK⟩ : ∃ K, l.length = K := ⟨_, rfl⟩
  obtain ⟨M, eM⟩ : ∃ M, K + 1 = M := ⟨_, rfl⟩
  rw [eK] at ev c0 c1 c2 c3 hll hcq
  rw [eM] at ev hcq
  rw [eN] at epv hlt
  have HU := hide (And.intro hP (And.intro hb (And.intro hl (And.intro hv (And.intro hr (And.intro hq (And.intro hrr (And.intro eN (And.intro eK (And.intro eM (And.intro hBq hBr)))))))))))
  obtain ⟨w1, hw1⟩ : ∃ w1, w.alloc (.cells #[.int .u64 0, .int .u64 0, .int .u8 0, .slice none 0 0] 99) = w1 := ⟨_, rfl⟩
  have kA : Kp Nu w w1 := by rw [← hw1]; exact Kp.alloc _ _ _
  have bA : w1.heap[w.heap.size]? = some (.cells #[.int .u64 0, .int .u64 0, .int .u8 0, .slice none 0 0] 99 (0, 0)) := by rw [← hw1]; exact heap_alloc_new w _
  obtain ⟨w2, hw2⟩ : ∃ w2, w1.alloc (.cells #[.int .u64 s.sg.lo, .int .u64 s.sg.hi, .int .u8 s.sg.h, .slice s.a s.n s.c] 99) = w2 := ⟨_, rfl⟩
  have kB : Kp Nu w1 w2 := by rw [← hw2]; exact Kp.alloc _ _ _
  have bB : w2.heap[w1.heap.size]? = some (.cells #[.int .u64 s.sg.lo, .int .u64 s.sg.hi, .int .u8 s.sg.h, .slice s.a s.n s.c] 99 (0, 0)) := by rw [← hw2]; exact heap_alloc_new w1 _
  have hx0 : w1.cell? ⟨pb, 0, none⟩ = some pv := cell_nu (cell3 hb).1 kA
  have hx2 : w2.cell? ⟨pb, 0, none⟩ = some pv := cell_nu hx0 kB
  replace x0 := cell_nu x0 kA
  have x2 := cell_nu x0 kB
  replace c0 := cell_nu c0 kA
  replace c1 := cell_nu c1 kA
  replace c2 := cell_nu c2 kA
  replace c3 := cell_nu c3 kA
  obtain ⟨d0, d1, d2, d3⟩ := cell4 bB
  have fr := free3 (box2 (box2 hrr kA) kB) h
  have bA2 := box2 bA kB
  obtain ⟨r0, r1, r2, r3⟩ := cell4 bA2
  have fr0 := free3 bA2 0
  have fr1 := free3 bA2 1
  have fr2 := free3 bA2 2
  have fr3 := free3 bA2 3
  have hrl : r < w.heap.size := blk_lt hrr
  have hrne : r ≠ w.heap.size := by omega
  have HK := hide (And.intro kA (And.intro kB (And.intro bA2 bB)))
  clear kA kB bA bB bA2
  have hKI : (K : Int) ≤ 8192 := by omega
  have eM1 : (M : Int) - 1 = (K : Int) := by omega
  have hhN : (h : Int) < (N : Int) := by omega
  have eth : (h : Int).toNat = h := by omega
  have etK : (K : Int).toNat = K := by omega
  have hKM : (K : Int) < (M : Int) := by omega
  have hKcq : (K : Int) ≤ (cq : Int) := by omega
  have hMI : (M : Int) ≤ 8193 := by omega
  subst epv
  subst ev
  have hdec : decide ((s.n : Int) - n ≤ 0) = true := by simp; omega
  clear hP hb hl hv hr hq hrr eN eK eM hBq hBr hsk hlen
  go_enter Tryz.func50, Tryz.ntmps50
  go_wp2_with fail
  go_region
  have kS := Kp.setCell w2 ⟨r, h, none⟩ (.slice (some ⟨q, 0, none⟩) K cq)
  have hl1 : w.heap.size < w1.heap.size := by rw [← hw1, World.size_alloc]; omega
  have bB3 : ((w2.setCell ⟨r, h, none⟩ (.slice (some ⟨q, 0, none⟩) K cq)).drew).heap[w1.heap.size]? = some (.cells #[.int .u64 s.sg.lo, .int .u64 s.sg.hi, .int .u8 s.sg.h, .slice s.a s.n s.c] 99 (0, 0)) := (kS.block w1.heap.size (blk_lt HK.out.2.2.2) (fun e => by have e2 : w1.heap.size = r := e; omega)).trans HK.out.2.2.2
  have bA3 : ((w2.setCell ⟨r, h, none⟩ (.slice (some ⟨q, 0, none⟩) K cq)).drew).heap[w.heap.size]? = some (.cells #[.int .u64 0, .int .u64 0, .int .u8 0, .slice none 0 0] 99 (0, 0)) := (kS.block w.heap.size (blk_lt HK.out.2.2.1) (fun e => hrne e.symm)).trans HK.out.2.2.1
  have bR3 : ((w2.setCell ⟨r, h, none⟩ (.slice (some ⟨q, 0, none⟩) K cq)).drew).heap[r]? = some (.cells (curr.setIfInBounds h (.slice (some ⟨q, 0, none⟩) K cq)) 68 (0, 0)) := set3 (box2 (box2 HU.out.2.2.2.2.2.2.1 HK.out.1) HK.out.2.1) h _
  have k3 : Kp (fun g => g = r) w ((w2.setCell ⟨r, h, none⟩ (.slice (some ⟨q, 0, none⟩) K cq)).drew) := (((HK.out.1.andNu HK.out.2.1).mono (T := fun g => g = r) (fun _ _ e => e.elim)).trans kS (fun _ _ e => e)).drew
  generalize (w2.setCell ⟨r, h, none⟩ (.slice (some ⟨q, 0, none⟩) K cq)).drew = W3 at bB3 bA3 bR3 k3 ⊢
  clear d0 d1 d2 d3 r0 r1 r2 r3 fr0 fr1 fr2 fr3 x0 x2 c0 c1 c2 c3 hx0 hx2 fr kS hw1 hw2
  obtain ⟨d0, d1, d2, d3⟩ := cell4 bB3
  obtain ⟨r0, r1, r2, r3⟩ := cell4 bA3
  have fr0 := free3 bA3 0
  have fr1 := free3 bA3 1
  have fr2 := free3 bA3 2
  have fr3 := free3 bA3 3
  have HX := hide (And.intro bA3 (And.intro bR3 k3))
  clear bB3 bA3 bR3 k3
  go_wp2
  obtain ⟨bA3, bR3, k3⟩ := HX.out
  have b4 := set3 (set3 (set3 (set3 bA3 0 (.int .u64 s.sg.lo)) 1 (.int .u64 s.sg.hi)) 2 (.int .u8 s.sg.h)) 3 (.slice s.a s.n s.c)
  have k4 : Kp (fun g => g = w.heap.size) W3 ((((W3.setCell ⟨w.heap.size, 0, none⟩ (.int .u64 s.sg.lo)).setCell ⟨w.heap.size, 1, none⟩ (.int .u64 s.sg.hi)).setCell ⟨w.heap.size, 2, none⟩ (.int .u8 s.sg.h)).setCell ⟨w.heap.size, 3, none⟩ (.slice s.a s.n s.c)) :=
    (((Kp.setCell W3 ⟨w.heap.size, 0, none⟩ _).trans (Kp.setCell _ ⟨w.heap.size, 1, none⟩ _) (fun _ _ e => e)).trans (Kp.setCell _ ⟨w.heap.size, 2, none⟩ _) (fun _ _ e => e)).trans (Kp.setCell _ ⟨w.heap.size, 3, none⟩ _) (fun _ _ e => e)
  generalize ((((W3.setCell ⟨w.heap.size, 0, none⟩ (.int .u64 s.sg.lo)).setCell ⟨w.heap.size, 1, none⟩ (.int .u64 s.sg.hi)).setCell ⟨w.heap.size, 2, none⟩ (.int .u8 s.sg.h)).setCell ⟨w.heap.size, 3, none⟩ (.slice s.a s.n s.c)) = W4 at b4 k4 ⊢
  have b4' : W4.heap[w.heap.size]? = some (.cells #[.int .u64 s.sg.lo, .int .u64 s.sg.hi, .int .u8 s.sg.h, .slice s.a s.n s.c] 99 (0, 0)) := b4
  obtain ⟨y0, y1, y2, y3⟩ := cell4 b4'
  have k5 : Kp (fun g => g = r) w W4 := k3.trans k4 (fun g hg e => by have e2 : g = w.heap.size := e; omega)
  have hR : W4.heap[r]? = some (.cells (curr.setIfInBounds h (.slice (some ⟨q, 0, none⟩) K cq)) 68 (0, 0)) := (k4.block r (blk_lt bR3) (fun e => hrne e)).trans bR3
  refine bodyPost_ret (v := .agg #[.int .u64 s.sg.lo, .int .u64 s.sg.hi, .int .u8 s.sg.h, .slice s.a s.n s.c]) (by simp [results, Tryz.results50, go_sem, y0, y1, y2, y3]) rfl ⟨rfl, vs.set h (.slice (some ⟨q, 0, none⟩) K cq), ?_, k5.mono (fun g _ e => by show some g = some r; rw [e])⟩
  obtain ⟨hP, hb, hl, hv, hr, hq, hrr, eN, eK, eM, hBq, hBr⟩ := HU.out
  rw [← eM] at hv
  exact hP.pop hv hl eK (by rw [eN]) hrr k5 hR
end Go.Proofs.YtbifmcadllilhaaGreat.Rg
