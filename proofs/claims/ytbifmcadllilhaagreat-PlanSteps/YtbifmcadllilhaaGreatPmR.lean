import Derived.Test.YtbifmcadllilhaaGreatPmA
import Derived.Test.YtbifmcadllilhaaGreatPmH
namespace Go.Proofs.YtbifmcadllilhaaGreat.Pn
set_option linter.unusedVariables false
theorem srt_exists (o : List Int) : ∃ s, Srt o s := by
  have hp := List.mergeSort_perm (List.range o.length) (fun a b => !ahd o b a)
  have hs := List.pairwise_mergeSort (le := fun a b => !ahd o b a) (fun a b c h1 h2 => by
    simp only [ahd, Bool.not_eq_true', decide_eq_false_iff_not] at *
    omega) (fun a b => by
    simp only [ahd, Bool.or_eq_true, Bool.not_eq_true', decide_eq_false_iff_not]
    omega) (List.range o.length)
  have hn : ((List.range o.length).mergeSort (fun a b => !ahd o b a)).Nodup := hp.nodup_iff.2 List.nodup_range
  refine ⟨_, hp, ?_⟩
  refine (hs.and hn).imp (fun {a b} h => ?_)
  obtain ⟨h1, h2⟩ := h
  simp only [ahd, Bool.not_eq_true', decide_eq_false_iff_not, decide_eq_true_eq] at *
  have : a ≠ b := h2
  omega
theorem sum_place (e r : Int) : ∀ m : Nat, ((List.range m).map (fun (p : Nat) => e + (if (p : Int) < r then 1 else 0))).sum = (m : Int) * e + (if r ≤ 0 then 0 else if (m : Int) ≤ r then (m : Int) else r)
  | 0 => by simp; omega
  | m + 1 => by
    rw [List.range_succ, List.map_append, List.sum_append, sum_place e r m]
    simp only [List.map_cons, List.map_nil, List.sum_cons, List.sum_nil]
    have : ((m + 1 : Nat) : Int) * e = (m : Int) * e + e := by rw [Int.natCast_add, Int.add_mul]; simp
    rw [this]
    generalize (m : Int) * e = M
    repeat' split
    all_goals omega
theorem perm_sum {a b : List Int} (h : a.Perm b) : a.sum = b.sum := by
  induction h with
  | nil => rfl
  | cons x _ ih => simp only [List.sum_cons]; omega
  | swap x y l => simp only [List.sum_cons]; omega
  | trans _ _ i1 i2 => exact i1.trans i2
theorem tgs_sum (o : List Int) (h0 : 0 < o.length) : (tgs o o.length).sum = o.sum := by
  obtain ⟨s, hs⟩ := srt_exists o
  unfold tgs
  have e1 : ((List.range o.length).map (tgt o)).sum = (s.map (tgt o)).sum := perm_sum (hs.perm.symm.map (tgt o))
  rw [e1]
  have e2 : s.map (tgt o) = (List.range o.length).map (fun (p : Nat) => o.sum / (o.length : Int) + (if (p : Int) < o.sum % (o.length : Int) then 1 else 0)) := by
    apply List.ext_getElem?
    intro p
    rw [List.getElem?_map, List.getElem?_map]
    by_cases hp : p < o.length
    · obtain ⟨x, hx⟩ : ∃ x, s[p]? = some x := ⟨_, List.getElem?_eq_getElem (by rw [hs.len]; exact hp)⟩
      rw [hx, List.getElem?_range hp]
      simp only [Option.map_some, tgt]
      rw [hs.place hx]
    · rw [List.getElem?_eq_none (by rw [hs.len]; omega), List.getElem?_eq_none (by simp; omega)]
      rfl
  rw [e2, sum_place]
  have hl : (0 : Int) < (o.length : Int) := by omega
  have m1 := Int.emod_nonneg o.sum (by omega : (o.length : Int) ≠ 0)
  have m2 := Int.emod_lt_of_pos o.sum hl
  have m3 := Int.mul_ediv_add_emod o.sum (o.length : Int)
  split
  · omega
  · rw [if_neg (by omega)]
    exact m3
theorem Gst.unique {l : List Int} {r r' : Int} (h : Gst l r) (h' : Gst l r') : r = r' := by
  rcases h with ⟨e, h1⟩ | ⟨k, x, e, h1, h2, h3⟩
  · rcases h' with ⟨e', _⟩ | ⟨k', x', _, g1, g2, _⟩
    · omega
    · have := h1 k' x' g1; omega
  · rcases h' with ⟨_, g1⟩ | ⟨k', x', e', g1, g2, g3⟩
    · have := g1 k x h1; omega
    · have a1 := h3 k' x' g1
      have a2 := g3 k x h1
      have := a1.2 (by omega)
      have := a2.2 (by omega)
      omega
/-- the sum of what is above 0 -/
def sp : List Int → Int
  | [] => 0
  | x :: r => (if 0 < x then x else 0) + sp r
theorem sp_nonneg : ∀ v : List Int, 0 ≤ sp v
  | [] => by simp [sp]
  | x :: r => by have := sp_nonneg r; simp only [sp]; split <;> omega
theorem sp_ge : ∀ {v : List Int} {k : Nat} {x : Int}, v[k]? = some x → 0 < x → x ≤ sp v
  | y :: r, 0, x, h, hx => by
    simp only [List.getElem?_cons_zero, Option.some.injEq] at h
    subst h
    have := sp_nonneg r
    simp only [sp]
    rw [if_pos hx]
    omega
  | y :: r, k + 1, x, h, hx => by
    rw [List.getElem?_cons_succ] at h
    have := sp_ge h hx
    simp only [sp]
    split <;> omega
theorem sp_set : ∀ {v : List Int} {k : Nat} {x d : Int}, v[k]? = some x → 0 < x → d ≤ x → sp (v.set k (x - d)) = sp v - d
  | y :: r, 0, x, d, h, hx, hd => by
    simp only [List.getElem?_cons_zero, Option.some.injEq] at h
    subst h
    simp only [List.set_cons_zero, sp]
    rw [if_pos hx]
    split <;> omega
  | y :: r, k + 1, x, d, h, hx, hd => by
    rw [List.getElem?_cons_succ] at h
    have := sp_set h hx hd
    simp only [List.set_cons_succ, sp]
    omega
theorem sp_none : ∀ {v : List Int}, (∀ (j : Nat) y, v[j]? = some y → y ≤ 0) → sp v = 0
  | [], _ => rfl
  | x :: r, h => by
    have h0 := h 0 x (by simp)
    have h1 := sp_none (v := r) (fun j y hy => h (j + 1) y (by rw [List.getElem?_cons_succ]; exact hy))
    simp only [sp]
    rw [if_neg (by omega), h1]
    rfl
theorem sp_neg : ∀ v : List Int, sp v - sp (v.map (fun x => -x)) = v.sum
  | [] => by simp [sp]
  | x :: r => by
    have := sp_neg r
    simp only [List.map_cons, sp, List.sum_cons]
    split <;> split <;> omega
theorem gst_some {v : List Int} {x : Int} {k : Nat} (h : v[k]? = some x) (hx : 0 < x) {r : Int} (hr : Gst v r) : ∃ (g : Nat) (y : Int), r = (g : Int) ∧ v[g]? = some y ∧ 0 < y := by
  rcases hr with ⟨_, h1⟩ | ⟨g, y, e, h1, h2, _⟩
  · have := h1 k x h; omega
  · exact ⟨g, y, e, h1, h2⟩
end Go.Proofs.YtbifmcadllilhaaGreat.Pn
namespace Go.Proofs.YtbifmcadllilhaaGreat.Rg
set_option linter.unusedVariables false
/-- a queue holds those that are above 0 -/
structure Wq (l : List Wt) (v : List Int) : Prop where
  mem : ∀ X, X ∈ l ↔ ∃ k : Nat, X.h = (k : Int) ∧ v[k]? = some X.p ∧ 0 < X.p
  nd : (l.map (·.h)).Nodup
theorem we_mem {l : List Wt} (h : 0 < l.length) : we l 0 ∈ l := List.mem_of_getElem? (we_get h)
theorem Wq.best {l : List Wt} {v : List Int} (h : Wq l v) (hok : Hok l l.length) (h0 : 0 < l.length) : ∃ k : Nat, (we l 0).h = (k : Int) ∧ v[k]? = some (we l 0).p ∧ 0 < (we l 0).p ∧ Pn.Gst v (k : Int) := by
  obtain ⟨k, e1, e2, e3⟩ := (h.mem _).1 (we_mem h0)
  refine ⟨k, e1, e2, e3, .inr ⟨k, _, rfl, e2, e3, fun j y hy => ?_⟩⟩
  by_cases hy0 : 0 < y
  · obtain ⟨i, hi⟩ := List.getElem?_of_mem ((h.mem ⟨(j : Int), y⟩).2 ⟨j, rfl, hy, hy0⟩)
    have hil := (List.getElem?_eq_some_iff.1 hi).1
    have e : we l i = ⟨(j : Int), y⟩ := by
      have := we_get hil
      rw [hi] at this
      exact (Option.some.inj this).symm
    have hr := hok.root i hil
    rw [e] at hr
    unfold wlt at hr
    simp only at hr
    omega
  · omega
theorem Wq.none {v : List Int} (h : Wq [] v) : Pn.Gst v (-1) := .inl ⟨rfl, fun j y hy => by
  by_cases e : 0 < y
  · have := (h.mem ⟨(j : Int), y⟩).2 ⟨j, rfl, hy, e⟩
    cases this
  · omega⟩
theorem Wq.perm {l l' : List Wt} {v : List Int} (h : Wq l v) (hp : l'.Perm l) : Wq l' v := ⟨fun X => by rw [hp.mem_iff]; exact h.mem X, (hp.map _).nodup_iff.2 h.nd⟩
theorem Wq.lessen {l : List Wt} {v : List Int} (h : Wq l v) (h0 : 0 < l.length) {k : Nat} (hk : (we l 0).h = (k : Int)) {x : Int} (hx : v[k]? = some x) {d : Int} (hd : d ≤ x) (hxp : (we l 0).p = x) : Wq (lsn l d) (v.set k (x - d)) := by
  cases l with
  | nil => cases h0
  | cons r t =>
    have er : we (r :: t) 0 = r := rfl
    rw [er] at hk hxp
    have hnd := h.nd
    rw [List.map_cons, List.nodup_cons] at hnd
    have hkl : k < v.length := (List.getElem?_eq_some_iff.1 hx).1
    have memt : ∀ X, X ∈ t ↔ ∃ j : Nat, j ≠ k ∧ X.h = (j : Int) ∧ v[j]? = some X.p ∧ 0 < X.p := fun X => by
      constructor
      · intro hX
        obtain ⟨j, e1, e2, e3⟩ := (h.mem X).1 (List.mem_cons_of_mem _ hX)
        refine ⟨j, fun e => ?_, e1, e2, e3⟩
        apply hnd.1
        rw [hk, ← e, ← e1]
        exact List.mem_map_of_mem hX
      · rintro ⟨j, e0, e1, e2, e3⟩
        rcases List.mem_cons.1 ((h.mem X).2 ⟨j, e1, e2, e3⟩) with e | e
        · exfalso
          rw [e] at e1
          omega
        · exact e
    unfold lsn
    rw [er, hk, hxp]
    split
    · refine ⟨fun X => ?_, ?_⟩
      · rw [List.set_cons_zero, List.mem_cons, memt]
        constructor
        · rintro (e | ⟨j, e0, e1, e2, e3⟩)
          · rw [e]
            exact ⟨k, rfl, by rw [List.getElem?_set_self hkl], by assumption⟩
          · exact ⟨j, e1, by rw [List.getElem?_set_ne (Ne.symm e0)]; exact e2, e3⟩
        · rintro ⟨j, e1, e2, e3⟩
          by_cases e : j = k
          · left
            rw [e, List.getElem?_set_self hkl] at e2
            cases X
            simp only [Option.some.injEq] at e2
            simp only at e1
            rw [e1, ← e2, e]
          · right
            rw [List.getElem?_set_ne (Ne.symm e)] at e2
            exact ⟨j, e, e1, e2, e3⟩
      · rw [List.set_cons_zero, List.map_cons, List.nodup_cons]
        refine ⟨?_, hnd.2⟩
        have := hnd.1
        rw [hk] at this
        exact this
    · refine ⟨fun X => ?_, hnd.2⟩
      rw [List.drop_succ_cons, List.drop_zero, memt]
      constructor
      · rintro ⟨j, e0, e1, e2, e3⟩
        exact ⟨j, e1, by rw [List.getElem?_set_ne (Ne.symm e0)]; exact e2, e3⟩
      · rintro ⟨j, e1, e2, e3⟩
        by_cases e : j = k
        · exfalso
          rw [e, List.getElem?_set_self hkl] at e2
          simp only [Option.some.injEq] at e2
          omega
        · rw [List.getElem?_set_ne (Ne.symm e)] at e2
          exact ⟨j, e, e1, e2, e3⟩
theorem Wq.push {l l' : List Wt} {v : List Int} {i : Nat} {x : Int} (h : Wq l (v.take i)) (hx : v[i]? = some x) (h0 : 0 < x) (hp : l'.Perm (l ++ [⟨(i : Int), x⟩])) : Wq l' (v.take (i + 1)) := by
  refine Wq.perm ⟨fun X => ?_, ?_⟩ hp
  · rw [List.mem_append, List.mem_singleton, h.mem]
    constructor
    · rintro (⟨k, e1, e2, e3⟩ | e)
      · have hk : k < i := by
          rcases Nat.lt_or_ge k i with q | q
          · exact q
          · rw [List.getElem?_take, if_neg (by omega)] at e2; cases e2
        rw [List.getElem?_take, if_pos hk] at e2
        exact ⟨k, e1, by rw [List.getElem?_take, if_pos (by omega)]; exact e2, e3⟩
      · rw [e]; exact ⟨i, rfl, by rw [List.getElem?_take, if_pos (by omega)]; exact hx, h0⟩
    · rintro ⟨k, e1, e2, e3⟩
      by_cases hk : k < i
      · rw [List.getElem?_take, if_pos (by omega)] at e2
        exact .inl ⟨k, e1, by rw [List.getElem?_take, if_pos hk]; exact e2, e3⟩
      · right
        have hk2 : k = i := by
          rcases Nat.lt_or_ge k (i + 1) with q | q
          · omega
          · rw [List.getElem?_take, if_neg (by omega)] at e2; cases e2
        rw [hk2, List.getElem?_take, if_pos (by omega), hx] at e2
        cases X
        simp only [Option.some.injEq] at e2
        simp only at e1
        rw [e1, ← e2, hk2]
  · rw [List.map_append, List.nodup_append]
    refine ⟨h.nd, by simp, fun a ha b hb => ?_⟩
    simp only [List.map_cons, List.map_nil, List.mem_singleton] at hb
    obtain ⟨X, hX, rfl⟩ := List.mem_map.1 ha
    obtain ⟨k, e1, e2, e3⟩ := (h.mem X).1 hX
    have hk : k < i := by
      rcases Nat.lt_or_ge k i with q | q
      · exact q
      · rw [List.getElem?_take, if_neg (by omega)] at e2; cases e2
    omega
theorem Wq.skip {l : List Wt} {v : List Int} {i : Nat} {x : Int} (h : Wq l (v.take i)) (hx : v[i]? = some x) (h0 : x ≤ 0) : Wq l (v.take (i + 1)) := by
  refine ⟨fun X => ?_, h.nd⟩
  rw [h.mem]
  constructor
  · rintro ⟨k, e1, e2, e3⟩
    have hk : k < i := by
      rcases Nat.lt_or_ge k i with q | q
      · exact q
      · rw [List.getElem?_take, if_neg (by omega)] at e2; cases e2
    rw [List.getElem?_take, if_pos hk] at e2
    exact ⟨k, e1, by rw [List.getElem?_take, if_pos (by omega)]; exact e2, e3⟩
  · rintro ⟨k, e1, e2, e3⟩
    have hk2 : k < i + 1 := by
      rcases Nat.lt_or_ge k (i + 1) with q | q
      · exact q
      · rw [List.getElem?_take, if_neg (by omega)] at e2; cases e2
    rw [List.getElem?_take, if_pos hk2] at e2
    have hk : k < i := by
      rcases Nat.lt_or_ge k i with q | q
      · exact q
      · have : k = i := by omega
        rw [this, hx] at e2
        simp only [Option.some.injEq] at e2
        omega
    exact ⟨k, e1, by rw [List.getElem?_take, if_pos hk]; exact e2, e3⟩
end Go.Proofs.YtbifmcadllilhaaGreat.Rg
namespace Go.Proofs.YtbifmcadllilhaaGreat.Rg
set_option linter.unusedVariables false
/-- where the planning stands -/
structure Sig where
  P : List (List Pc)
  gv : List Int
  tk : List Int
/-- the next move -/
def Stp (ks : List Int) (most : Int) (σ : Sig) (m : Mv) (σ' : Sig) : Prop :=
  ∃ (g k : Nat) (x y : Int) (P0 : List Pc) (p : Pc) (n : Nat), Pn.Gst σ.gv (g : Int) ∧ Pn.Gst σ.tk (k : Int) ∧ σ.gv[g]? = some x ∧ σ.tk[k]? = some y ∧ σ.P[g]? = some (P0 ++ [p]) ∧ (n : Int) = min (min x y) most ∧ m.f = (g : Int) ∧ m.t = (k : Int) ∧ m.hi = p.s.hi ∧
    ((p.c ≤ n ∧ m.n = (p.c : Int) ∧ m.lo = p.s.lo ∧ σ'.P = σ.P.set g P0) ∨ (n < p.c ∧ m.n = (n : Int) ∧ ks[p.a + p.c - n]? = some m.lo ∧ σ'.P = σ.P.set g (P0 ++ [⟨⟨p.s.lo, m.lo - 1, p.s.h⟩, p.a, p.c - n⟩]))) ∧
    σ'.gv = σ.gv.set g (x - m.n) ∧ σ'.tk = σ.tk.set k (y - m.n)
theorem Stp.det {ks : List Int} {most : Int} {σ σ1 σ2 : Sig} {m1 m2 : Mv} (h1 : Stp ks most σ m1 σ1) (h2 : Stp ks most σ m2 σ2) : m1 = m2 ∧ σ1 = σ2 := by
  obtain ⟨g, k, x, y, P0, p, n, a1, a2, a3, a4, a5, a6, a7, a8, a9, a10, a11, a12⟩ := h1
  obtain ⟨g', k', x', y', P0', p', n', b1, b2, b3, b4, b5, b6, b7, b8, b9, b10, b11, b12⟩ := h2
  have eg : g = g' := by have := a1.unique b1; omega
  have ek : k = k' := by have := a2.unique b2; omega
  subst eg
  subst ek
  rw [a3] at b3
  rw [a4] at b4
  rw [a5] at b5
  cases b3
  cases b4
  obtain ⟨e1, e2⟩ := List.append_inj' (Option.some.inj b5) rfl
  cases e2
  subst e1
  have en : n = n' := by omega
  subst en
  obtain ⟨f1, t1, lo1, hi1, n1⟩ := m1
  obtain ⟨f2, t2, lo2, hi2, n2⟩ := m2
  obtain ⟨q1, q2, q3⟩ := σ1
  obtain ⟨r1, r2, r3⟩ := σ2
  simp only at *
  rcases a10 with ⟨c1, c2, c3, c4⟩ | ⟨c1, c2, c3, c4⟩
  · rcases b10 with ⟨d1, d2, d3, d4⟩ | ⟨d1, d2, d3, d4⟩
    · subst a7 a8 a9 b7 b8 b9 c2 d2 c3 d3 c4 d4 a11 a12 b11 b12
      exact ⟨rfl, rfl⟩
    · omega
  · rcases b10 with ⟨d1, d2, d3, d4⟩ | ⟨d1, d2, d3, d4⟩
    · omega
    · rw [c3] at d3
      cases d3
      subst a7 a8 a9 b7 b8 b9 c2 d2 c4 d4 a11 a12 b11 b12
      exact ⟨rfl, rfl⟩
inductive Stps (ks : List Int) (most : Int) : Sig → List Mv → Sig → Prop
  | nil (σ : Sig) : Stps ks most σ [] σ
  | cons {σ σ1 σ2 : Sig} {m : Mv} {ms : List Mv} : Stp ks most σ m σ1 → Stps ks most σ1 ms σ2 → Stps ks most σ (m :: ms) σ2
theorem Stps.snoc {ks : List Int} {most : Int} {σ σ1 σ2 : Sig} {m : Mv} {ms : List Mv} (h : Stps ks most σ ms σ1) (h2 : Stp ks most σ1 m σ2) : Stps ks most σ (ms ++ [m]) σ2 := by
  induction h with
  | nil σ => exact .cons h2 (.nil _)
  | cons h1 _ ih => exact .cons h1 (ih h2)
def Fin (σ : Sig) : Prop := Pn.Gst σ.gv (-1)
theorem Stp.notFin {ks : List Int} {most : Int} {σ σ1 : Sig} {m : Mv} (h : Stp ks most σ m σ1) : ¬ Fin σ := fun hf => by
  obtain ⟨g, _, _, _, _, _, _, a1, _⟩ := h
  have := a1.unique hf
  omega
theorem Stps.same {ks : List Int} {most : Int} {σ σ1 σ2 : Sig} {ms ms' : List Mv} (h : Stps ks most σ ms σ1) (h' : Stps ks most σ ms' σ2) (f1 : Fin σ1) (f2 : Fin σ2) : ms = ms' := by
  induction h generalizing ms' with
  | nil σ =>
    cases h' with
    | nil => rfl
    | cons a _ => exact absurd f1 a.notFin
  | cons a _ ih =>
    cases h' with
    | nil => exact absurd f2 a.notFin
    | cons b h2 =>
      obtain ⟨e1, e2⟩ := a.det b
      subst e1
      subst e2
      rw [ih h2 f1]
def sumc (P : List Pc) : Int := (P.map (fun p => (p.c : Int))).sum
theorem sumc_snoc (P : List Pc) (p : Pc) : sumc (P ++ [p]) = sumc P + (p.c : Int) := by simp [sumc]
theorem Pil.congr {f f' : Int → Int} {ks : List Int} {g : Int} {P : List Pc} (h : Pil f ks g P) (hk : ∀ x ∈ ks, 0 ≤ x ∧ x < 18446744073709551616) (e : ∀ k, 0 ≤ k → k < 18446744073709551616 → f' k = f k) : Pil f' ks g P := by
  refine ⟨fun p hp => ?_, h.up, fun j x hx hf => ?_⟩
  · have q := h.each p hp
    have l0 := q.m.l0
    have lh := q.m.lh
    have h1 := q.m.h1
    refine ⟨⟨q.m.l0, q.m.lh, q.m.h1, fun x x1 x2 => ?_, ?_, ?_⟩, q.c1, q.le, q.k⟩
    · rw [e x (by omega) (by omega)]; exact q.m.all x x1 x2
    · rcases q.m.dn with d | d
      · exact .inl d
      · by_cases z : p.s.lo = 0
        · exact .inl z
        · exact .inr (by rw [e _ (by omega) (by omega)]; exact d)
    · rcases q.m.up with d | d
      · exact .inl d
      · by_cases z : p.s.hi + 1 = 18446744073709551616
        · exact .inl z
        · exact .inr (by rw [e _ (by omega) (by omega)]; exact d)
  · have := hk x (List.mem_of_getElem? hx)
    rw [e x this.1 this.2] at hf
    exact h.all j x hx hf
/-- what holds all along -/
structure Inv (ks : List Int) (L : List Sg) (σ : Sig) : Prop where
  tab : Tab L
  n16 : σ.gv.length ≤ 16
  lt : σ.tk.length = σ.gv.length
  lP : σ.P.length = σ.gv.length
  pil : ∀ (h : Nat) x, σ.gv[h]? = some x → 0 < x → ∃ P, σ.P[h]? = some P ∧ Pil (ow L) ks (h : Int) P ∧ x ≤ sumc P
  bal : Pn.sp σ.gv = Pn.sp σ.tk
  dis : ∀ (h : Nat) x y, σ.gv[h]? = some x → σ.tk[h]? = some y → ¬ (0 < x ∧ 0 < y)
theorem gst_pos {v : List Int} {k : Nat} {x : Int} (h : Pn.Gst v (k : Int)) (hx : v[k]? = some x) : 0 < x := by
  rcases h with ⟨e, _⟩ | ⟨k', x', e, h1, h2, _⟩
  · omega
  · have : k = k' := by omega
    rw [← this, hx] at h1
    cases h1
    exact h2
theorem Inv.top {ks : List Int} {L : List Sg} {σ : Sig} (h : Inv ks L σ) {g : Nat} {x : Int} (hx : σ.gv[g]? = some x) (h0 : 0 < x) : ∃ P0 p, σ.P[g]? = some (P0 ++ [p]) ∧ Pil (ow L) ks (g : Int) (P0 ++ [p]) ∧ x ≤ sumc (P0 ++ [p]) := by
  obtain ⟨P, e1, e2, e3⟩ := h.pil g x hx h0
  rcases List.eq_nil_or_concat P with e | ⟨P0, p, e⟩
  · rw [e] at e3
    simp [sumc] at e3
    omega
  · rw [List.concat_eq_append] at e
    subst e
    exact ⟨P0, p, e1, e2, e3⟩
structure Mvd (L : List Sg) (m : Mv) : Prop where
  own : Own L m.lo m.hi m.f
  l0 : 0 ≤ m.lo
  lh : m.lo ≤ m.hi
  h1 : m.hi < 18446744073709551616
  f0 : 0 ≤ m.f
  f1 : m.f < 16
  t0 : 0 ≤ m.t
  t1 : m.t < 16
  ne : m.f ≠ m.t
  n1 : 1 ≤ m.n
theorem Inv.step {ks : List Int} {L : List Sg} {σ σ' : Sig} {most : Int} {m : Mv} (hI : Inv ks L σ) (hr : Ris ks) (hk : ∀ x ∈ ks, 0 ≤ x ∧ x < 18446744073709551616) (hm : 1 ≤ most) (hs : Stp ks most σ m σ') : Inv ks (asg L m.lo m.hi m.t) σ' ∧ Mvd L m := by
  obtain ⟨g, k, x, y, P0, p, n, a1, a2, a3, a4, a5, a6, a7, a8, a9, a10, a11, a12⟩ := hs
  have x0 := gst_pos a1 a3
  have y0 := gst_pos a2 a4
  obtain ⟨P, b1, b2, b3⟩ := hI.pil g x a3 x0
  rw [a5] at b1
  cases b1
  have hp := b2.each p (by simp)
  have hgk : g ≠ k := fun e => by subst e; exact hI.dis g x y a3 a4 ⟨x0, y0⟩
  have hgl : g < σ.gv.length := (List.getElem?_eq_some_iff.1 a3).1
  have hkl : k < σ.tk.length := (List.getElem?_eq_some_iff.1 a4).1
  have n1 : 1 ≤ n := by omega
  have hkg : (k : Int) ≠ (g : Int) := by omega
  have c1 := hp.c1
  have hmn : 1 ≤ m.n ∧ m.n ≤ (n : Int) := by
    rcases a10 with ⟨c1, c2, _⟩ | ⟨c1, c2, _⟩ <;> omega
  have hlo : p.s.lo ≤ m.lo ∧ m.lo ≤ p.s.hi := by
    rcases a10 with ⟨_, _, c3, _⟩ | ⟨c1, _, c3, _⟩
    · rw [c3]; exact ⟨Int.le_refl _, hp.m.lh⟩
    · exact (hp.k _ _ c3).2 ⟨by omega, by omega⟩
  have hl0 : 0 ≤ m.lo := by have := hp.m.l0; omega
  have hh1 : m.hi < 18446744073709551616 := by rw [a9]; exact hp.m.h1
  have hlh : m.lo ≤ m.hi := by rw [a9]; exact hlo.2
  have own : ∀ z, m.lo ≤ z → z ≤ m.hi → ow L z = (g : Int) := fun z z1 z2 => hp.m.all z (by omega) (by rw [← a9]; exact z2)
  have n16 := hI.n16
  have llt := hI.lt
  have af := asg_facts hI.tab hl0 hlh hh1 (o := m.t) (by omega) (by omega)
  have eqf : ∀ z, 0 ≤ z → z < 18446744073709551616 → ow (asg L m.lo m.hi m.t) z = mv (ow L) m.lo m.hi (k : Int) z := fun z z0 z1 => by
    rw [af.2.1 z z0 z1, a8]; rfl
  refine ⟨⟨af.1, by rw [a11, List.length_set]; exact hI.n16, by rw [a11, a12, List.length_set, List.length_set]; exact hI.lt, ?_, ?_, ?_, ?_⟩, ⟨by rw [a7]; exact own, hl0, hlh, hh1, by omega, by omega, by omega, by omega, by omega, hmn.1⟩⟩
  · rcases a10 with ⟨_, _, _, c4⟩ | ⟨_, _, _, c4⟩ <;> rw [c4, a11, List.length_set, List.length_set] <;> exact hI.lP
  · intro h z hz z0
    have lP := hI.lP
    rw [a11] at hz
    by_cases e : g = h
    · subst e
      rw [List.getElem?_set_self hgl] at hz
      cases hz
      rcases a10 with ⟨c1, c2, c3, c4⟩ | ⟨c1, c2, c3, c4⟩
      · refine ⟨P0, by rw [c4, List.getElem?_set_self (by omega)], ?_, ?_⟩
        · refine Pil.congr ?_ hk eqf
          rw [c3, a9]
          exact b2.whole hkg
        · rw [sumc_snoc] at b3; omega
      · refine ⟨_, by rw [c4, List.getElem?_set_self (by omega)], ?_, ?_⟩
        · refine Pil.congr ?_ hk eqf
          rw [a9]
          exact b2.part hr hkg n1 c1 c3 _
        · rw [sumc_snoc] at b3 ⊢
          show x - m.n ≤ sumc P0 + ((p.c - n : Nat) : Int)
          omega
    · rw [List.getElem?_set_ne e] at hz
      obtain ⟨Q, q1, q2, q3⟩ := hI.pil h z hz z0
      have hhk : h ≠ k := fun e2 => by subst e2; exact hI.dis h z y hz a4 ⟨z0, y0⟩
      refine ⟨Q, ?_, Pil.congr (q2.other (g := (g : Int)) (by omega) (by omega) own) hk eqf, q3⟩
      rcases a10 with ⟨_, _, _, c4⟩ | ⟨_, _, _, c4⟩ <;> rw [c4, List.getElem?_set_ne e] <;> exact q1
  · rw [a11, a12, Pn.sp_set a3 x0 (by omega), Pn.sp_set a4 y0 (by omega), hI.bal]
  · intro h u v hu hv
    rw [a11] at hu
    rw [a12] at hv
    have hu' : ∃ u', σ.gv[h]? = some u' ∧ u ≤ u' := by
      by_cases e : g = h
      · subst e
        rw [List.getElem?_set_self hgl] at hu
        cases hu
        exact ⟨x, a3, by omega⟩
      · rw [List.getElem?_set_ne e] at hu
        exact ⟨u, hu, Int.le_refl _⟩
    have hv' : ∃ v', σ.tk[h]? = some v' ∧ v ≤ v' := by
      by_cases e : k = h
      · subst e
        rw [List.getElem?_set_self hkl] at hv
        cases hv
        exact ⟨y, a4, by omega⟩
      · rw [List.getElem?_set_ne e] at hv
        exact ⟨v, hv, Int.le_refl _⟩
    obtain ⟨u', e1, e2⟩ := hu'
    obtain ⟨v', e3, e4⟩ := hv'
    intro c
    exact hI.dis h u' v' e1 e3 ⟨by omega, by omega⟩
end Go.Proofs.YtbifmcadllilhaaGreat.Rg
