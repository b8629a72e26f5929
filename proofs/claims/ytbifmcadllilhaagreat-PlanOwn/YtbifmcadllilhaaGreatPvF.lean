import Derived.Test.YtbifmcadllilhaaGreatPvM
import Derived.Test.YtbifmcadllilhaaGreatPtT
import Derived.Test.YtbifmcadllilhaaGreatPdE
namespace Go.Proofs.YtbifmcadllilhaaGreat.Rg
open Go.RowKit Go.Shelf Go.Sort
set_option linter.unusedVariables false
/-- the owners, the x highest up to T become k's -/
def osx (os : List Int) (T : Nat) (k : Int) : Nat → List Int
  | 0 => os
  | x + 1 => (osx os T k x).set (T - x) k
theorem osx_len (os : List Int) (T : Nat) (k : Int) : ∀ x, (osx os T k x).length = os.length
  | 0 => rfl
  | x + 1 => by rw [osx, List.length_set, osx_len os T k x]
theorem osx_get (os : List Int) (T : Nat) (k : Int) : ∀ x, x ≤ T + 1 → ∀ j, (osx os T k x)[j]? = if T < j + x ∧ j ≤ T then (os[j]?).map (fun _ => k) else os[j]?
  | 0, _, j => by rw [osx, if_neg (by omega)]
  | x + 1, hx, j => by
    rw [osx, List.getElem?_set, osx_len, osx_get os T k x (by omega) j]
    by_cases e : T - x = j
    · rw [if_pos e]
      by_cases l : j < os.length
      · rw [if_pos (by omega : T - x < os.length), if_pos (by omega : T < j + (x + 1) ∧ j ≤ T), List.getElem?_eq_getElem l]; rfl
      · rw [if_neg (by omega : ¬ T - x < os.length), if_pos (by omega : T < j + (x + 1) ∧ j ≤ T), List.getElem?_eq_none (by omega)]; rfl
    · rw [if_neg e]
      by_cases c : T < j + x ∧ j ≤ T
      · rw [if_pos c, if_pos (by omega)]
      · rw [if_neg c, if_neg (by omega)]
/-- the document's step -/
theorem doc_step {ks : List Int} {L : List Sg} {σ : Sig} {most : Int} (hI : Inv ks L σ) (hr : Ris ks) (hk : ∀ x ∈ ks, 0 ≤ x ∧ x < 18446744073709551616) (hm : 1 ≤ most) {g k : Nat} {x y : Int} (gg : Pn.Gst σ.gv (g : Int)) (gk : Pn.Gst σ.tk (k : Int)) (xg : σ.gv[g]? = some x) (xk : σ.tk[k]? = some y) {n : Nat} (hn : (n : Int) = min (min x y) most) :
    ∃ (T : Nat) (z : Int) (s : Sg), (ks.map (ow L))[T]? = some (g : Int) ∧ (∀ (j : Nat) y, T < j → (ks.map (ow L))[j]? = some y → y ≠ (g : Int)) ∧ ks[T]? = some z ∧ 0 ≤ z ∧ z < 18446744073709551616 ∧ L[plc L z]? = some s ∧
      ∀ (q : Nat) (lo : Int), Tkn ks s T n q lo → ∃ σ', Stp ks most σ ⟨(g : Int), (k : Int), lo, s.hi, (q : Int)⟩ σ' ∧ σ'.gv = σ.gv.set g (x - (q : Int)) ∧ σ'.tk = σ.tk.set k (y - (q : Int)) ∧ osx (ks.map (ow L)) T (k : Int) q = ks.map (ow (asg L lo s.hi (k : Int))) := by
  have x0 := gst_pos gg xg
  have y0 := gst_pos gk xk
  obtain ⟨P0, p, q1, q2, q3⟩ := hI.top xg x0
  obtain ⟨z, z1, z2, z3, z4, z5⟩ := q2.top
  have hzr := hk z (List.mem_of_getElem? z1)
  have hp := q2.each p (by simp)
  obtain ⟨s, hs, s1, s2, s3, _⟩ := plc_facts hI.tab.cov hzr.1 hzr.2
  have hmx := hI.tab.mxl (List.mem_of_getElem? hs)
  rw [s3, z2] at hmx
  obtain ⟨e1, e2⟩ := hmx.unique hp.m s1 s2 z3 z4
  refine ⟨p.a + p.c - 1, z, s, by rw [List.getElem?_map, z1]; show some (ow L z) = _; rw [z2], fun j v hj hv => ?_, z1, hzr.1, hzr.2, hs, fun q lo ht => ?_⟩
  · rw [List.getElem?_map] at hv
    obtain ⟨v', hv', e⟩ := Option.map_eq_some_iff.1 hv
    rw [← e]
    exact z5 j v' hj hv'
  · have hc := q2.tkn hr e1 e2 ht
    have c1 := hp.c1
    obtain ⟨σ', st, sg, sk⟩ : ∃ σ', Stp ks most σ ⟨(g : Int), (k : Int), lo, s.hi, (q : Int)⟩ σ' ∧ σ'.gv = σ.gv.set g (x - (q : Int)) ∧ σ'.tk = σ.tk.set k (y - (q : Int)) := by
      rcases hc with ⟨d1, d2, d3⟩ | ⟨d1, d2, d3⟩
      · exact ⟨⟨σ.P.set g P0, σ.gv.set g (x - (q : Int)), σ.tk.set k (y - (q : Int))⟩, ⟨g, k, x, y, P0, p, n, gg, gk, xg, xk, q1, hn, rfl, rfl, e2, .inl ⟨d1, by show (q : Int) = _; omega, d3, rfl⟩, rfl, rfl⟩, rfl, rfl⟩
      · exact ⟨⟨σ.P.set g (P0 ++ [⟨⟨p.s.lo, lo - 1, p.s.h⟩, p.a, p.c - n⟩]), σ.gv.set g (x - (q : Int)), σ.tk.set k (y - (q : Int))⟩, ⟨g, k, x, y, P0, p, n, gg, gk, xg, xk, q1, hn, rfl, rfl, e2, .inr ⟨d1, by show (q : Int) = _; omega, d3, rfl⟩, rfl, rfl⟩, rfl, rfl⟩
    refine ⟨σ', st, sg, sk, ?_⟩
    have md := (hI.step hr hk hm st).2
    have af := asg_facts hI.tab md.l0 md.lh md.h1 md.t0 md.t1
    apply List.ext_getElem?
    intro j
    rw [osx_get _ _ _ _ ht.pT, List.getElem?_map, List.getElem?_map]
    cases hj : ks[j]? with
    | none => simp
    | some v =>
      have hvr := hk v (List.mem_of_getElem? hj)
      have e := af.2.1 v hvr.1 hvr.2
      have e' : ow (asg L lo s.hi (k : Int)) v = if lo ≤ v ∧ v ≤ s.hi then (k : Int) else ow L v := e
      have hkk := hp.k j v hj
      have iff : (p.a + p.c - 1 < j + q ∧ j ≤ p.a + p.c - 1) ↔ (lo ≤ v ∧ v ≤ s.hi) := by
        rcases hc with ⟨d1, d2, d3⟩ | ⟨d1, d2, d3⟩
        · rw [d3, e2, hkk]
          omega
        · have kl := (hp.k _ lo d3).2 ⟨by omega, by omega⟩
          have lt : lo ≤ v ↔ p.a + p.c - n ≤ j := by
            constructor
            · intro h1
              rcases Nat.lt_or_ge j (p.a + p.c - n) with h2 | h2
              · obtain ⟨d, hd⟩ : ∃ d, p.a + p.c - n = j + d + 1 := ⟨p.a + p.c - n - j - 1, by omega⟩
                rw [hd] at d3
                have := hr.lt d j v lo hj d3
                omega
              · exact h2
            · intro h1
              exact hr.le h1 d3 hj
          rw [lt, e2]
          constructor
          · rintro ⟨a1, a2⟩
            exact ⟨by omega, (hkk.2 ⟨by omega, by omega⟩).2⟩
          · rintro ⟨a1, a2⟩
            have := hkk.1 ⟨by have := lt.2 a1; omega, a2⟩
            omega
      simp only [Option.map_some]
      rw [e']
      by_cases c : lo ≤ v ∧ v ≤ s.hi
      · rw [if_pos (iff.2 c), if_pos c]
      · rw [if_neg (fun h => c (iff.1 h)), if_neg c]
/-- a row of numbers, filled up to i -/
def fil (f : Nat → Int) (n i : Nat) : List Int := (List.range n).map (fun h => if h < i then f h else 0)
theorem fil_len (f : Nat → Int) (n i : Nat) : (fil f n i).length = n := by simp [fil]
theorem fil_zero (f : Nat → Int) (n : Nat) : fil f n 0 = List.replicate n 0 := by
  unfold fil
  rw [List.eq_replicate_iff]
  refine ⟨by simp, fun b hb => ?_⟩
  obtain ⟨q, _, e⟩ := List.mem_map.1 hb
  rw [← e, if_neg (by omega)]
theorem fil_all (f : Nat → Int) (n : Nat) : fil f n n = (List.range n).map f := List.map_congr_left (fun q hq => by rw [if_pos (List.mem_range.1 hq)])
theorem fil_set (f : Nat → Int) {n i : Nat} (hi : i < n) : (fil f n i).set i (f i) = fil f n (i + 1) := by
  apply List.ext_getElem?
  intro j
  rw [List.getElem?_set, fil_len]
  unfold fil
  rw [List.getElem?_map, List.getElem?_map]
  by_cases hj : j < n
  · rw [List.getElem?_range hj]
    simp only [Option.map_some]
    by_cases e : i = j
    · subst e
      rw [if_pos rfl, if_pos hi, if_pos (by omega)]
    · rw [if_neg e]
      by_cases c : j < i
      · rw [if_pos c, if_pos (by omega)]
      · rw [if_neg c, if_neg (by omega)]
  · rw [List.getElem?_eq_none (by simp; omega)]
    rw [if_neg (by omega)]
    rfl
theorem ics_set (l : List Int) (i : Nat) (x : Int) : (Pn.ics l).set i (.int .i64 x) = Pn.ics (l.set i x) := by
  unfold Pn.ics
  rw [List.map_set]
end Go.Proofs.YtbifmcadllilhaaGreat.Rg
namespace Go.Proofs.YtbifmcadllilhaaGreat.Rg
open Go.RowKit Go.Shelf Go.Sort
open Go.Proofs.YtbifmcadllilhaaGreat.It
set_option linter.unusedVariables false
/-- the document's rows: what is to give, to take, whose each key is -/
structure Dm (B gb tb n : Nat) (ov : Value) (gl tl os : List Int) (wr : World) : Prop where
  g : wr.ownsRow B 3 1 (.slice (some ⟨gb, 0, none⟩) n n) n (Pn.ics gl)
  t : wr.ownsRow B 3 1 (.slice (some ⟨tb, 0, none⟩) n n) n (Pn.ics tl)
  o : wr.ownsRow B 3 1 ov os.length (Pn.ics os)
  lg : gl.length = n
  lt : tl.length = n
  gt : gb ≠ tb
  go : ∀ g, ov.ownBlock = some g → g ≠ gb ∧ g ≠ tb
theorem Dm.keep {B gb tb n : Nat} {ov : Value} {gl tl os : List Int} {w w' : World} (h : Dm B gb tb n ov gl tl os w) (k : ∀ (g : Nat) (c : Array Value), w.heap[g]? = some (.cells c 3 (0, 0)) → w'.heap[g]? = w.heap[g]?) : Dm B gb tb n ov gl tl os w' :=
  ⟨own_keep h.g (fun g e => by obtain ⟨c, hc⟩ := own_obj h.g e; exact k g c hc), own_keep h.t (fun g e => by obtain ⟨c, hc⟩ := own_obj h.t e; exact k g c hc), own_keep h.o (fun g e => by obtain ⟨c, hc⟩ := own_obj h.o e; exact k g c hc), h.lg, h.lt, h.gt, h.go⟩
theorem Dm.nu {B gb tb n : Nat} {ov : Value} {gl tl os : List Int} {w w' : World} (h : Dm B gb tb n ov gl tl os w) (k : Kp Nu w w') : Dm B gb tb n ov gl tl os w' := h.keep (fun g c hg => k.block g (blk_lt hg) (fun e => e))
/-- blocks of another kind turn -/
theorem Dm.oth {B gb tb n : Nat} {ov : Value} {gl tl os : List Int} {w w' : World} {S : Nat → Prop} (h : Dm B gb tb n ov gl tl os w) (k : Kp S w w') (hS : ∀ g, S g → ∀ c, w.heap[g]? ≠ some (.cells c 3 (0, 0))) : Dm B gb tb n ov gl tl os w' := h.keep (fun g c hg => k.block g (blk_lt hg) (fun e => hS g e c hg))
theorem Dm.setG {B gb tb n : Nat} {ov : Value} {gl tl os : List Int} {w : World} (h : Dm B gb tb n ov gl tl os w) (i : Nat) (x : Int) (hi : i < n) : Dm B gb tb n ov (gl.set i x) tl os (w.setCell ⟨gb, i, none⟩ (.int .i64 x)) := by
  have k := Kp.setCell w ⟨gb, i, none⟩ (.int .i64 x)
  have p := own_put h.g i (.int .i64 x) (by rw [Pn.ics_len, h.lg]; exact hi)
  rw [ics_set] at p
  exact ⟨p, own_keep h.t (fun g e => k.block g (own_lt h.t e) (fun e2 => by have e3 : g = gb := e2; have e4 : some tb = some g := e; cases e4; exact h.gt e3.symm)), own_keep h.o (fun g e => k.block g (own_lt h.o e) (fun e2 => (h.go g e).1 e2)), by rw [List.length_set]; exact h.lg, h.lt, h.gt, h.go⟩
theorem Dm.setT {B gb tb n : Nat} {ov : Value} {gl tl os : List Int} {w : World} (h : Dm B gb tb n ov gl tl os w) (i : Nat) (x : Int) (hi : i < n) : Dm B gb tb n ov gl (tl.set i x) os (w.setCell ⟨tb, i, none⟩ (.int .i64 x)) := by
  have k := Kp.setCell w ⟨tb, i, none⟩ (.int .i64 x)
  have p := own_put h.t i (.int .i64 x) (by rw [Pn.ics_len, h.lt]; exact hi)
  rw [ics_set] at p
  exact ⟨own_keep h.g (fun g e => k.block g (own_lt h.g e) (fun e2 => by have e3 : g = tb := e2; have e4 : some gb = some g := e; cases e4; exact h.gt e3)), p, own_keep h.o (fun g e => k.block g (own_lt h.o e) (fun e2 => (h.go g e).2 e2)), h.lg, by rw [List.length_set]; exact h.lt, h.gt, h.go⟩
theorem Dm.setO {B gb tb n ob m oc : Nat} {gl tl os : List Int} {w : World} (h : Dm B gb tb n (.slice (some ⟨ob, 0, none⟩) m oc) gl tl os w) (hm : os.length = m) (i : Nat) (x : Int) (hi : i < m) : Dm B gb tb n (.slice (some ⟨ob, 0, none⟩) m oc) gl tl (os.set i x) (w.setCell ⟨ob, i, none⟩ (.int .i64 x)) := by
  have k := Kp.setCell w ⟨ob, i, none⟩ (.int .i64 x)
  have ho := h.o
  rw [hm] at ho
  have p := own_put ho i (.int .i64 x) (by rw [Pn.ics_len, hm]; exact hi)
  rw [ics_set] at p
  refine ⟨own_keep h.g (fun g e => k.block g (own_lt h.g e) (fun e2 => by have e3 : g = ob := e2; have e4 : some gb = some g := e; cases e4; exact (h.go ob rfl).1 e3.symm)), own_keep h.t (fun g e => k.block g (own_lt h.t e) (fun e2 => by have e3 : g = ob := e2; have e4 : some tb = some g := e; cases e4; exact (h.go ob rfl).2 e3.symm)), ?_, h.lg, h.lt, h.gt, h.go⟩
  rw [List.length_set, hm]
  exact p
/-- a number of a row -/
theorem num_at {w : World} {B g m c : Nat} {l : List Int} (h : w.ownsRow B 3 1 (.slice (some ⟨g, 0, none⟩) m c) m (Pn.ics l)) (hm : l.length = m) {i : Nat} {x : Int} (hi : l[i]? = some x) : w.cell? ⟨g, i, none⟩ = some (.int .i64 x) ∧ w.frozen? ⟨g, i, none⟩ = false := by
  subst hm
  have hi' : (Pn.ics l)[i]? = some (.int .i64 x) := by unfold Pn.ics; rw [List.getElem?_map, hi]; rfl
  have hl := Pn.ics_len l
  rw [← hl] at h
  obtain ⟨r, cap, e, _, h1, cur, h2⟩ := row1_at h hi'
  simp only [Value.slice.injEq, Option.some.injEq, Addr.mk.injEq, and_true] at e
  obtain ⟨rfl, _⟩ := e
  exact ⟨h1, free3 h2 i⟩
theorem ns_of {w : World} {B m : Nat} {v : Value} {l : List Int} (h : w.ownsRow B 3 1 v m (Pn.ics l)) (hm : l.length = m) : Pn.Ns w v l := by subst hm; exact Pn.Ns.of_own h
end Go.Proofs.YtbifmcadllilhaaGreat.Rg
