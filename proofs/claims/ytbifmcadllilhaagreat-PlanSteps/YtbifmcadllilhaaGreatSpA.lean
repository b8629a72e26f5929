import Derived.Test.YtbifmcadllilhaaGreatPdL
namespace Go.Proofs.YtbifmcadllilhaaGreat.Rg
open Go.RowKit Go.Shelf Go.Sort
set_option linter.unusedVariables false
/-- a move comes down from the top of one segment of its giver -/
theorem Stp.top {ks : List Int} {L : List Sg} {σ σ' : Sig} {most : Int} {m : Mv} (hI : Inv ks L σ) (hr : Ris ks) (hk : ∀ x ∈ ks, 0 ≤ x ∧ x < 18446744073709551616) (hm : 1 ≤ most) (hs : Stp ks most σ m σ') : ∃ s, L[plc L m.hi]? = some s ∧ s.h = m.f ∧ s.hi = m.hi ∧ s.lo ≤ m.lo := by
  have md := (hI.step hr hk hm hs).2
  obtain ⟨g, k, x, y, P0, p, n, a1, a2, a3, a4, a5, a6, a7, a8, a9, a10, a11, a12⟩ := hs
  have hx := gst_pos a1 a3
  obtain ⟨P, p1, p2, _⟩ := hI.pil g x a3 hx
  rw [a5] at p1
  cases p1
  have po := p2.each p (by simp)
  have mx := po.m
  obtain ⟨s, e1, e2, e3, e4, _⟩ := plc_facts hI.tab.cov (k := m.hi) (by have := md.l0; have := md.lh; omega) md.h1
  have hs := List.mem_of_getElem? e1
  have hoh := md.own m.hi md.lh (Int.le_refl _)
  have sm := hI.tab.mxl hs
  rw [e4, hoh, a7] at sm
  have ll := mx.lh
  obtain ⟨u1, u2⟩ := sm.unique mx (k := m.hi) e2 e3 (by omega) (by omega)
  refine ⟨s, e1, by rw [e4, hoh], by omega, ?_⟩
  rcases a10 with ⟨_, _, b3, _⟩ | ⟨b1, b2, b3, _⟩
  · omega
  · have hy := gst_pos a2 a4
    have hn1 : 1 ≤ n := by omega
    have := (po.k _ _ b3).2 ⟨by omega, by omega⟩
    omega
/-- where the moves stand, played one by one -/
structure Sti (ks : List Int) (most : Int) (N : Nat) (L0 : List Sg) (ms : List Mv) (i : Nat) (Li : List Sg) : Prop where
  st : ∃ σ σf, Stps ks most σ (ms.drop i) σf ∧ Inv ks Li σ
  pl : pl L0 ms = pl Li (ms.drop i)
theorem Sti.step {ks : List Int} {most : Int} {N : Nat} {L0 Li : List Sg} {ms : List Mv} {i : Nat} {m : Mv} (h : Sti ks most N L0 ms i Li) (hr : Ris ks) (hk : ∀ x ∈ ks, 0 ≤ x ∧ x < 18446744073709551616) (hm : 1 ≤ most) (hi : ms[i]? = some m) : Sti ks most N L0 ms (i + 1) (asg Li m.lo m.hi m.t) ∧ Mvd Li m ∧ ∃ s, Li[plc Li m.hi]? = some s ∧ s.h = m.f ∧ s.hi = m.hi ∧ s.lo ≤ m.lo := by
  obtain ⟨σ, σf, h1, h2⟩ := h.st
  have hlt := (List.getElem?_eq_some_iff.1 hi).1
  have hdr : ms.drop i = m :: ms.drop (i + 1) := by rw [List.drop_eq_getElem_cons hlt, (List.getElem?_eq_some_iff.1 hi).2]
  have hp := h.pl
  rw [hdr] at h1 hp
  cases h1 with
  | cons a b =>
    obtain ⟨hI2, md⟩ := h2.step hr hk hm a
    exact ⟨⟨⟨_, _, b, hI2⟩, by rw [hp, pl_yes ⟨⟨md.lh, md.f1, md.t1, md.ne⟩, md.own⟩]⟩, md, Stp.top h2 hr hk hm a⟩
theorem Sti.tab {ks : List Int} {most : Int} {N : Nat} {L0 Li : List Sg} {ms : List Mv} {i : Nat} (h : Sti ks most N L0 ms i Li) : Tab Li := by
  obtain ⟨σ, σf, h1, h2⟩ := h.st
  exact h2.tab
theorem tab_ldd {R : List Sg} (h : Tab R) (hl : R.length ≤ 8192) : Ldd R := by
  have g := tab_good h
  exact ⟨lok_of g, good_lok g, by rw [tab_lays h]; omega⟩
/-- one move in memory -/
theorem mvs_one {w : World} {b : Nat} {m : Mv} (hb : MvB m) (h : w.heap[b]? = some (.cells #[.int .u8 m.f, .int .u8 m.t, .int .u64 m.lo, .int .u64 m.hi, .int .i64 m.n] 41 (0, 0))) (c : Nat) : Mvs w (.slice (some ⟨b, 0, none⟩) 1 c) [m] := by
  refine ⟨some ⟨b, 0, none⟩, c, rfl, fun i x hx => ?_⟩
  have : i = 0 := by
    have := (List.getElem?_eq_some_iff.1 hx).1
    simp at this; exact this
  subst this
  simp only [List.getElem?_cons_zero, Option.some.injEq] at hx
  subst hx
  obtain ⟨y0, y1, y2, y3, y4⟩ := cell5 h
  exact ⟨b, 0, rfl, ⟨by simpa using y0, by simpa using y1, by simpa using y2, by simpa using y3, by simpa using y4, hb⟩⟩
end Go.Proofs.YtbifmcadllilhaaGreat.Rg
