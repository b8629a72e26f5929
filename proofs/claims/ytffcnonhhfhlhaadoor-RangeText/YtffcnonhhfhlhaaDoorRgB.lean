import Derived.Test.YtffcnonhhfhlhaaDoorRgA
namespace Go.Proofs.YtffcnonhhfhlhaaDoor.Rg
set_option linter.unusedVariables false

/-- a table: all keys, no two neighbours of one host -/
structure Tab (L : List Sg) : Prop where
  cov : Cov 0 L 18446744073709551616
  alt : Alt L
  hs : ∀ s ∈ L, 0 ≤ s.h ∧ s.h < 16
def lowP (L : List Sg) (lo : Int) : List Sg := if 0 < lo then tk 0 (lo - 1) L else []
def highP (L : List Sg) (hi : Int) : List Sg := if hi < 18446744073709551615 then tk (hi + 1) 18446744073709551615 (L.drop (plc L (hi + 1))) else []
def asg (L : List Sg) (lo hi o : Int) : List Sg := lays (lay (lays [] (lowP L lo)) ⟨lo, hi, o⟩) (highP L hi)
/-- boundaries now -/
def nowB (L : List Sg) (lo hi : Int) : Int := (plc L (if hi < 18446744073709551615 then hi + 1 else hi) : Int) - (plc L (if 0 < lo then lo - 1 else lo) : Int)
/-- boundaries behind -/
def aftB (L : List Sg) (lo hi o : Int) : Int := (if 0 < lo ∧ ow L (lo - 1) ≠ o then 1 else 0) + (if hi < 18446744073709551615 ∧ ow L (hi + 1) ≠ o then 1 else 0)
def costB (L : List Sg) (lo hi o : Int) : Int := aftB L lo hi o - nowB L lo hi

theorem Tab.ne {L : List Sg} (h : Tab L) : 0 < L.length := by
  cases L with
  | nil => have e : (0 : Int) = 18446744073709551616 := h.cov; omega
  | cons s r => simp
theorem Tab.ow16 {L : List Sg} (h : Tab L) {k : Int} (h0 : 0 ≤ k) (h1 : k < 18446744073709551616) : 0 ≤ ow L k ∧ ow L k < 16 := by
  obtain ⟨s, e1, _, _, e2, _⟩ := plc_facts h.cov h0 h1
  have := h.hs s (List.mem_of_getElem? e1)
  omega
theorem Tab.plc_lt {L : List Sg} (h : Tab L) {k : Int} (h0 : 0 ≤ k) (h1 : k < 18446744073709551616) : plc L k < L.length := by
  obtain ⟨s, _, _, _, _, e⟩ := plc_facts h.cov h0 h1
  exact e
theorem nowB_range {L : List Sg} (h : Tab L) {lo hi : Int} (h0 : 0 ≤ lo) (h1 : lo ≤ hi) (h2 : hi < 18446744073709551616) : 0 ≤ nowB L lo hi ∧ nowB L lo hi + 1 ≤ L.length := by
  unfold nowB
  have m : plc L (if 0 < lo then lo - 1 else lo) ≤ plc L (if hi < 18446744073709551615 then hi + 1 else hi) := plc_mono h.cov (by split <;> split <;> omega)
  have l := h.plc_lt (k := if hi < 18446744073709551615 then hi + 1 else hi) (by split <;> omega) (by split <;> omega)
  omega
theorem aftB_range (L : List Sg) (lo hi o : Int) : 0 ≤ aftB L lo hi o ∧ aftB L lo hi o ≤ 2 := by
  unfold aftB; split <;> split <;> omega

theorem lays_nil_id {R : List Sg} (h : Alt R) : (lays [] R).length = R.length := by
  have := lays_len (A := []) h
  rw [if_neg] at this
  · simpa using this
  · rintro ⟨h1, h2⟩
    cases R with
    | nil => exact h2 rfl
    | cons s R => cases h1
theorem lays_last : ∀ {R A : List Sg}, R ≠ [] → lastH (lays A R) = lastH R
  | [], A, h => absurd rfl h
  | [s], A, h => by rw [lays_cons, lays_nil, lay_last]; rfl
  | s :: t :: R, A, h => by
    rw [lays_cons, lays_last (R := t :: R) (by simp)]
    rfl

theorem low_facts {L : List Sg} (h : Tab L) {lo : Int} (h0 : 0 ≤ lo) (h2 : lo < 18446744073709551616) :
    Cov 0 (lowP L lo) lo ∧ (∀ k, 0 ≤ k → k < lo → ow (lowP L lo) k = ow L k) ∧ Alt (lowP L lo) ∧ (0 < lo → (lowP L lo).length = plc L (lo - 1) + 1 ∧ lastH (lowP L lo) = some (ow L (lo - 1))) ∧ (∀ s ∈ lowP L lo, 0 ≤ s.h ∧ s.h < 16) := by
  unfold lowP
  by_cases e : 0 < lo
  · rw [if_pos e]
    obtain ⟨i1, i2, i3, i4⟩ := tk_low (z := 0) (m := lo) h.cov (Int.le_refl _) (by omega) (by omega)
    refine ⟨i1, i2, i3 h.alt, i4, fun s hs => ?_⟩
    obtain ⟨y, hy, e2⟩ := tk_mem hs
    rw [← e2]; exact h.hs y hy
  · rw [if_neg e]
    exact ⟨show (0 : Int) = lo by omega, fun k h1 h2 => by omega, trivial, fun h => absurd h e, by simp⟩
theorem high_facts {L : List Sg} (h : Tab L) {hi : Int} (h0 : 0 ≤ hi) (h2 : hi < 18446744073709551616) :
    Cov (hi + 1) (highP L hi) 18446744073709551616 ∧ (∀ k, hi < k → k < 18446744073709551616 → ow (highP L hi) k = ow L k) ∧ Alt (highP L hi) ∧ (hi < 18446744073709551615 → (highP L hi).length + plc L (hi + 1) = L.length ∧ headH (highP L hi) = some (ow L (hi + 1))) ∧ (∀ s ∈ highP L hi, 0 ≤ s.h ∧ s.h < 16) ∧ (¬ hi < 18446744073709551615 → highP L hi = []) := by
  unfold highP
  by_cases e : hi < 18446744073709551615
  · rw [if_pos e]
    obtain ⟨T, j0, j1, j2, j3, j4, j5⟩ := tk_high (q := hi + 1) h.cov (by omega) (by omega)
    rw [show (18446744073709551616 : Int) - 1 = 18446744073709551615 by omega] at j0
    rw [j0]
    refine ⟨j1, fun k h1 _ => j2 k (by omega), j3 h.alt, fun _ => ⟨j4, j5⟩, fun s hs => ?_, fun h => absurd e h⟩
    rw [← j0] at hs
    obtain ⟨y, hy, e2⟩ := tk_mem hs
    rw [← e2]; exact h.hs y (List.mem_of_mem_drop hy)
  · rw [if_neg e]
    exact ⟨show hi + 1 = 18446744073709551616 by omega, fun k h1 h2 => by omega, trivial, fun h => absurd h e, by simp, fun _ => rfl⟩

theorem asg_facts {L : List Sg} (h : Tab L) {lo hi o : Int} (h0 : 0 ≤ lo) (h1 : lo ≤ hi) (h2 : hi < 18446744073709551616) (o0 : 0 ≤ o) (o1 : o < 16) :
    Tab (asg L lo hi o) ∧ (∀ k, 0 ≤ k → k < 18446744073709551616 → ow (asg L lo hi o) k = if lo ≤ k ∧ k ≤ hi then o else ow L k) ∧ ((asg L lo hi o).length : Int) = L.length + costB L lo hi o := by
  obtain ⟨a1, a2, a3, a4, a5⟩ := low_facts h h0 (by omega : lo < 18446744073709551616)
  obtain ⟨b1, b2, b3, b4, b5, b6⟩ := high_facts h (by omega : 0 ≤ hi) h2
  obtain ⟨c1, c2⟩ := lays_cov (A := []) (a := 0) (m := 0) rfl a1
  obtain ⟨d1, d2⟩ := lay_cov (s := ⟨lo, hi, o⟩) c1 rfl h1 rfl
  obtain ⟨e1, e2⟩ := lays_cov d1 b1
  have c3 : Alt (lays [] (lowP L lo)) := lays_alt trivial
  have c4 := lays_nil_id a3
  refine ⟨⟨e1, lays_alt (lay_alt _ _ c3), fun s hs => ?_⟩, fun k k0 k1 => ?_, ?_⟩
  · obtain ⟨y, hy, e⟩ := lays_mem hs
    rw [← e]
    rcases List.mem_append.1 hy with hy | hy
    · rcases lay_mem hy with h3 | ⟨z, hz, e3⟩
      · rw [h3]; exact ⟨o0, o1⟩
      · obtain ⟨x, hx, e4⟩ := lays_mem hz
        rw [← e3, ← e4]
        exact a5 x (by simpa using hx)
    · exact b5 y hy
  · show ow (lays _ _) k = _
    rw [e2 k k0 k1]
    by_cases f : k < hi + 1
    · rw [if_pos f, d2 k k0 f]
      by_cases g : k < lo
      · rw [if_pos g, c2 k k0 g, if_neg (by omega), if_neg (by omega)]
        exact a2 k k0 g
      · rw [if_neg g, if_pos (by omega)]
    · rw [if_neg f, if_neg (by omega)]
      exact b2 k (by omega) k1
  · have l1 := lay_len (lays [] (lowP L lo)) ⟨lo, hi, o⟩
    have l2 := lays_len (A := lay (lays [] (lowP L lo)) ⟨lo, hi, o⟩) b3
    rw [lay_last] at l2
    have l3 : ((lay (lays [] (lowP L lo)) ⟨lo, hi, o⟩).length : Int) = (plc L (if 0 < lo then lo - 1 else lo) : Int) + 1 + (if 0 < lo ∧ ow L (lo - 1) ≠ o then 1 else 0) := by
      by_cases e : 0 < lo
      · obtain ⟨f1, f2⟩ := a4 e
        have g : lowP L lo ≠ [] := by intro g; rw [g] at f1; simp at f1
        rw [lays_last g, f2, c4, f1] at l1
        rw [if_pos e]
        simp only [Option.some.injEq] at l1
        by_cases k : ow L (lo - 1) = o
        · rw [if_pos k] at l1; rw [if_neg (fun x => x.2 k)]; omega
        · rw [if_neg k] at l1; rw [if_pos ⟨e, k⟩]; omega
      · have g : lowP L lo = [] := by unfold lowP; rw [if_neg e]
        rw [g] at l1
        rw [g, if_neg e, if_neg (fun x => e x.1), show plc L lo = 0 from by rw [show lo = 0 by omega]; exact plc_first h.cov]
        rfl
    have l4 : ((asg L lo hi o).length : Int) = ((lay (lays [] (lowP L lo)) ⟨lo, hi, o⟩).length : Int) + (L.length : Int) - (plc L (if hi < 18446744073709551615 then hi + 1 else hi) : Int) - 1 + (if hi < 18446744073709551615 ∧ ow L (hi + 1) ≠ o then 1 else 0) := by
      unfold asg
      by_cases e : hi < 18446744073709551615
      · obtain ⟨f1, f2⟩ := b4 e
        have g : highP L hi ≠ [] := by intro g; rw [g] at f2; cases f2
        rw [f2] at l2
        simp only [Option.some.injEq] at l2
        rw [if_pos e]
        by_cases k : ow L (hi + 1) = o
        · rw [if_pos ⟨k, g⟩] at l2; rw [if_neg (fun x => x.2 k)]; omega
        · rw [if_neg (fun x => k x.1)] at l2; rw [if_pos ⟨e, k⟩]; omega
      · have g := b6 e
        have p := plc_last h.cov (by omega)
        rw [show (18446744073709551616 : Int) - 1 = 18446744073709551615 by omega] at p
        rw [if_neg e, if_neg (fun x => e x.1), show hi = 18446744073709551615 by omega]
        rw [show hi = 18446744073709551615 by omega] at g
        rw [g, lays_nil]
        omega
    unfold costB aftB nowB
    omega

/-- giving a host what it has costs nothing -/
theorem again_cost {L : List Sg} (h : Tab L) {lo hi o : Int} (h0 : 0 ≤ lo) (h1 : lo ≤ hi) (h2 : hi < 18446744073709551616) (o0 : 0 ≤ o) (o1 : o < 16) : costB (asg L lo hi o) lo hi o = 0 := by
  obtain ⟨t1, t2, t3⟩ := asg_facts h h0 h1 h2 o0 o1
  obtain ⟨u1, u2, u3⟩ := asg_facts t1 h0 h1 h2 o0 o1
  have : asg (asg L lo hi o) lo hi o = asg L lo hi o := by
    refine cov_unique u1.cov t1.cov u1.alt t1.alt fun k k0 k1 => ?_
    rw [u2 k k0 k1, t2 k k0 k1]
    split <;> rfl
  rw [this] at u3
  omega
theorem cost_range {L : List Sg} (h : Tab L) {lo hi : Int} (o : Int) (h0 : 0 ≤ lo) (h1 : lo ≤ hi) (h2 : hi < 18446744073709551616) : costB L lo hi o ≤ 2 ∧ 1 - (L.length : Int) ≤ costB L lo hi o := by
  have := nowB_range h h0 h1 h2
  have := aftB_range L lo hi o
  unfold costB
  omega
end Go.Proofs.YtffcnonhhfhlhaaDoor.Rg
