import Derived.Test.YtbifmcadllilhaaRgB
import Derived.Test.YtbifmcadllilhaaPdK
import Derived.Deep.RegionHeld3
namespace Go.Proofs.Ytbifmcadllilhaa.Rg
set_option linter.unusedVariables false
/-- a move -/
structure Mv where
  f : Int
  t : Int
  lo : Int
  hi : Int
  n : Int
/-- its numbers are as its kinds have them -/
structure MvB (m : Mv) : Prop where
  f0 : 0 ≤ m.f
  f1 : m.f < 256
  t0 : 0 ≤ m.t
  t1 : m.t < 256
  l0 : 0 ≤ m.lo
  l1 : m.lo < 18446744073709551616
  h0 : 0 ≤ m.hi
  h1 : m.hi < 18446744073709551616
/-- it may be, whoever owns its keys -/
def Mok (m : Mv) : Prop := m.lo ≤ m.hi ∧ m.f < 16 ∧ m.t < 16 ∧ m.f ≠ m.t
/-- all its keys are the giver's -/
def Own (L : List Sg) (lo hi f : Int) : Prop := ∀ k, lo ≤ k → k ≤ hi → ow L k = f
open Classical in
/-- the segments behind moves -/
noncomputable def pl (L : List Sg) : List Mv → Option (List Sg)
  | [] => some L
  | m :: r => if Mok m ∧ Own L m.lo m.hi m.f then pl (asg L m.lo m.hi m.t) r else none
/-- what a segment gives, if lo to hi become another's -/
def pcs (lo hi o : Int) (s : Sg) : List Sg :=
  if s.hi < lo ∨ s.lo > hi then [s] else (if s.lo < lo then [⟨s.lo, lo - 1, s.h⟩] else []) ++ [⟨lo, hi, o⟩] ++ (if s.hi > hi then [⟨hi + 1, s.hi, s.h⟩] else [])
theorem pcs_far : ∀ {r : List Sg} {c b lo hi o : Int}, Cov c r b → hi < c → r.flatMap (pcs lo hi o) = r
  | [], c, b, lo, hi, o, _, _ => rfl
  | s :: r, c, b, lo, hi, o, h, hc => by
    have h1 := h.1
    have h2 := h.2.1
    have ih := pcs_far (lo := lo) (o := o) h.2.2 (by omega : hi < s.hi + 1)
    rw [List.flatMap_cons, ih]
    unfold pcs
    rw [if_pos (.inr (by omega))]
    rfl
theorem ow_cons (s : Sg) (r : List Sg) (k : Int) : ow (s :: r) k = if k ≤ s.hi then s.h else ow r k := by simp only [ow]
theorem cut_cov : ∀ {L : List Sg} {a b lo hi f o : Int}, Cov a L b → Alt L → a ≤ lo → lo ≤ hi → hi < b → Own L lo hi f →
    Cov a (L.flatMap (pcs lo hi o)) b ∧ ∀ k, a ≤ k → k < b → ow (L.flatMap (pcs lo hi o)) k = if lo ≤ k ∧ k ≤ hi then o else ow L k
  | [], a, b, lo, hi, f, o, h, _, h1, h2, h3, _ => by
    have : a = b := h
    omega
  | s :: r, a, b, lo, hi, f, o, h, ha, h1, h2, h3, hO => by
    obtain ⟨g1, g2, g3⟩ := h
    have gl := cov_le g3
    by_cases c1 : s.hi < lo
    · have hO' : Own r lo hi f := fun k k1 k2 => by
        have := hO k k1 k2
        rw [ow_cons, if_neg (by omega)] at this
        exact this
      have ha' : Alt r := by
        cases r with
        | nil => trivial
        | cons t r => exact ha.2
      obtain ⟨i1, i2⟩ := cut_cov (o := o) g3 ha' (by omega) h2 h3 hO'
      have e : (s :: r).flatMap (pcs lo hi o) = s :: r.flatMap (pcs lo hi o) := by
        rw [List.flatMap_cons]
        have : pcs lo hi o s = [s] := by unfold pcs; rw [if_pos (.inl c1)]
        rw [this]
        rfl
      rw [e]
      refine ⟨⟨g1, g2, i1⟩, fun k k1 k2 => ?_⟩
      rw [ow_cons, ow_cons]
      by_cases k3 : k ≤ s.hi
      · rw [if_pos k3, if_pos k3, if_neg (by omega)]
      · rw [if_neg k3, if_neg k3]
        exact i2 k (by omega) k2
    · have c2 : hi ≤ s.hi := by
        refine Classical.byContradiction fun hn => ?_
        have e1 := hO lo (by omega) h2
        have e2 := hO (s.hi + 1) (by omega) (by omega)
        rw [ow_cons, if_pos (by omega)] at e1
        rw [ow_cons, if_neg (by omega)] at e2
        cases r with
        | nil => have : s.hi + 1 = b := g3; omega
        | cons t r =>
          have q1 := g3.1
          have q2 := g3.2.1
          rw [ow_cons, if_pos (by omega)] at e2
          exact ha.1 (e1.trans e2.symm)
      have e : (s :: r).flatMap (pcs lo hi o) = (if s.lo < lo then [⟨s.lo, lo - 1, s.h⟩] else []) ++ ([⟨lo, hi, o⟩] ++ ((if s.hi > hi then [⟨hi + 1, s.hi, s.h⟩] else []) ++ r)) := by
        rw [List.flatMap_cons, pcs_far g3 (by omega)]
        unfold pcs
        rw [if_neg (by omega)]
        simp only [List.append_assoc]
      rw [e]
      obtain ⟨A, eA⟩ : ∃ A : List Sg, (if s.lo < lo then [⟨s.lo, lo - 1, s.h⟩] else []) = A := ⟨_, rfl⟩
      obtain ⟨C, eC⟩ : ∃ C : List Sg, (if s.hi > hi then [⟨hi + 1, s.hi, s.h⟩] else []) = C := ⟨_, rfl⟩
      have cA : Cov a A lo ∧ ∀ k, a ≤ k → k < lo → ow A k = s.h := by
        rw [← eA]
        split
        · exact ⟨⟨g1, by show a ≤ lo - 1; omega, by show lo - 1 + 1 = lo; omega⟩, fun k k1 k2 => by rw [ow_cons, if_pos (by show k ≤ lo - 1; omega)]⟩
        · exact ⟨by show a = lo; omega, fun k k1 k2 => by omega⟩
      have cB : Cov lo [⟨lo, hi, o⟩] (hi + 1) := ⟨rfl, h2, rfl⟩
      have cC : Cov (hi + 1) C (s.hi + 1) ∧ ∀ k, hi < k → k ≤ s.hi → ow C k = s.h := by
        rw [← eC]
        split
        · exact ⟨⟨rfl, by show hi + 1 ≤ s.hi; omega, rfl⟩, fun k k1 k2 => by rw [ow_cons, if_pos k2]⟩
        · exact ⟨by show hi + 1 = s.hi + 1; omega, fun k k1 k2 => by omega⟩
      rw [eA, eC]
      refine ⟨cov_append cA.1 (cov_append cB (cov_append cC.1 g3)), fun k k1 k2 => ?_⟩
      have es := ow_cons s r k
      by_cases q1 : k < lo
      · rw [ow_left _ cA.1 k1 q1, cA.2 k k1 q1, if_neg (by omega), es, if_pos (by omega)]
      · rw [ow_right _ cA.1 (by omega)]
        by_cases q2 : k ≤ hi
        · have e9 : ow [⟨lo, hi, o⟩] k = o := by rw [ow_cons, if_pos q2]
          rw [ow_left _ cB (by omega) (by omega), e9, if_pos (by omega)]
        · rw [ow_right _ cB (by omega)]
          by_cases q3 : k ≤ s.hi
          · rw [ow_left _ cC.1 (by omega) (by omega), cC.2 k (by omega) q3, if_neg (by omega), es, if_pos q3]
          · rw [ow_right _ cC.1 (by omega), if_neg (by omega), es, if_neg q3]
theorem cut_asg {L : List Sg} (h : Tab L) {lo hi f o : Int} (h0 : 0 ≤ lo) (h1 : lo ≤ hi) (h2 : hi < 18446744073709551616) (o0 : 0 ≤ o) (o1 : o < 16) (hO : Own L lo hi f) : lays [] (L.flatMap (pcs lo hi o)) = asg L lo hi o := by
  obtain ⟨c1, c2⟩ := cut_cov (o := o) h.cov h.alt h0 h1 h2 hO
  obtain ⟨c3, c4⟩ := lays_cov (A := []) (show Cov 0 [] 0 from rfl) c1
  have af := asg_facts h h0 h1 h2 o0 o1
  refine cov_unique c3 af.1.cov (lays_alt trivial) af.1.alt (fun k k0 k1 => ?_)
  rw [c4 k k0 k1, if_neg (by omega), c2 k k0 k1]
  exact (af.2.1 k k0 k1).symm
end Go.Proofs.Ytbifmcadllilhaa.Rg
namespace Go.Proofs.Ytbifmcadllilhaa.Rg
open Go.RowKit Go.Shelf Go.Sort
open Go.Proofs.Ytbifmcadllilhaa.It
set_option linter.unusedVariables false
set_option maxRecDepth 100000 in
set_option maxHeartbeats 2000000 in
theorem rjoin67 (w0 w : World) (k0 : Kp Nu w0 w) (u : Value) (A : List Sg) (s : Sg) (ho : w.ownsRow w0.heap.size 82 3 u A.length (cells A)) (hlen : A.length ≤ 100000) :
    Calls Try.prog 67 #[u, .agg #[.int .u64 s.lo, .int .u64 s.hi, .int .u8 s.h]] w fun e w' => ∃ u', e = .returned u' ∧ w'.ownsRow w0.heap.size 82 3 u' (lay A s).length (cells (lay A s)) ∧ Kp Nu w0 w' ∧ Kp (fun g => some g = u.ownBlock) w w' ∧ (u'.ownBlock = u.ownBlock ∨ ∃ g, w.heap.size ≤ g ∧ u'.ownBlock = some g) := by
  have mixed : Try.prog.follows .mixedOrders = true := by kernel_rfl
  obtain ⟨i0, hi, hz0, hz1, hz2⟩ := info_parts info82z
  obtain ⟨ad, cap, hu⟩ := own_slice ho
  obtain ⟨w1, hw1⟩ : ∃ w1, w.alloc (.cells #[.int .u64 s.lo, .int .u64 s.hi, .int .u8 s.h] 82) = w1 := ⟨_, rfl⟩
  have kA : Kp Nu w w1 := by rw [← hw1]; exact Kp.alloc _ _ _
  have bA : w1.heap[w.heap.size]? = some (.cells #[.int .u64 s.lo, .int .u64 s.hi, .int .u8 s.h] 82 (0, 0)) := by rw [← hw1]; exact heap_alloc_new w _
  have ho1 := own_keep ho (fun g e => kA.block g (own_lt ho e) (fun h => h))
  obtain ⟨c0, c1, c2⟩ := cell3 bA
  have k1 := k0.andNu kA
  have hsz : w0.heap.size ≤ w1.heap.size := k1.size
  have d0 : w1.drew.cell? ⟨w.heap.size, 0, none⟩ = some (.int .u64 s.lo) := c0
  have d1 : w1.drew.cell? ⟨w.heap.size, 1, none⟩ = some (.int .u64 s.hi) := c1
  have d2 : w1.drew.cell? ⟨w.heap.size, 2, none⟩ = some (.int .u8 s.h) := c2
  have HK := hide k1
  have HKA := hide kA
  rcases List.eq_nil_or_concat A with e | ⟨A', t, e⟩
  · subst e
    subst hu
    have HD : Hid (w1.drew.ownsRow w0.heap.size 82 3 (.slice ad 0 cap) 0 (cells [])) := ho1
    clear ho ho1 k1 k0 kA bA hlen c0 c1 c2
    go_enter Try.func67, Try.ntmps67
    go_wp2_with fail
    go_region
    go_wp2_with (at_builtin; refine unhid ?_)
    refine wpList_append_own_at _ rfl _ _ 36 rfl w0.heap.size 82 i0 (.agg #[.int .u64 0, .int .u64 0, .int .u8 0]) 3 24 Try.underlying36 hi hz0 hz1 hz2 rfl (by decide) (.slice ad 0 cap) 0 (cells []) rfl (HD.out.alloc _) ⟨w1.heap.size, 0, none⟩ 1 1 [.int .u64 s.lo, .int .u64 s.hi, .int .u8 s.h] rfl rfl (cell_three_new w1.drew _ _ _ _) (by simp [Value.oneCell']) (by unfold maxLen; omega) (by omega) (by show _ ≤ (w1.drew.alloc _).heap.size; rw [World.size_alloc]; exact Nat.le_trans hsz (Nat.le_succ _)) ?_
    intro v' w4 ho hg hnil hat
    obtain ⟨ad4, cp4, ev⟩ := own_slice ho
    subst ev
    have HO : Hid (w4.ownsRow w0.heap.size 82 3 (.slice ad4 (0 + 1) cp4) (0 + 1) (cells [] ++ [.int .u64 s.lo, .int .u64 s.hi, .int .u8 s.h]) ∧ Kp Nu w0 w4 ∧ Kp (fun g => some g = (Value.slice ad 0 cap).ownBlock) w w4 ∧ ((Value.slice ad4 (0 + 1) cp4).ownBlock = (Value.slice ad 0 cap).ownBlock ∨ ∃ g, w.heap.size ≤ g ∧ (Value.slice ad4 (0 + 1) cp4).ownBlock = some g)) := by
      refine ⟨ho, ?_, ((HKA.out.drew.andAlloc _).mono (fun _ _ h => h.elim)).trans (Kp.of_grown hg) (fun _ _ e => e), hat.elim .inl (fun e => .inr ⟨_, by have := HKA.out.size; show _ ≤ (w1.drew.alloc _).heap.size; rw [World.size_alloc]; exact Nat.le_trans this (Nat.le_succ _), e⟩)⟩
      refine ((HK.out.drew.andAlloc _).trans (Kp.of_grown hg) (fun i hi e => ?_))
      have := (HD.out.lt i e.symm).1
      omega
    clear ho hg hnil hat HD HK
    go_wp2
    go_ret
    refine ⟨_, rfl, ?_, HO.out.2⟩
    exact HO.out.1
  · rw [List.concat_eq_append] at e
    subst e
    obtain ⟨q, hq⟩ : ∃ q, A'.length = q := ⟨_, rfl⟩
    have hl3 : (A' ++ [t]).length = q + 1 := by rw [← hq]; simp
    have hlt2 : (A' ++ [t])[A'.length]? = some t := by simp
    obtain ⟨r3, cap3, hu3, x0, x1, x2⟩ := row_at ho1 hlt2
    have ho2 : w1.ownsRow w0.heap.size 82 3 u (A'.length + 1) (cells (A' ++ [t])) := by rw [hq, ← hl3]; exact ho1
    obtain ⟨r4, cap4, hu4, o1, o2⟩ := own_end ho2 s.hi
    have h34 : r4 = r3 := by
      rw [hu3] at hu4
      simp only [Value.slice.injEq, Option.some.injEq, Addr.mk.injEq, and_true] at hu4
      exact hu4.1.symm
    subst h34
    rw [hq] at x1 x2 o1 o2
    rw [hl3] at hu3 hlen
    subst hu3
    have hr3 : w0.heap.size ≤ r4 := (ho1.lt r4 rfl).1
    have hq0 : (q : Int) + 1 > 0 := by omega
    have hq8 : (q : Int) + 1 ≤ 100000 := by omega
    have hq9 : (0 : Int) ≤ (q : Int) := by omega
    have ls := lay_snoc A' t s
    by_cases hh : t.h = s.h
    · rw [if_pos hh] at ls
      have heq : (t.h == s.h) = true := by simpa using hh
      have d3 : w1.drew.cell? ⟨r4, q * 3 + 1, none⟩ = some (.int .u64 t.hi) := x1
      have d4 : w1.drew.frozen? ⟨r4, q * 3 + 1, none⟩ = false := o2
      have HO : Hid ((w1.drew.setCell ⟨r4, q * 3 + 1, none⟩ (.int .u64 s.hi)).ownsRow w0.heap.size 82 3 (.slice (some ⟨r4, 0, none⟩) (q + 1) cap3) (q + 1) (cells (A' ++ [⟨t.lo, s.hi, t.h⟩])) ∧ Kp Nu w0 (w1.drew.setCell ⟨r4, q * 3 + 1, none⟩ (.int .u64 s.hi)) ∧ lay (A' ++ [t]) s = A' ++ [⟨t.lo, s.hi, t.h⟩] ∧ A'.length = q ∧ Kp (fun g => some g = (Value.slice (some ⟨r4, 0, none⟩) (q + 1) cap3).ownBlock) w (w1.drew.setCell ⟨r4, q * 3 + 1, none⟩ (.int .u64 s.hi))) :=
        ⟨o1, HK.out.drew.andSet _ _ (.inl hr3), ls, hq, (HKA.out.drew.mono (fun _ _ h => h.elim)).andSet _ _ (.inr rfl)⟩
      clear ho ho1 ho2 k1 k0 kA bA hlen o1 x0 x1 ls hh hu hu4 hlt2 hl3 c0 c1 c2 hq
      go_enter Try.func67, Try.ntmps67
      go_wp2_with fail
      go_region
      go_wp2
      go_ret
      refine ⟨_, rfl, ?_, HO.out.2.1, HO.out.2.2.2.2, .inl rfl⟩
      rw [HO.out.2.2.1, List.length_append, HO.out.2.2.2.1]
      exact HO.out.1
    · rw [if_neg hh] at ls
      have heq : (t.h == s.h) = false := by simpa using hh
      have HD : Hid (w1.drew.ownsRow w0.heap.size 82 3 (.slice (some ⟨r4, 0, none⟩) (q + 1) cap3) (q + 1) (cells (A' ++ [t]))) := by
        have h1 := ho2
        rw [hq] at h1
        exact h1
      have HE := hide (And.intro ls hq)
      clear ho ho1 ho2 k1 k0 kA bA hlen o1 x0 x1 ls hh hu hu4 hlt2 hl3 c0 c1 c2 hq
      go_enter Try.func67, Try.ntmps67
      go_wp2_with fail
      go_region
      go_wp2_with (at_builtin; refine unhid ?_)
      refine wpList_append_own_at _ rfl _ _ 36 rfl w0.heap.size 82 i0 (.agg #[.int .u64 0, .int .u64 0, .int .u8 0]) 3 24 Try.underlying36 hi hz0 hz1 hz2 rfl (by decide) (.slice (some ⟨r4, 0, none⟩) (q + 1) cap3) (q + 1) (cells (A' ++ [t])) rfl (HD.out.alloc _) ⟨w1.heap.size, 0, none⟩ 1 1 [.int .u64 s.lo, .int .u64 s.hi, .int .u8 s.h] rfl rfl (cell_three_new w1.drew _ _ _ _) (by simp [Value.oneCell']) (by unfold maxLen; omega) (by omega) (by show _ ≤ (w1.drew.alloc _).heap.size; rw [World.size_alloc]; exact Nat.le_trans hsz (Nat.le_succ _)) ?_
      intro v' w4 ho hg hnil hat
      obtain ⟨ad4, cp4, ev⟩ := own_slice ho
      subst ev
      have HO : Hid (w4.ownsRow w0.heap.size 82 3 (.slice ad4 ((q + 1) + 1) cp4) ((q + 1) + 1) (cells (A' ++ [t]) ++ [.int .u64 s.lo, .int .u64 s.hi, .int .u8 s.h]) ∧ Kp Nu w0 w4 ∧ Kp (fun g => some g = (Value.slice (some ⟨r4, 0, none⟩) (q + 1) cap3).ownBlock) w w4 ∧ ((Value.slice ad4 (q + 1 + 1) cp4).ownBlock = (Value.slice (some ⟨r4, 0, none⟩) (q + 1) cap3).ownBlock ∨ ∃ g, w.heap.size ≤ g ∧ (Value.slice ad4 (q + 1 + 1) cp4).ownBlock = some g)) := by
        refine ⟨ho, ?_, ((HKA.out.drew.andAlloc _).mono (fun _ _ h => h.elim)).trans (Kp.of_grown hg) (fun _ _ e => e), hat.elim .inl (fun e => .inr ⟨_, by have := HKA.out.size; show _ ≤ (w1.drew.alloc _).heap.size; rw [World.size_alloc]; exact Nat.le_trans this (Nat.le_succ _), e⟩)⟩
        refine ((HK.out.drew.andAlloc _).trans (Kp.of_grown hg) (fun i hi e => ?_))
        have := (HD.out.lt i e.symm).1
        omega
      clear ho hg hnil hat HD HK
      go_wp2
      go_ret
      refine ⟨_, rfl, ?_, HO.out.2⟩
      rw [HE.out.1, List.length_append, List.length_append, HE.out.2, cells_append (A' ++ [t]) [s]]
      exact HO.out.1
end Go.Proofs.Ytbifmcadllilhaa.Rg
namespace Go.Proofs.Ytbifmcadllilhaa.Rg
open Go.RowKit Go.Shelf Go.Sort
open Go.Proofs.Ytbifmcadllilhaa.It
set_option linter.unusedVariables false
/-- the pieces so far, joined -/
def cj (lo hi o : Int) (L : List Sg) (i : Nat) : List Sg := lays [] ((L.take i).flatMap (pcs lo hi o))
theorem pcs_len (lo hi o : Int) (s : Sg) : (pcs lo hi o s).length ≤ 3 := by
  unfold pcs
  split
  · simp
  · split <;> split <;> simp
theorem flat_len (lo hi o : Int) : ∀ L : List Sg, (L.flatMap (pcs lo hi o)).length ≤ 3 * L.length
  | [] => by simp
  | s :: r => by
    have h1 := pcs_len lo hi o s
    have h2 := flat_len lo hi o r
    rw [List.flatMap_cons, List.length_append, List.length_cons]
    omega
theorem cj_len (lo hi o : Int) (L : List Sg) (i : Nat) : (cj lo hi o L i).length ≤ 3 * i := by
  have h1 := lays_le ((L.take i).flatMap (pcs lo hi o)) []
  have h2 := flat_len lo hi o (L.take i)
  rw [List.length_take] at h2
  unfold cj
  simp only [List.length_nil] at h1
  omega
theorem cj_step (lo hi o : Int) {L : List Sg} {i : Nat} {s : Sg} (h : L[i]? = some s) : cj lo hi o L (i + 1) = lays (cj lo hi o L i) (pcs lo hi o s) := by
  unfold cj
  rw [List.take_add_one, h, Option.toList_some, List.flatMap_append]
  simp [lays]
/-- a list that grows by join, beside a box -/
structure Js (w : World) (B : Nat) (c : Array Value) (W : World) (u : Value) (A : List Sg) : Prop where
  own : W.ownsRow w.heap.size 82 3 u A.length (cells A)
  kp : Kp Nu w W
  box : W.heap[B]? = some (.cells c 82 (0, 0))
  ne : ∀ g, u.ownBlock = some g → g ≠ B
theorem Js.join {w W : World} {B : Nat} {c : Array Value} {u : Value} {A : List Sg} (h : Js w B c W u A) (hl : A.length ≤ 100000) (s : Sg) :
    Calls Try.prog 67 #[u, .agg #[.int .u64 s.lo, .int .u64 s.hi, .int .u8 s.h]] W fun e w' => ∃ ua n uc, e = .returned (.slice ua n uc) ∧ Hid (Js w B c w' (.slice ua n uc) (lay A s)) := by
  refine (rjoin67 w W h.kp u A s h.own hl).mono ?_
  rintro e w' ⟨u', rfl, h1, h2, h3, h4⟩
  obtain ⟨ua, uc, rfl⟩ := own_slice h1
  refine ⟨ua, _, uc, rfl, ⟨h1, h2, (h3.block B (blk_lt h.box) (fun e => h.ne B e.symm rfl)).trans h.box, fun g hg => ?_⟩⟩
  rcases h4 with e | ⟨g', hg', e⟩
  · exact h.ne g (e ▸ hg)
  · rw [e] at hg
    cases hg
    have := blk_lt h.box
    omega
theorem lay_le (A : List Sg) (s : Sg) : (lay A s).length ≤ A.length + 1 := by
  rw [lay_len]
  split <;> omega
set_option maxRecDepth 100000 in
set_option maxHeartbeats 4000000 in
theorem cut40 (w : World) (u : Value) (L : List Sg) (lo hi o : Int) (hu : Sgs w u L) (hlen : L.length ≤ 16384) (hlo : 0 ≤ lo ∧ lo < 18446744073709551616) (hhi : 0 ≤ hi ∧ hi < 18446744073709551616) :
    Calls Try.prog 40 #[u, .int .u64 lo, .int .u64 hi, .int .u8 o] w fun e w' => ∃ u', e = .returned u' ∧ w'.ownsRow w.heap.size 82 3 u' (lays [] (L.flatMap (pcs lo hi o))).length (cells (lays [] (L.flatMap (pcs lo hi o)))) ∧ Kp Nu w w' := by
  have mixed : Try.prog.follows .mixedOrders = true := by kernel_rfl
  obtain ⟨ad, cap, e1⟩ := hu.slice
  obtain ⟨N, eN⟩ : ∃ N, L.length = N := ⟨_, rfl⟩
  rw [eN] at e1 hlen
  subst e1
  have HU := hide (And.intro hu eN)
  have hNI : (N : Int) ≤ 16384 := by omega
  obtain ⟨hl0, hl1⟩ := hlo
  obtain ⟨hh0, hh1⟩ := hhi
  clear hu eN
  go_enter Try.func40, Try.ntmps40
  go_wp2
  go_loopw [9, 10] (fun ov iv wr => ∃ (i n : Nat) (oa : Option Addr) (oc : Nat), iv = .int .i64 (i : Int) ∧ ov = .slice oa n oc ∧ i ≤ N ∧ Hid ((cj lo hi o L i).length = n ∧ wr.ownsRow w.heap.size 82 3 (.slice oa n oc) n (cells (cj lo hi o L i)) ∧ Kp Nu w wr)) (fun _ iv _ => N - (intOf iv).toNat)
  case atStart => exact ⟨0, 0, none, 0, rfl, rfl, Nat.zero_le _, hide ⟨rfl, World.ownsRow_nil _ _ _ _, Kp.refl _ _⟩⟩
  case round =>
    obtain ⟨i, n, oa, oc, rfl, rfl, hi', hI⟩ := hrel
    have hi0 : (0 : Int) ≤ (i : Int) := by omega
    by_cases hlt : i < N
    · have hltI : (i : Int) < (N : Int) := by omega
      obtain ⟨x, hx⟩ : ∃ x, L[i]? = some x := ⟨_, List.getElem?_eq_getElem (by rw [HU.out.2]; exact hlt)⟩
      obtain ⟨b1, o1, rfl, k1⟩ := (HU.out.1.nu hI.out.2.2).at_ hx
      obtain ⟨x0, x1, x2, hf⟩ := k1
      have eti : (i : Int).toNat = i := by omega
      have HX := hide (cj_step lo hi o hx)
      have hcl := cj_len lo hi o L i
      have hA1 : wr.ownsRow w.heap.size 82 3 (.slice oa n oc) (cj lo hi o L i).length (cells (cj lo hi o L i)) := by
        rw [hI.out.1]; exact hI.out.2.1
      have kA := Kp.alloc wr (.cells #[.int .u64 x.lo, .int .u64 x.hi, .int .u8 x.h] 82) Nu
      have bA := heap_alloc_new wr (.cells #[.int .u64 x.lo, .int .u64 x.hi, .int .u8 x.h] 82)
      have J0 : Js w wr.heap.size #[.int .u64 x.lo, .int .u64 x.hi, .int .u8 x.h] (wr.alloc (.cells #[.int .u64 x.lo, .int .u64 x.hi, .int .u8 x.h] 82)) (.slice oa n oc) (cj lo hi o L i) := ⟨by
          have h1 := own_keep hA1 (fun g e => kA.block g (own_lt hA1 e) (fun h => h))
          exact h1, hI.out.2.2.andNu kA, bA, fun g hg e => by have := own_lt hA1 hg; omega⟩
      have HJ0 := hide J0
      obtain ⟨c0, c1, c2⟩ := cell3 bA
      have hcl2 : (cj lo hi o L i).length ≤ 50000 := by omega
      have HCL := hide hcl2
      generalize cj lo hi o L i = A at HJ0 HX HCL
      clear hx hA1 kA bA J0 hcl2 hcl hI
      obtain ⟨hf0, hf1, hf2, hf3, hf4, hf5⟩ := hf
      by_cases q1 : x.hi < lo
      · have d1 : decide (x.hi < lo) = true := by simpa using q1
        have HP : Hid (pcs lo hi o x = [x]) := by show _ = _; unfold pcs; rw [if_pos (.inl q1)]
        clear q1
        go_wp2_with fail
        refine (HJ0.out.join (by have h0 := HCL.out; omega) x).mono ?_
        rintro e W1 ⟨a1, n1, u1, rfl, HJ1⟩
        obtain ⟨z00, z01, z02⟩ := cell3 HJ1.out.box
        go_wp2
        refine ⟨⟨i + 1, n1, a1, u1, by go_num, rfl, by omega, hide ?_⟩, by simp [intOf]; omega⟩
        rw [HX.out, HP.out]
        have h1 := HJ1.out.own
        obtain ⟨_, _, e⟩ := own_slice h1
        cases e
        exact ⟨rfl, h1, HJ1.out.kp⟩
      have d1 : decide (x.hi < lo) = false := by simpa using q1
      by_cases q2 : x.lo > hi
      · have d2 : decide (x.lo > hi) = true := by simpa using q2
        have HP : Hid (pcs lo hi o x = [x]) := by show _ = _; unfold pcs; rw [if_pos (.inr q2)]
        clear q1 q2
        go_wp2_with fail
        refine (HJ0.out.join (by have h0 := HCL.out; omega) x).mono ?_
        rintro e W1 ⟨a1, n1, u1, rfl, HJ1⟩
        obtain ⟨z00, z01, z02⟩ := cell3 HJ1.out.box
        go_wp2
        refine ⟨⟨i + 1, n1, a1, u1, by go_num, rfl, by omega, hide ?_⟩, by simp [intOf]; omega⟩
        rw [HX.out, HP.out]
        have h1 := HJ1.out.own
        obtain ⟨_, _, e⟩ := own_slice h1
        cases e
        exact ⟨rfl, h1, HJ1.out.kp⟩
      have d2 : decide (x.lo > hi) = false := by simpa using q2
      by_cases q3 : x.lo < lo
      · have d3 : decide (x.lo < lo) = true := by simpa using q3
        by_cases q4 : x.hi > hi
        · skip
          have d4 : decide (x.hi > hi) = true := by simpa using q4
          have ew : IntKind.u64.wrap (lo - 1) = lo - 1 := by rw [IntKind.wrap_u64]; omega
          have ew2 : IntKind.u64.wrap (hi + 1) = hi + 1 := by rw [IntKind.wrap_u64]; omega
          have HP : Hid (pcs lo hi o x = [⟨x.lo, lo - 1, x.h⟩, ⟨lo, hi, o⟩, ⟨hi + 1, x.hi, x.h⟩]) := by show _ = _; unfold pcs; rw [if_neg (by omega), if_pos q3, if_pos q4]; rfl
          clear q1 q2 q3 q4
          go_wp2_with fail
          refine (HJ0.out.join (by have h0 := HCL.out; omega) ⟨x.lo, lo - 1, x.h⟩).mono ?_
          rintro e W1 ⟨a1, n1, u1, rfl, HJ1⟩
          obtain ⟨z00, z01, z02⟩ := cell3 HJ1.out.box
          go_wp2_with fail
          refine (HJ1.out.join (by have h1 := lay_le A ⟨x.lo, lo - 1, x.h⟩; have h0 := HCL.out; omega) ⟨lo, hi, o⟩).mono ?_
          rintro e W2 ⟨a2, n2, u2, rfl, HJ2⟩
          obtain ⟨z10, z11, z12⟩ := cell3 HJ2.out.box
          go_wp2_with fail
          refine (HJ2.out.join (by have h1 := lay_le A ⟨x.lo, lo - 1, x.h⟩; have h2 := lay_le (lay (A) ⟨x.lo, lo - 1, x.h⟩) ⟨lo, hi, o⟩; have h0 := HCL.out; omega) ⟨hi + 1, x.hi, x.h⟩).mono ?_
          rintro e W3 ⟨a3, n3, u3, rfl, HJ3⟩
          obtain ⟨z20, z21, z22⟩ := cell3 HJ3.out.box
          go_wp2
          refine ⟨⟨i + 1, n3, a3, u3, by go_num, rfl, by omega, hide ?_⟩, by simp [intOf]; omega⟩
          rw [HX.out, HP.out]
          have h1 := HJ3.out.own
          obtain ⟨_, _, e⟩ := own_slice h1
          cases e
          exact ⟨rfl, h1, HJ3.out.kp⟩
        · skip
          have d4 : decide (x.hi > hi) = false := by simpa using q4
          have ew : IntKind.u64.wrap (lo - 1) = lo - 1 := by rw [IntKind.wrap_u64]; omega
          have HP : Hid (pcs lo hi o x = [⟨x.lo, lo - 1, x.h⟩, ⟨lo, hi, o⟩]) := by show _ = _; unfold pcs; rw [if_neg (by omega), if_pos q3, if_neg q4]; rfl
          clear q1 q2 q3 q4
          go_wp2_with fail
          refine (HJ0.out.join (by have h0 := HCL.out; omega) ⟨x.lo, lo - 1, x.h⟩).mono ?_
          rintro e W1 ⟨a1, n1, u1, rfl, HJ1⟩
          obtain ⟨z00, z01, z02⟩ := cell3 HJ1.out.box
          go_wp2_with fail
          refine (HJ1.out.join (by have h1 := lay_le A ⟨x.lo, lo - 1, x.h⟩; have h0 := HCL.out; omega) ⟨lo, hi, o⟩).mono ?_
          rintro e W2 ⟨a2, n2, u2, rfl, HJ2⟩
          obtain ⟨z10, z11, z12⟩ := cell3 HJ2.out.box
          go_wp2
          refine ⟨⟨i + 1, n2, a2, u2, by go_num, rfl, by omega, hide ?_⟩, by simp [intOf]; omega⟩
          rw [HX.out, HP.out]
          have h1 := HJ2.out.own
          obtain ⟨_, _, e⟩ := own_slice h1
          cases e
          exact ⟨rfl, h1, HJ2.out.kp⟩
      · have d3 : decide (x.lo < lo) = false := by simpa using q3
        by_cases q4 : x.hi > hi
        · skip
          have d4 : decide (x.hi > hi) = true := by simpa using q4
          have ew2 : IntKind.u64.wrap (hi + 1) = hi + 1 := by rw [IntKind.wrap_u64]; omega
          have HP : Hid (pcs lo hi o x = [⟨lo, hi, o⟩, ⟨hi + 1, x.hi, x.h⟩]) := by show _ = _; unfold pcs; rw [if_neg (by omega), if_neg q3, if_pos q4]; rfl
          clear q1 q2 q3 q4
          go_wp2_with fail
          refine (HJ0.out.join (by have h0 := HCL.out; omega) ⟨lo, hi, o⟩).mono ?_
          rintro e W1 ⟨a1, n1, u1, rfl, HJ1⟩
          obtain ⟨z00, z01, z02⟩ := cell3 HJ1.out.box
          go_wp2_with fail
          refine (HJ1.out.join (by have h1 := lay_le A ⟨lo, hi, o⟩; have h0 := HCL.out; omega) ⟨hi + 1, x.hi, x.h⟩).mono ?_
          rintro e W2 ⟨a2, n2, u2, rfl, HJ2⟩
          obtain ⟨z10, z11, z12⟩ := cell3 HJ2.out.box
          go_wp2
          refine ⟨⟨i + 1, n2, a2, u2, by go_num, rfl, by omega, hide ?_⟩, by simp [intOf]; omega⟩
          rw [HX.out, HP.out]
          have h1 := HJ2.out.own
          obtain ⟨_, _, e⟩ := own_slice h1
          cases e
          exact ⟨rfl, h1, HJ2.out.kp⟩
        · skip
          have d4 : decide (x.hi > hi) = false := by simpa using q4
          have HP : Hid (pcs lo hi o x = [⟨lo, hi, o⟩]) := by show _ = _; unfold pcs; rw [if_neg (by omega), if_neg q3, if_neg q4]; rfl
          clear q1 q2 q3 q4
          go_wp2_with fail
          refine (HJ0.out.join (by have h0 := HCL.out; omega) ⟨lo, hi, o⟩).mono ?_
          rintro e W1 ⟨a1, n1, u1, rfl, HJ1⟩
          obtain ⟨z00, z01, z02⟩ := cell3 HJ1.out.box
          go_wp2
          refine ⟨⟨i + 1, n1, a1, u1, by go_num, rfl, by omega, hide ?_⟩, by simp [intOf]; omega⟩
          rw [HX.out, HP.out]
          have h1 := HJ1.out.own
          obtain ⟨_, _, e⟩ := own_slice h1
          cases e
          exact ⟨rfl, h1, HJ1.out.kp⟩
    · have hge : ¬ (i : Int) < (N : Int) := by omega
      obtain ⟨h1, h2, h3⟩ := hI.out
      have e : cj lo hi o L i = lays [] (L.flatMap (pcs lo hi o)) := by unfold cj; rw [List.take_of_length_le (by rw [HU.out.2]; omega)]
      rw [e] at h1 h2
      have HO := hide (And.intro h1 (And.intro h2 h3))
      clear h1 h2 h3 e hI
      go_wp2
      go_ret
      refine ⟨_, rfl, ?_, HO.out.2.2⟩
      rw [HO.out.1]
      exact HO.out.2.1
end Go.Proofs.Ytbifmcadllilhaa.Rg
