import Derived.Test.YtffcnonhhfhlhaaRdB
namespace Go.Proofs.Ytffcnonhhfhlhaa.Rg
open Go.RowKit Go.Shelf Go.Sort
open Go.Proofs.Ytffcnonhhfhlhaa.It
set_option linter.unusedVariables false

/-- the table while it is led: below m it is the other's -/
structure Mx (A E Lc : List Sg) (m : Int) : Prop where
  tab : Tab Lc
  own : ∀ k, 0 ≤ k → k < 18446744073709551616 → ow Lc k = if k < m then ow E k else ow A k
theorem Mx.len {A E Lc : List Sg} {m : Int} (h : Mx A E Lc m) (hA : Tab A) (hE : Tab E) (m0 : 0 ≤ m) : Lc.length ≤ A.length + E.length := by
  by_cases e0 : m = 0
  · have : Lc = A := cov_unique h.tab.cov hA.cov h.tab.alt hA.alt fun k k0 k1 => by rw [h.own k k0 k1, if_neg (by omega)]
    rw [this]; omega
  by_cases e1 : m < 18446744073709551616
  · obtain ⟨a1, a2, a3, a4, a5⟩ := low_facts hE m0 e1
    obtain ⟨b1, b2, b3, b4, b5, b6⟩ := high_facts hA (hi := m - 1) (by omega) (by omega)
    rw [show m - 1 + 1 = m by omega] at b1 b4
    obtain ⟨c1, c2⟩ := lays_cov (A := []) (a := 0) (m := 0) rfl a1
    obtain ⟨d1, d2⟩ := lays_cov c1 b1
    have : Lc = lays (lays [] (lowP E m)) (highP A (m - 1)) := cov_unique h.tab.cov d1 h.tab.alt (lays_alt (lays_alt trivial)) fun k k0 k1 => by
      rw [h.own k k0 k1, d2 k k0 k1]
      by_cases e : k < m
      · rw [if_pos e, if_pos e, c2 k k0 e, if_neg (by omega), a2 k k0 e]
      · rw [if_neg e, if_neg e, b2 k (by omega) k1]
    have l1 := lays_le (highP A (m - 1)) (lays [] (lowP E m))
    have l2 := lays_le (lowP E m) []
    have l3 := (a4 (by omega)).1
    have l4 := (b4 (by omega)).1
    have l5 := hE.plc_lt (k := m - 1) (by omega) (by omega)
    rw [this]
    simp at l2
    omega
  · have : Lc = E := cov_unique h.tab.cov hE.cov h.tab.alt hE.alt fun k k0 k1 => by rw [h.own k k0 k1, if_pos (by omega)]
    rw [this]; omega
theorem rise_get : ∀ {C : List Cg}, Rise C → (∀ c ∈ C, c.lo ≤ c.hi) → ∀ {i j : Nat} {c d : Cg}, C[i]? = some c → C[j]? = some d → i < j → c.hi < d.lo
  | [], h, hl, i, j, c, d, h1, h2, hij => by simp at h1
  | [x], h, hl, i, j, c, d, h1, h2, hij => by
    cases j with
    | zero => omega
    | succ j => simp at h2
  | x :: y :: r, h, hl, 0, 0, c, d, h1, h2, hij => by omega
  | x :: y :: r, h, hl, i + 1, 0, c, d, h1, h2, hij => by omega
  | x :: y :: r, h, hl, 0, 1, c, d, h1, h2, hij => by
    simp at h1 h2
    subst h1 h2
    exact h.1
  | x :: y :: r, h, hl, 0, j + 2, c, d, h1, h2, hij => by
    have ih := rise_get (C := y :: r) h.2 (fun c hc => hl c (List.mem_cons_of_mem _ hc)) (i := 0) (j := j + 1) (c := y) (d := d) rfl (by simpa using h2) (by omega)
    have hy := hl y (by simp)
    simp at h1
    subst h1
    have := h.1
    omega
  | x :: y :: r, h, hl, i + 1, j + 1, c, d, h1, h2, hij =>
    rise_get (C := y :: r) h.2 (fun c hc => hl c (List.mem_cons_of_mem _ hc)) (by simpa using h1) (by simpa using h2) (by omega)
def cut (C : List Cg) : Nat → Int
  | 0 => 0
  | i + 1 => ((C[i]?).map (fun c => c.hi + 1)).getD 0
theorem cut_at {C : List Cg} {i : Nat} {c : Cg} (h : C[i]? = some c) : cut C (i + 1) = c.hi + 1 := by simp [cut, h]
section
variable {A E : List Sg} {C : List Cg} (hC : Chs A E 18446744073709551616 C)
include hC
theorem Chs.cut0 (i : Nat) : 0 ≤ cut C i := by
  cases i with
  | zero => exact Int.le_refl _
  | succ i =>
    cases h : C[i]? with
    | none => simp [cut, h]
    | some c =>
      rw [cut_at h]
      have := hC.all c (List.mem_of_getElem? h)
      omega
theorem Chs.below {i j : Nat} {c : Cg} (h : C[j]? = some c) (hij : j < i) (hi : i ≤ C.length) : c.hi < cut C i := by
  cases i with
  | zero => omega
  | succ i =>
    obtain ⟨d, hd⟩ : ∃ d, C[i]? = some d := ⟨_, List.getElem?_eq_getElem (by omega)⟩
    rw [cut_at hd]
    by_cases e : j = i
    · subst e; rw [h] at hd; cases hd; omega
    · have h1 := rise_get hC.rise (fun c hc => (hC.all c hc).2.1) h hd (by omega)
      have h2 := (hC.all d (List.mem_of_getElem? hd)).2.1
      omega
theorem Chs.above {i : Nat} {c : Cg} (h : C[i]? = some c) : cut C i ≤ c.lo := by
  have h0 := (hC.all c (List.mem_of_getElem? h)).1
  cases i with
  | zero => exact h0
  | succ i =>
    have hl := (List.getElem?_eq_some_iff.1 h).1
    obtain ⟨d, hd⟩ : ∃ d, C[i]? = some d := ⟨_, List.getElem?_eq_getElem (by omega)⟩
    rw [cut_at hd]
    have h1 := rise_get hC.rise (fun c hc => (hC.all c hc).2.1) hd h (by omega)
    omega
theorem Chs.step (hA : Tab A) (hE : Tab E) {Lc : List Sg} {i : Nat} {c : Cg} (hc : C[i]? = some c) (h : Mx A E Lc (cut C i)) :
    Mx A E (asg Lc c.lo c.hi c.t) (cut C (i + 1)) ∧ (Lc.length : Int) + costB Lc c.lo c.hi c.t ≤ A.length + E.length ∧ (∀ k, c.lo ≤ k → k ≤ c.hi → ow Lc k = c.f) ∧ (∀ k, c.lo ≤ k → k ≤ c.hi → ow E k = c.t) ∧ 0 ≤ c.lo ∧ c.lo ≤ c.hi ∧ c.hi < 18446744073709551616 ∧ 0 ≤ c.t ∧ c.t < 16 ∧ c.f ≠ c.t := by
  obtain ⟨a1, a2, a3, a4, a5, a6⟩ := hC.all c (List.mem_of_getElem? hc)
  have ht := hE.ow16 (k := c.lo) a1 (by omega)
  rw [(a5 c.lo (Int.le_refl _) a2).2] at ht
  have hab := hC.above hc
  have hil := (List.getElem?_eq_some_iff.1 hc).1
  obtain ⟨t1, t2, t3⟩ := asg_facts h.tab a1 a2 a3 ht.1 ht.2
  have hm : Mx A E (asg Lc c.lo c.hi c.t) (cut C (i + 1)) := by
    refine ⟨t1, fun k k0 k1 => ?_⟩
    rw [t2 k k0 k1, cut_at hc]
    by_cases e : c.lo ≤ k ∧ k ≤ c.hi
    · rw [if_pos e, if_pos (by omega), (a5 k e.1 e.2).2]
    · rw [if_neg e, h.own k k0 k1]
      by_cases e2 : k < c.hi + 1
      · rw [if_pos e2]
        by_cases e3 : k < cut C i
        · rw [if_pos e3]
        · rw [if_neg e3]
          refine Classical.byContradiction fun hne => ?_
          obtain ⟨d, hd, d1, d2⟩ := hC.cover k k0 k1 hne
          obtain ⟨j, hj⟩ := List.mem_iff_getElem?.1 hd
          rcases Nat.lt_trichotomy j i with h1 | h1 | h1
          · have := hC.below hj h1 (by omega); omega
          · subst h1; rw [hc] at hj; cases hj; omega
          · have := rise_get hC.rise (fun c hc => (hC.all c hc).2.1) hc hj h1; omega
      · rw [if_neg e2, if_neg (by omega)]
  refine ⟨hm, ?_, fun k k0 k1 => ?_, fun k k0 k1 => (a5 k k0 k1).2, a1, a2, a3, ht.1, ht.2, a4⟩
  · have := hm.len hA hE (hC.cut0 _)
    omega
  · rw [h.own k (by omega) (by omega), if_neg (by omega), (a5 k k0 k1).1]
theorem Chs.done (hE : Tab E) {Lc : List Sg} (h : Mx A E Lc (cut C C.length)) : Lc = E :=
  cov_unique h.tab.cov hE.cov h.tab.alt hE.alt fun k k0 k1 => by
    rw [h.own k k0 k1]
    by_cases e : k < cut C C.length
    · rw [if_pos e]
    · rw [if_neg e]
      refine Classical.byContradiction fun hne => ?_
      obtain ⟨d, hd, d1, d2⟩ := hC.cover k k0 k1 hne
      obtain ⟨j, hj⟩ := List.mem_iff_getElem?.1 hd
      have := hC.below hj (List.getElem?_eq_some_iff.1 hj).1 (Nat.le_refl _)
      omega
omit hC in
theorem Chs.start (hA : Tab A) : Mx A E A (cut C 0) := ⟨hA, fun k k0 k1 => by rw [if_neg (by simp [cut]; omega)]⟩
theorem Chs.alike (hA : Tab A) (hE : Tab E) : C.length = 0 ↔ A = E := by
  constructor
  · intro h
    have h1 : Mx A E A (cut C 0) := Chs.start hA
    rw [← h] at h1
    exact hC.done hE h1
  · intro h
    subst h
    cases C with
    | nil => rfl
    | cons c r =>
      obtain ⟨a1, a2, a3, a4, a5, a6⟩ := hC.all c (by simp)
      have := a5 c.lo (Int.le_refl _) a2
      exact absurd (this.1.symm.trans this.2) a4
/-- a change and the one ahead of it -/
theorem Chs.pair {i : Nat} {d c : Cg} (hd : C[i]? = some d) (hc : C[i + 1]? = some c) : d.hi < c.lo ∧ ¬ (d.hi + 1 = c.lo ∧ d.f = c.f ∧ d.t = c.t) := by
  have h1 := rise_get hC.rise (fun c hc => (hC.all c hc).2.1) hd hc (by omega)
  refine ⟨h1, fun ⟨e1, e2, e3⟩ => ?_⟩
  obtain ⟨a1, a2, a3, a4, a5, a6⟩ := hC.all d (List.mem_of_getElem? hd)
  obtain ⟨b1, b2, b3, b4, b5, b6⟩ := hC.all c (List.mem_of_getElem? hc)
  have h2 := b5 (d.hi + 1) (by omega) (by omega)
  rcases a6 (by omega) with h3 | h3
  · exact h3 (h2.1.trans e2.symm)
  · exact h3 (h2.2.trans e3.symm)
end

set_option maxRecDepth 100000 in
set_option maxHeartbeats 1000000 in
theorem same_false (w : World) (u1 u2 : Value) (L M : List Sg) (h1 : Rs w u1 L) (h2 : Rs w u2 M) (hl : L.length ≤ 8192) (hne : L ≠ M) :
    Calls Try.prog 20 #[u1, u2] w fun e w' => e = .returned (.bool false) ∧ Kp Nu w w' := by
  have mixed : Try.prog.follows .mixedOrders = true := by kernel_rfl
  obtain ⟨r1, o1, c1, e1, x1⟩ := h1
  obtain ⟨r2, o2, c2, e2, x2⟩ := h2
  have HX1 := hide x1
  have HX2 := hide x2
  obtain ⟨N, hN⟩ : ∃ N, L.length = N := ⟨_, rfl⟩
  obtain ⟨N', hN'⟩ : ∃ N', M.length = N' := ⟨_, rfl⟩
  have HN := hide hN
  have HN' := hide hN'
  have HNE := hide hne
  rw [hN] at e1 hl
  rw [hN'] at e2
  subst e1 e2
  clear x1 x2 hN hN' hne
  by_cases hNN : N = N'
  · subst hNN
    have z0 : ((N : Int) != (N : Int)) = false := by simp
    go_enter Try.func20, Try.ntmps20
    go_wp2_with fail
    go_loopw [5] (fun i wr => ∃ k : Nat, i = .int .i64 (k : Int) ∧ k ≤ N ∧ Hid (L.take k = M.take k ∧ Kp Nu w wr)) (fun i _ => N - (intOf i).toNat)
    case atStart => exact ⟨0, rfl, Nat.zero_le _, ⟨rfl, Kp.refl _ _⟩⟩
    case round =>
      obtain ⟨k, rfl, hk, hI⟩ := hrel
      by_cases hlt : k < N
      · have hkL : k < L.length := by rw [HN.out]; exact hlt
        have hkM : k < M.length := by rw [HN'.out]; exact hlt
        obtain ⟨s, hs⟩ : ∃ s, L[k]? = some s := ⟨_, List.getElem?_eq_getElem hkL⟩
        obtain ⟨t, ht⟩ : ∃ t, M[k]? = some t := ⟨_, List.getElem?_eq_getElem hkM⟩
        obtain ⟨a0, a1, a2⟩ := HX1.out k s hs
        obtain ⟨b0, b1, b2⟩ := HX2.out k t ht
        have key : ∀ {a : Addr} {x : Value}, w.cell? a = some x → wr.drew.cell? a = some x := fun h => (World.cell?_of_block (hI.out.2.block _ (World.block_lt_of_cell? w _ h) (fun h => h))).trans h
        replace a0 := key a0; replace a1 := key a1; replace a2 := key a2
        replace b0 := key b0; replace b1 := key b1; replace b2 := key b2
        have hltI : (k : Int) < (N : Int) := by omega
        have hk0 : (0 : Int) ≤ (k : Int) := by omega
        have hkN : (k : Int) ≤ 8192 := by omega
        have HF : Hid (Kp Nu w wr.drew) := hI.out.2.drew
        by_cases hst : s = t
        · subst hst
          have HT : Hid (L.take (k + 1) = M.take (k + 1)) := by
            show _ = _
            rw [List.take_add_one, List.take_add_one, hs, ht, hI.out.1]
          have y0 : (s.lo == s.lo) = true := by simp
          have y1 : (s.hi == s.hi) = true := by simp
          have y2 : (s.h == s.h) = true := by simp
          clear hI hs ht hkL hkM key
          go_wp2_with fail
          go_region
          go_wp2
          go_roundw
          case rel => exact ⟨k + 1, by go_num, by omega, ⟨HT.out, HF.out⟩⟩
          case measure => simp [intOf]; omega
        · by_cases q0 : s.lo = t.lo
          · by_cases q1 : s.hi = t.hi
            · have q2 : s.h ≠ t.h := fun q2 => hst (by cases s; cases t; simp at q0 q1 q2 ⊢; exact ⟨q0, q1, q2⟩)
              clear hI hs ht hkL hkM key
              go_wp2_with fail
              go_region
              go_wp2
              go_ret
              exact ⟨rfl, HF.out⟩
            · clear hI hs ht hkL hkM key
              go_wp2_with fail
              go_region
              go_wp2
              go_ret
              exact ⟨rfl, HF.out⟩
          · clear hI hs ht hkL hkM key
            go_wp2_with fail
            go_region
            go_wp2
            go_ret
            exact ⟨rfl, HF.out⟩
      · have hge : ¬ (k : Int) < (N : Int) := by omega
        exfalso
        obtain rfl : k = N := by omega
        have h := hI.out.1
        rw [List.take_of_length_le (by rw [HN.out]; omega), List.take_of_length_le (by rw [HN'.out]; omega)] at h
        exact HNE.out h
  · have z0 : ((N : Int) != (N' : Int)) = true := by simpa using (by omega : ¬ (N : Int) = (N' : Int))
    go_enter Try.func20, Try.ntmps20
    go_wp2
    go_ret
    exact ⟨rfl, Kp.refl _ _⟩
end Go.Proofs.Ytffcnonhhfhlhaa.Rg
