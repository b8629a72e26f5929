import Derived.Test.YtcbonbeogdgogaaLkC
namespace Go.Proofs.Ytcbonbeogdgogaa.Li
open Go.RowKit
set_option linter.unusedVariables false
/-- how many places the table has -/
def Mx (L : List Ca) : Nat := (L.length + 1) * 2 ^ L.length
theorem mx_le {L : List Ca} (h : L.length ≤ 16) : Mx L ≤ 1114112 := by
  unfold Mx
  exact Nat.mul_le_mul (show L.length + 1 ≤ 17 by omega) (two16 h)
def upd8 (dd : Nat → Nat) (k v : Nat) : Nat → Nat := fun x => if x = k then v else dd x
/-- the document's table in memory -/
structure Tm (w0 w : World) (b bt : Nat) (u : Value) (L : List Ca) (dd : Nat → Nat) : Prop where
  kp : Kp Nu w0 w
  box : w.heap[b]? = some (.cells #[u, .slice (some ⟨bt, 0, none⟩) (Mx L) (Mx L)] 115 (0, 0))
  can : ∃ cur : Array Value, w.heap[bt]? = some (.cells cur 5 (0, 0)) ∧ ∀ k, k < Mx L → cur[k]? = some (.int .u8 (dd k : Int))
  lo : w0.heap.size ≤ b ∧ w0.heap.size ≤ bt ∧ b ≠ bt
  le : ∀ k, dd k ≤ 2
theorem Tm.nu {w0 w w' : World} {b bt : Nat} {u : Value} {L : List Ca} {dd : Nat → Nat} (h : Tm w0 w b bt u L dd) (k : Kp Nu w w') : Tm w0 w' b bt u L dd := by
  obtain ⟨cur, h1, h2⟩ := h.can
  exact ⟨h.kp.andNu k, box_k h.box k, ⟨cur, box_k h1 k, h2⟩, h.lo, h.le⟩
theorem Tm.at_ {w0 w : World} {b bt : Nat} {u : Value} {L : List Ca} {dd : Nat → Nat} (h : Tm w0 w b bt u L dd) {k : Nat} (hk : k < Mx L) : w.cell? ⟨bt, k, none⟩ = some (.int .u8 (dd k : Int)) ∧ w.frozen? ⟨bt, k, none⟩ = false := by
  obtain ⟨cur, h1, h2⟩ := h.can
  exact ⟨cellAt h1 k (h2 k hk), free3 h1 k⟩
theorem Tm.set {w0 w : World} {b bt : Nat} {u : Value} {L : List Ca} {dd : Nat → Nat} (h : Tm w0 w b bt u L dd) {k v : Nat} (hk : k < Mx L) (hv : v ≤ 2) : Tm w0 (w.setCell ⟨bt, k, none⟩ (.int .u8 (v : Int))) b bt u L (upd8 dd k v) := by
  obtain ⟨cur, h1, h2⟩ := h.can
  have hl := h.lo
  refine ⟨h.kp.andSet _ _ (.inl hl.2.1), ((Kp.setCell w ⟨bt, k, none⟩ _).block b (blk_lt h.box) (fun e => hl.2.2 e)).trans h.box, ⟨_, set3 h1 k _, fun q hq => ?_⟩, hl, fun q => ?_⟩
  · have hkc : k < cur.size := by
      have := h2 k hk
      rcases Nat.lt_or_ge k cur.size with hlt | hge
      · exact hlt
      · rw [Array.getElem?_eq_none hge] at this; cases this
    by_cases e : q = k
    · subst e
      rw [Array.getElem?_setIfInBounds_self_of_lt hkc]
      simp [upd8]
    · rw [Array.getElem?_setIfInBounds_ne (fun e' => e e'.symm), h2 q hq]
      simp [upd8, e]
  · unfold upd8
    split
    · exact hv
    · exact h.le q
/-- what stands in the table from a set on is right -/
def Snd (L : List Ca) (dd : Nat → Nat) (m : Nat) : Prop := ∀ st s, m ≤ st → st < 2 ^ L.length → s ≤ L.length → (dd (st * (L.length + 1) + s) = 1 → Can (schOf L) st s) ∧ (dd (st * (L.length + 1) + s) = 2 → ¬ Can (schOf L) st s)
theorem ix_lt {N st st' s : Nat} (h : st < st') (hs : s ≤ N) : st * (N + 1) + s < st' * (N + 1) := by
  have h1 : (st + 1) * (N + 1) ≤ st' * (N + 1) := Nat.mul_le_mul_right _ h
  have h2 : (st + 1) * (N + 1) = st * (N + 1) + (N + 1) := Nat.succ_mul _ _
  omega
theorem ix_mx {L : List Ca} {st s : Nat} (h : st < 2 ^ L.length) (hs : s ≤ L.length) : st * (L.length + 1) + s < Mx L := by
  have := ix_lt h hs
  unfold Mx
  rw [Nat.mul_comm (L.length + 1)]
  exact this
theorem or_add {st i : Nat} (h : st.testBit i = false) (hs : st < 65536) (hi : i < 16) : st + 2 ^ i = st ||| 2 ^ i := by
  have h2 : 2 ^ i < 65536 := Nat.lt_of_lt_of_le (Nat.pow_lt_pow_right (by decide) hi) (by decide)
  have hand : BitVec.ofNat 32 st &&& BitVec.ofNat 32 (2 ^ i) = 0#32 := by
    apply BitVec.eq_of_toNat_eq
    rw [BitVec.toNat_and, BitVec.toNat_ofNat, BitVec.toNat_ofNat, Nat.mod_eq_of_lt (by omega), Nat.mod_eq_of_lt (by omega)]
    show st &&& 2 ^ i = 0
    apply Nat.eq_of_testBit_eq
    intro j
    rw [Nat.testBit_and, Nat.testBit_two_pow]
    by_cases e : i = j
    · subst e; simp [h]
    · simp [e]
  have e := congrArg BitVec.toNat (BitVec.add_eq_or_of_and_eq_zero _ _ hand)
  rw [BitVec.toNat_add, BitVec.toNat_or, BitVec.toNat_ofNat, BitVec.toNat_ofNat, Nat.mod_eq_of_lt (by omega : st < 2 ^ 32), Nat.mod_eq_of_lt (by omega : 2 ^ i < 2 ^ 32), Nat.mod_eq_of_lt (by omega)] at e
  exact e
/-- where find's rounds stand -/
structure FI (w0 w wr : World) (b bt : Nat) (u : Value) (L : List Ca) (dd di : Nat → Nat) (st s i : Nat) : Prop where
  tm : Tm w0 wr b bt u L di
  kp : Kp (fun x => x = bt) w wr
  low : ∀ k, k < (st + 1) * (L.length + 1) → k ≠ st * (L.length + 1) + s → di k = dd k
  snd : Snd L di (st + 1)
  one : di (st * (L.length + 1) + s) = 1 → Can (schOf L) st s
  two : di (st * (L.length + 1) + s) = 2 → ¬ subs (schOf L).must st ∧ ∀ j, j < i → (schOf L).may st j → ∀ a, (schOf L).T j s = some a → ¬ Can (schOf L) (st ||| 2 ^ j) a
  any : di (st * (L.length + 1) + s) = 1 ∨ di (st * (L.length + 1) + s) = 2
/-- what find answers -/
def FiR (w0 w : World) (b bt : Nat) (u : Value) (L : List Ca) (dd : Nat → Nat) (st s : Nat) (e : Ending) (w' : World) : Prop :=
  ∃ (r : Bool) (d2 : Nat → Nat), e = .returned (.bool r) ∧ Tm w0 w' b bt u L d2 ∧ Kp (fun x => x = bt) w w' ∧ Snd L d2 st ∧ (∀ k, k < st * (L.length + 1) → d2 k = dd k) ∧ (r = true ↔ Can (schOf L) st s)
theorem FI.fin {w0 w wr : World} {b bt : Nat} {u : Value} {L : List Ca} {dd di : Nat → Nat} {st s i : Nat} (h : FI w0 w wr b bt u L dd di st s i) (hS : Snd L dd st) (hst : st < 2 ^ L.length) (hs : s ≤ L.length) (hend : di (st * (L.length + 1) + s) = 2 → i = L.length) :
    FiR w0 w b bt u L dd st s (.returned (.bool (decide (di (st * (L.length + 1) + s) = 1)))) wr := by
  have no2 : di (st * (L.length + 1) + s) = 2 → ¬ Can (schOf L) st s := fun h2 hc => by
    obtain ⟨q1, q2⟩ := h.two h2
    have hi := hend h2
    cases hc with
    | done q => exact q1 q
    | step k a q3 q4 q5 => exact q2 k (by rw [hi]; exact q3.1) q3 a q4 q5
  refine ⟨_, di, rfl, h.tm, h.kp, fun st2 s2 h1 h2 h3 => ?_, fun k hk => ?_, ?_⟩
  · by_cases e : st2 = st
    · subst e
      by_cases e2 : s2 = s
      · subst e2
        exact ⟨h.one, no2⟩
      · have hlt := ix_lt (N := L.length) (Nat.lt_succ_self st2) h3
        rw [h.low (st2 * (L.length + 1) + s2) hlt (by omega)]
        exact hS st2 s2 h1 h2 h3
    · exact h.snd st2 s2 (by omega) h2 h3
  · have h1 : st * (L.length + 1) ≤ (st + 1) * (L.length + 1) := Nat.mul_le_mul_right _ (Nat.le_succ _)
    exact h.low k (by omega) (by omega)
  · rw [decide_eq_true_eq]
    exact ⟨h.one, fun hc => by
      rcases h.any with q | q
      · exact q
      · exact absurd hc (no2 q)⟩
end Go.Proofs.Ytcbonbeogdgogaa.Li
