import Derived.WalkKit
import Derived.Test.YtchealdgncgjoaaRows
import Derived.ProofKit
import Derived.Below
import Derived.Laws.AppendOwn
import Derived.Maps.AppendAt
import Derived.Maps.OwnSet
import Derived.Maps.RangeWalk
import Derived.OwnWalk
import Derived.DeepKeys4
import Derived.Deep.RegionHeld
import Derived.Deep.Draws
namespace Go.Proofs.Ytchealdgncgjoaa.St
set_option linter.unusedVariables false
set_option linter.unusedSimpArgs false

inductive T (α : Type) where
  | nil : T α
  | node (l : T α) (p : α) (r : T α) : T α
namespace T
variable {α : Type}
def sz : T α → Nat
  | .nil => 0
  | .node l _ r => l.sz + 1 + r.sz
def ht : T α → Nat
  | .nil => 0
  | .node l _ r => max l.ht r.ht + 1
def xs : T α → List α
  | .nil => []
  | .node l p r => l.xs ++ p :: r.xs
def bal : T α → Prop
  | .nil => True
  | .node l _ r => l.bal ∧ r.bal ∧ l.ht ≤ r.ht + 1 ∧ r.ht ≤ l.ht + 1
/-- the left tree is too high -/
def balL (p : α) (l r : T α) : T α :=
  match l with
  | .nil => .nil
  | .node ll lp lr => if ll.ht < lr.ht then (match lr with
      | .nil => .nil
      | .node a q b => .node (.node ll lp a) q (.node b p r)) else .node ll lp (.node lr p r)
def balR (p : α) (l r : T α) : T α :=
  match r with
  | .nil => .nil
  | .node rl rp rr => if rr.ht < rl.ht then (match rl with
      | .nil => .nil
      | .node a q b => .node (.node l p a) q (.node b rp rr)) else .node (.node l p rl) rp rr
def mk (p : α) (l r : T α) : T α := if r.ht + 1 < l.ht then balL p l r else if l.ht + 1 < r.ht then balR p l r else .node l p r

theorem xs_length : ∀ t : T α, t.xs.length = t.sz
  | .nil => rfl
  | .node l p r => by
    have := xs_length l
    have := xs_length r
    simp [xs, sz]; omega
theorem ht_pos : ∀ {t : T α}, t.ht ≠ 0 → ∃ l p r, t = .node l p r
  | .nil, h => (h rfl).elim
  | .node l p r, _ => ⟨l, p, r, rfl⟩
theorem mk_xs (p : α) (l r : T α) : (mk p l r).xs = l.xs ++ p :: r.xs := by
  unfold mk
  split
  · rename_i h
    obtain ⟨ll, lp, lr, rfl⟩ := ht_pos (t := l) (by omega)
    simp only [balL]
    split
    · rename_i h2
      obtain ⟨a, q, b, rfl⟩ := ht_pos (t := lr) (by omega)
      simp [xs]
    · simp [xs]
  · split
    · rename_i h
      obtain ⟨ll, lp, lr, rfl⟩ := ht_pos (t := r) (by omega)
      simp only [balR]
      split
      · rename_i h2
        obtain ⟨a, q, b, rfl⟩ := ht_pos (t := ll) (by omega)
        simp [xs]
      · simp [xs]
    · rfl
theorem mk_bal (p : α) (l r : T α) (hl : l.bal) (hr : r.bal) (h1 : l.ht ≤ r.ht + 2) (h2 : r.ht ≤ l.ht + 2) :
    (mk p l r).bal ∧ (mk p l r).ht ≤ max l.ht r.ht + 1 ∧ max l.ht r.ht ≤ (mk p l r).ht ∧ (l.ht ≤ r.ht + 1 → r.ht ≤ l.ht + 1 → (mk p l r).ht = max l.ht r.ht + 1) := by
  unfold mk
  split
  · rename_i h
    obtain ⟨ll, lp, lr, rfl⟩ := ht_pos (t := l) (by omega)
    simp only [balL]
    split
    · rename_i h2
      obtain ⟨a, q, b, rfl⟩ := ht_pos (t := lr) (by omega)
      simp only [bal, ht] at *
      obtain ⟨x1, ⟨x2, x3, x4, x5⟩, x6, x7⟩ := hl
      refine ⟨⟨⟨x1, x2, ?_, ?_⟩, ⟨x3, hr, ?_, ?_⟩, ?_, ?_⟩, ?_, ?_, ?_⟩ <;> omega
    · simp only [bal, ht] at *
      obtain ⟨x1, x2, x6, x7⟩ := hl
      refine ⟨⟨x1, ⟨x2, hr, ?_, ?_⟩, ?_, ?_⟩, ?_, ?_, ?_⟩ <;> omega
  · split
    · rename_i h
      obtain ⟨ll, lp, lr, rfl⟩ := ht_pos (t := r) (by omega)
      simp only [balR]
      split
      · rename_i h2
        obtain ⟨a, q, b, rfl⟩ := ht_pos (t := ll) (by omega)
        simp only [bal, ht] at *
        obtain ⟨⟨x2, x3, x4, x5⟩, x1, x6, x7⟩ := hr
        refine ⟨⟨⟨hl, x2, ?_, ?_⟩, ⟨x3, x1, ?_, ?_⟩, ?_, ?_⟩, ?_, ?_, ?_⟩ <;> omega
      · simp only [bal, ht] at *
        obtain ⟨x1, x2, x6, x7⟩ := hr
        refine ⟨⟨⟨hl, x1, ?_, ?_⟩, x2, ?_, ?_⟩, ?_, ?_, ?_⟩ <;> omega
    · simp only [bal, ht]
      refine ⟨⟨hl, hr, ?_, ?_⟩, ?_, ?_, ?_⟩ <;> first | omega | (intros; trivial)

def ins : T α → Nat → α → T α
  | .nil, _, q => .node .nil q .nil
  | .node l p r, i, q => if i ≤ l.sz then mk p (l.ins i q) r else mk p l (r.ins (i - l.sz - 1) q)
theorem ins_xs : ∀ (t : T α) (i : Nat) (q : α), i ≤ t.sz → (t.ins i q).xs = t.xs.take i ++ q :: t.xs.drop i
  | .nil, i, q, h => by simp [sz] at h; subst h; rfl
  | .node l p r, i, q, h => by
    have el := xs_length l
    simp only [ins]
    split
    · rename_i h1
      rw [mk_xs, ins_xs l i q h1]
      simp only [xs]
      rw [List.take_append_of_le_length (by omega), List.drop_append_of_le_length (by omega)]
      simp
    · rename_i h1
      rw [mk_xs, ins_xs r _ q (by simp [sz] at h; omega)]
      simp only [xs]
      have e : i = l.xs.length + ((i - l.sz - 1) + 1) := by omega
      conv => rhs; rw [e]
      rw [List.take_length_add_append, List.drop_length_add_append]
      simp
theorem ins_bal : ∀ (t : T α) (i : Nat) (q : α), t.bal → (t.ins i q).bal ∧ t.ht ≤ (t.ins i q).ht ∧ (t.ins i q).ht ≤ t.ht + 1
  | .nil, i, q, h => by simp [ins, bal, ht]
  | .node l p r, i, q, h => by
    obtain ⟨hl, hr, h1, h2⟩ := h
    simp only [ins]
    split
    · obtain ⟨b1, b2, b3⟩ := ins_bal l i q hl
      obtain ⟨m1, m2, m3, m4⟩ := mk_bal p (l.ins i q) r b1 hr (by omega) (by omega)
      refine ⟨m1, ?_, ?_⟩
      · simp only [ht]
        by_cases e : (l.ins i q).ht ≤ r.ht + 1
        · rw [m4 e (by omega)]; omega
        · omega
      · simp only [ht]; omega
    · obtain ⟨b1, b2, b3⟩ := ins_bal r (i - l.sz - 1) q hr
      obtain ⟨m1, m2, m3, m4⟩ := mk_bal p l (r.ins (i - l.sz - 1) q) hl b1 (by omega) (by omega)
      refine ⟨m1, ?_, ?_⟩
      · simp only [ht]
        by_cases e : (r.ins (i - l.sz - 1) q).ht ≤ l.ht + 1
        · rw [m4 (by omega) e]; omega
        · omega
      · simp only [ht]; omega

theorem mod_left : ∀ (A B : List α) (i : Nat) (f : α → α), i < A.length → (A ++ B).modify i f = A.modify i f ++ B
  | [], B, i, f, h => by simp at h
  | a :: A, B, 0, f, h => by simp
  | a :: A, B, i + 1, f, h => by simp; exact mod_left A B i f (by simpa using h)
theorem mod_right : ∀ (A B : List α) (i : Nat) (f : α → α), A.length ≤ i → (A ++ B).modify i f = A ++ B.modify (i - A.length) f
  | [], B, i, f, h => by simp
  | a :: A, B, 0, f, h => by simp at h
  | a :: A, B, i + 1, f, h => by simp; exact mod_right A B i f (by simpa using h)
def rep : T α → Nat → (α → α) → T α
  | .nil, _, _ => .nil
  | .node l p r, i, f => if i < l.sz then .node (l.rep i f) p r else if l.sz < i then .node l p (r.rep (i - l.sz - 1) f) else .node l (f p) r
theorem rep_ht : ∀ (t : T α) (i : Nat) (f : α → α), (t.rep i f).ht = t.ht ∧ (t.rep i f).sz = t.sz ∧ (t.bal → (t.rep i f).bal)
  | .nil, i, f => ⟨rfl, rfl, fun h => h⟩
  | .node l p r, i, f => by
    simp only [rep]
    obtain ⟨a1, a2, a3⟩ := rep_ht l i f
    obtain ⟨b1, b2, b3⟩ := rep_ht r (i - l.sz - 1) f
    split
    · simp only [ht, sz, bal, a1, a2]
      exact ⟨trivial, trivial, fun h => ⟨a3 h.1, h.2.1, h.2.2.1, h.2.2.2⟩⟩
    · split
      · simp only [ht, sz, bal, b1, b2]
        exact ⟨trivial, trivial, fun h => ⟨h.1, b3 h.2.1, h.2.2.1, h.2.2.2⟩⟩
      · exact ⟨rfl, rfl, fun h => h⟩
theorem rep_xs : ∀ (t : T α) (i : Nat) (f : α → α), (t.rep i f).xs = t.xs.modify i f
  | .nil, i, f => by simp [rep, xs]
  | .node l p r, i, f => by
    have el := xs_length l
    simp only [rep]
    split
    · simp only [xs]; rw [rep_xs l i f, mod_left _ _ _ f (by omega)]
    · split
      · simp only [xs]; rw [rep_xs r _ f, mod_right _ _ _ f (by omega)]
        have : i - l.xs.length = (i - l.sz - 1) + 1 := by omega
        rw [this]; rfl
      · simp only [xs]; rw [mod_right _ _ _ f (by omega)]
        have : i - l.xs.length = 0 := by omega
        rw [this]; rfl

def fst [Inhabited α] : T α → α
  | .nil => default
  | .node .nil p _ => p
  | .node l _ _ => l.fst
def hd (t : T α) (d : α) : α := t.xs.headD d
def rem : T α → Nat → T α
  | .nil, _ => .nil
  | .node l p r, i => if i < l.sz then mk p (l.rem i) r else if l.sz < i then mk p l (r.rem (i - l.sz - 1)) else
      (match r with
      | .nil => l
      | .node a q b => mk ((T.node a q b).hd p) l ((T.node a q b).rem 0))
theorem rem_xs : ∀ (t : T α) (i : Nat), (t.rem i).xs = t.xs.eraseIdx i
  | .nil, i => by simp [rem, xs]
  | .node l p .nil, i => by
    have el := xs_length l
    simp only [rem]
    split
    · rw [mk_xs, rem_xs l i]
      simp only [xs]; rw [List.eraseIdx_append_of_lt_length (by omega)]
    · split
      · rw [mk_xs]
        simp only [xs]; rw [List.eraseIdx_append_of_length_le (by omega)]
        have : i - l.xs.length = (i - l.sz - 1) + 1 := by omega
        rw [this]; simp [rem, xs]
      · simp only [xs]; rw [List.eraseIdx_append_of_length_le (by omega)]
        have : i - l.xs.length = 0 := by omega
        rw [this]; simp
  | .node l p (.node a q b), i => by
    have el := xs_length l
    simp only [rem]
    split
    · rw [mk_xs, rem_xs l i]
      simp only [xs]; rw [List.eraseIdx_append_of_lt_length (by omega)]
    · split
      · have := rem_xs (.node a q b) (i - l.sz - 1)
        rw [mk_xs, this]
        rw [show (T.node l p (.node a q b)).xs = l.xs ++ p :: (T.node a q b).xs from rfl, List.eraseIdx_append_of_length_le (l := l.xs) (by omega)]
        have : i - l.xs.length = (i - l.sz - 1) + 1 := by omega
        rw [this]; rfl
      · have := rem_xs (.node a q b) 0
        rw [mk_xs, this]
        rw [show (T.node l p (.node a q b)).xs = l.xs ++ p :: (T.node a q b).xs from rfl, List.eraseIdx_append_of_length_le (by omega)]
        have e0 : i - l.xs.length = 0 := by omega
        rw [e0]
        simp only [List.eraseIdx_cons_zero]
        congr 1
        simp only [hd]
        have : (T.node a q b).xs ≠ [] := by simp [xs]
        revert this
        cases (T.node a q b).xs with
        | nil => intro h; exact (h rfl).elim
        | cons x y => intro _; rfl
theorem rem_bal : ∀ (t : T α) (i : Nat), t.bal → (t.rem i).bal ∧ (t.rem i).ht ≤ t.ht ∧ t.ht ≤ (t.rem i).ht + 1
  | .nil, i, h => by simp [rem, bal, ht]
  | .node l p .nil, i, h => by
    obtain ⟨hl, hr, h1, h2⟩ := h
    simp only [rem]
    split
    · obtain ⟨b1, b2, b3⟩ := rem_bal l i hl
      obtain ⟨m1, m2, m3, m4⟩ := mk_bal p (l.rem i) .nil b1 hr (by omega) (by omega)
      refine ⟨m1, ?_, ?_⟩
      · simp only [ht] at *; omega
      · simp only [ht] at *
        by_cases e : (0:Nat) ≤ (l.rem i).ht + 1
        · rw [m4 (by omega) e]; omega
        · omega
    · split
      · simp only [ht] at *
        have m4 := mk_bal p l .nil hl hr (by simp only [ht]; omega) (by simp only [ht]; omega)
        simp only [ht] at m4
        obtain ⟨m1, m2, m3, m4⟩ := m4
        refine ⟨m1, by omega, by omega⟩
      · simp only [ht] at *
        exact ⟨hl, by omega, by omega⟩
  | .node l p (.node a q b), i, h => by
    obtain ⟨hl, hr, h1, h2⟩ := h
    simp only [rem]
    split
    · obtain ⟨b1, b2, b3⟩ := rem_bal l i hl
      generalize (T.node a q b) = r at *
      obtain ⟨m1, m2, m3, m4⟩ := mk_bal p (l.rem i) r b1 hr (by omega) (by omega)
      refine ⟨m1, ?_, ?_⟩
      · simp only [ht] at *; omega
      · simp only [ht] at *
        by_cases e : r.ht ≤ (l.rem i).ht + 1
        · rw [m4 (by omega) e]; omega
        · omega
    · have key : ∀ (u : α) (j : Nat), (mk u l ((T.node a q b).rem j)).bal ∧ (mk u l ((T.node a q b).rem j)).ht ≤ (T.node l p (.node a q b)).ht ∧ (T.node l p (.node a q b)).ht ≤ (mk u l ((T.node a q b).rem j)).ht + 1 := by
        intro u j
        obtain ⟨b1, b2, b3⟩ := rem_bal (.node a q b) j hr
        have e : (T.node l p (.node a q b)).ht = max l.ht (T.node a q b).ht + 1 := rfl
        rw [e]
        generalize (T.node a q b).rem j = r' at *
        generalize (T.node a q b) = r at *
        obtain ⟨m1, m2, m3, m4⟩ := mk_bal u l r' hl b1 (by omega) (by omega)
        refine ⟨m1, by omega, ?_⟩
        by_cases e : l.ht ≤ r'.ht + 1
        · rw [m4 e (by omega)]; omega
        · omega
      have kk := key
      split
      · exact kk _ _
      · exact kk _ 0

theorem lt_ht : ∀ t : T α, t.sz < 2 ^ t.ht
  | .nil => by simp [sz, ht]
  | .node l p r => by
    have h1 := lt_ht l
    have h2 := lt_ht r
    have a1 : 2 ^ l.ht ≤ 2 ^ max l.ht r.ht := Nat.pow_le_pow_right (by omega) (by omega)
    have a2 : 2 ^ r.ht ≤ 2 ^ max l.ht r.ht := Nat.pow_le_pow_right (by omega) (by omega)
    simp only [sz, ht, Nat.pow_succ]; omega
theorem ht_le : ∀ t : T α, t.bal → 2 ^ t.ht ≤ (t.sz + 1) * (t.sz + 1)
  | .nil, _ => by simp [sz, ht]
  | .node l p r, h => by
    obtain ⟨hl, hr, h1, h2⟩ := h
    have e1 := ht_le l hl
    have e2 := ht_le r hr
    have es : (T.node l p r).sz + 1 = (l.sz + 1) + (r.sz + 1) := by simp only [sz]; omega
    rw [es]
    have e3 : 1 ≤ l.sz + 1 := by omega
    have e4 : 1 ≤ r.sz + 1 := by omega
    generalize l.sz + 1 = A at *
    generalize r.sz + 1 = B at *
    simp only [ht]
    generalize l.ht = x at *
    generalize r.ht = y at *
    have ex : (A + B) * (A + B) = A * A + B * B + 2 * (A * B) := by rw [Nat.mul_add, Nat.add_mul, Nat.add_mul, Nat.mul_comm B A]; omega
    rw [ex]
    by_cases e0 : max x y = 0
    · have : x = 0 := by omega
      have : y = 0 := by omega
      subst x; subst y
      have : 1 * 1 ≤ A * B := Nat.mul_le_mul e3 e4
      simp at e1 e2 ⊢; omega
    · obtain ⟨m, hm⟩ : ∃ m, max x y = m + 1 := ⟨max x y - 1, by omega⟩
      have a1 : 2 ^ m ≤ A * A := Nat.le_trans (Nat.pow_le_pow_right (by omega) (by omega)) e1
      have a2 : 2 ^ m ≤ B * B := Nat.le_trans (Nat.pow_le_pow_right (by omega) (by omega)) e2
      have a3 : 2 ^ m ≤ A * B := by
        rcases Nat.le_total A B with h | h
        · exact Nat.le_trans a1 (Nat.mul_le_mul_left _ h)
        · exact Nat.le_trans a2 (Nat.mul_le_mul_right _ h)
      rw [hm]
      have p2 : 2 ^ (m + 1 + 1) = 4 * 2 ^ m := by simp only [Nat.pow_succ]; omega
      rw [p2]; omega

/-- the place that a search comes to, and whether the key is there: c tells on which side of a pair the key is. -/
def fd (c : α → Int) : T α → Nat × Bool
  | .nil => (0, false)
  | .node l p r => if c p < 0 then fd c l else if 0 < c p then (l.sz + 1 + (fd c r).1, (fd c r).2) else (l.sz, true)
theorem fd_le (c : α → Int) : ∀ t : T α, (fd c t).1 ≤ t.sz ∧ ((fd c t).2 = true → (fd c t).1 < t.sz)
  | .nil => by simp [fd, sz]
  | .node l p r => by
    have h1 := fd_le c l
    have h2 := fd_le c r
    simp only [fd]
    split
    · simp only [sz]; exact ⟨by omega, fun h => by have := h1.2 h; omega⟩
    · split
      · simp only [sz]; exact ⟨by omega, fun h => by have := h2.2 h; omega⟩
      · simp only [sz]; exact ⟨by omega, fun h => by omega⟩
theorem fd_eq (c : α → Int) : ∀ t : T α, t.xs.Pairwise (fun a b => 0 ≤ c b → 0 < c a) → fd c t = (t.xs.countP (fun a => decide (0 < c a)), t.xs.any (fun a => decide (c a = 0)))
  | .nil, _ => rfl
  | .node l p r, h => by
    have el := xs_length l
    simp only [xs] at h
    rw [List.pairwise_append] at h
    obtain ⟨hl, hr, hx⟩ := h
    rw [List.pairwise_cons] at hr
    obtain ⟨hp, hr⟩ := hr
    have h1 := fd_eq c l hl
    have h2 := fd_eq c r hr
    simp only [fd, xs, List.countP_append, List.any_append, List.countP_cons, List.any_cons]
    split
    · rename_i h3
      have r0 : ∀ a ∈ r.xs, c a < 0 := fun a ha => by
        rcases Int.lt_or_le (c a) 0 with h | h
        · exact h
        · have := hp a ha h; omega
      have z1 : r.xs.countP (fun a => decide (0 < c a)) = 0 := by rw [List.countP_eq_zero]; intro a ha; have := r0 a ha; simp; omega
      have z2 : r.xs.any (fun a => decide (c a = 0)) = false := by rw [List.any_eq_false]; intro a ha; have := r0 a ha; simp; omega
      have z3 : decide (0 < c p) = false := by simp; omega
      have z4 : decide (c p = 0) = false := by simp; omega
      rw [h1, z1, z2, z3, z4]; simp
    · rename_i h3
      have l0 : ∀ a ∈ l.xs, 0 < c a := fun a ha => hx a ha p (by simp) (by omega)
      have z1 : l.xs.countP (fun a => decide (0 < c a)) = l.sz := by rw [← el, List.countP_eq_length]; intro a ha; simp; exact l0 a ha
      have z2 : l.xs.any (fun a => decide (c a = 0)) = false := by rw [List.any_eq_false]; intro a ha; have := l0 a ha; simp; omega
      split
      · rename_i h4
        have z4 : decide (c p = 0) = false := by simp; omega
        rw [h2, z1, z2, z4]; simp [h4]; omega
      · have z3 : decide (0 < c p) = false := by simp; omega
        have z4 : decide (c p = 0) = true := by simp; omega
        have r0 : ∀ a ∈ r.xs, ¬ 0 < c a := fun a ha h => by have := hp a ha (by omega); omega
        have z5 : r.xs.countP (fun a => decide (0 < c a)) = 0 := by rw [List.countP_eq_zero]; intro a ha; have := r0 a ha; simp; omega
        rw [z1, z2, z3, z4, z5]; simp
end T
end Go.Proofs.Ytchealdgncgjoaa.St
namespace Go.Proofs.Ytchealdgncgjoaa.St
set_option linter.unusedVariables false
set_option linter.unusedSimpArgs false
section
variable {α : Type}
theorem cut_c (c : α → Int) : ∀ xs : List α, xs.Pairwise (fun a b => 0 ≤ c b → 0 < c a) →
    ∃ A B, xs = A ++ B ∧ A.length = xs.countP (fun a => decide (0 < c a)) ∧ (∀ a ∈ A, 0 < c a) ∧ (∀ b ∈ B, c b ≤ 0) ∧ (∀ b ∈ B.tail, c b < 0)
  | [], _ => ⟨[], [], rfl, rfl, by simp, by simp, by simp⟩
  | x :: r, h => by
    rw [List.pairwise_cons] at h
    obtain ⟨A, B, e, e1, e2, e3, e4⟩ := cut_c c r h.2
    by_cases hx : 0 < c x
    · refine ⟨x :: A, B, by rw [e]; rfl, ?_, ?_, e3, e4⟩
      · rw [List.countP_cons]; simp [e1, hx]
      · intro a ha
        rcases List.mem_cons.1 ha with rfl | ha
        · exact hx
        · exact e2 a ha
    · have r0 : ∀ a ∈ r, c a < 0 := fun a ha => by
        rcases Int.lt_or_le (c a) 0 with h1 | h1
        · exact h1
        · exact (hx (h.1 a ha h1)).elim
      refine ⟨[], x :: r, rfl, ?_, by simp, ?_, ?_⟩
      · symm
        rw [List.length_nil, List.countP_eq_zero]
        intro a ha
        rcases List.mem_cons.1 ha with rfl | ha
        · simpa using hx
        · have := r0 a ha; simp; omega
      · intro a ha
        rcases List.mem_cons.1 ha with rfl | ha
        · omega
        · have := r0 a ha; omega
      · exact fun a ha => r0 a ha
end

/-- an order: transitive, and turned round when its arguments are -/
structure OrdL {κ : Type} (o : κ → κ → Int) : Prop where
  anti : ∀ a b, o a b < 0 ↔ 0 < o b a
  tr : ∀ a b c, o a b < 0 → o b c ≤ 0 → o a c < 0
  tr' : ∀ a b c, o a b ≤ 0 → o b c < 0 → o a c < 0
section
variable {κ ν : Type} {o : κ → κ → Int}
theorem OrdL.zero (h : OrdL o) (a : κ) : o a a = 0 := by
  have := h.anti a a; omega
theorem OrdL.sym0 (h : OrdL o) {a b : κ} : o a b = 0 ↔ o b a = 0 := by
  have h1 := h.anti a b
  have h2 := h.anti b a
  omega
def Srt (o : κ → κ → Int) (xs : List (κ × ν)) : Prop := xs.Pairwise (fun a b => o a.1 b.1 < 0)
/-- on which side of a pair a key is -/
abbrev side (o : κ → κ → Int) (k : κ) (p : κ × ν) : Int := o k p.1
theorem Srt.c {xs : List (κ × ν)} (h : Srt o xs) (ho : OrdL o) (k : κ) : xs.Pairwise (fun a b => 0 ≤ side o k b → 0 < side o k a) := by
  refine List.Pairwise.imp ?_ h
  intro a b hab hk
  simp only [side] at *
  have h1 := ho.anti k b.1
  have h2 := ho.anti b.1 k
  have h3 := ho.tr a.1 b.1 k hab (by omega)
  exact (ho.anti a.1 k).1 h3
theorem Srt.ins {xs : List (κ × ν)} (h : Srt o xs) (ho : OrdL o) (k : κ) (v : ν) (i : Nat) (hi : i = xs.countP (fun a => decide (0 < side o k a))) (hn : xs.any (fun a => decide (side o k a = 0)) = false) : Srt o (xs.take i ++ (k, v) :: xs.drop i) := by
  obtain ⟨A, B, e, e1, e2, e3, e4⟩ := cut_c _ xs (h.c ho k)
  rw [← hi] at e1
  rw [List.any_eq_false] at hn
  have t : xs.take i = A := by rw [e, ← e1]; simp
  have d : xs.drop i = B := by rw [e, ← e1]; simp
  rw [t, d]
  rw [e] at h
  unfold Srt at *
  rw [List.pairwise_append] at h
  obtain ⟨hA, hB, hAB⟩ := h
  rw [List.pairwise_append]
  refine ⟨hA, ?_, ?_⟩
  · rw [List.pairwise_cons]
    refine ⟨fun b hb => ?_, hB⟩
    have := e3 b hb
    have := hn b (by rw [e]; simp [hb])
    simp only [side, decide_eq_true_eq] at *
    show o k b.1 < 0
    omega
  · intro a ha b hb
    rcases List.mem_cons.1 hb with rfl | hb
    · exact (ho.anti _ _).2 (e2 a ha)
    · exact hAB a ha b hb
theorem Srt.sub {xs ys : List (κ × ν)} (h : Srt o xs) (hs : ys.Sublist xs) : Srt o ys := List.Pairwise.sublist hs h
theorem Srt.erase {xs : List (κ × ν)} (h : Srt o xs) (i : Nat) : Srt o (xs.eraseIdx i) := h.sub (List.eraseIdx_sublist _ _)
theorem map_modify {β : Type} (g : κ × ν → β) (f : κ × ν → κ × ν) (hf : ∀ p, g (f p) = g p) : ∀ (xs : List (κ × ν)) (i : Nat), (xs.modify i f).map g = xs.map g
  | [], i => by simp
  | a :: xs, 0 => by simp [hf]
  | a :: xs, i + 1 => by simp; exact map_modify g f hf xs i
theorem Srt.keys {xs ys : List (κ × ν)} (h : Srt o xs) (e : ys.map Prod.fst = xs.map Prod.fst) : Srt o ys := by
  have h1 : (xs.map Prod.fst).Pairwise (fun a b => o a b < 0) := List.pairwise_map.2 h
  rw [← e] at h1
  exact List.pairwise_map.1 h1
theorem Srt.rep {xs : List (κ × ν)} (h : Srt o xs) (i : Nat) (v : ν) : Srt o (xs.modify i (fun p => (p.1, v))) := h.keys (map_modify Prod.fst (fun p => (p.1, v)) (fun _ => rfl) xs i)
/-- the place of a key that is there -/
theorem Srt.place {xs : List (κ × ν)} (h : Srt o xs) (ho : OrdL o) {k : κ} {p : κ × ν} {i : Nat} (hp : xs[i]? = some p) (hk : o k p.1 = 0) :
    xs.countP (fun a => decide (0 < side o k a)) = i ∧ xs.any (fun a => decide (side o k a = 0)) = true := by
  have hm : p ∈ xs := List.mem_of_getElem? hp
  refine ⟨?_, List.any_eq_true.2 ⟨p, hm, by simpa [side] using hk⟩⟩
  obtain ⟨A, B, e, e1, e2, e3, e4⟩ := cut_c _ xs (h.c ho k)
  rw [← e1]
  have hi : i < xs.length := (List.getElem?_eq_some_iff.1 hp).1
  rcases Nat.lt_trichotomy i A.length with hlt | heq | hgt
  · rw [e, List.getElem?_append_left hlt] at hp
    have := e2 p (List.mem_of_getElem? hp)
    simp only [side] at this; omega
  · exact heq.symm
  · rw [e, List.getElem?_append_right (by omega)] at hp
    have : p ∈ B.tail := by
      cases B with
      | nil => simp at hp
      | cons b B =>
        obtain ⟨j, hj⟩ : ∃ j, i - A.length = j + 1 := ⟨i - A.length - 1, by omega⟩
        rw [hj] at hp
        exact List.mem_of_getElem? (by simpa using hp)
    have := e4 p this
    simp only [side] at this; omega
theorem Srt.at {xs : List (κ × ν)} (h : Srt o xs) (ho : OrdL o) {k : κ} (ht : xs.any (fun a => decide (side o k a = 0)) = true) :
    ∃ p, xs[xs.countP (fun a => decide (0 < side o k a))]? = some p ∧ o k p.1 = 0 := by
  obtain ⟨p, hp, hk⟩ := List.any_eq_true.1 ht
  obtain ⟨i, hi⟩ := List.mem_iff_getElem?.1 hp
  have hk : o k p.1 = 0 := by simpa [side] using hk
  obtain ⟨h1, h2⟩ := h.place ho hi hk
  exact ⟨p, by rw [h1]; exact hi, hk⟩
end
/-- cmp.Compare of numbers -/
def cmpI (a b : Int) : Int := if a < b then -1 else if b < a then 1 else 0
theorem cmpI_ord : OrdL cmpI := by
  refine ⟨fun a b => ?_, fun a b c => ?_, fun a b c => ?_⟩ <;> (simp only [cmpI]; repeat' split) <;> omega
end Go.Proofs.Ytchealdgncgjoaa.St
namespace Go.Proofs.Ytchealdgncgjoaa.St
open Go.RowKit
set_option linter.unusedVariables false

theorem hide {p : Prop} (h : p) : Hid p := h

/-- nothing has turned but blocks of S, and new blocks. -/
structure Kp (S : Nat → Prop) (w w' : World) : Prop where
  os : w'.os = w.os
  tape : w'.tape = w.tape
  output : w'.output = w.output
  size : w.heap.size ≤ w'.heap.size
  block : ∀ k, k < w.heap.size → ¬ S k → w'.heap[k]? = w.heap[k]?
def Nu : Nat → Prop := fun _ => False

theorem Kp.refl (S : Nat → Prop) (w : World) : Kp S w w := ⟨rfl, rfl, rfl, Nat.le_refl _, fun _ _ _ => rfl⟩
theorem Kp.trans {S T : Nat → Prop} {a b c : World} (h : Kp S a b) (k : Kp T b c) (hT : ∀ i, i < a.heap.size → T i → S i) : Kp S a c :=
  ⟨k.os.trans h.os, k.tape.trans h.tape, k.output.trans h.output, Nat.le_trans h.size k.size,
    fun i hi hS => (k.block i (Nat.lt_of_lt_of_le hi h.size) (fun ht => hS (hT i hi ht))).trans (h.block i hi hS)⟩
theorem Kp.andNu {S : Nat → Prop} {a b c : World} (h : Kp S a b) (k : Kp Nu b c) : Kp S a c := h.trans k (fun _ _ e => e.elim)
theorem Kp.of_grown {w w' : World} {row : Option Nat} (h : w.grownBy w' row) : Kp (fun k => some k = row) w w' :=
  ⟨h.os, h.tape, h.output, h.size, fun k hk hn => h.block k hk hn⟩
theorem Kp.mono {S T : Nat → Prop} {w w' : World} (h : Kp S w w') (hT : ∀ i, i < w.heap.size → S i → T i) : Kp T w w' :=
  ⟨h.os, h.tape, h.output, h.size, fun k hk hn => h.block k hk (fun hs => hn (hT k hk hs))⟩
theorem Kp.drew {S : Nat → Prop} {a w : World} (h : Kp S a w) : Kp S a w.drew := ⟨h.os, h.tape, h.output, h.size, h.block⟩
theorem Kp.alloc (w : World) (o : Obj) (S : Nat → Prop) : Kp S w (w.alloc o) := ⟨rfl, rfl, rfl, by simp, fun k hk _ => Below.heap_alloc w o k hk⟩
theorem Kp.andAlloc {S : Nat → Prop} {w w1 : World} (h : Kp S w w1) (o : Obj) : Kp S w (w1.alloc o) := h.trans (Kp.alloc w1 o Nu) (fun _ _ h => h.elim)
theorem Kp.setCell (w : World) (a : Addr) (u : Value) : Kp (fun k => k = a.block) w (w.setCell a u) :=
  ⟨rfl, rfl, rfl, by simp [World.setCell], fun k _ hn => Below.heap_setCell w a u k hn⟩
theorem Kp.andSet {S : Nat → Prop} {w w1 : World} (h : Kp S w w1) (a : Addr) (u : Value) (ha : w.heap.size ≤ a.block ∨ S a.block) : Kp S w (w1.setCell a u) :=
  h.trans (Kp.setCell w1 a u) (fun i hi e => by have e : i = a.block := e; subst e; rcases ha with h | h; · omega
                                                · exact h)
theorem Kp.below {S : Nat → Prop} {w w' : World} (h : Kp S w w') (B : Nat) (hB : B ≤ w.heap.size) (hS : ∀ k, S k → B ≤ k) : Below B w w' :=
  ⟨h.os, h.tape, h.output, h.size, fun k hk => h.block k (by omega) (fun hs => by have := hS k hs; omega)⟩
theorem Kp.toBelow {w w' : World} (h : Kp Nu w w') : Below w.heap.size w w' := ⟨h.os, h.tape, h.output, h.size, fun k hk => h.block k hk (fun h => h)⟩
theorem Kp.of_below {w w' : World} (h : Below w.heap.size w w') : Kp Nu w w' := ⟨h.os, h.tape, h.output, h.size, fun k hk _ => h.block k hk⟩

theorem free3 {w : World} {b : Nat} {c : Array Value} {t : TypeId} (h : w.heap[b]? = some (.cells c t (0, 0))) (o : Nat) : w.frozen? ⟨b, o, none⟩ = false := by
  simp [World.frozen?, h]
theorem set3 {w : World} {b : Nat} {c : Array Value} {t : TypeId} (h : w.heap[b]? = some (.cells c t (0, 0))) (o : Nat) (u : Value) :
    (w.setCell ⟨b, o, none⟩ u).heap[b]? = some (.cells (c.setIfInBounds o u) t (0, 0)) := by
  simp [World.setCell, Array.getElem?_modify, h]
theorem blk_lt {w : World} {b : Nat} {o : Obj} (h : w.heap[b]? = some o) : b < w.heap.size := by
  rcases Nat.lt_or_ge b w.heap.size with hlt | hge
  · exact hlt
  · rw [Array.getElem?_eq_none hge] at h; cases h

theorem add_block (a : Addr) (j : Nat) : (a.add j).block = a.block := by
  unfold Addr.add
  first | rfl | (split <;> rfl)
/-- a row of one's own stands while its block does -/
theorem own_keep {w w' : World} {B e size n : Nat} {v : Value} {xs : List Value} (h : w.ownsRow B e size v n xs) (hk : ∀ g, v.ownBlock = some g → w'.heap[g]? = w.heap[g]?) : w'.ownsRow B e size v n xs := by
  refine ⟨h.1, ?_⟩
  rcases h.2 with ⟨rfl, h0⟩ | ⟨g, cap, cur, rfl, hb', hg, h1, h2, h3, h4⟩
  · exact .inl ⟨rfl, h0⟩
  · exact .inr ⟨g, cap, cur, rfl, hb', (hk g rfl).trans hg, h1, h2, h3, h4⟩
theorem own_obj {w : World} {B e size n : Nat} {v : Value} {xs : List Value} (h : w.ownsRow B e size v n xs) {g : Nat} (hg : v.ownBlock = some g) : ∃ cur, w.heap[g]? = some (.cells cur e (0, 0)) := by
  rcases h.2 with ⟨rfl, h0⟩ | ⟨g', cap, cur, rfl, hb', hg', _⟩
  · cases hg
  · simp [Value.ownBlock] at hg; subst hg; exact ⟨cur, hg'⟩
theorem own_lt {w : World} {B e size n : Nat} {v : Value} {xs : List Value} (h : w.ownsRow B e size v n xs) {g : Nat} (hg : v.ownBlock = some g) : g < w.heap.size := by
  obtain ⟨cur, hc⟩ := own_obj h hg
  exact blk_lt hc
theorem own_slice {w : World} {B e size n : Nat} {v : Value} {xs : List Value} (h : w.ownsRow B e size v n xs) : ∃ ad cap, v = .slice ad n cap := by
  rcases h.2 with ⟨rfl, h0⟩ | ⟨g', cap, cur, rfl, hb', hg', _⟩
  · exact ⟨none, 0, by rw [h0]⟩
  · exact ⟨_, cap, rfl⟩

theorem new_at (w : World) (o : Obj) {W : World} (k : Kp Nu (w.alloc o) W) : W.heap[w.heap.size]? = some o := (k.block _ (by simp) (fun h => h)).trans (heap_alloc_new w o)

theorem cell3 {w : World} {b : Nat} {x y z : Value} {t : TypeId} (h : w.heap[b]? = some (.cells #[x, y, z] t (0, 0))) :
    w.cell? ⟨b, 0, none⟩ = some x ∧ w.cell? ⟨b, 1, none⟩ = some y ∧ w.cell? ⟨b, 2, none⟩ = some z := by
  refine ⟨?_, ?_, ?_⟩ <;> simp [World.cell?, h]
theorem cell1 {w : World} {b : Nat} {x : Value} {t : TypeId} (h : w.heap[b]? = some (.cells #[x] t (0, 0))) : w.cell? ⟨b, 0, none⟩ = some x := by simp [World.cell?, h]

theorem own_base {w : World} {base base' e size n : Nat} {v : Value} {l : List Value} (h : w.ownsRow base e size v n l) (hb : base' ≤ base) : w.ownsRow base' e size v n l := by
  obtain ⟨hl, ho⟩ := h
  refine ⟨hl, ?_⟩
  rcases ho with ho | ⟨g, cap, cur, e1, e2, e3⟩
  · exact .inl ho
  · exact .inr ⟨g, cap, cur, e1, Nat.le_trans hb e2, e3⟩
end Go.Proofs.Ytchealdgncgjoaa.St
namespace Go.Proofs.Ytchealdgncgjoaa.StI
open Go.RowKit Go.Proofs.Ytchealdgncgjoaa.St
set_option linter.unusedVariables false

/-- a tree in memory; its nodes are never written to -/
def Tr (w : World) : T (Int × Int) → Option Addr → Prop
  | .nil, a => a = none
  | .node l p r, a => ∃ b al ar, a = some ⟨b, 0, none⟩ ∧ w.heap[b]? = some (.cells #[.int .i64 (p.1), .int .i64 (p.2), .pointer al, .pointer ar, .int .i64 ((l.sz + 1 + r.sz : Nat) : Int), .int .i64 ((max l.ht r.ht + 1 : Nat) : Int)] 136 (0, 0)) ∧ Tr w l al ∧ Tr w r ar
/-- the nodes are as they were -/
def Kn (w w' : World) : Prop := ∀ (b : Nat) (c : Array Value), w.heap[b]? = some (.cells c 136 (0, 0)) → w'.heap[b]? = some (.cells c 136 (0, 0))
theorem Kn.refl (w : World) : Kn w w := fun _ _ h => h
theorem Kn.trans {a b c : World} (h : Kn a b) (k : Kn b c) : Kn a c := fun i c e => k i c (h i c e)
theorem Kn.nu {w w' : World} (k : Kp Nu w w') : Kn w w' := fun b c h => (k.block b (blk_lt h) (fun h => h)).trans h
theorem Kn.of {S : Nat → Prop} {w w' : World} (k : Kp S w w') (hS : ∀ b c, w.heap[b]? = some (.cells c 136 (0, 0)) → ¬ S b) : Kn w w' := fun b c h => (k.block b (blk_lt h) (hS b c h)).trans h
theorem Tr.keep {w w' : World} (k : Kn w w') : ∀ {t : T (Int × Int)} {a : Option Addr}, Tr w t a → Tr w' t a
  | .nil, _, h => h
  | .node l p r, _, ⟨b, al, ar, e, hb, hl, hr⟩ => ⟨b, al, ar, e, k b _ hb, hl.keep k, hr.keep k⟩
theorem Tr.nu {w w' : World} {t : T (Int × Int)} {a : Option Addr} (h : Tr w t a) (k : Kp Nu w w') : Tr w' t a := h.keep (Kn.nu k)
/-- a node with this pair -/
def Nd (w : World) (p : Int × Int) (a : Option Addr) : Prop := ∃ b x2 x3 x4 x5, a = some ⟨b, 0, none⟩ ∧ w.heap[b]? = some (.cells #[.int .i64 (p.1), .int .i64 (p.2), x2, x3, x4, x5] 136 (0, 0))
theorem Tr.nd {w : World} {l r : T (Int × Int)} {p : Int × Int} {a : Option Addr} (h : Tr w (.node l p r) a) : Nd w p a := by
  obtain ⟨b, al, ar, e, hb, _⟩ := h
  exact ⟨b, _, _, _, _, e, hb⟩
theorem Nd.keep {w w' : World} {p : Int × Int} {a : Option Addr} (h : Nd w p a) (k : Kn w w') : Nd w' p a := by
  obtain ⟨b, x2, x3, x4, x5, e, hb⟩ := h
  exact ⟨b, x2, x3, x4, x5, e, k b _ hb⟩
theorem cell6 {w : World} {b : Nat} {x0 x1 x2 x3 x4 x5 : Value} {t : TypeId} (h : w.heap[b]? = some (.cells #[x0, x1, x2, x3, x4, x5] t (0, 0))) :
    w.cell? ⟨b, 0, none⟩ = some x0 ∧ w.cell? ⟨b, 1, none⟩ = some x1 ∧ w.cell? ⟨b, 2, none⟩ = some x2 ∧ w.cell? ⟨b, 3, none⟩ = some x3 ∧ w.cell? ⟨b, 4, none⟩ = some x4 ∧ w.cell? ⟨b, 5, none⟩ = some x5 := by
  refine ⟨?_, ?_, ?_, ?_, ?_, ?_⟩ <;> simp [World.cell?, h]

set_option maxHeartbeats 400000 in
theorem count_any {w : World} {t : T (Int × Int)} {a : Option Addr} (h : Tr w t a) : Calls Try.prog 85 #[.pointer a] w fun e w' => e = .returned (.int .i64 (t.sz : Int)) ∧ w' = w := by
  cases t with
  | nil =>
    cases (show a = none from h)
    go_enter Try.func85, Try.ntmps85
    go_wp2
    go_ret
    exact ⟨rfl, rfl⟩
  | node l p r =>
    obtain ⟨b, al, ar, rfl, hb, _, _⟩ := h
    obtain ⟨c0, c1, c2, c3, c4, c5⟩ := cell6 hb
    have e : ((l.sz + 1 + r.sz : Nat) : Int) = ((T.node l p r).sz : Int) := rfl
    rw [e] at c4
    generalize ((T.node l p r).sz : Int) = z at *
    clear hb e c0 c1 c2 c3 c5
    go_enter Try.func85, Try.ntmps85
    go_wp2
    go_ret
    exact ⟨rfl, rfl⟩
set_option maxHeartbeats 400000 in
theorem high_any {w : World} {t : T (Int × Int)} {a : Option Addr} (h : Tr w t a) : Calls Try.prog 88 #[.pointer a] w fun e w' => e = .returned (.int .i64 (t.ht : Int)) ∧ w' = w := by
  cases t with
  | nil =>
    cases (show a = none from h)
    go_enter Try.func88, Try.ntmps88
    go_wp2
    go_ret
    exact ⟨rfl, rfl⟩
  | node l p r =>
    obtain ⟨b, al, ar, rfl, hb, _, _⟩ := h
    obtain ⟨c0, c1, c2, c3, c4, c5⟩ := cell6 hb
    have e : ((max l.ht r.ht + 1 : Nat) : Int) = ((T.node l p r).ht : Int) := rfl
    rw [e] at c5
    generalize ((T.node l p r).ht : Int) = z at *
    clear hb e c0 c1 c2 c3 c4
    go_enter Try.func88, Try.ntmps88
    go_wp2
    go_ret
    exact ⟨rfl, rfl⟩
end Go.Proofs.Ytchealdgncgjoaa.StI
namespace Go.Proofs.Ytchealdgncgjoaa.StI
open Go.RowKit Go.Proofs.Ytchealdgncgjoaa.St
set_option linter.unusedVariables false

theorem ht_sz : ∀ t : T (Int × Int), t.ht ≤ t.sz
  | .nil => Nat.le_refl _
  | .node l p r => by
    have := ht_sz l
    have := ht_sz r
    simp only [T.ht, T.sz]; omega

set_option maxHeartbeats 2000000 in
theorem over_any {w : World} {l r : T (Int × Int)} {p : Int × Int} {a al ar : Option Addr} (hn : Nd w p a) (hl : Tr w l al) (hr : Tr w r ar) (hs : l.sz + r.sz < 2 ^ 62) :
    Calls Try.prog 152 #[.pointer a, .pointer al, .pointer ar] w fun e w' => ∃ a', e = .returned (.pointer a') ∧ Tr w' (.node l p r) a' ∧ Kp Nu w w' := by
  obtain ⟨b, x2, x3, x4, x5, rfl, hb⟩ := hn
  have HS : ∀ W, Kp Nu w W → W.cell? ⟨b, 0, none⟩ = some (.int .i64 (p.1)) ∧ W.cell? ⟨b, 1, none⟩ = some (.int .i64 (p.2)) := fun W k => by
    obtain ⟨c0, c1, _⟩ := cell6 ((k.block _ (blk_lt hb) (fun h => h)).trans hb)
    exact ⟨c0, c1⟩
  have CL : ∀ W, Kp Nu w W → Calls Try.prog 85 #[.pointer al] W fun e w' => e = .returned (.int .i64 (l.sz : Int)) ∧ w' = W := fun W k => count_any (hl.nu k)
  have CR : ∀ W, Kp Nu w W → Calls Try.prog 85 #[.pointer ar] W fun e w' => e = .returned (.int .i64 (r.sz : Int)) ∧ w' = W := fun W k => count_any (hr.nu k)
  have HL : ∀ W, Kp Nu w W → Calls Try.prog 88 #[.pointer al] W fun e w' => e = .returned (.int .i64 (l.ht : Int)) ∧ w' = W := fun W k => high_any (hl.nu k)
  have HR : ∀ W, Kp Nu w W → Calls Try.prog 88 #[.pointer ar] W fun e w' => e = .returned (.int .i64 (r.ht : Int)) ∧ w' = W := fun W k => high_any (hr.nu k)
  have e1 := ht_sz l
  have e2 := ht_sz r
  obtain ⟨c0, c1⟩ := HS w (Kp.refl _ _)
  have FIN : Hid (∀ x y : Int, x = (l.sz : Int) + 1 + (r.sz : Int) → y = ((max l.ht r.ht : Nat) : Int) + 1 → ∃ a', Ending.returned (.pointer (some ⟨w.heap.size, 0, none⟩)) = Ending.returned (.pointer a') ∧ Tr (w.alloc (.cells #[.int .i64 (p.1), .int .i64 (p.2), .pointer al, .pointer ar, .int .i64 x, .int .i64 y] 136)).drew (.node l p r) a' ∧ Kp Nu w (w.alloc (.cells #[.int .i64 (p.1), .int .i64 (p.2), .pointer al, .pointer ar, .int .i64 x, .int .i64 y] 136)).drew) := fun x y hx hy => by
    have k : Kp Nu w (w.alloc (.cells #[.int .i64 (p.1), .int .i64 (p.2), .pointer al, .pointer ar, .int .i64 x, .int .i64 y] 136)).drew := (Kp.alloc w _ Nu).drew
    refine ⟨_, rfl, ⟨w.heap.size, al, ar, rfl, ?_, hl.nu k, hr.nu k⟩, k⟩
    subst hx hy
    exact heap_alloc_new w _
  generalize hL : l.sz = L at *
  generalize hR : r.sz = R at *
  generalize hHL : l.ht = A at *
  generalize hHR : r.ht = B at *
  have HH := hide (And.intro hL (And.intro hR (And.intro hHL hHR)))
  clear hL hR hHL hHR hb hl hr
  have a1 : IntKind.i64.wrap ((L : Int) + 1) = (L : Int) + 1 := by rw [IntKind.wrap_i64]; omega
  have a2 : IntKind.i64.wrap ((L : Int) + 1 + (R : Int)) = (L : Int) + 1 + (R : Int) := by rw [IntKind.wrap_i64]; omega
  have a3 : IntKind.i64.wrap ((A : Int) + 1) = (A : Int) + 1 := by rw [IntKind.wrap_i64]; omega
  have a4 : IntKind.i64.wrap ((B : Int) + 1) = (B : Int) + 1 := by rw [IntKind.wrap_i64]; omega
  go_enter Try.func152, Try.ntmps152
  go_wp2_with fail
  go_region_held (fun W => W.cell? ⟨b, 0, none⟩ = some (.int .i64 (p.1)) ∧ W.cell? ⟨b, 1, none⟩ = some (.int .i64 (p.2))) (first | (refine HS _ ?_; repeat (first | assumption | exact Kp.refl _ _ | apply Kp.andAlloc | apply Kp.drew)))
    (first
      | (go_at_call_of 85 al; refine (CL _ ?_).mono ?_; (repeat (first | assumption | exact Kp.refl _ _ | apply Kp.andAlloc | apply Kp.drew)); rintro e w' ⟨rfl, rfl⟩)
      | (go_at_call_of 85 ar; refine (CR _ ?_).mono ?_; (repeat (first | assumption | exact Kp.refl _ _ | apply Kp.andAlloc | apply Kp.drew)); rintro e w' ⟨rfl, rfl⟩)
      | (go_at_call_of 88 al; refine (HL _ ?_).mono ?_; (repeat (first | assumption | exact Kp.refl _ _ | apply Kp.andAlloc | apply Kp.drew)); rintro e w' ⟨rfl, rfl⟩)
      | (go_at_call_of 88 ar; refine (HR _ ?_).mono ?_; (repeat (first | assumption | exact Kp.refl _ _ | apply Kp.andAlloc | apply Kp.drew)); rintro e w' ⟨rfl, rfl⟩))
  all_goals go_wp2
  all_goals go_ret
  all_goals refine FIN.out _ _ ?_ ?_
  all_goals (first | rfl | omega)
end Go.Proofs.Ytchealdgncgjoaa.StI
namespace Go.Proofs.Ytchealdgncgjoaa.StI
open Go.RowKit Go.Proofs.Ytchealdgncgjoaa.St
set_option linter.unusedVariables false

theorem kp_drewN (w : World) (n : Nat) : Kp Nu w (w.drewN n) := ⟨rfl, rfl, rfl, Nat.le_refl _, fun _ _ _ => rfl⟩
section
variable {w : World} {l r : T (Int × Int)} {p : Int × Int} {a al ar : Option Addr}
/-- over, from a world behind w -/
theorem over_at {W : World} {t1 t2 : T (Int × Int)} {q : Int × Int} {n x y : Option Addr} (k : Kp Nu w W) (hn : Nd W q n) (h1 : Tr W t1 x) (h2 : Tr W t2 y) (hs : t1.sz + t2.sz < 2 ^ 62) :
    Calls Try.prog 152 #[.pointer n, .pointer x, .pointer y] W fun e w' => ∃ a', e = .returned (.pointer a') ∧ Tr w' (.node t1 q t2) a' ∧ Kp Nu W w' ∧ Kp Nu w w' :=
  (over_any hn h1 h2 hs).mono fun e w' ⟨a', e1, e2, e3⟩ => ⟨a', e1, e2, e3, k.andNu e3⟩

set_option maxRecDepth 100000 in
set_option maxHeartbeats 2000000 in
theorem bal_0 (hn : Nd w p a) (hl : Tr w l al) (hr : Tr w r ar) (hs : l.sz + r.sz < 2 ^ 62) (h1 : ¬ r.ht + 1 < l.ht) (h2 : ¬ l.ht + 1 < r.ht) :
    Calls Try.prog 151 #[.pointer a, .pointer al, .pointer ar] w fun e w' => ∃ a', e = .returned (.pointer a') ∧ Tr w' (T.mk p l r) a' ∧ Kp Nu w w' := by
  have HL : ∀ W, Kp Nu w W → Calls Try.prog 88 #[.pointer al] W fun e w' => e = .returned (.int .i64 (l.ht : Int)) ∧ w' = W := fun W k => high_any (hl.nu k)
  have HR : ∀ W, Kp Nu w W → Calls Try.prog 88 #[.pointer ar] W fun e w' => e = .returned (.int .i64 (r.ht : Int)) ∧ w' = W := fun W k => high_any (hr.nu k)
  have O1 : ∀ W, Kp Nu w W → Calls Try.prog 152 #[.pointer a, .pointer al, .pointer ar] W fun e w' => ∃ a', e = .returned (.pointer a') ∧ Tr w' (T.mk p l r) a' ∧ Kp Nu w w' := fun W k => by
    refine (over_at k (hn.keep (Kn.nu k)) (hl.nu k) (hr.nu k) hs).mono ?_
    rintro e w' ⟨a', e1, e2, e3, e4⟩
    exact ⟨a', e1, by unfold T.mk; rw [if_neg h1, if_neg h2]; exact e2, e4⟩
  have e1 := ht_sz l
  have e2 := ht_sz r
  generalize l.ht = A at *
  generalize r.ht = B at *
  have h3 : (A : Int) - (B : Int) = -1 ∨ (A : Int) - (B : Int) = 0 ∨ (A : Int) - (B : Int) = 1 := by omega
  have hA : (A : Int) < 4611686018427387904 := by omega
  have hB : (B : Int) < 4611686018427387904 := by omega
  clear hn hl hr h1 h2 hs e1 e2
  rcases h3 with hd | hd | hd
  all_goals go_enter Try.func151, Try.ntmps151
  all_goals go_wp2_with (first
    | (go_at_call_of 88 al; refine (HL _ ?_).mono ?_; (repeat (first | assumption | exact Kp.refl _ _ | apply Kp.drew)); rintro e w' ⟨rfl, rfl⟩)
    | (go_at_call_of 88 ar; refine (HR _ ?_).mono ?_; (repeat (first | assumption | exact Kp.refl _ _ | apply Kp.drew)); rintro e w' ⟨rfl, rfl⟩)
    | (go_at_call 152; refine (O1 _ ?_).mono ?_; (repeat (first | assumption | exact Kp.refl _ _ | apply Kp.drew)); rintro e w' ⟨a', rfl, t1, k1⟩))
  all_goals go_ret
  all_goals exact ⟨_, rfl, t1, k1⟩

end
end Go.Proofs.Ytchealdgncgjoaa.StI
