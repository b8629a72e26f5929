import Derived.WalkKit
namespace Go.Proofs.Ytchealdgncgjoaa.St
set_option linter.unusedVariables false
set_option linter.unusedSimpArgs false

inductive T (α : Type) where
  | nil : T α
  | node (l : T α) (p : α) (r : T α) : T α
namespace T
variable {α : Type}
def sz : T α → Nat
  | .nil => 0
  | .node l _ r => l.sz + 1 + r.sz
def ht : T α → Nat
  | .nil => 0
  | .node l _ r => max l.ht r.ht + 1
def xs : T α → List α
  | .nil => []
  | .node l p r => l.xs ++ p :: r.xs
def bal : T α → Prop
  | .nil => True
  | .node l _ r => l.bal ∧ r.bal ∧ l.ht ≤ r.ht + 1 ∧ r.ht ≤ l.ht + 1
/-- the left tree is too high -/
def balL (p : α) (l r : T α) : T α :=
  match l with
  | .nil => .nil
  | .node ll lp lr => if ll.ht < lr.ht then (match lr with
      | .nil => .nil
      | .node a q b => .node (.node ll lp a) q (.node b p r)) else .node ll lp (.node lr p r)
def balR (p : α) (l r : T α) : T α :=
  match r with
  | .nil => .nil
  | .node rl rp rr => if rr.ht < rl.ht then (match rl with
      | .nil => .nil
      | .node a q b => .node (.node l p a) q (.node b rp rr)) else .node (.node l p rl) rp rr
def mk (p : α) (l r : T α) : T α := if r.ht + 1 < l.ht then balL p l r else if l.ht + 1 < r.ht then balR p l r else .node l p r

theorem xs_length : ∀ t : T α, t.xs.length = t.sz
  | .nil => rfl
  | .node l p r => by
    have := xs_length l
    have := xs_length r
    simp [xs, sz]; omega
theorem ht_pos : ∀ {t : T α}, t.ht ≠ 0 → ∃ l p r, t = .node l p r
  | .nil, h => (h rfl).elim
  | .node l p r, _ => ⟨l, p, r, rfl⟩
theorem mk_xs (p : α) (l r : T α) : (mk p l r).xs = l.xs ++ p :: r.xs := by
  unfold mk
  split
  · rename_i h
    obtain ⟨ll, lp, lr, rfl⟩ := ht_pos (t := l) (by omega)
    simp only [balL]
    split
    · rename_i h2
      obtain ⟨a, q, b, rfl⟩ := ht_pos (t := lr) (by omega)
      simp [xs]
    · simp [xs]
  · split
    · rename_i h
      obtain ⟨ll, lp, lr, rfl⟩ := ht_pos (t := r) (by omega)
      simp only [balR]
      split
      · rename_i h2
        obtain ⟨a, q, b, rfl⟩ := ht_pos (t := ll) (by omega)
        simp [xs]
      · simp [xs]
    · rfl
theorem mk_bal (p : α) (l r : T α) (hl : l.bal) (hr : r.bal) (h1 : l.ht ≤ r.ht + 2) (h2 : r.ht ≤ l.ht + 2) :
    (mk p l r).bal ∧ (mk p l r).ht ≤ max l.ht r.ht + 1 ∧ max l.ht r.ht ≤ (mk p l r).ht ∧ (l.ht ≤ r.ht + 1 → r.ht ≤ l.ht + 1 → (mk p l r).ht = max l.ht r.ht + 1) := by
  unfold mk
  split
  · rename_i h
    obtain ⟨ll, lp, lr, rfl⟩ := ht_pos (t := l) (by omega)
    simp only [balL]
    split
    · rename_i h2
      obtain ⟨a, q, b, rfl⟩ := ht_pos (t := lr) (by omega)
      simp only [bal, ht] at *
      obtain ⟨x1, ⟨x2, x3, x4, x5⟩, x6, x7⟩ := hl
      refine ⟨⟨⟨x1, x2, ?_, ?_⟩, ⟨x3, hr, ?_, ?_⟩, ?_, ?_⟩, ?_, ?_, ?_⟩ <;> omega
    · simp only [bal, ht] at *
      obtain ⟨x1, x2, x6, x7⟩ := hl
      refine ⟨⟨x1, ⟨x2, hr, ?_, ?_⟩, ?_, ?_⟩, ?_, ?_, ?_⟩ <;> omega
  · split
    · rename_i h
      obtain ⟨ll, lp, lr, rfl⟩ := ht_pos (t := r) (by omega)
      simp only [balR]
      split
      · rename_i h2
        obtain ⟨a, q, b, rfl⟩ := ht_pos (t := ll) (by omega)
        simp only [bal, ht] at *
        obtain ⟨⟨x2, x3, x4, x5⟩, x1, x6, x7⟩ := hr
        refine ⟨⟨⟨hl, x2, ?_, ?_⟩, ⟨x3, x1, ?_, ?_⟩, ?_, ?_⟩, ?_, ?_, ?_⟩ <;> omega
      · simp only [bal, ht] at *
        obtain ⟨x1, x2, x6, x7⟩ := hr
        refine ⟨⟨⟨hl, x1, ?_, ?_⟩, x2, ?_, ?_⟩, ?_, ?_, ?_⟩ <;> omega
    · simp only [bal, ht]
      refine ⟨⟨hl, hr, ?_, ?_⟩, ?_, ?_, ?_⟩ <;> first | omega | (intros; trivial)

def ins : T α → Nat → α → T α
  | .nil, _, q => .node .nil q .nil
  | .node l p r, i, q => if i ≤ l.sz then mk p (l.ins i q) r else mk p l (r.ins (i - l.sz - 1) q)
theorem ins_xs : ∀ (t : T α) (i : Nat) (q : α), i ≤ t.sz → (t.ins i q).xs = t.xs.take i ++ q :: t.xs.drop i
  | .nil, i, q, h => by simp [sz] at h; subst h; rfl
  | .node l p r, i, q, h => by
    have el := xs_length l
    simp only [ins]
    split
    · rename_i h1
      rw [mk_xs, ins_xs l i q h1]
      simp only [xs]
      rw [List.take_append_of_le_length (by omega), List.drop_append_of_le_length (by omega)]
      simp
    · rename_i h1
      rw [mk_xs, ins_xs r _ q (by simp [sz] at h; omega)]
      simp only [xs]
      have e : i = l.xs.length + ((i - l.sz - 1) + 1) := by omega
      conv => rhs; rw [e]
      rw [List.take_length_add_append, List.drop_length_add_append]
      simp
theorem ins_bal : ∀ (t : T α) (i : Nat) (q : α), t.bal → (t.ins i q).bal ∧ t.ht ≤ (t.ins i q).ht ∧ (t.ins i q).ht ≤ t.ht + 1
  | .nil, i, q, h => by simp [ins, bal, ht]
  | .node l p r, i, q, h => by
    obtain ⟨hl, hr, h1, h2⟩ := h
    simp only [ins]
    split
    · obtain ⟨b1, b2, b3⟩ := ins_bal l i q hl
      obtain ⟨m1, m2, m3, m4⟩ := mk_bal p (l.ins i q) r b1 hr (by omega) (by omega)
      refine ⟨m1, ?_, ?_⟩
      · simp only [ht]
        by_cases e : (l.ins i q).ht ≤ r.ht + 1
        · rw [m4 e (by omega)]; omega
        · omega
      · simp only [ht]; omega
    · obtain ⟨b1, b2, b3⟩ := ins_bal r (i - l.sz - 1) q hr
      obtain ⟨m1, m2, m3, m4⟩ := mk_bal p l (r.ins (i - l.sz - 1) q) hl b1 (by omega) (by omega)
      refine ⟨m1, ?_, ?_⟩
      · simp only [ht]
        by_cases e : (r.ins (i - l.sz - 1) q).ht ≤ l.ht + 1
        · rw [m4 (by omega) e]; omega
        · omega
      · simp only [ht]; omega

theorem mod_left : ∀ (A B : List α) (i : Nat) (f : α → α), i < A.length → (A ++ B).modify i f = A.modify i f ++ B
  | [], B, i, f, h => by simp at h
  | a :: A, B, 0, f, h => by simp
  | a :: A, B, i + 1, f, h => by simp; exact mod_left A B i f (by simpa using h)
theorem mod_right : ∀ (A B : List α) (i : Nat) (f : α → α), A.length ≤ i → (A ++ B).modify i f = A ++ B.modify (i - A.length) f
  | [], B, i, f, h => by simp
  | a :: A, B, 0, f, h => by simp at h
  | a :: A, B, i + 1, f, h => by simp; exact mod_right A B i f (by simpa using h)
def rep : T α → Nat → (α → α) → T α
  | .nil, _, _ => .nil
  | .node l p r, i, f => if i < l.sz then .node (l.rep i f) p r else if l.sz < i then .node l p (r.rep (i - l.sz - 1) f) else .node l (f p) r
theorem rep_ht : ∀ (t : T α) (i : Nat) (f : α → α), (t.rep i f).ht = t.ht ∧ (t.rep i f).sz = t.sz ∧ (t.bal → (t.rep i f).bal)
  | .nil, i, f => ⟨rfl, rfl, fun h => h⟩
  | .node l p r, i, f => by
    simp only [rep]
    obtain ⟨a1, a2, a3⟩ := rep_ht l i f
    obtain ⟨b1, b2, b3⟩ := rep_ht r (i - l.sz - 1) f
    split
    · simp only [ht, sz, bal, a1, a2]
      exact ⟨trivial, trivial, fun h => ⟨a3 h.1, h.2.1, h.2.2.1, h.2.2.2⟩⟩
    · split
      · simp only [ht, sz, bal, b1, b2]
        exact ⟨trivial, trivial, fun h => ⟨h.1, b3 h.2.1, h.2.2.1, h.2.2.2⟩⟩
      · exact ⟨rfl, rfl, fun h => h⟩
theorem rep_xs : ∀ (t : T α) (i : Nat) (f : α → α), (t.rep i f).xs = t.xs.modify i f
  | .nil, i, f => by simp [rep, xs]
  | .node l p r, i, f => by
    have el := xs_length l
    simp only [rep]
    split
    · simp only [xs]; rw [rep_xs l i f, mod_left _ _ _ f (by omega)]
    · split
      · simp only [xs]; rw [rep_xs r _ f, mod_right _ _ _ f (by omega)]
        have : i - l.xs.length = (i - l.sz - 1) + 1 := by omega
        rw [this]; rfl
      · simp only [xs]; rw [mod_right _ _ _ f (by omega)]
        have : i - l.xs.length = 0 := by omega
        rw [this]; rfl

def fst [Inhabited α] : T α → α
  | .nil => default
  | .node .nil p _ => p
  | .node l _ _ => l.fst
def hd (t : T α) (d : α) : α := t.xs.headD d
def rem : T α → Nat → T α
  | .nil, _ => .nil
  | .node l p r, i => if i < l.sz then mk p (l.rem i) r else if l.sz < i then mk p l (r.rem (i - l.sz - 1)) else
      (match r with
      | .nil => l
      | .node a q b => mk ((T.node a q b).hd p) l ((T.node a q b).rem 0))
theorem rem_xs : ∀ (t : T α) (i : Nat), (t.rem i).xs = t.xs.eraseIdx i
  | .nil, i => by simp [rem, xs]
  | .node l p .nil, i => by
    have el := xs_length l
    simp only [rem]
    split
    · rw [mk_xs, rem_xs l i]
      simp only [xs]; rw [List.eraseIdx_append_of_lt_length (by omega)]
    · split
      · rw [mk_xs]
        simp only [xs]; rw [List.eraseIdx_append_of_length_le (by omega)]
        have : i - l.xs.length = (i - l.sz - 1) + 1 := by omega
        rw [this]; simp [rem, xs]
      · simp only [xs]; rw [List.eraseIdx_append_of_length_le (by omega)]
        have : i - l.xs.length = 0 := by omega
        rw [this]; simp
  | .node l p (.node a q b), i => by
    have el := xs_length l
    simp only [rem]
    split
    · rw [mk_xs, rem_xs l i]
      simp only [xs]; rw [List.eraseIdx_append_of_lt_length (by omega)]
    · split
      · have := rem_xs (.node a q b) (i - l.sz - 1)
        rw [mk_xs, this]
        rw [show (T.node l p (.node a q b)).xs = l.xs ++ p :: (T.node a q b).xs from rfl, List.eraseIdx_append_of_length_le (l := l.xs) (by omega)]
        have : i - l.xs.length = (i - l.sz - 1) + 1 := by omega
        rw [this]; rfl
      · have := rem_xs (.node a q b) 0
        rw [mk_xs, this]
        rw [show (T.node l p (.node a q b)).xs = l.xs ++ p :: (T.node a q b).xs from rfl, List.eraseIdx_append_of_length_le (by omega)]
        have e0 : i - l.xs.length = 0 := by omega
        rw [e0]
        simp only [List.eraseIdx_cons_zero]
        congr 1
        simp only [hd]
        have : (T.node a q b).xs ≠ [] := by simp [xs]
        revert this
        cases (T.node a q b).xs with
        | nil => intro h; exact (h rfl).elim
        | cons x y => intro _; rfl
theorem rem_bal : ∀ (t : T α) (i : Nat), t.bal → (t.rem i).bal ∧ (t.rem i).ht ≤ t.ht ∧ t.ht ≤ (t.rem i).ht + 1
  | .nil, i, h => by simp [rem, bal, ht]
  | .node l p .nil, i, h => by
    obtain ⟨hl, hr, h1, h2⟩ := h
    simp only [rem]
    split
    · obtain ⟨b1, b2, b3⟩ := rem_bal l i hl
      obtain ⟨m1, m2, m3, m4⟩ := mk_bal p (l.rem i) .nil b1 hr (by omega) (by omega)
      refine ⟨m1, ?_, ?_⟩
      · simp only [ht] at *; omega
      · simp only [ht] at *
        by_cases e : (0:Nat) ≤ (l.rem i).ht + 1
        · rw [m4 (by omega) e]; omega
        · omega
    · split
      · simp only [ht] at *
        have m4 := mk_bal p l .nil hl hr (by simp only [ht]; omega) (by simp only [ht]; omega)
        simp only [ht] at m4
        obtain ⟨m1, m2, m3, m4⟩ := m4
        refine ⟨m1, by omega, by omega⟩
      · simp only [ht] at *
        exact ⟨hl, by omega, by omega⟩
  | .node l p (.node a q b), i, h => by
    obtain ⟨hl, hr, h1, h2⟩ := h
    simp only [rem]
    split
    · obtain ⟨b1, b2, b3⟩ := rem_bal l i hl
      generalize (T.node a q b) = r at *
      obtain ⟨m1, m2, m3, m4⟩ := mk_bal p (l.rem i) r b1 hr (by omega) (by omega)
      refine ⟨m1, ?_, ?_⟩
      · simp only [ht] at *; omega
      · simp only [ht] at *
        by_cases e : r.ht ≤ (l.rem i).ht + 1
        · rw [m4 (by omega) e]; omega
        · omega
    · have key : ∀ (u : α) (j : Nat), (mk u l ((T.node a q b).rem j)).bal ∧ (mk u l ((T.node a q b).rem j)).ht ≤ (T.node l p (.node a q b)).ht ∧ (T.node l p (.node a q b)).ht ≤ (mk u l ((T.node a q b).rem j)).ht + 1 := by
        intro u j
        obtain ⟨b1, b2, b3⟩ := rem_bal (.node a q b) j hr
        have e : (T.node l p (.node a q b)).ht = max l.ht (T.node a q b).ht + 1 := rfl
        rw [e]
        generalize (T.node a q b).rem j = r' at *
        generalize (T.node a q b) = r at *
        obtain ⟨m1, m2, m3, m4⟩ := mk_bal u l r' hl b1 (by omega) (by omega)
        refine ⟨m1, by omega, ?_⟩
        by_cases e : l.ht ≤ r'.ht + 1
        · rw [m4 e (by omega)]; omega
        · omega
      have kk := key
      split
      · exact kk _ _
      · exact kk _ 0

theorem lt_ht : ∀ t : T α, t.sz < 2 ^ t.ht
  | .nil => by simp [sz, ht]
  | .node l p r => by
    have h1 := lt_ht l
    have h2 := lt_ht r
    have a1 : 2 ^ l.ht ≤ 2 ^ max l.ht r.ht := Nat.pow_le_pow_right (by omega) (by omega)
    have a2 : 2 ^ r.ht ≤ 2 ^ max l.ht r.ht := Nat.pow_le_pow_right (by omega) (by omega)
    simp only [sz, ht, Nat.pow_succ]; omega
theorem ht_le : ∀ t : T α, t.bal → 2 ^ t.ht ≤ (t.sz + 1) * (t.sz + 1)
  | .nil, _ => by simp [sz, ht]
  | .node l p r, h => by
    obtain ⟨hl, hr, h1, h2⟩ := h
    have e1 := ht_le l hl
    have e2 := ht_le r hr
    have es : (T.node l p r).sz + 1 = (l.sz + 1) + (r.sz + 1) := by simp only [sz]; omega
    rw [es]
    have e3 : 1 ≤ l.sz + 1 := by omega
    have e4 : 1 ≤ r.sz + 1 := by omega
    generalize l.sz + 1 = A at *
    generalize r.sz + 1 = B at *
    simp only [ht]
    generalize l.ht = x at *
    generalize r.ht = y at *
    have ex : (A + B) * (A + B) = A * A + B * B + 2 * (A * B) := by rw [Nat.mul_add, Nat.add_mul, Nat.add_mul, Nat.mul_comm B A]; omega
    rw [ex]
    by_cases e0 : max x y = 0
    · have : x = 0 := by omega
      have : y = 0 := by omega
      subst x; subst y
      have : 1 * 1 ≤ A * B := Nat.mul_le_mul e3 e4
      simp at e1 e2 ⊢; omega
    · obtain ⟨m, hm⟩ : ∃ m, max x y = m + 1 := ⟨max x y - 1, by omega⟩
      have a1 : 2 ^ m ≤ A * A := Nat.le_trans (Nat.pow_le_pow_right (by omega) (by omega)) e1
      have a2 : 2 ^ m ≤ B * B := Nat.le_trans (Nat.pow_le_pow_right (by omega) (by omega)) e2
      have a3 : 2 ^ m ≤ A * B := by
        rcases Nat.le_total A B with h | h
        · exact Nat.le_trans a1 (Nat.mul_le_mul_left _ h)
        · exact Nat.le_trans a2 (Nat.mul_le_mul_right _ h)
      rw [hm]
      have p2 : 2 ^ (m + 1 + 1) = 4 * 2 ^ m := by simp only [Nat.pow_succ]; omega
      rw [p2]; omega

/-- the place that a search comes to, and whether the key is there: c tells on which side of a pair the key is. -/
def fd (c : α → Int) : T α → Nat × Bool
  | .nil => (0, false)
  | .node l p r => if c p < 0 then fd c l else if 0 < c p then (l.sz + 1 + (fd c r).1, (fd c r).2) else (l.sz, true)
theorem fd_le (c : α → Int) : ∀ t : T α, (fd c t).1 ≤ t.sz ∧ ((fd c t).2 = true → (fd c t).1 < t.sz)
  | .nil => by simp [fd, sz]
  | .node l p r => by
    have h1 := fd_le c l
    have h2 := fd_le c r
    simp only [fd]
    split
    · simp only [sz]; exact ⟨by omega, fun h => by have := h1.2 h; omega⟩
    · split
      · simp only [sz]; exact ⟨by omega, fun h => by have := h2.2 h; omega⟩
      · simp only [sz]; exact ⟨by omega, fun h => by omega⟩
theorem fd_eq (c : α → Int) : ∀ t : T α, t.xs.Pairwise (fun a b => 0 ≤ c b → 0 < c a) → fd c t = (t.xs.countP (fun a => decide (0 < c a)), t.xs.any (fun a => decide (c a = 0)))
  | .nil, _ => rfl
  | .node l p r, h => by
    have el := xs_length l
    simp only [xs] at h
    rw [List.pairwise_append] at h
    obtain ⟨hl, hr, hx⟩ := h
    rw [List.pairwise_cons] at hr
    obtain ⟨hp, hr⟩ := hr
    have h1 := fd_eq c l hl
    have h2 := fd_eq c r hr
    simp only [fd, xs, List.countP_append, List.any_append, List.countP_cons, List.any_cons]
    split
    · rename_i h3
      have r0 : ∀ a ∈ r.xs, c a < 0 := fun a ha => by
        rcases Int.lt_or_le (c a) 0 with h | h
        · exact h
        · have := hp a ha h; omega
      have z1 : r.xs.countP (fun a => decide (0 < c a)) = 0 := by rw [List.countP_eq_zero]; intro a ha; have := r0 a ha; simp; omega
      have z2 : r.xs.any (fun a => decide (c a = 0)) = false := by rw [List.any_eq_false]; intro a ha; have := r0 a ha; simp; omega
      have z3 : decide (0 < c p) = false := by simp; omega
      have z4 : decide (c p = 0) = false := by simp; omega
      rw [h1, z1, z2, z3, z4]; simp
    · rename_i h3
      have l0 : ∀ a ∈ l.xs, 0 < c a := fun a ha => hx a ha p (by simp) (by omega)
      have z1 : l.xs.countP (fun a => decide (0 < c a)) = l.sz := by rw [← el, List.countP_eq_length]; intro a ha; simp; exact l0 a ha
      have z2 : l.xs.any (fun a => decide (c a = 0)) = false := by rw [List.any_eq_false]; intro a ha; have := l0 a ha; simp; omega
      split
      · rename_i h4
        have z4 : decide (c p = 0) = false := by simp; omega
        rw [h2, z1, z2, z4]; simp [h4]; omega
      · have z3 : decide (0 < c p) = false := by simp; omega
        have z4 : decide (c p = 0) = true := by simp; omega
        have r0 : ∀ a ∈ r.xs, ¬ 0 < c a := fun a ha h => by have := hp a ha (by omega); omega
        have z5 : r.xs.countP (fun a => decide (0 < c a)) = 0 := by rw [List.countP_eq_zero]; intro a ha; have := r0 a ha; simp; omega
        rw [z1, z2, z3, z4, z5]; simp
end T
end Go.Proofs.Ytchealdgncgjoaa.St
