import GoSem.Op.String
namespace Go.Proofs.YtffcnonhhfhlhaaDoor.Num

/-- the greatest uint64, behind a name -/
def top : Nat := 18446744073709551615

/-- decimal digits, from the left: the number so far, the place, what is left: the number, the place, the error -/
def decF : Nat → Nat → List UInt8 → Nat × Nat × Nat
  | n, _, [] => (n, 0, 0)
  | n, k, c :: r => if c.toNat < 48 ∨ 57 < c.toNat then (0, k, 15) else if top < 10 * n + (c.toNat - 48) then (0, k, 16) else decF (10 * n + (c.toNat - 48)) (k + 1) r

/-- a hexadecimal digit's number, 16: it is none -/
def hexV (c : Nat) : Nat := if 48 ≤ c ∧ c ≤ 57 then c - 48 else if 97 ≤ c ∧ c ≤ 102 then c - 87 else if 65 ≤ c ∧ c ≤ 70 then c - 55 else 16

def hexF : Nat → Nat → List UInt8 → Nat × Nat × Nat
  | n, _, [] => (n, 0, 0)
  | n, k, c :: r => if hexV c.toNat = 16 then (0, k, 15) else if k = 18 then (0, k, 16) else hexF (16 * n + hexV c.toNat) (k + 1) r

/-- what Number answers -/
def numF (l : List UInt8) : Nat × Nat × Nat :=
  if l = [] then (0, 0, 15) else if l.take 2 = [48, 120] then (if l.length = 2 then (0, 2, 15) else hexF 0 2 (l.drop 2))
  else if l.head? = some 48 ∧ 1 < l.length then (0, 1, 15) else decF 0 0 l

theorem hexV_le (c : Nat) : hexV c ≤ 16 := by
  unfold hexV
  repeat' split
  all_goals omega

/-- k places have been read, the number is n -/
def Dec (l : List UInt8) (n k : Nat) : Prop := decF 0 0 l = decF n k (l.drop k)
def Hex (l : List UInt8) (n k : Nat) : Prop := hexF 0 2 (l.drop 2) = hexF n k (l.drop k)

theorem drop_at {l : List UInt8} {k : Nat} (h : k < l.length) : l.drop k = l[k] :: l.drop (k + 1) := (List.drop_eq_getElem_cons h)

theorem Dec.start (l : List UInt8) : Dec l 0 0 := by simp [Dec]
theorem Dec.bad {l : List UInt8} {n k : Nat} (h : Dec l n k) (hk : k < l.length) (hc : l[k].toNat < 48 ∨ 57 < l[k].toNat) : decF 0 0 l = (0, k, 15) := by
  rw [h, drop_at hk, decF, if_pos hc]
theorem Dec.large {l : List UInt8} {n k : Nat} (h : Dec l n k) (hk : k < l.length) (h1 : 48 ≤ l[k].toNat) (h2 : l[k].toNat ≤ 57) (hn : top < 10 * n + (l[k].toNat - 48)) : decF 0 0 l = (0, k, 16) := by
  rw [h, drop_at hk, decF, if_neg (by omega), if_pos hn]
theorem Dec.step {l : List UInt8} {n k : Nat} (h : Dec l n k) (hk : k < l.length) (h1 : 48 ≤ l[k].toNat) (h2 : l[k].toNat ≤ 57) (hn : 10 * n + (l[k].toNat - 48) ≤ top) : Dec l (10 * n + (l[k].toNat - 48)) (k + 1) := by
  unfold Dec; rw [h, drop_at hk, decF, if_neg (by omega), if_neg (by omega)]
theorem Dec.done {l : List UInt8} {n k : Nat} (h : Dec l n k) (hk : l.length ≤ k) : decF 0 0 l = (n, 0, 0) := by
  rw [h, List.drop_of_length_le hk, decF]

theorem Hex.start (l : List UInt8) : Hex l 0 2 := by simp [Hex]
theorem Hex.bad {l : List UInt8} {n k : Nat} (h : Hex l n k) (hk : k < l.length) (hc : hexV l[k].toNat = 16) : hexF 0 2 (l.drop 2) = (0, k, 15) := by
  rw [h, drop_at hk, hexF, if_pos hc]
theorem Hex.large {l : List UInt8} {n k : Nat} (h : Hex l n k) (hk : k < l.length) (hc : hexV l[k].toNat ≠ 16) (he : k = 18) : hexF 0 2 (l.drop 2) = (0, k, 16) := by
  rw [h, drop_at hk, hexF, if_neg hc, if_pos he]
theorem Hex.step {l : List UInt8} {n k : Nat} (h : Hex l n k) (hk : k < l.length) (hc : hexV l[k].toNat ≠ 16) (he : k ≠ 18) : Hex l (16 * n + hexV l[k].toNat) (k + 1) := by
  unfold Hex; rw [h, drop_at hk, hexF, if_neg hc, if_neg he]
theorem Hex.done {l : List UInt8} {n k : Nat} (h : Hex l n k) (hk : l.length ≤ k) : hexF 0 2 (l.drop 2) = (n, 0, 0) := by
  rw [h, List.drop_of_length_le hk, hexF]

/-! the number of a list of decimal digits, and its order -/
def dv : List UInt8 → Nat
  | [] => 0
  | c :: r => (c.toNat - 48) * 10 ^ r.length + dv r
def digs (l : List UInt8) : Prop := ∀ c ∈ l, 48 ≤ c.toNat ∧ c.toNat ≤ 57

theorem dv_lt : ∀ l : List UInt8, digs l → dv l < 10 ^ l.length
  | [], _ => by simp [dv]
  | c :: r, h => by
    have h1 := h c (by simp)
    have h2 := dv_lt r (fun x hx => h x (by simp [hx]))
    have h3 : (c.toNat - 48) * 10 ^ r.length ≤ 9 * 10 ^ r.length := Nat.mul_le_mul_right _ (by omega)
    simp only [dv, List.length_cons, Nat.pow_succ]
    omega
theorem dv_ge (c : UInt8) (r : List UInt8) (h : 49 ≤ c.toNat) : 10 ^ r.length ≤ dv (c :: r) := by
  have h3 : 1 * 10 ^ r.length ≤ (c.toNat - 48) * 10 ^ r.length := Nat.mul_le_mul_right _ (by omega)
  simp only [dv]; omega
theorem dv_snoc : ∀ (l : List UInt8) (c : UInt8), dv (l ++ [c]) = 10 * dv l + (c.toNat - 48)
  | [], c => by simp [dv]
  | a :: r, c => by
    have e : (a.toNat - 48) * (10 ^ r.length * 10) = 10 * ((a.toNat - 48) * 10 ^ r.length) := by rw [← Nat.mul_assoc, Nat.mul_comm]
    simp only [List.cons_append, dv, dv_snoc r c, List.length_append, List.length_cons, List.length_nil, Nat.pow_succ]
    omega

/-- among lists of digits of one length the order of the letters is that of the numbers -/
theorem less_iff : ∀ (a b : List UInt8), digs a → digs b → a.length = b.length → (Go.Op.bytesLess a b = true ↔ dv a < dv b)
  | [], [], _, _, _ => by simp [Go.Op.bytesLess, dv]
  | [], _ :: _, _, _, h => by simp at h
  | _ :: _, [], _, _, h => by simp at h
  | a :: x, b :: y, ha, hb, h => by
    have hl : x.length = y.length := by simpa using h
    have hx : digs x := fun c hc => ha c (by simp [hc])
    have hy : digs y := fun c hc => hb c (by simp [hc])
    have ih := less_iff x y hx hy hl
    have a1 := ha a (by simp)
    have b1 := hb b (by simp)
    have lx := dv_lt x hx
    have ly := dv_lt y hy
    rw [hl] at lx
    simp only [Go.Op.bytesLess, dv, hl, Bool.or_eq_true, decide_eq_true_eq, Bool.and_eq_true, beq_iff_eq, ih, UInt8.lt_iff_toNat_lt, ← UInt8.toNat_inj]
    constructor
    · rintro (h | ⟨h, h'⟩)
      · have : (a.toNat - 48 + 1) * 10 ^ y.length ≤ (b.toNat - 48) * 10 ^ y.length := Nat.mul_le_mul_right _ (by omega)
        rw [Nat.add_mul] at this; omega
      · rw [h]; omega
    · intro h
      by_cases h1 : a.toNat < b.toNat
      · exact .inl h1
      · by_cases h2 : a.toNat = b.toNat
        · rw [h2] at h; exact .inr ⟨h2, by omega⟩
        · have : (b.toNat - 48 + 1) * 10 ^ y.length ≤ (a.toNat - 48) * 10 ^ y.length := Nat.mul_le_mul_right _ (by omega)
          rw [Nat.add_mul] at this; omega

def mostL : List UInt8 := [49, 56, 52, 52, 54, 55, 52, 52, 48, 55, 51, 55, 48, 57, 53, 53, 49, 54, 49, 53]
theorem mostL_dv : dv mostL = top := by decide +kernel
theorem mostL_digs : digs mostL := by
  intro c hc
  have : mostL.all (fun c => decide (48 ≤ c.toNat) && decide (c.toNat ≤ 57)) = true := by decide +kernel
  have := List.all_eq_true.1 this c hc
  simpa using this

/-- what 'over' answers -/
def overF (l : List UInt8) : Bool := if l.length = 20 then !Go.Op.bytesLess l mostL && !(l == mostL) else decide (20 < l.length)

theorem over_iff (l : List UInt8) (hd : digs l) (hz : l.length ≤ 1 ∨ ∃ c r, l = c :: r ∧ 49 ≤ c.toNat) : overF l = decide (top < dv l) := by
  unfold overF
  by_cases h : l.length = 20
  · rw [if_pos h]
    have i := less_iff l mostL hd mostL_digs (by simpa [mostL] using h)
    have j := less_iff mostL l mostL_digs hd (by simpa [mostL] using h.symm)
    rw [mostL_dv] at i j
    have e : l = mostL → dv l = top := fun e => by rw [e, mostL_dv]
    have tri : ∀ (a b : List UInt8), a.length = b.length → Go.Op.bytesLess a b = false → a ≠ b → Go.Op.bytesLess b a = true := by
      intro a
      induction a with
      | nil => intro b hb _ hn; cases b with
        | nil => exact absurd rfl hn
        | cons => simp at hb
      | cons x a ih => intro b hb hn hne; cases b with
        | nil => simp at hb
        | cons y b =>
          simp only [Go.Op.bytesLess, Bool.or_eq_false_iff, decide_eq_false_iff_not, Bool.and_eq_false_iff, beq_eq_false_iff_ne] at hn
          simp only [Go.Op.bytesLess, Bool.or_eq_true, decide_eq_true_eq, Bool.and_eq_true, beq_iff_eq]
          by_cases hxy : x = y
          · subst hxy
            refine .inr ⟨rfl, ih b (by simpa using hb) ?_ (fun e => hne (by rw [e]))⟩
            rcases hn.2 with h | h
            · exact absurd rfl h
            · exact h
          · refine .inl ?_
            have := hn.1
            rw [UInt8.lt_iff_toNat_lt] at this ⊢
            have h3 : x.toNat ≠ y.toNat := fun e => hxy (UInt8.toNat_inj.1 e)
            omega
    cases hb : Go.Op.bytesLess l mostL with
    | true => have := i.1 hb; simp; omega
    | false =>
      by_cases he : l = mostL
      · subst he; simp [mostL_dv]
      · have := j.1 (tri l mostL (by simpa [mostL] using h) hb he)
        have hne : (l == mostL) = false := by simpa using he
        simp [hne]; exact this
  · rw [if_neg h]
    have u := dv_lt l hd
    by_cases h2 : 20 < l.length
    · have : top < dv l := by
        rcases hz with hz | ⟨c, r, rfl, hc⟩
        · omega
        · have g := dv_ge c r hc
          have : 10 ^ 20 ≤ 10 ^ r.length := Nat.pow_le_pow_right (by omega) (by simp at h2; omega)
          have t : top < 10 ^ 20 := by decide +kernel
          omega
      simp [h2, this]
    · have : dv l ≤ top := by
        have : 10 ^ l.length ≤ 10 ^ 19 := Nat.pow_le_pow_right (by omega) (by omega)
        have t : 10 ^ 19 ≤ top := by decide +kernel
        omega
      simp [h2]; omega

end Go.Proofs.YtffcnonhhfhlhaaDoor.Num
