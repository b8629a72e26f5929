import Derived.Test.YtckjededijgjgaaDoorHxB
import Derived.Lib.ItoaNum
namespace Go.Proofs.YtckjededijgjgaaDoor.Hx
set_option linter.unusedVariables false

/-- the digits that are still to come, of which j have come -/
def remF (b mu : Nat) : Nat → Nat → Nat → List UInt8
  | 0, _, _ => []
  | f + 1, m, j => if 0 < m ∨ j = 0 ∨ j < mu then remF b mu f (m / b) (j + 1) ++ [UInt8.ofNat (hexD (m % b))] else []

def decX (m : Nat) : List UInt8 := if m = 0 then [] else Lib.decDigits m
def hexX (m : Nat) : List UInt8 := if m = 0 then [] else hexL m
theorem dec_small {n : Nat} (h : n < 10) : Lib.decDigits n = [UInt8.ofNat (hexD n)] := by
  rw [Lib.decDigits_one h]
  unfold hexD
  rw [if_pos h]
theorem dec_big {n : Nat} (h : ¬ n < 10) : Lib.decDigits n = Lib.decDigits (n / 10) ++ [UInt8.ofNat (hexD (n % 10))] := by
  rw [Lib.decDigits, dif_neg h]
  unfold hexD
  rw [if_pos (by omega)]
theorem decX_step (m : Nat) (h : 0 < m) : decX m = decX (m / 10) ++ [UInt8.ofNat (hexD (m % 10))] := by
  unfold decX
  rw [if_neg (by omega)]
  by_cases h1 : m < 10
  · rw [if_pos (by omega), dec_small h1, Nat.mod_eq_of_lt h1]; rfl
  · rw [if_neg (by omega), dec_big h1]
theorem hexX_step (m : Nat) (h : 0 < m) : hexX m = hexX (m / 16) ++ [UInt8.ofNat (hexD (m % 16))] := by
  unfold hexX
  rw [if_neg (by omega)]
  by_cases h1 : m < 16
  · rw [if_pos (by omega), hexL_small h1, Nat.mod_eq_of_lt h1]; rfl
  · rw [if_neg (by omega), hexL_big h1]

theorem rem_dec (f : Nat) : ∀ m j, 1 ≤ j → m < f → remF 10 0 f m j = decX m := by
  induction f with
  | zero => intro m j _ h; omega
  | succ f ih =>
    intro m j hj h
    rw [remF]
    by_cases hm : 0 < m
    · rw [if_pos (.inl hm), ih (m / 10) (j + 1) (by omega) (by omega), ← decX_step m hm]
    · rw [if_neg (by omega)]
      unfold decX
      rw [if_pos (by omega)]
theorem rem_hex (f : Nat) : ∀ m j, 1 ≤ j → m < f → remF 16 0 f m j = hexX m := by
  induction f with
  | zero => intro m j _ h; omega
  | succ f ih =>
    intro m j hj h
    rw [remF]
    by_cases hm : 0 < m
    · rw [if_pos (.inl hm), ih (m / 16) (j + 1) (by omega) (by omega), ← hexX_step m hm]
    · rw [if_neg (by omega)]
      unfold hexX
      rw [if_pos (by omega)]
theorem hexX_len (k m : Nat) (h : m < 16 ^ k) : (hexX m).length ≤ k := by
  unfold hexX
  split
  · simp
  · cases k with
    | zero => simp at h; omega
    | succ k => exact (hexL_len k m h).2
theorem rem_pad (d : Nat) : ∀ f m j, j + d = 16 → m < 16 ^ d → d < f → remF 16 16 f m j = List.replicate (d - (hexX m).length) 48 ++ hexX m := by
  induction d with
  | zero =>
    intro f m j hj hm hf
    obtain ⟨f, rfl⟩ : ∃ g, f = g + 1 := ⟨f - 1, by omega⟩
    have hm0 : m = 0 := by simp at hm; exact hm
    subst hm0
    rw [remF, if_neg (by omega)]
    rfl
  | succ d ih =>
    intro f m j hj hm hf
    obtain ⟨f, rfl⟩ : ∃ g, f = g + 1 := ⟨f - 1, by omega⟩
    have hm' : m / 16 < 16 ^ d := by rw [Nat.pow_succ] at hm; exact Nat.div_lt_of_lt_mul (by rw [Nat.mul_comm]; exact hm)
    rw [remF, if_pos (by omega), ih f (m / 16) (j + 1) (by omega) hm' (by omega)]
    by_cases h0 : 0 < m
    · rw [hexX_step m h0, List.length_append, List.append_assoc]
      congr 2
      simp
    · obtain rfl : m = 0 := by omega
      show List.replicate (d - 0) 48 ++ [] ++ [UInt8.ofNat (hexD 0)] = List.replicate (d + 1 - 0) 48 ++ []
      rw [List.append_nil, List.append_nil, Nat.sub_zero, Nat.sub_zero, List.replicate_succ']
      rfl

/-- all digits, form by form -/
theorem all_dec (n f : Nat) (h : n < f) : remF 10 0 (f + 1) n 0 = Lib.decDigits n := by
  rw [remF, if_pos (by omega), rem_dec f (n / 10) 1 (by omega) (by omega)]
  by_cases h1 : n < 10
  · rw [dec_small h1, Nat.mod_eq_of_lt h1]
    unfold decX
    rw [if_pos (by omega)]
    rfl
  · rw [dec_big h1]
    unfold decX
    rw [if_neg (by omega)]
theorem all_hex (n f : Nat) (h : n < f) : remF 16 0 (f + 1) n 0 = hexL n := by
  rw [remF, if_pos (by omega), rem_hex f (n / 16) 1 (by omega) (by omega)]
  by_cases h1 : n < 16
  · rw [hexL_small h1, Nat.mod_eq_of_lt h1]
    unfold hexX
    rw [if_pos (by omega)]
    rfl
  · rw [hexL_big h1]
    unfold hexX
    rw [if_neg (by omega)]
theorem all_pad (n f : Nat) (hn : n < 18446744073709551616) (h : 16 < f) : remF 16 16 f n 0 = List.replicate (16 - (hexL n).length) 48 ++ hexL n := by
  rw [rem_pad 16 f n 0 rfl (by simpa using hn) h]
  unfold hexX
  by_cases h0 : n = 0
  · subst h0
    rw [if_pos rfl, hexL_small (by omega)]
    rfl
  · rw [if_neg h0]
end Go.Proofs.YtckjededijgjgaaDoor.Hx
namespace Go.Proofs.YtckjededijgjgaaDoor.Hx
/-- where the document's loop stands -/
def St (b mu : Nat) (A : List UInt8) (m : Nat) (acc : List UInt8) : Prop := ∃ f, m < f ∧ (m + 17 < f + acc.length ∨ 17 ≤ acc.length) ∧ A = remF b mu f m acc.length ++ acc.reverse
theorem St.start {b mu n : Nat} {A : List UInt8} (h : remF b mu (n + 22) n 0 = A) : St b mu A n [] := ⟨n + 22, by omega, .inl (by simp), by rw [← h]; simp⟩
theorem St.step {b mu m : Nat} {A acc : List UInt8} (hb : 2 ≤ b) (hmu : mu ≤ 16) (h : St b mu A m acc) (hc : 0 < m ∨ acc.length = 0 ∨ acc.length < mu) : St b mu A (m / b) (acc ++ [UInt8.ofNat (hexD (m % b))]) := by
  obtain ⟨f, h1, h2, h3⟩ := h
  obtain ⟨f, rfl⟩ : ∃ g, f = g + 1 := ⟨f - 1, by omega⟩
  rw [remF, if_pos hc] at h3
  have hd : m / b ≤ m := Nat.div_le_self m b
  refine ⟨f, ?_, ?_, ?_⟩
  · by_cases hm : 0 < m
    · have := Nat.div_lt_self hm (show 1 < b by omega); omega
    · have : m = 0 := by omega
      subst this
      omega
  · rw [List.length_append]; simp; omega
  · rw [h3, List.length_append, List.reverse_append, List.append_assoc]; rfl
theorem St.done {b mu m : Nat} {A acc : List UInt8} (h : St b mu A m acc) (hc : ¬ (0 < m ∨ acc.length = 0 ∨ acc.length < mu)) : A = acc.reverse := by
  obtain ⟨f, h1, h2, h3⟩ := h
  obtain ⟨f, rfl⟩ : ∃ g, f = g + 1 := ⟨f - 1, by omega⟩
  rw [remF, if_neg hc] at h3
  exact h3
theorem St.len {b mu m : Nat} {A acc : List UInt8} (h : St b mu A m acc) : acc.length ≤ A.length := by
  obtain ⟨f, _, _, h3⟩ := h
  rw [h3, List.length_append, List.length_reverse]
  omega
end Go.Proofs.YtckjededijgjgaaDoor.Hx
