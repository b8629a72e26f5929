import Derived.Test.YtckjededijgjgaaDoorNumC
import Derived.Test.YtckjededijgjgaaDoorDgP
namespace Go.Proofs.YtckjededijgjgaaDoor.Hx
open Go.Proofs.YtckjededijgjgaaDoor.Num (decF hexV numF dv digs dv_snoc dv_lt top)
set_option linter.unusedVariables false

/-- a list of digits, read -/
theorem decF_all : ∀ (l : List UInt8) (n k : Nat), digs l → n * 10 ^ l.length + dv l ≤ top → decF n k l = (n * 10 ^ l.length + dv l, 0, 0)
  | [], n, k, _, _ => by simp [Num.decF, Num.dv]
  | c :: r, n, k, h, ht => by
    have h1 := h c (by simp)
    have e : n * 10 ^ (c :: r).length + dv (c :: r) = (10 * n + (c.toNat - 48)) * 10 ^ r.length + dv r := by
      simp only [List.length_cons, Num.dv, Nat.pow_succ, Nat.add_mul]
      rw [Nat.mul_comm (10 ^ r.length) 10, ← Nat.mul_assoc, Nat.mul_comm n 10]
      omega
    have hle : 10 * n + (c.toNat - 48) ≤ (10 * n + (c.toNat - 48)) * 10 ^ r.length := Nat.le_mul_of_pos_right _ (Nat.pow_pos (by omega))
    rw [e] at ht
    rw [Num.decF, if_neg (by omega), if_neg (by omega), decF_all r _ _ (fun x hx => h x (by simp [hx])) ht, e]

theorem u8c (n : Nat) (h : n < 256) : (UInt8.ofNat n).toNat = n := by simp; omega
theorem dec_digs (n : Nat) : digs (Lib.decDigits n) ∧ dv (Lib.decDigits n) = n := by
  induction n using Nat.strongRecOn with
  | ind n ih =>
    by_cases h : n < 10
    · rw [dec_small h]
      have e : hexD n = 48 + n := by unfold hexD; rw [if_pos h]
      rw [e]
      have e2 := u8c (48 + n) (by omega)
      refine ⟨fun c hc => ?_, ?_⟩
      · simp only [List.mem_singleton] at hc
        subst hc
        omega
      · simp only [Num.dv, List.length_nil, Nat.pow_zero, Nat.mul_one, Nat.add_zero]
        omega
    · rw [dec_big h]
      have ih' := ih (n / 10) (by omega)
      have e : hexD (n % 10) = 48 + n % 10 := by unfold hexD; rw [if_pos (by omega)]
      rw [e]
      have e2 := u8c (48 + n % 10) (by omega)
      refine ⟨fun c hc => ?_, ?_⟩
      · rcases List.mem_append.1 hc with hc | hc
        · exact ih'.1 c hc
        · simp only [List.mem_singleton] at hc
          subst hc
          omega
      · rw [dv_snoc, ih'.2, e2]
        omega
/-- the first digit is no zero -/
theorem dec_first (n : Nat) (h : 0 < n) : ∃ c r, Lib.decDigits n = c :: r ∧ c ≠ 48 := by
  induction n using Nat.strongRecOn with
  | ind n ih =>
    by_cases h1 : n < 10
    · rw [dec_small h1]
      have e : hexD n = 48 + n := by unfold hexD; rw [if_pos h1]
      rw [e]
      refine ⟨_, [], rfl, fun hc => ?_⟩
      have := congrArg UInt8.toNat hc
      rw [u8c _ (by omega)] at this
      simp at this
      omega
    · rw [dec_big h1]
      obtain ⟨c, r, h2, h3⟩ := ih (n / 10) (by omega) (by omega)
      exact ⟨c, r ++ _, by rw [h2]; rfl, h3⟩
theorem num_dec (n : Nat) (hn : n < 18446744073709551616) : numF (Lib.decDigits n) = (n, 0, 0) := by
  obtain ⟨h1, h2⟩ := dec_digs n
  have hd : decF 0 0 (Lib.decDigits n) = (n, 0, 0) := by
    rw [decF_all _ 0 0 h1 (by rw [h2]; unfold Num.top; omega), h2]
    simp
  unfold Num.numF
  have hne : Lib.decDigits n ≠ [] := by
    by_cases h : n < 10
    · rw [dec_small h]; simp
    · rw [dec_big h]; simp
  rw [if_neg hne, if_neg, if_neg, hd]
  · rintro ⟨e, hl⟩
    by_cases h0 : 0 < n
    · obtain ⟨c, r, h3, h4⟩ := dec_first n h0
      rw [h3] at e
      simp at e
      exact h4 e
    · obtain rfl : n = 0 := by omega
      rw [dec_small (by omega)] at hl
      simp at hl
  · intro e
    have hm : (120 : UInt8) ∈ Lib.decDigits n := List.mem_of_mem_take (i := 2) (by rw [e]; simp)
    have := h1 120 hm
    exact absurd this (by decide)

/-! hexadecimal -/
def hv : Nat → List UInt8 → Nat
  | n, [] => n
  | n, c :: r => hv (16 * n + hexV c.toNat) r
def hxs (l : List UInt8) : Prop := ∀ c ∈ l, hexV c.toNat ≠ 16
theorem hexF_all : ∀ (l : List UInt8) (n k : Nat), hxs l → k + l.length ≤ 18 → Num.hexF n k l = (hv n l, 0, 0)
  | [], n, k, _, _ => rfl
  | c :: r, n, k, h, hk => by
    rw [Num.hexF, if_neg (h c (by simp)), if_neg (by simp at hk; omega), hexF_all r _ _ (fun x hx => h x (by simp [hx])) (by simp at hk; omega)]
    rfl
theorem hv_snoc : ∀ (l : List UInt8) (n : Nat) (c : UInt8), hv n (l ++ [c]) = 16 * hv n l + hexV c.toNat
  | [], n, c => rfl
  | a :: l, n, c => by
    show hv _ (l ++ [c]) = _
    rw [hv_snoc l]
    rfl
theorem hexV_D (d : Nat) (h : d < 16) : hexV (UInt8.ofNat (hexD d)).toNat = d := by
  rw [u8c _ (hexD_lt d h)]
  unfold hexD Num.hexV
  split
  · rw [if_pos (by omega)]; omega
  · rw [if_neg (by omega), if_pos (by omega)]; omega
theorem hex_hxs (n : Nat) : hxs (hexL n) ∧ hv 0 (hexL n) = n := by
  induction n using Nat.strongRecOn with
  | ind n ih =>
    by_cases h : n < 16
    · rw [hexL_small h]
      refine ⟨fun c hc => ?_, ?_⟩
      · simp only [List.mem_singleton] at hc
        subst hc
        rw [hexV_D n h]; omega
      · show 16 * 0 + hexV _ = n
        rw [hexV_D n h]; omega
    · rw [hexL_big h]
      have ih' := ih (n / 16) (by omega)
      refine ⟨fun c hc => ?_, ?_⟩
      · rcases List.mem_append.1 hc with hc | hc
        · exact ih'.1 c hc
        · simp only [List.mem_singleton] at hc
          subst hc
          rw [hexV_D _ (by omega)]; omega
      · rw [hv_snoc, ih'.2, hexV_D _ (by omega)]
        omega
theorem hex_first (n : Nat) (h : 0 < n) : ∃ c r, hexL n = c :: r ∧ c ≠ 48 := by
  induction n using Nat.strongRecOn with
  | ind n ih =>
    by_cases h1 : n < 16
    · rw [hexL_small h1]
      refine ⟨_, [], rfl, fun hc => ?_⟩
      have := hexV_D n h1
      rw [hc] at this
      have h2 : hexV (48 : UInt8).toNat = 0 := by decide
      omega
    · rw [hexL_big h1]
      obtain ⟨c, r, h2, h3⟩ := ih (n / 16) (by omega) (by omega)
      exact ⟨c, r ++ _, by rw [h2]; rfl, h3⟩
theorem num_hex (l : List UInt8) (h : hxs l) (h1 : 1 ≤ l.length) (h2 : l.length ≤ 16) : numF ([48, 120] ++ l) = (hv 0 l, 0, 0) := by
  unfold Num.numF
  rw [if_neg (by simp), if_pos (by simp), if_neg (by rw [List.length_append]; simp only [List.length_cons, List.length_nil]; omega)]
  show Num.hexF 0 2 l = _
  exact hexF_all l 0 2 h (by omega)
theorem num_one (n : Nat) (hn : n < 18446744073709551616) : numF ([48, 120] ++ hexL n) = (n, 0, 0) := by
  have h := hex_hxs n
  have hl := hexL_len16 hn
  rw [num_hex _ h.1 hl.1 hl.2, h.2]
theorem hv_zeros (k : Nat) (l : List UInt8) : hv 0 (List.replicate k 48 ++ l) = hv 0 l := by
  induction k with
  | zero => rfl
  | succ k ih =>
    rw [List.replicate_succ]
    show hv (16 * 0 + hexV (48 : UInt8).toNat) (List.replicate k 48 ++ l) = _
    have : 16 * 0 + hexV (48 : UInt8).toNat = 0 := by decide
    rw [this, ih]
theorem num_two (n : Nat) (hn : n < 18446744073709551616) : numF ([48, 120] ++ (List.replicate (16 - (hexL n).length) 48 ++ hexL n)) = (n, 0, 0) := by
  have h := hex_hxs n
  have hl := hexL_len16 hn
  have hx : hxs (List.replicate (16 - (hexL n).length) 48 ++ hexL n) := fun c hc => by
    rcases List.mem_append.1 hc with hc | hc
    · rw [List.eq_of_mem_replicate hc]; decide
    · exact h.1 c hc
  rw [num_hex _ hx (by simp; omega) (by simp; omega), hv_zeros, h.2]
end Go.Proofs.YtckjededijgjgaaDoor.Hx
