import Derived.Lib.DecodeN
namespace Go.Proofs.YtckjededijgjgaaDoor.Pc

/-- how many bytes a rune's encoding has -/
def lenF (r : Nat) : Nat := if r ≤ 127 then 1 else if r ≤ 2047 then 2 else if r ≤ 65535 then 3 else 4

/-- the bytes of a whole rune, by its size -/
def isEnc (n b0 b1 b2 b3 r k : Nat) : Prop :=
  (k = 1 ∧ r < 128 ∧ b0 = r) ∨
  (k = 2 ∧ 128 ≤ r ∧ r < 2048 ∧ 2 ≤ n ∧ b0 = 192 + r / 64 ∧ b1 = 128 + r % 64) ∨
  (k = 3 ∧ 2048 ≤ r ∧ r < 65536 ∧ (r < 55296 ∨ 57343 < r) ∧ 3 ≤ n ∧ b0 = 224 + r / 4096 ∧ b1 = 128 + r / 64 % 64 ∧ b2 = 128 + r % 64) ∨
  (k = 4 ∧ 65536 ≤ r ∧ r ≤ 1114111 ∧ 4 ≤ n ∧ b0 = 240 + r / 262144 ∧ b1 = 128 + r / 4096 % 64 ∧ b2 = 128 + r / 64 % 64 ∧ b3 = 128 + r % 64)

theorem decodeN_cases (n b0 b1 b2 b3 : Nat) (h0 : b0 < 256) (h1 : b1 < 256) (h2 : b2 < 256) (h3 : b3 < 256) :
    (Lib.decodeN n b0 b1 b2 b3 = (65533, 1) ∧ 128 ≤ b0 ∧ ∀ r k, ¬ isEnc n b0 b1 b2 b3 r k) ∨ ∃ r k, Lib.decodeN n b0 b1 b2 b3 = (r, k) ∧ isEnc n b0 b1 b2 b3 r k := by
  unfold Lib.decodeN
  split
  · right; exact ⟨_, _, rfl, .inl ⟨rfl, by omega, rfl⟩⟩
  · split
    · split
      · right; exact ⟨_, _, rfl, .inr (.inl ⟨rfl, by omega, by omega, by omega, by omega, by omega⟩)⟩
      · left; refine ⟨rfl, by omega, ?_⟩
        rintro r k (h | h | h | h) <;> omega
    · split
      · split
        · right; exact ⟨_, _, rfl, .inr (.inr (.inl ⟨rfl, by omega, by omega, by omega, by omega, by omega, by omega, by omega⟩))⟩
        · left; refine ⟨rfl, by omega, ?_⟩
          rintro r k (h | h | h | h) <;> omega
      · split
        · split
          · right; exact ⟨_, _, rfl, .inr (.inr (.inr ⟨rfl, by omega, by omega, by omega, by omega, by omega, by omega, by omega⟩))⟩
          · left; refine ⟨rfl, by omega, ?_⟩
            rintro r k (h | h | h | h) <;> omega
        · left; refine ⟨rfl, by omega, ?_⟩
          rintro r k (h | h | h | h) <;> omega

/-- a rune's bytes fix it -/
theorem isEnc_unique {n b0 b1 b2 b3 r k r' k' : Nat} (h : isEnc n b0 b1 b2 b3 r k) (h' : isEnc n b0 b1 b2 b3 r' k') : r = r' ∧ k = k' := by
  rcases h with h | h | h | h <;> rcases h' with h' | h' | h' | h' <;> constructor <;> omega
end Go.Proofs.YtckjededijgjgaaDoor.Pc
