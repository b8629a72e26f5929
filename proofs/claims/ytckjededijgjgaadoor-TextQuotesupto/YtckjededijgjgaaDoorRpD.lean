import Derived.Test.YtckjededijgjgaaDoorRpC
namespace Go.Proofs.YtckjededijgjgaaDoor.Rp
open Go.RowKit
open Go.Proofs.YtckjededijgjgaaDoor.Pc
set_option linter.unusedVariables false

theorem rw2_iff (s : ByteArray) (i lo hi lo2 hi2 : Nat) : rw3 s i lo hi lo2 hi2 2 = true ↔ (i + 1 < s.size ∧ lo ≤ (s.get! i).toNat ∧ (s.get! i).toNat ≤ hi ∧ lo2 ≤ (s.get! (i + 1)).toNat ∧ (s.get! (i + 1)).toNat ≤ hi2) := by
  have e : tl s (i + 2) (2 - 2) = true := rfl
  unfold rw3
  rw [e, Bool.and_true]
  simp only [bt, Bool.and_eq_true, decide_eq_true_eq]
  constructor
  · rintro ⟨⟨_, a, b⟩, c, d, e⟩; exact ⟨c, a, b, d, e⟩
  · rintro ⟨c, a, b, d, e⟩; exact ⟨⟨by omega, a, b⟩, c, d, e⟩
theorem rw3_iff (s : ByteArray) (i lo hi lo2 hi2 : Nat) : rw3 s i lo hi lo2 hi2 3 = true ↔ (i + 2 < s.size ∧ lo ≤ (s.get! i).toNat ∧ (s.get! i).toNat ≤ hi ∧ lo2 ≤ (s.get! (i + 1)).toNat ∧ (s.get! (i + 1)).toNat ≤ hi2 ∧ 128 ≤ (s.get! (i + 2)).toNat ∧ (s.get! (i + 2)).toNat ≤ 191) := by
  simp only [rw3, bt, tl, Bool.and_eq_true, decide_eq_true_eq, and_true]
  constructor
  · rintro ⟨⟨⟨_, a, b⟩, _, d, e⟩, f, g, h⟩; exact ⟨f, a, b, d, e, g, h⟩
  · rintro ⟨f, a, b, d, e, g, h⟩; exact ⟨⟨⟨by omega, a, b⟩, by omega, d, e⟩, f, g, h⟩
theorem rw4_iff (s : ByteArray) (i lo hi lo2 hi2 : Nat) : rw3 s i lo hi lo2 hi2 4 = true ↔ (i + 3 < s.size ∧ lo ≤ (s.get! i).toNat ∧ (s.get! i).toNat ≤ hi ∧ lo2 ≤ (s.get! (i + 1)).toNat ∧ (s.get! (i + 1)).toNat ≤ hi2 ∧ 128 ≤ (s.get! (i + 2)).toNat ∧ (s.get! (i + 2)).toNat ≤ 191 ∧ 128 ≤ (s.get! (i + 3)).toNat ∧ (s.get! (i + 3)).toNat ≤ 191) := by
  simp only [rw3, bt, tl, Bool.and_eq_true, decide_eq_true_eq, and_true]
  constructor
  · rintro ⟨⟨⟨_, a, b⟩, _, d, e⟩, ⟨_, g, h⟩, p, q, r⟩; exact ⟨p, a, b, d, e, g, h, q, r⟩
  · rintro ⟨p, a, b, d, e, g, h, q, r⟩; exact ⟨⟨⟨by omega, a, b⟩, by omega, d, e⟩, ⟨by omega, g, h⟩, p, q, r⟩

/-- the size by the table's rows -/
def szR (s : ByteArray) (i : Nat) : Int :=
  szB (rw3 s i 194 223 128 191 2) (rw3 s i 224 224 160 191 3) (rw3 s i 225 236 128 191 3) (rw3 s i 237 237 128 159 3) (rw3 s i 238 239 128 191 3) (rw3 s i 240 240 144 191 4) (rw3 s i 241 243 128 191 4) (rw3 s i 244 244 128 143 4)

theorem szR_enc {s : ByteArray} {i r k : Nat} (h : encAt s i r k) (hk : 2 ≤ k) : szR s i = (k : Int) := by
  unfold szR szB
  rcases h with h | h | h | h
  · omega
  · obtain ⟨rfl, h1, h2, h3, h4, h5⟩ := h
    rw [if_pos]
    · rfl
    · rw [rw2_iff]; omega
  · obtain ⟨rfl, h1, h2, h3, h4, h5, h6, h7⟩ := h
    rw [if_neg, if_pos]
    · rfl
    · simp only [Bool.or_eq_true, rw3_iff]; omega
    · rw [rw2_iff]; omega
  · obtain ⟨rfl, h1, h2, h3, h4, h5, h6, h7⟩ := h
    rw [if_neg, if_neg, if_pos]
    · rfl
    · simp only [Bool.or_eq_true, rw4_iff]; omega
    · simp only [Bool.or_eq_true, rw3_iff]; omega
    · rw [rw2_iff]; omega

theorem szR_none {s : ByteArray} {i : Nat} (h : ∀ r k, ¬ encAt s i r k) : szR s i = 0 := by
  have b0 := (s.get! i).toNat_lt; have b1 := (s.get! (i + 1)).toNat_lt; have b2 := (s.get! (i + 2)).toNat_lt; have b3 := (s.get! (i + 3)).toNat_lt
  unfold szR szB
  rw [if_neg, if_neg, if_neg]
  · simp only [Bool.or_eq_true, rw4_iff]
    intro hh
    refine h (((s.get! i).toNat - 240) * 262144 + ((s.get! (i + 1)).toNat - 128) * 4096 + ((s.get! (i + 2)).toNat - 128) * 64 + ((s.get! (i + 3)).toNat - 128)) 4 (.inr (.inr (.inr ⟨rfl, ?_, ?_, ?_, ?_, ?_, ?_, ?_⟩))) <;> omega
  · simp only [Bool.or_eq_true, rw3_iff]
    intro hh
    refine h (((s.get! i).toNat - 224) * 4096 + ((s.get! (i + 1)).toNat - 128) * 64 + ((s.get! (i + 2)).toNat - 128)) 3 (.inr (.inr (.inl ⟨rfl, ?_, ?_, ?_, ?_, ?_, ?_, ?_⟩))) <;> omega
  · rw [rw2_iff]
    intro hh
    refine h (((s.get! i).toNat - 192) * 64 + ((s.get! (i + 1)).toNat - 128)) 2 (.inr (.inl ⟨rfl, ?_, ?_, ?_, ?_, ?_⟩)) <;> omega

/-- what size answers: 0 of a broken byte -/
def szF (s : ByteArray) (i : Nat) : Int := if Utf8.decode s i = (65533, 1) then 0 else ((Utf8.decode s i).2 : Int)

theorem size_any (s : ByteArray) (i : Nat) (w : World) (hi : i < s.size) (hs : s.size ≤ 1048576) :
    Calls Tryd.prog 95 #[.string s, .int .i64 (i : Int)] w fun e0 w' => e0 = .returned (.int .i64 (szF s i)) ∧ w' = w := by
  have gen : 128 ≤ s[i].toNat → Calls Tryd.prog 95 #[.string s, .int .i64 (i : Int)] w fun e0 w' => e0 = .returned (.int .i64 (szR s i)) ∧ w' = w := fun h128 =>
    size_gen s i w _ _ _ _ _ _ _ _ hi (by omega) (by omega) (by omega) rfl rfl rfl rfl rfl rfl rfl rfl
  rcases decode_cases s i with ⟨hd, h128, hno⟩ | ⟨r, k, hd, he⟩
  · have e : szF s i = szR s i := by unfold szF; rw [if_pos hd, szR_none hno]
    rw [e]
    exact gen (by rw [← Pc.get_at s i hi]; exact h128)
  · have hne : ¬ (Utf8.decode s i = (65533, 1)) := by
      rw [hd]; intro e
      simp only [Prod.mk.injEq] at e
      obtain ⟨rfl, rfl⟩ := e
      rcases he with he | he | he | he <;> omega
    by_cases hk : k = 1
    · subst hk
      have e : szF s i = 1 := by unfold szF; rw [if_neg hne, hd]; rfl
      rw [e]
      refine size_one s i w hi ?_
      rw [← Pc.get_at s i hi]
      rcases he with he | he | he | he <;> omega
    · have hk2 : 2 ≤ k := by rcases he with he | he | he | he <;> omega
      have e : szF s i = szR s i := by unfold szF; rw [if_neg hne, hd, szR_enc he hk2]
      rw [e]
      refine gen ?_
      rw [← Pc.get_at s i hi]
      rcases he with he | he | he | he <;> omega

theorem value_any (s : ByteArray) (i r k : Nat) (w : World) (hi : i < s.size) (hs : s.size ≤ 1048576) (he : encAt s i r k) :
    Calls Tryd.prog 96 #[.string s, .int .i64 (i : Int), .int .i64 (k : Int)] w fun e w' => e = .returned (.int .i64 (r : Int)) ∧ ∃ n, w' = w.drewN n := by
  rcases he with h | h | h | h
  · obtain ⟨rfl, h1, h2⟩ := h
    refine (value_1 s i r w hi (by rw [← Pc.get_at s i hi]; exact h2)).mono ?_
    rintro e w' ⟨rfl, rfl⟩
    exact ⟨rfl, 0, rfl⟩
  · obtain ⟨rfl, h1, h2, h3, h4, h5⟩ := h
    exact value_2 s i r w (by omega) (by omega) (by rw [← Pc.get_at s i hi]; exact h4) (by rw [← Pc.get_at s (i + 1) (by omega)]; exact h5)
  · obtain ⟨rfl, h1, h2, h3, h4, h5, h6, h7⟩ := h
    exact value_3 s i r w (by omega) (by omega) (by rw [← Pc.get_at s i hi]; exact h5) (by rw [← Pc.get_at s (i + 1) (by omega)]; exact h6) (by rw [← Pc.get_at s (i + 2) (by omega)]; exact h7)
  · obtain ⟨rfl, h1, h2, h3, h4, h5, h6, h7⟩ := h
    exact value_4 s i r w (by omega) (by omega) (by rw [← Pc.get_at s i hi]; exact h4) (by rw [← Pc.get_at s (i + 1) (by omega)]; exact h5) (by rw [← Pc.get_at s (i + 2) (by omega)]; exact h6) (by rw [← Pc.get_at s (i + 3) (by omega)]; exact h7)
end Go.Proofs.YtckjededijgjgaaDoor.Rp
