import Derived.Test.YtgaehpdlljlliaaCrF
namespace Go.Proofs.Ytgaehpdlljlliaa.Cd
open Go.RowKit
set_option linter.unusedVariables false

theorem be_byt (n x : Nat) : Byt (be n x) := by
  induction n with
  | zero => intro z hz; simp [be] at hz
  | succ n ih =>
    intro z hz
    simp only [be, List.mem_cons] at hz
    rcases hz with rfl | hz
    · omega
    · exact ih z hz
theorem vi_byt (f : Nat) : ∀ x : Nat, Byt (vi f x) := by
  induction f with
  | zero => intro x z hz; simp [vi] at hz
  | succ f ih =>
    intro x z hz
    simp only [vi] at hz
    split at hz
    · simp at hz; omega
    · rcases List.mem_cons.1 hz with rfl | hz
      · omega
      · exact ih _ z hz
theorem va_byt (x : Nat) : Byt (va x) := vi_byt 10 x

/-- numbers come back -/
theorem numF_be (n : Nat) : ∀ (a : Int) (x : Nat) (r : List Int), numF a (be n x ++ r) = numF (a * 256 ^ n + ((x % 256 ^ n : Nat) : Int)) r := by
  induction n with
  | zero => intro a x r; simp [be, Nat.mod_one]
  | succ n ih =>
    intro a x r
    rw [be, List.cons_append, numF, ih]
    congr 1
    have e : x % 256 ^ (n + 1) = (x / 256 ^ n % 256) * 256 ^ n + x % 256 ^ n := by
      rw [Nat.pow_succ, Nat.mod_mul, Nat.mul_comm, Nat.add_comm, Nat.mul_comm]
    rw [e, Int.natCast_add, Int.natCast_mul, Int.natCast_pow, Int.pow_succ, Int.add_mul]
    simp only [Int.mul_assoc, Int.mul_comm, Int.add_assoc]
    rfl
theorem rdN_be (n x : Nat) (r : List Int) (h : x < 256 ^ n) : rdN n 0 (be n x ++ r) = ((x : Int), 0, r) := by
  have hl := be_length n x
  have e1 : (be n x ++ r).take n = be n x := by rw [List.take_append_of_le_length (by omega), List.take_of_length_le (by omega)]
  have e2 : (be n x ++ r).drop n = r := by rw [List.drop_append_of_le_length (by omega), List.drop_of_length_le (by omega), List.nil_append]
  have e3 : ¬ (be n x ++ r).length < n := by rw [List.length_append]; omega
  have e4 : numF 0 (be n x) = (x : Int) := by
    have := numF_be n 0 x []
    rw [List.append_nil] at this
    rw [this, numF, Nat.mod_eq_of_lt h]
    omega
  simp only [rdN, if_true, if_neg e3, e1, e2, e4]

theorem gv_vi (f : Nat) : ∀ (x i : Nat) (a : Int) (r : List Int), x < 128 ^ (f + 1) → i + f = 9 → x * 128 ^ i < 18446744073709551616 → (0 < i → x ≠ 0) → gv i a (vi (f + 1) x ++ r) = (a + (x : Int) * 128 ^ i, (i : Int) + ((vi (f + 1) x).length : Int), 0) := by
  induction f with
  | zero =>
    intro x i a r hx hi h9 h0
    have hi9 : i = 9 := by omega
    subst hi9
    have h7 : (128 : Nat) ^ 9 = 9223372036854775808 := by decide
    rw [h7] at h9
    have hx1 : x ≤ 1 := by omega
    have e : vi (0 + 1) x = [(x : Int)] := by
      have : x < 128 := by omega
      simp [vi, this]
    rw [e, List.cons_append, gv, if_neg (by omega), if_neg (by omega), if_neg (by have := h0 (by omega); omega)]
    have : (x : Int) % 128 = (x : Int) := by omega
    rw [this]
    simp
  | succ f ih =>
    intro x i a r hx hi h9 h0
    have hi8 : i ≤ 8 := by omega
    by_cases h : x < 128
    · have e : vi (f + 1 + 1) x = [(x : Int)] := by rw [vi, if_pos h]
      rw [e, List.cons_append, gv, if_neg (by omega), if_neg (by omega)]
      rw [if_neg (by
        rintro ⟨h1, h2⟩
        exact h0 h2 (by omega))]
      have : (x : Int) % 128 = (x : Int) := by omega
      rw [this]
      simp
    · have e : vi (f + 1 + 1) x = ((x % 128 + 128 : Nat) : Int) :: vi (f + 1) (x / 128) := by rw [vi, if_neg h]
      have hle : x / 128 * 128 ^ (i + 1) ≤ x * 128 ^ i := by
        rw [Nat.pow_succ, Nat.mul_comm (128 ^ i) 128, ← Nat.mul_assoc]
        exact Nat.mul_le_mul_right _ (Nat.div_mul_le_self x 128)
      rw [e, List.cons_append, gv, if_neg (by omega), if_pos (by omega), ih (x / 128) (i + 1) _ r (pow128 (f + 1) x hx) (by omega) (by omega) (by omega)]
      have e1 : ((x % 128 + 128 : Nat) : Int) % 128 = ((x % 128 : Nat) : Int) := by omega
      rw [e1, List.length_cons]
      have e2 : ((x % 128 : Nat) : Int) * 128 ^ i + ((x / 128 : Nat) : Int) * 128 ^ (i + 1) = (x : Int) * 128 ^ i := by
        rw [Int.pow_succ, Int.mul_comm ((128 : Int) ^ i) 128, ← Int.mul_assoc, ← Int.add_mul]
        congr 1
        omega
      rw [Int.add_assoc, e2]
      congr 2
      omega

theorem gv_va (x : Nat) (r : List Int) (h : x < 18446744073709551616) : gv 0 0 (va x ++ r) = ((x : Int), ((va x).length : Int), 0) := by
  have h7 : (128 : Nat) ^ (9 + 1) = 1180591620717411303424 := by decide
  have := gv_vi 9 x 0 0 r (by omega) (by omega) (by simpa using h) (by omega)
  simpa [va] using this
theorem rdV_va (x : Nat) (r : List Int) (h : x < 18446744073709551616) : rdV 0 (va x ++ r) = ((x : Int), 0, r) := by
  simp only [rdV, gv_va x r h, if_true, Int.toNat_natCast]
  rw [List.drop_append_of_le_length (Nat.le_refl _), List.drop_of_length_le (Nat.le_refl _), List.nil_append]

theorem uz_zz (x : Int) : uz (zz x) = x := by
  unfold uz zz
  split <;> split <;> omega
theorem rdR_app (bs r : List Int) : rdR (bs.length : Int) 0 (bs ++ r) = (bs, 0, r) := by
  have h1 : ¬ (bs.length : Int) < 0 := by omega
  have h2 : ¬ (bs.length : Int) > ((bs ++ r).length : Int) := by rw [List.length_append]; omega
  simp only [rdR, if_true, if_neg h1, if_neg h2, Int.toNat_natCast]
  rw [List.take_append_of_le_length (Nat.le_refl _), List.take_of_length_le (Nat.le_refl _), List.drop_append_of_le_length (Nat.le_refl _), List.drop_of_length_le (Nat.le_refl _), List.nil_append]
theorem rdB_app (bs r : List Int) (h : bs.length < 18446744073709551616) : rdB (bs.length : Int) 0 (va bs.length ++ bs ++ r) = (bs, 0, r) := by
  have hg := gv_va bs.length (bs ++ r) h
  rw [← List.append_assoc] at hg
  have h1 : ¬ (bs.length : Int) < 0 := by omega
  have h2 : ¬ (bs.length : Int) > (bs.length : Int) := by omega
  have h3 : ¬ (bs.length : Int) > ((va bs.length ++ bs ++ r).length : Int) - ((va bs.length).length : Int) := by simp only [List.length_append]; omega
  simp only [rdB, hg, if_true, if_neg h1, if_neg h2, if_neg h3, Int.toNat_natCast]
  have e1 : (va bs.length ++ bs ++ r).drop (va bs.length).length = bs ++ r := by
    rw [List.append_assoc, List.drop_append_of_le_length (Nat.le_refl _), List.drop_of_length_le (Nat.le_refl _), List.nil_append]
  have e2 : (va bs.length ++ bs ++ r).drop ((va bs.length).length + bs.length) = r := by
    rw [← List.length_append, List.drop_append_of_le_length (Nat.le_refl _), List.drop_of_length_le (Nat.le_refl _), List.nil_append]
  rw [e1, e2, List.take_append_of_le_length (Nat.le_refl _), List.take_of_length_le (Nat.le_refl _)]

/-- a thing as it must be: what its kind has not is 0 -/
def norm (t : Stp) : Prop :=
  (t.kind = 1 → t.N < 256) ∧ (t.kind = 2 → t.N < 65536) ∧ (t.kind = 3 → t.N < 4294967296) ∧ (t.kind ≥ 6 → t.N = 0) ∧ (t.kind ≠ 6 → t.I = 0) ∧ (t.kind ≠ 7 → t.F = false) ∧ (t.kind ≤ 7 → t.bs = [])

theorem isT_iff (k : Int) : isT k = true ↔ 1 ≤ k ∧ k ≤ 9 := by simp [isT]

/-- what is laid down is taken back -/
theorem tk_tb {W : World} (t : Stp) (hf : Fit W t) (hn : norm t) (hT : isT t.kind = true) (r : List Int) : tk t.kind (t.bs.length : Int) 0 (tb t ++ r) = ⟨t.N, t.I, t.F, t.bs, 0, r⟩ := by
  have n0 := hf.n0
  have n1 := hf.n1
  have i0 := hf.i0
  have i1 := hf.i1
  have hl := hf.len
  obtain ⟨hk1, hk9⟩ := (isT_iff _).1 hT
  obtain ⟨a1, a2, a3, a4, a5, a6, a7⟩ := hn
  obtain ⟨kind, N, I, F, bv, bs⟩ := t
  simp only at *
  have hc : kind = 1 ∨ kind = 2 ∨ kind = 3 ∨ kind = 4 ∨ kind = 5 ∨ kind = 6 ∨ kind = 7 ∨ kind = 8 ∨ kind = 9 := by omega
  rcases hc with rfl | rfl | rfl | rfl | rfl | rfl | rfl | rfl | rfl
  · have h1 := a1 rfl
    have e := rdN_be 1 (N % 256).toNat r (by omega)
    simp only [tk, tb, if_true, tkN, e, a5 (by decide), a6 (by decide), a7 (by decide)]
    rw [show (((N % 256).toNat : Nat) : Int) = N by omega]
  · have h1 := a2 rfl
    have e := rdN_be 2 (N % 65536).toNat r (by omega)
    simp [tk, tb, tkN, e, a5, a6, a7]
    omega
  · have h1 := a3 rfl
    have e := rdN_be 4 (N % 4294967296).toNat r (by omega)
    simp [tk, tb, tkN, e, a5, a6, a7]
    omega
  · have e := rdN_be 8 N.toNat r (by omega)
    simp [tk, tb, tkN, e, a5, a6, a7]
    omega
  · have e := rdV_va N.toNat r (by omega)
    simp [tk, tb, tkN, e, a5, a6, a7]
    omega
  · obtain ⟨z0, z1⟩ := zz_range i0 i1
    have e := rdV_va (zz I).toNat r (by omega)
    rw [show (((zz I).toNat : Nat) : Int) = zz I by omega] at e
    simp [tk, tb, e, a4, a6, a7, uz_zz]
  · cases F
    · simp [tk, tb, rdF, a4, a5, a7]
    · simp [tk, tb, rdF, a4, a5, a7]
  · have e := rdR_app bs r
    simp [tk, tb, tkB, e, a4, a5, a6]
  · have e := rdB_app bs r (by omega)
    rw [List.append_assoc] at e
    simp [tk, tb, tkB, e, a4, a5, a6]

theorem th_norm {W : World} (s : Stp) (hf : Fit W s) : norm (th s) := by
  have n0 := hf.n0
  refine ⟨?_, ?_, ?_, ?_, ?_, ?_, ?_⟩ <;> intro h <;> simp only [th] at h ⊢
  · rw [if_pos h]; omega
  · rw [if_neg (by omega), if_pos h]; omega
  · rw [if_neg (by omega), if_neg (by omega), if_pos h]; omega
  · rw [if_neg (by omega), if_neg (by omega), if_neg (by omega), if_neg (by omega)]
  · rw [if_neg h]
  · rw [if_neg h]
  · rw [if_neg (by omega)]
theorem th_fit {W : World} (s : Stp) (hf : Fit W s) : Fit W (th s) := by
  have n0 := hf.n0
  have n1 := hf.n1
  refine ⟨?_, ?_, ?_, ?_, ?_, ?_, ?_⟩ <;> simp only [th]
  · split
    · exact hf.rd
    · exact rd_nil W
  · split
    · exact hf.byt
    · intro z hz; simp at hz
  · split
    · omega
    · split
      · omega
      · split
        · omega
        · split <;> omega
  · split
    · omega
    · split
      · omega
      · split
        · omega
        · split <;> omega
  · split
    · exact hf.i0
    · omega
  · split
    · exact hf.i1
    · omega
  · split
    · exact hf.len
    · simp
theorem th_kind (s : Stp) : (th s).kind = s.kind := rfl

theorem tb_byt {W : World} (t : Stp) (hf : Fit W t) : Byt (tb t) := by
  unfold tb
  repeat' split
  all_goals first | exact be_byt _ _ | exact va_byt _ | exact hf.byt | exact (va_byt _).append hf.byt | (intro z hz; simp at hz; omega)

/-- how much room a step is given -/
def rm1 (s : Stp) : Nat := 10 + (if s.kind = 8 ∨ s.kind = 9 then s.bs.length else 0)
theorem tb_room (s : Stp) : (tb (th s)).length ≤ rm1 s := by
  unfold rm1
  by_cases h1 : s.kind = 1
  · have : (tb (th s)).length = 1 := by simp [tb, th_kind, h1, be_length]
    omega
  by_cases h2 : s.kind = 2
  · have : (tb (th s)).length = 2 := by simp [tb, th_kind, h2, be_length]
    omega
  by_cases h3 : s.kind = 3
  · have : (tb (th s)).length = 4 := by simp [tb, th_kind, h3, be_length]
    omega
  by_cases h4 : s.kind = 4
  · have : (tb (th s)).length = 8 := by simp [tb, th_kind, h4, be_length]
    omega
  by_cases h5 : s.kind = 5
  · have : (tb (th s)).length ≤ 10 := by simp [tb, th_kind, h5, va_le]
    omega
  by_cases h6 : s.kind = 6
  · have : (tb (th s)).length ≤ 10 := by simp [tb, th_kind, h6, va_le]
    omega
  by_cases h7 : s.kind = 7
  · have : (tb (th s)).length = 1 := by simp [tb, th_kind, h7]
    omega
  by_cases h8 : s.kind = 8
  · have : tb (th s) = s.bs := by simp [tb, th, h8]
    rw [this, if_pos (.inl h8)]
    omega
  by_cases h9 : s.kind = 9
  · have : tb (th s) = va s.bs.length ++ s.bs := by simp [tb, th, h9]
    rw [this, if_pos (.inr h9), List.length_append]
    have := va_le s.bs.length
    omega
  · have : tb (th s) = va 0 ++ [] := by simp [tb, th, h1, h2, h3, h4, h5, h6, h7, h8, h9]
    rw [this, List.length_append]
    have := va_le 0
    simp
    omega

/-- all the bytes of a script -/
def wb : List Stp → List Int
  | [] => []
  | s :: r => (if isT s.kind then tb (th s) else []) ++ wb r
def rm : List Stp → Nat
  | [] => 0
  | s :: r => rm1 s + rm r
theorem wb_app (a b : List Stp) : wb (a ++ b) = wb a ++ wb b := by
  induction a with
  | nil => rfl
  | cons s r ih => simp only [List.cons_append, wb, ih, List.append_assoc]
theorem rm_app (a b : List Stp) : rm (a ++ b) = rm a + rm b := by
  induction a with
  | nil => simp [rm]
  | cons s r ih => simp only [List.cons_append, rm, ih]; omega
theorem wb_room (S : List Stp) : (wb S).length ≤ rm S := by
  induction S with
  | nil => simp [wb, rm]
  | cons s r ih =>
    simp only [wb, rm, List.length_append]
    have := tb_room s
    split
    · omega
    · simp; omega
theorem wb_take {S : List Stp} {k : Nat} (h : k < S.length) : wb (S.take (k + 1)) = wb (S.take k) ++ (if isT S[k].kind then tb (th S[k]) else []) := by
  rw [List.take_add_one, List.getElem?_eq_getElem h, wb_app]
  simp [wb]
theorem wb_drop {S : List Stp} {k : Nat} (h : k < S.length) : wb (S.drop k) = (if isT S[k].kind then tb (th S[k]) else []) ++ wb (S.drop (k + 1)) := by
  rw [List.drop_eq_getElem_cons h]
  rfl
theorem rm_take {S : List Stp} {k : Nat} (h : k < S.length) : rm (S.take (k + 1)) = rm (S.take k) + rm1 S[k] := by
  rw [List.take_add_one, List.getElem?_eq_getElem h, rm_app]
  simp [rm]
theorem rm_take_le (S : List Stp) (k : Nat) : rm (S.take k) ≤ rm S := by
  have := rm_app (S.take k) (S.drop k)
  rw [List.take_append_drop] at this
  omega
end Go.Proofs.Ytgaehpdlljlliaa.Cd
