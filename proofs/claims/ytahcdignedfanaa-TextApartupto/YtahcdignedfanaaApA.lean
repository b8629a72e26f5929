import Derived.Test.YtahcdignedfanaaPcF
import Derived.Lib.RuneCountTail
namespace Go.Proofs.Ytahcdignedfanaa.Ap
open Go.Proofs.Ytahcdignedfanaa.Pc

theorem get_app_r (a b : ByteArray) (j : Nat) : (a ++ b).get! (a.size + j) = b.get! j := by
  rw [← Lib.getD_get!', ← Lib.getD_get!', ByteArray.data_append]
  have e : a.size = a.data.toList.length := by simp
  rw [e]
  simp [List.getD, List.getElem?_append_right]
theorem get_app_l (a b : ByteArray) (j : Nat) (h : j < a.size) : (a ++ b).get! j = a.get! j := by
  rw [Pc.get_at (a ++ b) _ (by rw [ByteArray.size_append]; omega), Pc.get_at a j h]
  rw [ByteArray.getElem_append_left h]
theorem decode_shift (a b : ByteArray) (pos : Nat) : Utf8.decode (a ++ b) (a.size + pos) = Utf8.decode b pos := by
  rw [Lib.decode_at, Lib.decode_at, ByteArray.size_append]
  have e : a.size + b.size - (a.size + pos) = b.size - pos := by omega
  rw [e, get_app_r a b pos]
  have f : ∀ j, (a ++ b).get! (a.size + pos + j) = b.get! (pos + j) := fun j => by rw [Nat.add_assoc]; exact get_app_r a b (pos + j)
  rw [f 1, f 2, f 3]

/-- a piece, so many bytes further on -/
def shift (n : Nat) (x : P4) : P4 := (x.1, x.2.1 + (n : Int), x.2.2.1, x.2.2.2)
theorem pcF_shift (a b : ByteArray) (pos : Nat) : pcF (a ++ b) (a.size + pos) = shift a.size (pcF b pos) := by
  unfold pcF shift
  rw [decode_shift, get_app_r]
  split <;> simp <;> omega
theorem from_shift (a b : ByteArray) : ∀ f pos, piecesFrom (a ++ b) f (a.size + pos) = (piecesFrom b f pos).map (shift a.size)
  | 0, pos => by simp [piecesFrom]
  | f + 1, pos => by
    rw [piecesFrom, piecesFrom, ByteArray.size_append]
    by_cases h : pos < b.size
    · rw [if_pos (by omega), if_pos h, pcF_shift, decode_shift, List.map_cons, Nat.add_assoc, from_shift a b f]
    · rw [if_neg (by omega), if_neg h, List.map_nil]

/-- enough fuel is enough -/
theorem from_fuel (s : ByteArray) : ∀ f g pos, s.size ≤ pos + f → s.size ≤ pos + g → piecesFrom s f pos = piecesFrom s g pos
  | 0, g, pos, h1, h2 => by rw [piecesFrom_end s g pos (by omega)]; rfl
  | f + 1, 0, pos, h1, h2 => by rw [piecesFrom_end s (f + 1) pos (by omega)]; rfl
  | f + 1, g + 1, pos, h1, h2 => by
    rw [piecesFrom, piecesFrom]
    by_cases h : pos < s.size
    · have := (width_le s pos h).1
      rw [if_pos h, if_pos h, from_fuel s f g _ (by omega) (by omega)]
    · rw [if_neg h, if_neg h]

/-- what the pieces of a string give from a place on, with all fuel -/
def from' (s : ByteArray) (pos : Nat) : List P4 := piecesFrom s s.size pos
theorem from_eq (s : ByteArray) (f pos : Nat) (h : s.size ≤ pos + f) : piecesFrom s f pos = from' s pos := from_fuel s _ _ pos h (by omega)
theorem from_cons (s : ByteArray) (pos : Nat) (h : pos < s.size) : from' s pos = pcF s pos :: from' s (pos + (Utf8.decode s pos).2) := by
  have := (width_le s pos h).1
  unfold from'
  obtain ⟨f, hf⟩ : ∃ f, s.size = f + 1 := ⟨s.size - 1, by omega⟩
  rw [hf, piecesFrom, if_pos (by omega), from_fuel s f (f + 1) _ (by omega) (by omega)]

/-- the bytes of runes, one behind the other -/
def flat : List Int → ByteArray
  | [] => ⟨#[]⟩
  | r :: t => Utf8.encode r ++ flat t

theorem enc_size (r : Int) : 1 ≤ (Utf8.encode r).size ∧ (Utf8.encode r).size ≤ 4 := by
  unfold Utf8.encode
  simp only
  repeat' split
  all_goals (constructor <;> simp [ByteArray.size])

theorem enc_at (r : Int) (R : ByteArray) (hv : Utf8.valid r = true) : encAt (Utf8.encode r ++ R) 0 r.toNat (Utf8.encode r).size := by
  have hr : (0 ≤ r ∧ r < 55296) ∨ (57343 < r ∧ r ≤ 1114111) := by unfold Utf8.valid at hv; simp at hv; omega
  obtain ⟨n, rfl⟩ := Int.eq_ofNat_of_zero_le (show 0 ≤ r by omega)
  simp only [Int.toNat_natCast]
  unfold encAt
  have g : ∀ j, j < (Utf8.encode (n : Int)).size → (Utf8.encode (n : Int) ++ R).get! j = (Utf8.encode (n : Int)).get! j := fun j hj => get_app_l _ _ j hj
  rw [ByteArray.size_append]
  by_cases h1 : n < 128
  · have e : Utf8.encode (n : Int) = ⟨#[UInt8.ofNat n]⟩ := by unfold Utf8.encode; simp only [hv, if_true, Int.toNat_natCast]; rw [if_pos h1]
    left
    refine ⟨by rw [e]; rfl, h1, ?_⟩
    rw [g 0 (by rw [e]; show 0 < 1; omega), e]
    show (UInt8.ofNat n).toNat = n
    simp; omega
  · by_cases h2 : n < 2048
    · have e : Utf8.encode (n : Int) = ⟨#[UInt8.ofNat (192 + n / 64), UInt8.ofNat (128 + n % 64)]⟩ := by unfold Utf8.encode; simp only [hv, if_true, Int.toNat_natCast]; rw [if_neg h1, if_pos h2]
      right; left
      have es : (Utf8.encode (n : Int)).size = 2 := by rw [e]; rfl
      refine ⟨es, by omega, h2, by rw [es]; omega, ?_, ?_⟩
      · rw [g 0 (by omega), e]; show (UInt8.ofNat (192 + n / 64)).toNat = _; simp; omega
      · rw [g 1 (by omega), e]; show (UInt8.ofNat (128 + n % 64)).toNat = _; simp; omega
    · by_cases h3 : n < 65536
      · have e : Utf8.encode (n : Int) = ⟨#[UInt8.ofNat (224 + n / 4096), UInt8.ofNat (128 + n / 64 % 64), UInt8.ofNat (128 + n % 64)]⟩ := by unfold Utf8.encode; simp only [hv, if_true, Int.toNat_natCast]; rw [if_neg h1, if_neg h2, if_pos h3]
        right; right; left
        have es : (Utf8.encode (n : Int)).size = 3 := by rw [e]; rfl
        refine ⟨es, by omega, h3, by omega, by rw [es]; omega, ?_, ?_, ?_⟩
        · rw [g 0 (by omega), e]; show (UInt8.ofNat (224 + n / 4096)).toNat = _; simp; omega
        · rw [g 1 (by omega), e]; show (UInt8.ofNat (128 + n / 64 % 64)).toNat = _; simp; omega
        · rw [g 2 (by omega), e]; show (UInt8.ofNat (128 + n % 64)).toNat = _; simp; omega
      · have e : Utf8.encode (n : Int) = ⟨#[UInt8.ofNat (240 + n / 262144), UInt8.ofNat (128 + n / 4096 % 64), UInt8.ofNat (128 + n / 64 % 64), UInt8.ofNat (128 + n % 64)]⟩ := by unfold Utf8.encode; simp only [hv, if_true, Int.toNat_natCast]; rw [if_neg h1, if_neg h2, if_neg h3]
        right; right; right
        have es : (Utf8.encode (n : Int)).size = 4 := by rw [e]; rfl
        refine ⟨es, by omega, by omega, by rw [es]; omega, ?_, ?_, ?_, ?_⟩
        · rw [g 0 (by omega), e]; show (UInt8.ofNat (240 + n / 262144)).toNat = _; simp; omega
        · rw [g 1 (by omega), e]; show (UInt8.ofNat (128 + n / 4096 % 64)).toNat = _; simp; omega
        · rw [g 2 (by omega), e]; show (UInt8.ofNat (128 + n / 64 % 64)).toNat = _; simp; omega
        · rw [g 3 (by omega), e]; show (UInt8.ofNat (128 + n % 64)).toNat = _; simp; omega

theorem decode_enc (r : Int) (R : ByteArray) (hv : Utf8.valid r = true) : Utf8.decode (Utf8.encode r ++ R) 0 = (r.toNat, (Utf8.encode r).size) := by
  have he := enc_at r R hv
  rcases decode_cases (Utf8.encode r ++ R) 0 with ⟨_, _, hno⟩ | ⟨r', k', hd, he'⟩
  · exact absurd he (hno _ _)
  · obtain ⟨h1, h2⟩ := isEnc_unique he he'
    rw [hd, h1, h2]

/-- the pieces of whole runes -/
def runesP : Nat → List Int → List P4
  | _, [] => []
  | pos, r :: t => (r, (pos : Int), ((Utf8.encode r).size : Int), false) :: runesP (pos + (Utf8.encode r).size) t

theorem runesP_len : ∀ (pos : Nat) (rs : List Int), (runesP pos rs).length = rs.length
  | _, [] => rfl
  | pos, r :: t => by simp [runesP, runesP_len]
theorem runesP_sound : ∀ (pos : Nat) (rs : List Int) (x : P4), x ∈ runesP pos rs → x.2.2.2 = false
  | _, [], x, h => by simp [runesP] at h
  | pos, r :: t, x, h => by
    rcases List.mem_cons.1 h with rfl | h
    · rfl
    · exact runesP_sound _ t x h

theorem empty_app (b : ByteArray) : (⟨#[]⟩ : ByteArray) ++ b = b := by
  apply ByteArray.ext; simp [ByteArray.data_append]
theorem app_empty (b : ByteArray) : b ++ (⟨#[]⟩ : ByteArray) = b := by
  apply ByteArray.ext; simp [ByteArray.data_append]

theorem flat_from (b : ByteArray) : ∀ (rs : List Int) (A : ByteArray), (∀ r ∈ rs, Utf8.valid r = true) → from' (A ++ (flat rs ++ b)) A.size = runesP A.size rs ++ from' (A ++ (flat rs ++ b)) (A.size + (flat rs).size)
  | [], A, _ => by
    have e : A.size + (flat []).size = A.size := rfl
    rw [e]; rfl
  | r :: t, A, hv => by
    have hr := hv r (by simp)
    have hsz := enc_size r
    have es : A ++ (flat (r :: t) ++ b) = (A ++ Utf8.encode r) ++ (flat t ++ b) := by
      show A ++ ((Utf8.encode r ++ flat t) ++ b) = _
      rw [ByteArray.append_assoc, ByteArray.append_assoc]
    have es2 : A ++ (flat (r :: t) ++ b) = A ++ (Utf8.encode r ++ (flat t ++ b)) := by rw [es, ByteArray.append_assoc]
    have hd : Utf8.decode (A ++ (flat (r :: t) ++ b)) A.size = (r.toNat, (Utf8.encode r).size) := by
      rw [es2]
      have := decode_shift A (Utf8.encode r ++ (flat t ++ b)) 0
      rw [Nat.add_zero] at this
      rw [this, decode_enc r _ hr]
    have hlt : A.size < (A ++ (flat (r :: t) ++ b)).size := by rw [es2, ByteArray.size_append, ByteArray.size_append]; omega
    have h0 : 0 ≤ r := by unfold Utf8.valid at hr; simp at hr; omega
    have hp : pcF (A ++ (flat (r :: t) ++ b)) A.size = (r, (A.size : Int), ((Utf8.encode r).size : Int), false) := by
      unfold pcF
      rw [if_neg, hd]
      · simp only [Prod.mk.injEq, and_true]; omega
      · rw [hd]; intro e
        simp only [Prod.mk.injEq] at e
        have he := enc_at r ⟨#[]⟩ hr
        rw [e.1, e.2] at he
        rcases he with he | he | he | he <;> omega
    rw [from_cons _ _ hlt, hp, hd]
    have ih := flat_from b t (A ++ Utf8.encode r) (fun x hx => hv x (by simp [hx]))
    rw [← es, ByteArray.size_append] at ih
    show _ :: from' _ (A.size + (Utf8.encode r).size) = _
    rw [ih]
    have ez : A.size + (Utf8.encode r).size + (flat t).size = A.size + (flat (r :: t)).size := by
      show _ = A.size + (Utf8.encode r ++ flat t).size
      rw [ByteArray.size_append]; omega
    rw [ez]; rfl

theorem pieces_split (rs : List Int) (b : ByteArray) (hv : ∀ r ∈ rs, Utf8.valid r = true) : pieces (flat rs ++ b) = runesP 0 rs ++ (pieces b).map (shift (flat rs).size) := by
  have h := flat_from b rs ⟨#[]⟩ hv
  rw [empty_app] at h
  have e0 : (⟨#[]⟩ : ByteArray).size = 0 := rfl
  rw [e0, Nat.zero_add] at h
  show from' (flat rs ++ b) 0 = _
  rw [h]
  congr 1
  have := from_shift (flat rs) b (flat rs ++ b).size 0
  rw [Nat.add_zero] at this
  unfold from'
  rw [this]
  congr 1
  exact from_fuel b _ _ 0 (by rw [ByteArray.size_append]; omega) (by omega)
theorem pieces_flat (rs : List Int) (hv : ∀ r ∈ rs, Utf8.valid r = true) : pieces (flat rs) = runesP 0 rs := by
  have := pieces_split rs ⟨#[]⟩ hv
  rw [app_empty] at this
  rw [this]
  have : pieces (⟨#[]⟩ : ByteArray) = [] := rfl
  rw [this]; simp

theorem flat_snoc : ∀ (rs : List Int) (r : Int), flat (rs ++ [r]) = flat rs ++ Utf8.encode r
  | [], r => by
    show Utf8.encode r ++ ⟨#[]⟩ = ⟨#[]⟩ ++ Utf8.encode r
    rw [app_empty, empty_app]
  | x :: t, r => by
    show Utf8.encode x ++ flat (t ++ [r]) = (Utf8.encode x ++ flat t) ++ Utf8.encode r
    rw [flat_snoc t r, ByteArray.append_assoc]
theorem flat_size : ∀ rs : List Int, (flat rs).size ≤ 4 * rs.length
  | [] => Nat.zero_le _
  | r :: t => by
    have h1 := enc_size r
    have h2 := flat_size t
    show (Utf8.encode r ++ flat t).size ≤ _
    rw [ByteArray.size_append]; simp; omega
end Go.Proofs.Ytahcdignedfanaa.Ap
