import Derived.Test.YtckjededijgjgaaDoorPcB
namespace Go.Proofs.YtckjededijgjgaaDoor.Pc
open Go.RowKit

/-- a piece: rune, place, size, broken -/
abbrev P4 := Int × Int × Int × Bool
def encP (x : P4) : Value := .agg #[.int .i32 x.1, .int .i64 x.2.1, .int .i64 x.2.2.1, .bool x.2.2.2]

theorem get_at (s : ByteArray) (pos : Nat) (h : pos < s.size) : s.get! pos = s[pos] := by
  simp [ByteArray.get!, getElem!_pos, h]
  rfl

/-- the piece at a place -/
def pcF (s : ByteArray) (pos : Nat) : P4 :=
  if Utf8.decode s pos = (65533, 1) then (((s.get! pos).toNat : Int), (pos : Int), 1, true) else (((Utf8.decode s pos).1 : Int), (pos : Int), ((Utf8.decode s pos).2 : Int), false)

/-- the bytes at a place, as isEnc wants them -/
def encAt (s : ByteArray) (pos r k : Nat) : Prop := isEnc (s.size - pos) (s.get! pos).toNat (s.get! (pos + 1)).toNat (s.get! (pos + 2)).toNat (s.get! (pos + 3)).toNat r k

theorem decode_cases (s : ByteArray) (pos : Nat) :
    (Utf8.decode s pos = (65533, 1) ∧ 128 ≤ (s.get! pos).toNat ∧ ∀ r k, ¬ encAt s pos r k) ∨ ∃ r k, Utf8.decode s pos = (r, k) ∧ encAt s pos r k := by
  rw [Lib.decode_at]
  exact decodeN_cases _ _ _ _ _ (s.get! pos).toNat_lt (s.get! (pos + 1)).toNat_lt (s.get! (pos + 2)).toNat_lt (s.get! (pos + 3)).toNat_lt

theorem take3 (l : List UInt8) (a b c : UInt8) : l.take 3 = [a, b, c] ↔ l[0]? = some a ∧ l[1]? = some b ∧ l[2]? = some c := by
  match l with
  | [] => simp
  | [x] => simp
  | [x, y] => simp
  | x :: y :: z :: t => simp

theorem drop_at (s : ByteArray) (pos i : Nat) (h : pos + i < s.size) : (s.extract pos s.size).data.toList[i]? = some (s.get! (pos + i)) := by
  rw [Lib.extract_data, List.getElem?_take_of_lt (by omega), List.getElem?_drop, List.getElem?_eq_getElem (by simpa using h), get_at s _ h]
  rfl
theorem drop_none (s : ByteArray) (pos i : Nat) (h : ¬ pos + i < s.size) : (s.extract pos s.size).data.toList[i]? = none := by
  rw [Lib.extract_data, List.getElem?_eq_none]
  simp; omega

theorem preR_iff (s : ByteArray) (pos : Nat) : preR (s.extract pos s.size).data.toList = true ↔ (pos + 3 ≤ s.size ∧ (s.get! pos).toNat = 239 ∧ (s.get! (pos + 1)).toNat = 191 ∧ (s.get! (pos + 2)).toNat = 189) := by
  unfold preR
  rw [beq_iff_eq, take3]
  by_cases h : pos + 2 < s.size
  · rw [drop_at s pos 0 (by omega), drop_at s pos 1 (by omega), drop_at s pos 2 h]
    simp only [Option.some.injEq, Nat.add_zero, ← UInt8.toNat_inj]
    constructor
    · rintro ⟨a, b, c⟩; exact ⟨by omega, a, b, c⟩
    · rintro ⟨_, a, b, c⟩; exact ⟨a, b, c⟩
  · rw [drop_none s pos 2 h]
    constructor
    · rintro ⟨_, _, c⟩; cases c
    · rintro ⟨a, _⟩; omega

theorem encAt_len {s : ByteArray} {pos r k : Nat} (h : encAt s pos r k) : lenI (r : Int) = (k : Int) ∧ (0 : Int) ≤ r ∧ (r : Int) ≤ 1114111 ∧ ((r : Int) < 55296 ∨ (57343 : Int) < r) ∧ 1 ≤ k ∧ k ≤ 4 := by
  unfold lenI
  rcases h with h | h | h | h
  · rw [if_pos (by omega)]; omega
  · rw [if_neg (by omega), if_pos (by omega)]; omega
  · rw [if_neg (by omega), if_neg (by omega), if_pos (by omega)]; omega
  · rw [if_neg (by omega), if_neg (by omega), if_neg (by omega)]; omega

/-- what pieceAt answers of what the range tells -/
theorem pieceAt_any (s : ByteArray) (pos : Nat) (w : World) (hp : pos < s.size) (hs : s.size ≤ 9223372036854775807) :
    Calls Tryd.prog 90 #[.string s, .int .i64 (pos : Int), .int .i32 ((Utf8.decode s pos).1 : Int)] w fun e w' => e = .returned (encP (pcF s pos)) ∧ ∃ c, w' = w.alloc (.cells c 55) := by
  rcases decode_cases s pos with ⟨hd, _, hno⟩ | ⟨r, k, hd, he⟩
  · have e : encP (pcF s pos) = .agg #[.int .i32 (s[pos].toNat : Int), .int .i64 (pos : Int), .int .i64 1, .bool true] := by
      unfold pcF encP; rw [if_pos hd, get_at s pos hp]
    rw [e, hd]
    refine pieceAt_broken s pos w hp hs ?_
    show _ = false
    cases hx : preR (s.extract pos s.size).data.toList with
    | false => rfl
    | true =>
      rw [preR_iff] at hx
      exact absurd (show encAt s pos 65533 3 from .inr (.inr (.inl ⟨rfl, by omega, by omega, by omega, by omega, by omega, by omega, by omega⟩))) (hno _ _)
  · obtain ⟨h1, h2, h3, h4, h5, h6⟩ := encAt_len he
    have hne : ¬ (Utf8.decode s pos = (65533, 1)) := by
      rw [hd]; intro e
      simp only [Prod.mk.injEq] at e
      obtain ⟨rfl, rfl⟩ := e
      simp [lenI] at h1
    have e : encP (pcF s pos) = .agg #[.int .i32 (r : Int), .int .i64 (pos : Int), .int .i64 (lenI r), .bool false] := by
      unfold pcF encP; rw [if_neg hne, hd, h1]
    rw [e, hd]
    by_cases hr : r = 65533
    · subst hr
      have hk : k = 3 := by unfold lenI at h1; simp at h1; omega
      subst hk
      have hx : preR (s.extract pos s.size).data.toList = true := by
        rw [preR_iff]
        rcases he with he | he | he | he <;> omega
      exact pieceAt_whole s pos w hp hs hx
    · exact pieceAt_plain s pos r w h2 h3 h4 (beq_eq_false_iff_ne.2 (by omega))
end Go.Proofs.YtckjededijgjgaaDoor.Pc
