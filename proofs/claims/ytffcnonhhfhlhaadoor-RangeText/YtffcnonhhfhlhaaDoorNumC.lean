import GoSem.Op.String
import Derived.Test.YtffcnonhhfhlhaaDoorRows
import Derived.WalkKit
import Derived.WalkLawsBesides
import Derived.WalkSpells
import Derived.Outline
import Derived.Lib.Strings
namespace Go.Proofs.YtffcnonhhfhlhaaDoor.Num

/-- the greatest uint64, behind a name -/
def top : Nat := 18446744073709551615

/-- decimal digits, from the left: the number so far, the place, what is left: the number, the place, the error -/
def decF : Nat → Nat → List UInt8 → Nat × Nat × Nat
  | n, _, [] => (n, 0, 0)
  | n, k, c :: r => if c.toNat < 48 ∨ 57 < c.toNat then (0, k, 15) else if top < 10 * n + (c.toNat - 48) then (0, k, 16) else decF (10 * n + (c.toNat - 48)) (k + 1) r

/-- a hexadecimal digit's number, 16: it is none -/
def hexV (c : Nat) : Nat := if 48 ≤ c ∧ c ≤ 57 then c - 48 else if 97 ≤ c ∧ c ≤ 102 then c - 87 else if 65 ≤ c ∧ c ≤ 70 then c - 55 else 16

def hexF : Nat → Nat → List UInt8 → Nat × Nat × Nat
  | n, _, [] => (n, 0, 0)
  | n, k, c :: r => if hexV c.toNat = 16 then (0, k, 15) else if k = 18 then (0, k, 16) else hexF (16 * n + hexV c.toNat) (k + 1) r

/-- what Number answers -/
def numF (l : List UInt8) : Nat × Nat × Nat :=
  if l = [] then (0, 0, 15) else if l.take 2 = [48, 120] then (if l.length = 2 then (0, 2, 15) else hexF 0 2 (l.drop 2))
  else if l.head? = some 48 ∧ 1 < l.length then (0, 1, 15) else decF 0 0 l

theorem hexV_le (c : Nat) : hexV c ≤ 16 := by
  unfold hexV
  repeat' split
  all_goals omega

/-- k places have been read, the number is n -/
def Dec (l : List UInt8) (n k : Nat) : Prop := decF 0 0 l = decF n k (l.drop k)
def Hex (l : List UInt8) (n k : Nat) : Prop := hexF 0 2 (l.drop 2) = hexF n k (l.drop k)

theorem drop_at {l : List UInt8} {k : Nat} (h : k < l.length) : l.drop k = l[k] :: l.drop (k + 1) := (List.drop_eq_getElem_cons h)

theorem Dec.start (l : List UInt8) : Dec l 0 0 := by simp [Dec]
theorem Dec.bad {l : List UInt8} {n k : Nat} (h : Dec l n k) (hk : k < l.length) (hc : l[k].toNat < 48 ∨ 57 < l[k].toNat) : decF 0 0 l = (0, k, 15) := by
  rw [h, drop_at hk, decF, if_pos hc]
theorem Dec.large {l : List UInt8} {n k : Nat} (h : Dec l n k) (hk : k < l.length) (h1 : 48 ≤ l[k].toNat) (h2 : l[k].toNat ≤ 57) (hn : top < 10 * n + (l[k].toNat - 48)) : decF 0 0 l = (0, k, 16) := by
  rw [h, drop_at hk, decF, if_neg (by omega), if_pos hn]
theorem Dec.step {l : List UInt8} {n k : Nat} (h : Dec l n k) (hk : k < l.length) (h1 : 48 ≤ l[k].toNat) (h2 : l[k].toNat ≤ 57) (hn : 10 * n + (l[k].toNat - 48) ≤ top) : Dec l (10 * n + (l[k].toNat - 48)) (k + 1) := by
  unfold Dec; rw [h, drop_at hk, decF, if_neg (by omega), if_neg (by omega)]
theorem Dec.done {l : List UInt8} {n k : Nat} (h : Dec l n k) (hk : l.length ≤ k) : decF 0 0 l = (n, 0, 0) := by
  rw [h, List.drop_of_length_le hk, decF]

theorem Hex.start (l : List UInt8) : Hex l 0 2 := by simp [Hex]
theorem Hex.bad {l : List UInt8} {n k : Nat} (h : Hex l n k) (hk : k < l.length) (hc : hexV l[k].toNat = 16) : hexF 0 2 (l.drop 2) = (0, k, 15) := by
  rw [h, drop_at hk, hexF, if_pos hc]
theorem Hex.large {l : List UInt8} {n k : Nat} (h : Hex l n k) (hk : k < l.length) (hc : hexV l[k].toNat ≠ 16) (he : k = 18) : hexF 0 2 (l.drop 2) = (0, k, 16) := by
  rw [h, drop_at hk, hexF, if_neg hc, if_pos he]
theorem Hex.step {l : List UInt8} {n k : Nat} (h : Hex l n k) (hk : k < l.length) (hc : hexV l[k].toNat ≠ 16) (he : k ≠ 18) : Hex l (16 * n + hexV l[k].toNat) (k + 1) := by
  unfold Hex; rw [h, drop_at hk, hexF, if_neg hc, if_neg he]
theorem Hex.done {l : List UInt8} {n k : Nat} (h : Hex l n k) (hk : l.length ≤ k) : hexF 0 2 (l.drop 2) = (n, 0, 0) := by
  rw [h, List.drop_of_length_le hk, hexF]

/-! the number of a list of decimal digits, and its order -/
def dv : List UInt8 → Nat
  | [] => 0
  | c :: r => (c.toNat - 48) * 10 ^ r.length + dv r
def digs (l : List UInt8) : Prop := ∀ c ∈ l, 48 ≤ c.toNat ∧ c.toNat ≤ 57

theorem dv_lt : ∀ l : List UInt8, digs l → dv l < 10 ^ l.length
  | [], _ => by simp [dv]
  | c :: r, h => by
    have h1 := h c (by simp)
    have h2 := dv_lt r (fun x hx => h x (by simp [hx]))
    have h3 : (c.toNat - 48) * 10 ^ r.length ≤ 9 * 10 ^ r.length := Nat.mul_le_mul_right _ (by omega)
    simp only [dv, List.length_cons, Nat.pow_succ]
    omega
theorem dv_ge (c : UInt8) (r : List UInt8) (h : 49 ≤ c.toNat) : 10 ^ r.length ≤ dv (c :: r) := by
  have h3 : 1 * 10 ^ r.length ≤ (c.toNat - 48) * 10 ^ r.length := Nat.mul_le_mul_right _ (by omega)
  simp only [dv]; omega
theorem dv_snoc : ∀ (l : List UInt8) (c : UInt8), dv (l ++ [c]) = 10 * dv l + (c.toNat - 48)
  | [], c => by simp [dv]
  | a :: r, c => by
    have e : (a.toNat - 48) * (10 ^ r.length * 10) = 10 * ((a.toNat - 48) * 10 ^ r.length) := by rw [← Nat.mul_assoc, Nat.mul_comm]
    simp only [List.cons_append, dv, dv_snoc r c, List.length_append, List.length_cons, List.length_nil, Nat.pow_succ]
    omega

/-- among lists of digits of one length the order of the letters is that of the numbers -/
theorem less_iff : ∀ (a b : List UInt8), digs a → digs b → a.length = b.length → (Go.Op.bytesLess a b = true ↔ dv a < dv b)
  | [], [], _, _, _ => by simp [Go.Op.bytesLess, dv]
  | [], _ :: _, _, _, h => by simp at h
  | _ :: _, [], _, _, h => by simp at h
  | a :: x, b :: y, ha, hb, h => by
    have hl : x.length = y.length := by simpa using h
    have hx : digs x := fun c hc => ha c (by simp [hc])
    have hy : digs y := fun c hc => hb c (by simp [hc])
    have ih := less_iff x y hx hy hl
    have a1 := ha a (by simp)
    have b1 := hb b (by simp)
    have lx := dv_lt x hx
    have ly := dv_lt y hy
    rw [hl] at lx
    simp only [Go.Op.bytesLess, dv, hl, Bool.or_eq_true, decide_eq_true_eq, Bool.and_eq_true, beq_iff_eq, ih, UInt8.lt_iff_toNat_lt, ← UInt8.toNat_inj]
    constructor
    · rintro (h | ⟨h, h'⟩)
      · have : (a.toNat - 48 + 1) * 10 ^ y.length ≤ (b.toNat - 48) * 10 ^ y.length := Nat.mul_le_mul_right _ (by omega)
        rw [Nat.add_mul] at this; omega
      · rw [h]; omega
    · intro h
      by_cases h1 : a.toNat < b.toNat
      · exact .inl h1
      · by_cases h2 : a.toNat = b.toNat
        · rw [h2] at h; exact .inr ⟨h2, by omega⟩
        · have : (b.toNat - 48 + 1) * 10 ^ y.length ≤ (a.toNat - 48) * 10 ^ y.length := Nat.mul_le_mul_right _ (by omega)
          rw [Nat.add_mul] at this; omega

def mostL : List UInt8 := [49, 56, 52, 52, 54, 55, 52, 52, 48, 55, 51, 55, 48, 57, 53, 53, 49, 54, 49, 53]
theorem mostL_dv : dv mostL = top := by decide +kernel
theorem mostL_digs : digs mostL := by
  intro c hc
  have : mostL.all (fun c => decide (48 ≤ c.toNat) && decide (c.toNat ≤ 57)) = true := by decide +kernel
  have := List.all_eq_true.1 this c hc
  simpa using this

/-- what 'over' answers -/
def overF (l : List UInt8) : Bool := if l.length = 20 then !Go.Op.bytesLess l mostL && !(l == mostL) else decide (20 < l.length)

theorem over_iff (l : List UInt8) (hd : digs l) (hz : l.length ≤ 1 ∨ ∃ c r, l = c :: r ∧ 49 ≤ c.toNat) : overF l = decide (top < dv l) := by
  unfold overF
  by_cases h : l.length = 20
  · rw [if_pos h]
    have i := less_iff l mostL hd mostL_digs (by simpa [mostL] using h)
    have j := less_iff mostL l mostL_digs hd (by simpa [mostL] using h.symm)
    rw [mostL_dv] at i j
    have e : l = mostL → dv l = top := fun e => by rw [e, mostL_dv]
    have tri : ∀ (a b : List UInt8), a.length = b.length → Go.Op.bytesLess a b = false → a ≠ b → Go.Op.bytesLess b a = true := by
      intro a
      induction a with
      | nil => intro b hb _ hn; cases b with
        | nil => exact absurd rfl hn
        | cons => simp at hb
      | cons x a ih => intro b hb hn hne; cases b with
        | nil => simp at hb
        | cons y b =>
          simp only [Go.Op.bytesLess, Bool.or_eq_false_iff, decide_eq_false_iff_not, Bool.and_eq_false_iff, beq_eq_false_iff_ne] at hn
          simp only [Go.Op.bytesLess, Bool.or_eq_true, decide_eq_true_eq, Bool.and_eq_true, beq_iff_eq]
          by_cases hxy : x = y
          · subst hxy
            refine .inr ⟨rfl, ih b (by simpa using hb) ?_ (fun e => hne (by rw [e]))⟩
            rcases hn.2 with h | h
            · exact absurd rfl h
            · exact h
          · refine .inl ?_
            have := hn.1
            rw [UInt8.lt_iff_toNat_lt] at this ⊢
            have h3 : x.toNat ≠ y.toNat := fun e => hxy (UInt8.toNat_inj.1 e)
            omega
    cases hb : Go.Op.bytesLess l mostL with
    | true => have := i.1 hb; simp; omega
    | false =>
      by_cases he : l = mostL
      · subst he; simp [mostL_dv]
      · have := j.1 (tri l mostL (by simpa [mostL] using h) hb he)
        have hne : (l == mostL) = false := by simpa using he
        simp [hne]; exact this
  · rw [if_neg h]
    have u := dv_lt l hd
    by_cases h2 : 20 < l.length
    · have : top < dv l := by
        rcases hz with hz | ⟨c, r, rfl, hc⟩
        · omega
        · have g := dv_ge c r hc
          have : 10 ^ 20 ≤ 10 ^ r.length := Nat.pow_le_pow_right (by omega) (by simp at h2; omega)
          have t : top < 10 ^ 20 := by decide +kernel
          omega
      simp [h2, this]
    · have : dv l ≤ top := by
        have : 10 ^ l.length ≤ 10 ^ 19 := Nat.pow_le_pow_right (by omega) (by omega)
        have t : 10 ^ 19 ≤ top := by decide +kernel
        omega
      simp [h2]; omega

end Go.Proofs.YtffcnonhhfhlhaaDoor.Num
namespace Go.Proofs.YtffcnonhhfhlhaaDoor.Num
open Go.RowKit

theorem hide {p : Prop} (h : p) : Hid p := h

set_option maxHeartbeats 400000 in
theorem hexDigit_yes (n : Nat) (w : World) (hn : n < 256) (h : hexV n ≠ 16) :
    Calls Tryd.prog 130 #[.int .u8 (n : Int)] w fun e w' => e = .returned (.tuple #[.int .u8 (hexV n : Int), .bool true]) ∧ w' = w := by
  by_cases h1 : 48 ≤ n ∧ n ≤ 57
  · have a : (48 : Int) ≤ n := by omega
    have b : (n : Int) ≤ 57 := by omega
    have e : ((n : Int) - 48) = (hexV n : Int) := by unfold hexV; rw [if_pos h1]; omega
    have E := hide e
    clear e
    go_enter Tryd.func130, Tryd.ntmps130
    go_wp2
    go_ret2
    rw [E.out]; exact ⟨rfl, rfl⟩
  · by_cases h2 : 97 ≤ n ∧ n ≤ 102
    · have a : ¬ (n : Int) ≤ 57 := by omega
      have a2 : (48 : Int) ≤ n := by omega
      have a3 : (97 : Int) ≤ n := by omega
      have b : (n : Int) ≤ 102 := by omega
      have e : ((n : Int) - 97 + 10) = (hexV n : Int) := by unfold hexV; rw [if_neg h1, if_pos h2]; omega
      have E := hide e
      clear e
      go_enter Tryd.func130, Tryd.ntmps130
      go_wp2
      go_ret2
      rw [E.out]; exact ⟨rfl, rfl⟩
    · by_cases h3 : 65 ≤ n ∧ n ≤ 70
      · have a : ¬ (n : Int) ≤ 57 := by omega
        have a2 : (48 : Int) ≤ n := by omega
        have a3 : ¬ (97 : Int) ≤ n := by omega
        have a4 : (65 : Int) ≤ n := by omega
        have b : (n : Int) ≤ 70 := by omega
        have e : ((n : Int) - 65 + 10) = (hexV n : Int) := by unfold hexV; rw [if_neg h1, if_neg h2, if_pos h3]; omega
        have E := hide e
        clear e
        go_enter Tryd.func130, Tryd.ntmps130
        go_wp2
        go_ret2
        rw [E.out]; exact ⟨rfl, rfl⟩
      · exact absurd (by unfold hexV; rw [if_neg h1, if_neg h2, if_neg h3]) h

set_option maxHeartbeats 400000 in
theorem hexDigit_no (n : Nat) (w : World) (hn : n < 256) (h : hexV n = 16) :
    Calls Tryd.prog 130 #[.int .u8 (n : Int)] w fun e w' => e = .returned (.tuple #[.int .u8 0, .bool false]) ∧ w' = w := by
  have hh : (n : Int) < 48 ∨ (57 < (n : Int) ∧ (n : Int) < 65) ∨ (70 < (n : Int) ∧ (n : Int) < 97) ∨ 102 < (n : Int) := by
    by_cases h1 : 48 ≤ n ∧ n ≤ 57
    · unfold hexV at h; rw [if_pos h1] at h; omega
    · by_cases h2 : 97 ≤ n ∧ n ≤ 102
      · unfold hexV at h; rw [if_neg h1, if_pos h2] at h; omega
      · by_cases h3 : 65 ≤ n ∧ n ≤ 70
        · unfold hexV at h; rw [if_neg h1, if_neg h2, if_pos h3] at h; omega
        · omega
  clear h
  rcases hh with h | h | h | h
  all_goals
    go_enter Tryd.func130, Tryd.ntmps130
    go_wp2
    go_ret2
    exact ⟨rfl, rfl⟩

theorem byte_at (s : ByteArray) (k : Nat) (h : k < s.size) : s.data.toList[k]'(by simpa using h) = s[k] := by
  simp [ByteArray.getElem_eq_getElem_data]

theorem dec_bad {s : ByteArray} {n k : Nat} (h : Dec s.data.toList n k) (hk : k < s.size) (hc : (s[k].toNat : Int) < 48 ∨ 57 < (s[k].toNat : Int)) : decF 0 0 s.data.toList = (0, k, 15) := by
  have hl : k < s.data.toList.length := by simpa using hk
  have hb := byte_at s k hk
  exact h.bad hl (by rw [hb]; omega)
theorem dec_large {s : ByteArray} {n k : Nat} (h : Dec s.data.toList n k) (hk : k < s.size) (h1 : 48 ≤ (s[k].toNat : Int) ∧ (s[k].toNat : Int) ≤ 57) (hn : (18446744073709551615 - ((s[k].toNat : Int) - 48)) / 10 < (n : Int)) : decF 0 0 s.data.toList = (0, k, 16) := by
  have hl : k < s.data.toList.length := by simpa using hk
  have hb := byte_at s k hk
  exact h.large hl (by rw [hb]; omega) (by rw [hb]; omega) (by rw [hb]; unfold top; omega)
theorem dec_step {s : ByteArray} {n k : Nat} (h : Dec s.data.toList n k) (hk : k < s.size) (h1 : 48 ≤ (s[k].toNat : Int) ∧ (s[k].toNat : Int) ≤ 57) (hn : (n : Int) ≤ (18446744073709551615 - ((s[k].toNat : Int) - 48)) / 10) :
    ∃ m : Nat, ((n : Int) * 10 + ((s[k].toNat : Int) - 48)) = (m : Int) ∧ m ≤ top ∧ Dec s.data.toList m (k + 1) := by
  have hl : k < s.data.toList.length := by simpa using hk
  have hb := byte_at s k hk
  refine ⟨10 * n + (s[k].toNat - 48), by omega, by unfold top; omega, ?_⟩
  have := h.step hl (by rw [hb]; omega) (by rw [hb]; omega) (by rw [hb]; unfold top; omega)
  rw [hb] at this
  exact this

set_option maxHeartbeats 400000 in
theorem readDecimal_any (s : ByteArray) (w : World) (hs : s.size ≤ 140737488355328) :
    Calls Tryd.prog 119 #[.string s] w fun e w' => e = .returned (.tuple #[.int .u64 ((decF 0 0 s.data.toList).1 : Int), .int .i64 ((decF 0 0 s.data.toList).2.1 : Int), .int .i64 ((decF 0 0 s.data.toList).2.2 : Int)]) ∧ w' = w := by
  go_enter Tryd.func119, Tryd.ntmps119
  go_wp2
  go_loop [5, 10] (fun a i => ∃ n k : Nat, k ≤ s.size ∧ i = .int .i64 k ∧ a = .int .u64 n ∧ n ≤ top ∧ Dec s.data.toList n k) (fun _ i => s.size - (intOf i).toNat)
  case atStart => exact ⟨0, 0, Nat.zero_le _, rfl, rfl, Nat.zero_le _, Dec.start _⟩
  case round =>
    obtain ⟨n, k, hk, rfl, rfl, hn, hD⟩ := hrel
    by_cases hlt : k < s.size
    · go_wp2
      · go_ret3
        rw [dec_bad hD hlt ‹_›]
        exact ⟨rfl, rfl⟩
      · go_ret3
        rw [dec_large hD hlt ‹_› ‹_›]
        exact ⟨rfl, rfl⟩
      · obtain ⟨m, hm1, hm2, hm3⟩ := dec_step hD hlt ‹_› ‹_›
        exact ⟨⟨m, k + 1, by omega, by go_num, by rw [hm1], hm2, hm3⟩, by simp [intOf]; omega⟩
      · go_ret3
        rw [dec_bad hD hlt (.inl ‹_›)]
        exact ⟨rfl, rfl⟩
    · go_wp2
      go_ret3
      have := hD.done (by simp; omega)
      rw [this]
      exact ⟨rfl, rfl⟩

theorem hex_bits (n d : Nat) (hn : n < 1152921504606846976) (hd : d < 16) : bits .or .u64 ((n : Int) * 16) (d : Int) = ((16 * n + d : Nat) : Int) := by
  have e : ((n : Int) * 16) = ((16 * n : Nat) : Int) := by omega
  rw [e, u64_or_nat _ _ (by omega) (by omega)]
  congr 1
  have : 16 * n = n <<< 4 := by rw [Nat.shiftLeft_eq]; omega
  rw [this, Nat.shiftLeft_add_eq_or_of_lt (by omega)]

theorem hex_bad {s : ByteArray} {n k : Nat} (h : Hex s.data.toList n k) (hk : k < s.size) (hc : hexV s[k].toNat = 16) : hexF 0 2 (s.data.toList.drop 2) = (0, k, 15) := by
  have hl : k < s.data.toList.length := by simpa using hk
  have hb := byte_at s k hk
  exact h.bad hl (by rw [hb]; exact hc)
theorem hex_large {s : ByteArray} {n k : Nat} (h : Hex s.data.toList n k) (hk : k < s.size) (hc : hexV s[k].toNat ≠ 16) (he : k = 18) : hexF 0 2 (s.data.toList.drop 2) = (0, k, 16) := by
  have hl : k < s.data.toList.length := by simpa using hk
  have hb := byte_at s k hk
  exact h.large hl (by rw [hb]; exact hc) he
theorem hex_step {s : ByteArray} {n k : Nat} (h : Hex s.data.toList n k) (hk : k < s.size) (hc : hexV s[k].toNat ≠ 16) (he : k ≠ 18) : Hex s.data.toList (16 * n + hexV s[k].toNat) (k + 1) := by
  have hl : k < s.data.toList.length := by simpa using hk
  have hb := byte_at s k hk
  have := h.step hl (by rw [hb]; exact hc) he
  rw [hb] at this
  exact this
theorem pow_step {n d k : Nat} (hn : n < 16 ^ (k - 2)) (hk : 2 ≤ k) (hd : d < 16) : 16 * n + d < 16 ^ (k + 1 - 2) := by
  have : k + 1 - 2 = (k - 2) + 1 := by omega
  rw [this, Nat.pow_succ]; omega

set_option maxHeartbeats 400000 in
theorem readHex_any (s : ByteArray) (w : World) (hs : s.size ≤ 140737488355328) (h2 : 2 < s.size) :
    Calls Tryd.prog 118 #[.string s] w fun e w' => e = .returned (.tuple #[.int .u64 ((hexF 0 2 (s.data.toList.drop 2)).1 : Int), .int .i64 ((hexF 0 2 (s.data.toList.drop 2)).2.1 : Int), .int .i64 ((hexF 0 2 (s.data.toList.drop 2)).2.2 : Int)]) ∧ w' = w := by
  have hne : ((s.size : Int) == 2) = false := by simp; omega
  go_enter Tryd.func118, Tryd.ntmps118
  go_wp2
  go_loop [5, 6] (fun a i => ∃ n k : Nat, 2 ≤ k ∧ k ≤ 18 ∧ k ≤ s.size ∧ i = .int .i64 k ∧ a = .int .u64 n ∧ n < 16 ^ (k - 2) ∧ Hex s.data.toList n k) (fun _ i => s.size - (intOf i).toNat)
  case atStart => exact ⟨0, 2, by omega, by omega, by omega, rfl, rfl, by simp, Hex.start _⟩
  case round =>
    obtain ⟨n, k, hk2, hk18, hk, rfl, rfl, hn, hD⟩ := hrel
    by_cases hlt : k < s.size
    · by_cases hv : hexV s[k].toNat = 16
      · have hb := hex_bad hD hlt hv
        have H := hide hb
        have V := hide hv
        clear hb hv hn hD
        go_wp2_with (go_at_call 130; refine (hexDigit_no _ _ s[k].toNat_lt V).mono ?_; rintro e w' ⟨rfl, rfl⟩)
        go_ret3
        rw [H.out]
        exact ⟨rfl, rfl⟩
      · by_cases h18 : k = 18
        · have hb := hex_large hD hlt hv h18
          have H := hide hb
          have V := hide hv
          have h18' : ((k : Int) == 18) = true := by simp; omega
          clear hb hv hn hD h18
          go_wp2_with (go_at_call 130; refine (hexDigit_yes _ _ s[k].toNat_lt V).mono ?_; rintro e w' ⟨rfl, rfl⟩)
          go_ret3
          rw [H.out]
          exact ⟨rfl, rfl⟩
        · have hb := hex_step hD hlt hv h18
          have H := hide hb
          have V := hide hv
          have h18' : ((k : Int) == 18) = false := by simp; omega
          have hd : hexV s[k].toNat < 16 := by have := hexV_le s[k].toNat; omega
          have hp := pow_step hn hk2 hd
          have h60 : n < 1152921504606846976 := Nat.lt_of_lt_of_le hn (Nat.le_trans (Nat.pow_le_pow_right (by omega) (show k - 2 ≤ 15 by omega)) (by decide))
          have hB := hide (hex_bits n _ h60 hd)
          have HP := hide hp
          have hk17 : k ≤ 17 := by omega
          clear hb hv hn hD h18 hp
          go_wp2_with (go_at_call 130; refine (hexDigit_yes _ _ s[k].toNat_lt V).mono ?_; rintro e w' ⟨rfl, rfl⟩)
          rw [hB.out]
          exact ⟨⟨_, k + 1, by omega, by omega, by omega, by go_num, rfl, HP.out, H.out⟩, by simp [intOf]; omega⟩
    · go_wp2
      go_ret3
      have := hD.done (by simp; omega)
      rw [this]
      exact ⟨rfl, rfl⟩
end Go.Proofs.YtffcnonhhfhlhaaDoor.Num
namespace Go.Proofs.YtffcnonhhfhlhaaDoor.Num
open Go.RowKit

/-- does the text begin with 0x? -/
def pre (l : List UInt8) : Bool := l.take 2 == [48, 120]

theorem ret_bool {a b : Bool} (h : a = b) : Ending.returned (.bool a) = .returned (.bool b) := by rw [h]

theorem pre_ext (s : ByteArray) : ((s.extract 0 2).toList == [48, 120]) = pre s.data.toList := by
  unfold pre; rw [ByteArray.toList_eq, Lib.extract_data]; simp
theorem pre_short (s : ByteArray) (h : (s.size : Int) < 2) : false = pre s.data.toList := by
  have hl : s.data.toList.length < 2 := by simp; omega
  unfold pre
  rw [List.take_of_length_le (by omega)]
  symm
  rw [beq_eq_false_iff_ne]
  intro e; rw [e] at hl; simp at hl

set_option maxHeartbeats 400000 in
theorem hasPrefix_any (s : ByteArray) (w : World) (hs : s.size ≤ 140737488355328) :
    Calls Tryd.prog 106 #[.string s, .string ⟨#[48, 120]⟩] w fun e w' => e = .returned (.bool (pre s.data.toList)) ∧ w' = w := by
  by_cases h : 2 ≤ s.size
  · have h' : (2 : Int) ≤ (s.size : Int) := by omega
    go_enter Tryd.func106, Tryd.ntmps106
    go_wp2
    go_ret
    exact ⟨ret_bool (pre_ext s), rfl⟩
  · have h' : (s.size : Int) < 2 := by omega
    go_enter Tryd.func106, Tryd.ntmps106
    go_wp2
    go_ret
    exact ⟨ret_bool (pre_short s h'), rfl⟩

set_option maxHeartbeats 400000 in
theorem readHex_two (s : ByteArray) (w : World) (h2 : s.size = 2) :
    Calls Tryd.prog 118 #[.string s] w fun e w' => e = .returned (.tuple #[.int .u64 0, .int .i64 2, .int .i64 15]) ∧ w' = w := by
  have hne : ((s.size : Int) == 2) = true := by simp; omega
  clear h2
  go_enter Tryd.func118, Tryd.ntmps118
  go_wp2
  go_ret3
  exact ⟨rfl, rfl⟩

/-- three results out of a triple -/
def three (r : Nat × Nat × Nat) : Value := .tuple #[.int .u64 (r.1 : Int), .int .i64 (r.2.1 : Int), .int .i64 (r.2.2 : Int)]

theorem len (s : ByteArray) : s.data.toList.length = s.size := by simp
theorem ne_nil (s : ByteArray) (h : 0 < s.size) : s.data.toList ≠ [] := by
  intro e; have := len s; rw [e] at this; simp only [List.length_nil] at this; omega
theorem nil_of (s : ByteArray) (h : s.size = 0) : s.data.toList = [] := List.eq_nil_of_length_eq_zero (by rw [len]; exact h)
theorem empty_iff (s : ByteArray) (h : s.size = 0) : s.toList.isEmpty = true := by
  rw [ByteArray.toList_eq, nil_of s h]; rfl
theorem not_empty (s : ByteArray) (h : 0 < s.size) : s.toList.isEmpty = false := by
  rw [ByteArray.toList_eq]
  cases e : s.data.toList with
  | nil => exact absurd e (ne_nil s h)
  | cons => rfl

theorem numF_empty (s : ByteArray) (h : s.size = 0) : numF s.data.toList = (0, 0, 15) := by
  rw [nil_of s h]; rfl
theorem numF_two (s : ByteArray) (h : s.size = 2) (hp : pre s.data.toList = true) : numF s.data.toList = (0, 2, 15) := by
  unfold numF; rw [if_neg (ne_nil s (by omega)), if_pos (by simpa [pre] using hp), if_pos (by simpa using h)]
theorem numF_hex (s : ByteArray) (h : 2 < s.size) (hp : pre s.data.toList = true) : numF s.data.toList = hexF 0 2 (s.data.toList.drop 2) := by
  unfold numF; rw [if_neg (ne_nil s (by omega)), if_pos (by simpa [pre] using hp), if_neg (by simp; omega)]
theorem head_at (s : ByteArray) (h : 0 < s.size) : s.data.toList.head? = some s[0] := by
  rw [List.head?_eq_getElem?, List.getElem?_eq_getElem (by rw [len]; exact h)]; rfl
theorem u8_of (c : UInt8) (n : Nat) (h : n < 256) (e : c.toNat = n) : c = UInt8.ofNat n := by
  rw [← UInt8.toNat_inj]; simp; omega
/-- not empty, not 0x -/
def decR (l : List UInt8) : Nat × Nat × Nat := if l.head? = some 48 ∧ 1 < l.length then (0, 1, 15) else decF 0 0 l
theorem numF_dec (s : ByteArray) (h : 0 < s.size) (hp : pre s.data.toList = false) : numF s.data.toList = decR s.data.toList := by
  unfold numF decR; rw [if_neg (ne_nil s h), if_neg (by simpa [pre] using hp)]
theorem decR_zero (s : ByteArray) (h : 1 < s.size) (h0 : s[0].toNat = 48) : decR s.data.toList = (0, 1, 15) := by
  unfold decR; rw [if_pos ⟨by rw [head_at s (by omega), u8_of s[0] 48 (by omega) h0]; rfl, by simpa using h⟩]
theorem decR_else (s : ByteArray) (h : 0 < s.size) (h0 : s.size = 1 ∨ s[0].toNat ≠ 48) : decR s.data.toList = decF 0 0 s.data.toList := by
  unfold decR; rw [if_neg]
  rintro ⟨e, l⟩
  rw [head_at s h] at e
  simp at l
  rcases h0 with h0 | h0
  · omega
  · apply h0; injection e with e; rw [e]; rfl

set_option maxHeartbeats 400000 in
theorem number_any (s : ByteArray) (w : World) (hs : s.size ≤ 140737488355328) :
    Calls Tryd.prog 105 #[.string s] w fun e w' => e = .returned (three (numF s.data.toList)) ∧ w' = w := by
  by_cases h0 : s.size = 0
  · have he := empty_iff s h0
    have H := hide (numF_empty s h0)
    clear h0
    go_enter Tryd.func105, Tryd.ntmps105
    go_wp2
    go_ret3
    rw [H.out]; exact ⟨rfl, rfl⟩
  · have hpos : 0 < s.size := by omega
    have he := not_empty s hpos
    cases hp : pre s.data.toList with
    | true =>
      have HP := hide hp
      by_cases h2 : s.size = 2
      · have H := hide (numF_two s h2 hp)
        have H2 := hide h2
        clear h2 hp h0
        go_enter Tryd.func105, Tryd.ntmps105
        go_wp2_with (first | (go_at_call 106; refine (hasPrefix_any _ _ hs).mono ?_; rw [HP.out]; rintro e w' ⟨rfl, rfl⟩) | (go_at_call 118; refine (readHex_two _ _ H2).mono ?_; rintro e w' ⟨rfl, rfl⟩))
        go_ret3
        rw [H.out]; exact ⟨rfl, rfl⟩
      · have hl : 2 < s.size := by
          by_cases e1 : s.size = 1
          · rw [← pre_short s (by omega)] at hp; cases hp
          · omega
        have H := hide (numF_hex s hl hp)
        clear h2 hp h0
        go_enter Tryd.func105, Tryd.ntmps105
        go_wp2_with (first | (go_at_call 106; refine (hasPrefix_any _ _ hs).mono ?_; rw [HP.out]; rintro e w' ⟨rfl, rfl⟩) | (go_at_call 118; refine (readHex_any _ _ hs hl).mono ?_; rintro e w' ⟨rfl, rfl⟩))
        go_ret3
        rw [H.out]; exact ⟨rfl, rfl⟩
    | false =>
      have HP := hide hp
      have HN := hide (numF_dec s hpos hp)
      by_cases hz : s[0].toNat = 48
      · by_cases h1 : 1 < s.size
        · have H := hide (decR_zero s h1 hz)
          have hz' : ((s[0].toNat : Int) == 48) = true := by simp; omega
          have h1' : (1 : Int) < (s.size : Int) := by omega
          clear hz hp h0
          go_enter Tryd.func105, Tryd.ntmps105
          go_wp2_with (first | (go_at_call 106; refine (hasPrefix_any _ _ hs).mono ?_; rw [HP.out]; rintro e w' ⟨rfl, rfl⟩) | (go_at_call 119; refine (readDecimal_any _ _ hs).mono ?_; rintro e w' ⟨rfl, rfl⟩))
          go_ret3
          rw [HN.out, H.out]; exact ⟨rfl, rfl⟩
        · have H := hide (decR_else s hpos (.inl (by omega)))
          have hz' : ((s[0].toNat : Int) == 48) = true := by simp; omega
          have h1' : (s.size : Int) ≤ 1 := by omega
          clear hz hp h0
          go_enter Tryd.func105, Tryd.ntmps105
          go_wp2_with (first | (go_at_call 106; refine (hasPrefix_any _ _ hs).mono ?_; rw [HP.out]; rintro e w' ⟨rfl, rfl⟩) | (go_at_call 119; refine (readDecimal_any _ _ hs).mono ?_; rintro e w' ⟨rfl, rfl⟩))
          go_ret3
          rw [HN.out, H.out]; exact ⟨rfl, rfl⟩
      · have H := hide (decR_else s hpos (.inr hz))
        have hz' : ((s[0].toNat : Int) == 48) = false := by simp; omega
        clear hz hp h0
        go_enter Tryd.func105, Tryd.ntmps105
        go_wp2_with (first | (go_at_call 106; refine (hasPrefix_any _ _ hs).mono ?_; rw [HP.out]; rintro e w' ⟨rfl, rfl⟩) | (go_at_call 119; refine (readDecimal_any _ _ hs).mono ?_; rintro e w' ⟨rfl, rfl⟩))
        go_ret3
        rw [HN.out, H.out]; exact ⟨rfl, rfl⟩

/-! ### the document's answer -/

theorem pre_iff (s : ByteArray) (h : 1 < s.size) : pre s.data.toList = (s[0].toNat == 48 && s[1].toNat == 120) := by
  have e : s.data.toList.take 2 = [s[0], s[1]] := by
    apply List.ext_getElem
    · simp; omega
    · intro i h1 h2
      have : i = 0 ∨ i = 1 := by simp at h2; omega
      rcases this with rfl | rfl
      · simp; rfl
      · simp; rfl
  unfold pre
  rw [e, Bool.eq_iff_iff]
  simp [← UInt8.toNat_inj]

/-- k digits have been read as the document reads them -/
def Ref (s : ByteArray) (n k : Nat) : Prop := Dec s.data.toList n k ∧ n = dv (s.data.toList.take k) ∧ digs (s.data.toList.take k) ∧ (∀ h : 0 < s.size, 2 ≤ k → s[0].toNat ≠ 48)

theorem Ref.start (s : ByteArray) : Ref s 0 0 := ⟨Dec.start _, rfl, fun c hc => by simp at hc, fun _ h => by omega⟩

theorem Ref.bad {s : ByteArray} {n k : Nat} (h : Ref s n k) (hp : 0 < s.size) (hk : k < s.size) (hc : (s[k].toNat : Int) < 48 ∨ 57 < (s[k].toNat : Int)) : decR s.data.toList = (0, k, 15) := by
  obtain ⟨hD, _, _, hz⟩ := h
  by_cases h0 : s.size = 1 ∨ s[0].toNat ≠ 48
  · rw [decR_else s hp h0]; exact dec_bad hD hk hc
  · have h1 : 1 < s.size := by omega
    have h2 : s[0].toNat = 48 := by omega
    rw [decR_zero s h1 h2]
    have : k = 1 := by
      by_cases e0 : k = 0
      · subst e0; omega
      · by_cases e2 : 2 ≤ k
        · exact absurd h2 (hz hp e2)
        · omega
    rw [this]
theorem Ref.zero {s : ByteArray} {n k : Nat} (h : Ref s n k) (hp : 0 < s.size) (hk : k < s.size) (h0 : 0 < k) (hc : s[0].toNat = 48) : decR s.data.toList = (0, k, 15) := by
  obtain ⟨_, _, _, hz⟩ := h
  have : k = 1 := by
    by_cases e2 : 2 ≤ k
    · exact absurd hc (hz hp e2)
    · omega
  subst this
  exact decR_zero s hk hc
theorem take_snoc (s : ByteArray) (k : Nat) (h : k < s.size) : s.data.toList.take (k + 1) = s.data.toList.take k ++ [s[k]] := by
  rw [List.take_succ_eq_append_getElem (by rw [len]; exact h)]; rfl
theorem Ref.over {s : ByteArray} {n k : Nat} (h : Ref s n k) (hp : 0 < s.size) (hk : k < s.size) (h1 : 48 ≤ s[k].toNat) (h2 : s[k].toNat ≤ 57) (h0 : k = 0 ∨ s[0].toNat ≠ 48) :
    overF (s.extract 0 (k + 1)).data.toList = decide (top < 10 * n + (s[k].toNat - 48)) ∧ digs (s.data.toList.take (k + 1)) := by
  obtain ⟨_, hn, hd, _⟩ := h
  have e := take_snoc s k hk
  have hd' : digs (s.data.toList.take (k + 1)) := by
    rw [e]; intro c hc
    rcases List.mem_append.1 hc with hc | hc
    · exact hd c hc
    · simp at hc; subst hc; exact ⟨h1, h2⟩
  refine ⟨?_, hd'⟩
  rw [Lib.extract_data]
  simp only [List.drop_zero, Nat.sub_zero]
  rw [over_iff _ hd' ?_, e, dv_snoc, ← hn]
  by_cases e0 : k = 0
  · subst e0; left; simp; omega
  · right
    have hne : s[0].toNat ≠ 48 := by omega
    have hm : s[0] ∈ s.data.toList.take (k + 1) := by
      rw [List.mem_take_iff_getElem]
      exact ⟨0, by rw [len]; omega, rfl⟩
    have := hd' _ hm
    refine ⟨s[0], (s.data.toList.drop 1).take k, ?_, by omega⟩
    have e1 : s.data.toList = s[0] :: s.data.toList.drop 1 := by
      have := drop_at (l := s.data.toList) (k := 0) (by rw [len]; exact hp)
      rw [byte_at s 0 hp] at this
      simpa using this
    rw [e1]; simp
theorem Ref.large {s : ByteArray} {n k : Nat} (h : Ref s n k) (hp : 0 < s.size) (hk : k < s.size) (h1 : 48 ≤ s[k].toNat) (h2 : s[k].toNat ≤ 57) (h0 : k = 0 ∨ s[0].toNat ≠ 48) (ho : top < 10 * n + (s[k].toNat - 48)) : decR s.data.toList = (0, k, 16) := by
  obtain ⟨hD, hn, _, hz⟩ := h
  have hb := byte_at s k hk
  by_cases hz0 : s.size = 1 ∨ s[0].toNat ≠ 48
  · rw [decR_else s hp hz0]
    exact hD.large (by rw [len]; exact hk) (by rw [hb]; omega) (by rw [hb]; omega) (by rw [hb]; omega)
  · have : k = 0 := by omega
    subst this
    have : s[0].toNat = 48 := by omega
    simp only [List.take_zero, dv] at hn
    subst hn
    unfold top at ho
    omega
theorem Ref.step {s : ByteArray} {n k : Nat} (h : Ref s n k) (hp : 0 < s.size) (hk : k < s.size) (h1 : 48 ≤ s[k].toNat) (h2 : s[k].toNat ≤ 57) (h0 : k = 0 ∨ s[0].toNat ≠ 48) (ho : 10 * n + (s[k].toNat - 48) ≤ top) : Ref s (10 * n + (s[k].toNat - 48)) (k + 1) := by
  have hd := (h.over hp hk h1 h2 h0).2
  obtain ⟨hD, hn, _, hz⟩ := h
  have hb := byte_at s k hk
  have hs := hD.step (by rw [len]; exact hk) (by rw [hb]; omega) (by rw [hb]; omega) (by rw [hb]; omega)
  rw [hb] at hs
  refine ⟨hs, by rw [take_snoc s k hk, dv_snoc, ← hn], hd, fun _ h2 => by omega⟩
theorem Ref.done {s : ByteArray} {n k : Nat} (h : Ref s n k) (hp : 0 < s.size) (hk : s.size ≤ k) : decR s.data.toList = (n, 0, 0) := by
  obtain ⟨hD, _, _, hz⟩ := h
  rw [decR_else s hp ?_]
  · exact hD.done (by rw [len]; exact hk)
  · by_cases e : s.size = 1
    · exact .inl e
    · exact .inr (hz hp (by omega))
end Go.Proofs.YtffcnonhhfhlhaaDoor.Num
