import Derived.Test.YtckjededijgjgaaDoorNmC
import Derived.Test.YtckjededijgjgaaDoorPcF
namespace Go.Proofs.YtckjededijgjgaaDoor.Nm
open Go.RowKit
open Pc (P4 pieces piecesFrom pcF encAt)

/-! a folded letter is folded already, and as long -/
theorem letF_range {r x : Int} : ∀ l : List (Int × Int × Int), (∀ y ∈ l, 65 ≤ y.1 ∧ y.2.1 ≤ 1103 ∧ 0 ≤ y.2.2 ∧ y.2.2 ≤ 32) → letF r l = some x → 65 ≤ r ∧ r ≤ 1103
  | [], _, h => by cases h
  | (a, b, f) :: t, hl, h => by
    unfold letF at h
    have := hl _ (List.mem_cons_self ..)
    simp only at this
    split at h
    · omega
    · exact letF_range t (fun y hy => hl y (List.mem_cons_of_mem _ hy)) h

def chk (n : Nat) : Bool := match letF (n : Int) lets with
  | none => true
  | some v => (letF v lets == some v) && ((decide (n < 128) && decide (v < 128)) || (decide (128 ≤ n) && decide (128 ≤ v) && decide (v < 2048)))
theorem chk_all : (List.range 1104).all chk = true := by decide +kernel

theorem let_facts {r v : Int} (h : letF r lets = some v) : letF v lets = some v ∧ 0 ≤ r ∧ 0 ≤ v ∧ ((r < 128 ∧ v < 128) ∨ (128 ≤ r ∧ r < 2048 ∧ 128 ≤ v ∧ v < 2048)) := by
  have hr := letF_range lets lets_all h
  have hv := letF_bounds lets lets_all h
  obtain ⟨n, rfl⟩ := Int.eq_ofNat_of_zero_le (show 0 ≤ r by omega)
  have hc : chk n = true := List.all_eq_true.1 chk_all n (by simp; omega)
  unfold chk at hc
  have h' : letF (n : Int) lets = some v := h
  rw [h'] at hc
  simp only [Bool.and_eq_true, Bool.or_eq_true, decide_eq_true_eq, beq_iff_eq] at hc
  refine ⟨hc.1, by omega, hv.1, ?_⟩
  rcases hc.2 with hc | hc
  · left; omega
  · right; omega

theorem fold_facts {r v : Int} {f : Bool} (h : nameF r f = (v, true)) : nameF v f = (v, true) ∧ 0 ≤ r ∧ 0 ≤ v ∧ ((r < 128 ∧ v < 128) ∨ (128 ≤ r ∧ r < 2048 ∧ 128 ≤ v ∧ v < 2048)) := by
  have h' := h
  unfold nameF at h
  split at h
  · rename_i x hx
    cases h
    obtain ⟨a, b⟩ := let_facts hx
    refine ⟨?_, b⟩
    unfold nameF; rw [a]
  · simp only [Prod.mk.injEq, Bool.and_eq_true] at h
    obtain ⟨rfl, _, h⟩ := h
    refine ⟨h', ?_⟩
    simp [restB] at h
    omega

theorem enc_one {v : Nat} (h : v < 128) : Lib.encodeRune (v : Int) = [v.toUInt8] := by
  unfold Lib.encodeRune; rw [Lib.encodeRuneZ_one (by omega) (by omega)]; simp
theorem enc_two {v : Nat} (h : 128 ≤ v) (h' : v < 2048) : Lib.encodeRune (v : Int) = [(192 + v / 64).toUInt8, (128 + v % 64).toUInt8] := by
  unfold Lib.encodeRune; rw [Lib.encodeRuneZ_two (by omega) (by omega)]
  have e1 : (192 + (v : Int) / 64).toNat = 192 + v / 64 := by omega
  have e2 : (128 + (v : Int) % 64).toNat = 128 + v % 64 := by omega
  simp [e1, e2]

theorem get_list {A : ByteArray} {i : Nat} {b : UInt8} (h : A.data.toList[i]? = some b) : A.get! i = b := by
  have hi : i < A.size := by
    have := (List.getElem?_eq_some_iff.1 h).1
    simpa using this
  rw [Pc.get_at A i hi]
  rw [List.getElem?_eq_getElem (by simpa using hi)] at h
  have := Option.some.inj h
  rw [← this]; rfl
theorem toNat_u8 {n : Nat} (h : n < 256) : (n.toUInt8).toNat = n := by
  simp [Nat.toUInt8, UInt8.toNat_ofNat']; omega

/-- the folded text's bytes at its rune -/
theorem enc_at {A : ByteArray} {acc tail : List UInt8} {v k : Nat} (hA : A.data.toList = (acc ++ Lib.encodeRune (v : Int)) ++ tail) (h : (k = 1 ∧ v < 128) ∨ (k = 2 ∧ 128 ≤ v ∧ v < 2048)) : encAt A acc.length v k := by
  have hs : A.size = ((acc ++ Lib.encodeRune (v : Int)) ++ tail).length := by rw [← hA]; simp
  rcases h with ⟨rfl, h⟩ | ⟨rfl, h, h'⟩
  · rw [enc_one h] at hA
    have : A.get! acc.length = v.toUInt8 := get_list (by rw [hA]; simp)
    refine .inl ⟨rfl, h, ?_⟩
    rw [this, toNat_u8 (by omega)]
  · rw [enc_two h h'] at hA hs
    have g0 : A.get! acc.length = (192 + v / 64).toUInt8 := get_list (by rw [hA]; simp)
    have g1 : A.get! (acc.length + 1) = (128 + v % 64).toUInt8 := get_list (by rw [hA]; simp)
    refine .inr (.inl ⟨rfl, h, h', ?_, ?_, ?_⟩)
    · rw [hs]; simp
    · rw [g0, toNat_u8 (by omega)]
    · rw [g1, toNat_u8 (by omega)]
theorem decode_of {A : ByteArray} {pos v k : Nat} (h : encAt A pos v k) : Utf8.decode A pos = (v, k) := by
  rcases Pc.decode_cases A pos with ⟨_, _, hno⟩ | ⟨r, k', hd, he⟩
  · exact absurd h (hno _ _)
  · obtain ⟨rfl, rfl⟩ := Pc.isEnc_unique he h
    exact hd
theorem pcF_of {A : ByteArray} {pos v k : Nat} (h : encAt A pos v k) : pcF A pos = ((v : Int), (pos : Int), (k : Int), false) := by
  have hd := decode_of h
  unfold pcF
  rw [if_neg, hd]
  rw [hd]; intro e
  simp only [Prod.mk.injEq] at e
  obtain ⟨rfl, rfl⟩ := e
  rcases h with h | h | h | h <;> omega

theorem again (s : ByteArray) : ∀ (f pos c : Nat) (acc a : List UInt8) (at_ : Int), nameG (piecesFrom s f pos) c acc = (a, at_, 0) → acc.length = pos → s.size ≤ pos + f → pos ≤ s.size →
    at_ = 0 ∧ a.length = s.size ∧ acc <+: a ∧ ∀ A : ByteArray, A.data.toList = a → nameG (piecesFrom A f pos) c acc = (a, 0, 0)
  | 0, pos, c, acc, a, at_, h, hl, h1, h2 => by
    simp only [piecesFrom, nameG, Prod.mk.injEq] at h
    obtain ⟨rfl, rfl, _⟩ := h
    exact ⟨rfl, by omega, List.prefix_refl _, fun A _ => rfl⟩
  | f + 1, pos, c, acc, a, at_, h, hl, h1, h2 => by
    by_cases hp : pos < s.size
    · rw [piecesFrom, if_pos hp] at h
      rcases Pc.pc_cases s pos hp with ⟨hw, hx, _⟩ | ⟨r, k, hx, hw, he⟩
      · rw [hx] at h
        simp [nameG] at h
      · rw [hx, hw] at h
        obtain ⟨v, ok, hf⟩ : ∃ v ok, nameF (r : Int) (c == 0) = (v, ok) := ⟨_, _, rfl⟩
        by_cases hok : ok = true ∧ c ≠ 24
        · obtain ⟨rfl, hc⟩ := hok
          obtain ⟨hv, _, hv0, hr⟩ := fold_facts hf
          obtain ⟨v, rfl⟩ := Int.eq_ofNat_of_zero_le hv0
          have hk : (k = 1 ∧ v < 128) ∨ (k = 2 ∧ 128 ≤ v ∧ v < 2048) := by
            rcases he with he | he | he | he <;> omega
          have hel : (Lib.encodeRune (v : Int)).length = k := by
            rcases hk with ⟨rfl, hk⟩ | ⟨rfl, hk, hk'⟩
            · rw [enc_one hk]; rfl
            · rw [enc_two hk hk']; rfl
          have hw' := Pc.width_le s pos hp
          rw [hw] at hw'
          rw [nameG, if_neg (by simp)] at h
          simp only [hf] at h
          rw [if_pos ⟨trivial, hc⟩] at h
          obtain ⟨i1, i2, ⟨tail, i3⟩, i4⟩ := again s f (pos + k) (c + 1) (acc ++ Lib.encodeRune (v : Int)) a at_ h (by rw [List.length_append, hel, hl]) (by omega) (by omega)
          refine ⟨i1, i2, ⟨Lib.encodeRune (v : Int) ++ tail, by rw [← i3, List.append_assoc]⟩, fun A hA => ?_⟩
          have hAs : A.size = s.size := by rw [← i2, ← hA]; simp
          have hea : encAt A pos v k := by
            have := enc_at (A := A) (acc := acc) (tail := tail) (v := v) (k := k) (by rw [hA, i3]) hk
            rw [hl] at this; exact this
          rw [piecesFrom, if_pos (by omega), pcF_of hea, decode_of hea]
          rw [nameG, if_neg (by simp)]
          simp only [hv]
          rw [if_pos ⟨trivial, hc⟩]
          exact i4 A hA
        · rw [nameG, if_neg (by simp)] at h
          simp only [hf] at h
          rw [if_neg hok] at h
          simp at h
    · rw [Pc.piecesFrom_end s _ pos hp] at h
      simp only [nameG, Prod.mk.injEq] at h
      obtain ⟨rfl, rfl, _⟩ := h
      refine ⟨rfl, by omega, List.prefix_refl _, fun A hA => ?_⟩
      have hAs : A.size = acc.length := by rw [← hA]; simp
      rw [Pc.piecesFrom_end A _ pos (by omega)]
      rfl

theorem err : ∀ (l : List P4) (c : Nat) (acc : List UInt8), (nameG l c acc).2.2 ≠ 0 → (nameG l c acc).1 = [] ∧ ∃ x ∈ l, (nameG l c acc).2.1 = x.2.1
  | [], c, acc, h => by simp [nameG] at h
  | x :: t, c, acc, h => by
    unfold nameG at h ⊢
    split
    · exact ⟨rfl, x, by simp, rfl⟩
    · rename_i hb
      rw [if_neg hb] at h
      split
      · rename_i hk
        rw [if_pos hk] at h
        obtain ⟨h1, y, hy, h2⟩ := err t _ _ h
        exact ⟨h1, y, List.mem_cons_of_mem _ hy, h2⟩
      · exact ⟨rfl, x, by simp, rfl⟩
theorem place_le (s : ByteArray) : ∀ (f pos : Nat) (x : P4), x ∈ piecesFrom s f pos → x.2.1 ≤ (s.size : Int)
  | 0, pos, x, h => by simp [piecesFrom] at h
  | f + 1, pos, x, h => by
    rw [piecesFrom] at h
    split at h
    · rename_i hp
      rcases List.mem_cons.1 h with rfl | h
      · rcases Pc.pc_cases s pos hp with ⟨_, hx, _⟩ | ⟨r, k, hx, _, _⟩ <;> rw [hx] <;> simp <;> omega
      · exact place_le s f _ x h
    · cases h

/-- no name -/
theorem name_err {s : ByteArray} {a : List UInt8} {p e : Int} (h : nameR s = (a, p, e)) (he : e ≠ 0) : a = [] ∧ p ≤ (s.size : Int) := by
  unfold nameR at h
  split at h
  · cases h; exact ⟨rfl, by omega⟩
  · have := err (pieces s) 0 [] (by rw [h]; exact he)
    rw [h] at this
    obtain ⟨h1, x, hx, h2⟩ := this
    exact ⟨h1, by simp only at h2; rw [h2]; exact place_le s _ _ x hx⟩
/-- a name -/
theorem name_ok {s : ByteArray} {a : List UInt8} {p : Int} (h : nameR s = (a, p, 0)) : p = 0 ∧ a.length = s.size ∧ nameR ⟨a.toArray⟩ = (a, 0, 0) := by
  unfold nameR at h
  split at h
  · cases h
  · rename_i hs
    obtain ⟨h1, h2, _, h3⟩ := again s s.size 0 0 [] a p h rfl (by omega) (by omega)
    refine ⟨h1, h2, ?_⟩
    have hsz : (⟨a.toArray⟩ : ByteArray).size = s.size := by rw [← h2]; simp [ByteArray.size]
    unfold nameR
    rw [if_neg (by rw [hsz]; exact hs)]
    unfold pieces
    rw [hsz]
    exact h3 ⟨a.toArray⟩ (by simp)
theorem name_first : nameR ⟨#[65, 98, 45, 57]⟩ = ([97, 98, 45, 57], 0, 0) := by decide +kernel
end Go.Proofs.YtckjededijgjgaaDoor.Nm
