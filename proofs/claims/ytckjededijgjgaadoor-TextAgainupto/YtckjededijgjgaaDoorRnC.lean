import Derived.Test.YtckjededijgjgaaDoorRnB
import Derived.Test.YtckjededijgjgaaDoorNmD
import Derived.Test.YtckjededijgjgaaDoorEncD
namespace Go.Proofs.YtckjededijgjgaaDoor.Rn
open Go.RowKit Go.Proofs.YtckjededijgjgaaDoor.Nm
open Go.Proofs.YtckjededijgjgaaDoor.Pc (P4 pieces)
set_option linter.unusedVariables false

def chk2 (n : Nat) : Bool := match letF (n : Int) lets with
  | none => true
  | some v => v == foldF (n : Int)
theorem chk2_all : (List.range 1104).all chk2 = true := by decide +kernel
theorem let_fold {r v : Int} (h : letF r lets = some v) : foldF r = v := by
  have hr := letF_range lets lets_all h
  obtain ⟨n, rfl⟩ := Int.eq_ofNat_of_zero_le (show 0 ≤ r by omega)
  have hc : chk2 n = true := List.all_eq_true.1 chk2_all n (by simp; omega)
  unfold chk2 at hc
  have h' : letF (n : Int) lets = some v := h
  rw [h'] at hc
  simp only [beq_iff_eq] at hc
  exact hc.symm
theorem rest_fold {r : Int} (h : restB r = true) : foldF r = r := by
  simp [restB] at h
  unfold foldF
  rw [if_neg, if_neg (by omega)]
  unfold bigP
  omega
/-- the document's test -/
def okR (r : Int) (c : Nat) : Bool := (letF r lets).isSome || (decide (0 < c) && restB r)
theorem name_okR {r : Int} {c : Nat} (h : okR r c = true) : nameF r (c == 0) = (foldF r, true) := by
  unfold okR at h
  unfold nameF
  cases hl : letF r lets with
  | some v => rw [let_fold hl]
  | none =>
    rw [hl] at h
    simp at h
    rw [rest_fold h.2, h.2]
    have : (c == 0) = false := by simp; omega
    rw [this]
    rfl
theorem name_noR {r : Int} {c : Nat} (h : okR r c = false) : (nameF r (c == 0)).2 = false := by
  unfold okR at h
  unfold nameF
  cases hl : letF r lets with
  | some v => rw [hl] at h; simp at h
  | none =>
    rw [hl] at h
    simp only [Option.isSome_none, Bool.false_or] at h
    by_cases hc : c = 0
    · subst hc; simp
    · have : (c == 0) = false := by simpa using hc
      have h2 : decide (0 < c) = true := by simp; omega
      rw [h2, Bool.true_and] at h
      simp [h]

theorem encode_is {v : Int} (h0 : 0 ≤ v) (h1 : v ≤ 1135) : Utf8.valid v = true ∧ Utf8.encode v = ⟨(Lib.encodeRune v).toArray⟩ := by
  obtain ⟨n, rfl⟩ := Int.eq_ofNat_of_zero_le h0
  have h1' : n ≤ 1135 := by omega
  refine ⟨?_, ?_⟩
  · unfold Utf8.valid; simp; omega
  · by_cases h : n < 128
    · show Utf8.encode (n : Int) = ⟨(Lib.encodeRune (n : Int)).toArray⟩
      rw [enc_one h]
      unfold Utf8.encode
      simp only [Enc.valid_of n (by omega), if_true, Int.toNat_natCast]
      rw [if_pos (by omega)]
    · show Utf8.encode (n : Int) = ⟨(Lib.encodeRune (n : Int)).toArray⟩
      rw [enc_two (by omega) (by omega)]
      unfold Utf8.encode
      simp only [Enc.valid_of n (by omega), if_true, Int.toNat_natCast]
      rw [if_neg (by omega), if_pos (by omega)]

theorem nameG_broken {x : P4} {t : List P4} {c : Nat} {acc : List UInt8} (h : x.2.2.2 = true) : nameG (x :: t) c acc = ([], x.2.1, 13) := by rw [nameG, if_pos h]
theorem nameG_no {x : P4} {t : List P4} {c : Nat} {acc : List UInt8} (h : x.2.2.2 = false) (h2 : okR x.1 c = false ∨ c = 24) : nameG (x :: t) c acc = ([], x.2.1, 17) := by
  rw [nameG, if_neg (by rw [h]; simp), if_neg]
  rintro ⟨a, b⟩
  rcases h2 with h2 | h2
  · rw [name_noR h2] at a; cases a
  · exact b h2
theorem nameG_yes {x : P4} {t : List P4} {c : Nat} {acc : List UInt8} (h : x.2.2.2 = false) (h2 : okR x.1 c = true) (hc : c ≠ 24) : nameG (x :: t) c acc = nameG t (c + 1) (acc ++ Lib.encodeRune (foldF x.1)) := by
  rw [nameG, if_neg (by rw [h]; simp), name_okR h2, if_pos ⟨rfl, hc⟩]
theorem ok_bounds {r : Int} {c : Nat} (h : okR r c = true) : 0 ≤ foldF r ∧ foldF r ≤ 1135 := nameF_bounds (name_okR h)
end Go.Proofs.YtckjededijgjgaaDoor.Rn
