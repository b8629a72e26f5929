import Derived.Test.YtckjededijgjgaaDoorUrD
import Derived.Test.YtckjededijgjgaaDoorQtD
namespace Go.Proofs.YtckjededijgjgaaDoor.Ur
open Go.RowKit
open Go.Proofs.YtckjededijgjgaaDoor.Pc (P4 pieces pcF)
open Go.Proofs.YtckjededijgjgaaDoor.Uq (escF escAt rqG)
open Go.Proofs.YtckjededijgjgaaDoor.Wd (Bg bg_step bg_end)
open Go.Proofs.YtckjededijgjgaaDoor.Enc (plainF)
set_option linter.unusedVariables false

theorem ext_drop (s : ByteArray) (p : Nat) : (s.extract p s.size).data.toList = s.data.toList.drop p := by
  rw [Lib.extract_data, List.take_of_length_le (by rw [drop_len]; omega)]
theorem bg_in {s : ByteArray} {k pos : Nat} (h : Bg s k pos) (hp : pos < s.size) : k < (pieces s).length := by
  rcases Nat.lt_or_ge k (pieces s).length with h' | h'
  · exact h'
  · have := bg_end h h'; omega
theorem rq_end {s : ByteArray} {k : Nat} (hk : (pieces s).length ≤ k) (nx : Int) (acc : List UInt8) : rqG s ((pieces s).drop k) nx acc = ([], (s.size : Int), 11) := by
  rw [List.drop_of_length_le hk, Uq.rqG]
theorem rq_skip {s : ByteArray} {k pos n : Nat} (H : ∀ m, m < n → pos + m < s.size ∧ Bg s (k + m) (pos + m)) (acc : List UInt8) : ∀ d m, m + d = n → rqG s ((pieces s).drop (k + m)) ((pos : Int) + (n : Int)) acc = rqG s ((pieces s).drop (k + n)) ((pos : Int) + (n : Int)) acc := by
  intro d
  induction d with
  | zero => intro m hm; rw [show m = n by omega]
  | succ d ih =>
    intro m hm
    obtain ⟨h1, h2⟩ := H m (by omega)
    have hk := bg_in h2 h1
    obtain ⟨_, hpc, _, _⟩ := bg_step h2 hk
    have h3 := ih (m + 1) (by omega)
    rw [← Nat.add_assoc] at h3
    rw [List.drop_eq_getElem_cons hk, Uq.rqG, hpc, if_pos (by rw [(Wd.pcF_end s (pos + m)).1]; omega)]
    exact h3

theorem long_q (P Q v : Prop) [Decidable P] [Decidable Q] [Decidable v] (E : List UInt8) (c : Nat) (hE : E.length ≤ 4) : (if P then (([], 0) : List UInt8 × Nat) else if Q then ([], 0) else if v then (E, 3 + c + 1) else ([], 0)).1.length ≤ 4 * (if P then (([], 0) : List UInt8 × Nat) else if Q then ([], 0) else if v then (E, 3 + c + 1) else ([], 0)).2 := by
  by_cases c1 : P
  · rw [if_pos c1]; simp
  rw [if_neg c1]
  by_cases c2 : Q
  · rw [if_pos c2]; simp
  rw [if_neg c2]
  by_cases c3 : v
  · rw [if_pos c3]; show E.length ≤ 4 * (3 + c + 1); omega
  rw [if_neg c3]
  simp
theorem longA_le (a : Nat → Int) : (longA a).1.length ≤ 4 * (longA a).2 := by
  unfold longA
  exact long_q _ _ _ _ _ (Uq.enc_le _)
theorem escA_le (a : Nat → Int) : (escA a).1.length ≤ 4 * (escA a).2 := by
  have := longA_le a
  unfold escA
  by_cases c1 : a 1 = 34
  · rw [if_pos c1]; simp
  rw [if_neg c1]
  by_cases c2 : a 1 = 92
  · rw [if_pos c2]; simp
  rw [if_neg c2]
  by_cases c3 : a 1 = 110
  · rw [if_pos c3]; simp
  rw [if_neg c3]
  by_cases c4 : a 1 = 114
  · rw [if_pos c4]; simp
  rw [if_neg c4]
  by_cases c5 : a 1 = 116
  · rw [if_pos c5]; simp
  rw [if_neg c5]
  by_cases c6 : a 1 = 120
  · rw [if_pos c6]; split <;> simp
  rw [if_neg c6]
  by_cases c7 : a 1 = 117
  · rw [if_pos c7]; exact this
  · rw [if_neg c7]; simp
/-- what is read at a piece -/
theorem rq_at {s : ByteArray} {k pos : Nat} (h : Bg s k pos) (hk : k < (pieces s).length) : ∃ (r : Int) (z : Nat) (br : Bool), (pieces s)[k] = (r, (pos : Int), (z : Int), br) ∧ z ≤ 4 ∧ pos + z ≤ s.size ∧ Bg s (k + 1) (pos + z) ∧ pos < s.size ∧
    (br = false → r = 34 → Bg s (k + 1) (pos + 1)) ∧
    (br = false → r = 92 → Bg s (k + (escA (aA (pieces s) k)).2) (pos + (escA (aA (pieces s) k)).2) ∧ (escA (aA (pieces s) k)).2 ≤ 10) ∧ (escA (aA (pieces s) k)).1.length ≤ 4 * (escA (aA (pieces s) k)).2 ∧
    ∀ (nx : Int) (acc : List UInt8), nx ≤ (pos : Int) → rqG s ((pieces s).drop k) nx acc = if br = true then ([], (pos : Int), 13) else if r = 34 then (acc, (pos : Int) + 1, 0)
      else if r = 92 then (if (escA (aA (pieces s) k)).2 = 0 then ([], (pos : Int), 12) else rqG s ((pieces s).drop (k + (escA (aA (pieces s) k)).2)) ((pos : Int) + ((escA (aA (pieces s) k)).2 : Int)) (acc ++ (escA (aA (pieces s) k)).1))
      else if plainF r = true then rqG s ((pieces s).drop (k + 1)) nx (acc ++ (s.extract pos (pos + z)).data.toList) else ([], (pos : Int), 12) := by
  obtain ⟨hp, hpc, hw, hn⟩ := bg_step h hk
  have hw4 := Pc.width_le s pos hp
  have hend := Wd.pcF_end s pos
  have hat := at_bg h
  rw [atL_in hk, hpc] at hat
  have h92 : (pcF s pos).2.2.2 = false → (pcF s pos).1 = 92 → s.get! pos = 92 := fun hb hr => by
    rw [hb, hr] at hat
    rcases hat with ⟨_, _, e, _⟩ | ⟨e, _⟩
    · have e' : (92 : Int) = ((s.get! pos).toNat : Int) := e
      exact UInt8.toNat_inj.1 (by simpa using (by omega : (s.get! pos).toNat = 92))
    · have e' : (92 : Int) = -1 ∨ (128 : Int) ≤ 92 := e
      omega
  have h34 : (pcF s pos).2.2.2 = false → (pcF s pos).1 = 34 → Bg s (k + 1) (pos + 1) := fun hb hr => by
    rw [hb, hr] at hat
    rcases hat with ⟨_, _, _, e⟩ | ⟨e, _⟩
    · exact e
    · have e' : (34 : Int) = -1 ∨ (128 : Int) ≤ 34 := e
      omega
  have hes : s.get! pos = 92 → escA (aA (pieces s) k) = escAt s (pos : Int) ∧ ∀ m, m < (escA (aA (pieces s) k)).2 → pos + m < s.size ∧ Bg s (k + m) (pos + m) ∧ Bg s (k + m + 1) (pos + m + 1) := fun e => by
    have := esc_at h hp e
    rw [this.1]
    unfold Uq.escAt
    rw [show ((pos : Int)).toNat = pos from rfl, ext_drop]
    rw [← this.1]
    exact ⟨rfl, this.2⟩
  refine ⟨(pcF s pos).1, (Utf8.decode s pos).2, (pcF s pos).2.2.2, ?_, hw4.2.1, hw, hn, hp, h34, fun hb hr => ?_, ?_, fun nx acc hnx => ?_⟩
  · rw [hpc]
    obtain ⟨e1, e2⟩ := hend
    rw [← e1, ← e2]
  · refine ⟨?_, by rw [(hes (h92 hb hr)).1]; exact (Uq.escF_le _).2⟩
    rcases Nat.eq_zero_or_pos (escA (aA (pieces s) k)).2 with h0 | h0
    · rw [h0]; exact h
    · obtain ⟨_, _, h3⟩ := (hes (h92 hb hr)).2 ((escA (aA (pieces s) k)).2 - 1) (by omega)
      rw [show k + ((escA (aA (pieces s) k)).2 - 1) + 1 = k + (escA (aA (pieces s) k)).2 by omega, show pos + ((escA (aA (pieces s) k)).2 - 1) + 1 = pos + (escA (aA (pieces s) k)).2 by omega] at h3
      exact h3
  · exact escA_le _
  · rw [List.drop_eq_getElem_cons hk, Uq.rqG, hpc, hend.1, if_neg (by omega)]
    by_cases c1 : (pcF s pos).2.2.2 = true
    · rw [if_pos c1, if_pos c1]
    rw [if_neg c1, if_neg c1]
    by_cases c2 : (pcF s pos).1 = 34
    · rw [if_pos c2, if_pos c2]
    rw [if_neg c2, if_neg c2]
    by_cases c3 : (pcF s pos).1 = 92
    · rw [if_pos c3, if_pos c3]
      have hE := hes (h92 (by simpa using c1) c3)
      rw [← hE.1]
      by_cases c4 : (escA (aA (pieces s) k)).2 = 0
      · rw [if_pos c4, if_pos c4]
      · rw [if_neg c4, if_neg c4]
        exact rq_skip (fun m hm => ⟨(hE.2 m hm).1, (hE.2 m hm).2.1⟩) _ ((escA (aA (pieces s) k)).2 - 1) 1 (by omega)
    rw [if_neg c3, if_neg c3]
    have ho : Qt.ownB s (pcF s pos) = s.extract pos (pos + (Utf8.decode s pos).2) := by
      unfold Qt.ownB
      rw [hend.1, hend.2]
      congr 1
    rw [ho]
end Go.Proofs.YtckjededijgjgaaDoor.Ur
