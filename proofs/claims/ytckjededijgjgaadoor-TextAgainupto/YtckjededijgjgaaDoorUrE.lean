import Derived.Test.YtckjededijgjgaaDoorUrC
import Derived.Test.YtckjededijgjgaaDoorWdH
import Derived.Test.YtckjededijgjgaaDoorCbC
import Derived.Test.YtckjededijgjgaaDoorQtD
namespace Go.Proofs.YtckjededijgjgaaDoor.Ur
open Go.RowKit
open Go.Proofs.YtckjededijgjgaaDoor.Pc (P4 pieces pcF pc_cases encAt)
open Go.Proofs.YtckjededijgjgaaDoor.Num (hexV hexV_le)
open Go.Proofs.YtckjededijgjgaaDoor.Uq (escF escB escR hexRun escR_of)
open Go.Proofs.YtckjededijgjgaaDoor.Wd (Bg bg_step bg_end)
set_option linter.unusedVariables false

theorem dg_no {z : Int} (h : z = -1 ∨ 128 ≤ z) : dg z = -1 := by
  unfold dg; rw [if_neg (by omega), if_neg (by omega), if_neg (by omega)]
theorem hexV_big {n : Nat} (h : 128 ≤ n) : hexV n = 16 := by
  unfold Num.hexV; rw [if_neg (by omega), if_neg (by omega), if_neg (by omega)]
theorem dg_hex (n : Nat) : dg (n : Int) = if hexV n = 16 then -1 else (hexV n : Int) := by
  unfold dg Num.hexV
  by_cases h1 : 48 ≤ n ∧ n ≤ 57
  · rw [if_pos (by omega), if_pos h1, if_neg (by omega)]; omega
  rw [if_neg (by omega), if_neg h1]
  by_cases h2 : 97 ≤ n ∧ n ≤ 102
  · rw [if_pos (by omega), if_pos h2, if_neg (by omega)]; omega
  rw [if_neg (by omega), if_neg h2]
  by_cases h3 : 65 ≤ n ∧ n ≤ 70
  · rw [if_pos (by omega), if_pos h3, if_neg (by omega)]; omega
  rw [if_neg (by omega), if_neg h3, if_pos rfl]

/-- the runes a are the bytes t as long as these are ASCII -/
structure Al (t : List UInt8) (a : Nat → Int) (ok : Nat → Prop) : Prop where
  of : ∀ j, ok j → j < t.length ∧ (t.getD j 0).toNat < 128 ∧ a j = ((t.getD j 0).toNat : Int)
  step : ∀ j, ok j → ok (j + 1) ∨ ((a (j + 1) = -1 ∨ 128 ≤ a (j + 1)) ∧ (t.length ≤ j + 1 ∨ 128 ≤ (t.getD (j + 1) 0).toNat))
  zero : ok 0
  back : t.getD 0 0 = 92
  down : ∀ {j}, ok j → ∀ m, m ≤ j → ok m

theorem drop_get {t : List UInt8} {k : Nat} (h : k < t.length) : t.drop k = t.getD k 0 :: t.drop (k + 1) := by
  rw [List.drop_eq_getElem_cons h]
  simp [List.getD_eq_getElem?_getD, List.getElem?_eq_getElem h]

theorem run_same {t : List UInt8} {a : Nat → Int} {ok : Nat → Prop} (H : Al t a ok) (f : Nat) : ∀ n k, ok (2 + k) → runA a f n k = hexRun f n k (t.drop (3 + k)) ∧ ok (2 + (runA a f n k).2) := by
  induction f with
  | zero => intro n k hk; exact ⟨by unfold Uq.hexRun; rfl, hk⟩
  | succ f ih =>
    intro n k hk
    rw [runA]
    rcases H.step (2 + k) hk with o | ⟨b, b'⟩
    · rw [show 2 + k + 1 = 3 + k by omega] at o
      obtain ⟨h1, h2, h3⟩ := H.of _ o
      rw [h3, dg_hex, drop_get h1, Uq.hexRun]
      by_cases hv : hexV (t.getD (3 + k) 0).toNat = 16
      · rw [if_pos hv, if_pos hv, if_pos (by omega)]
        exact ⟨rfl, hk⟩
      · rw [if_neg hv, if_neg hv, if_neg (by omega)]
        have := ih (16 * n + hexV (t.getD (3 + k) 0).toNat) (k + 1) (by rw [show 2 + (k + 1) = 3 + k by omega]; exact o)
        rw [show (hexV (t.getD (3 + k) 0).toNat : Int).toNat = hexV (t.getD (3 + k) 0).toNat by omega, show 3 + k + 1 = 3 + (k + 1) by omega]
        exact this
    · rw [show 2 + k + 1 = 3 + k by omega] at b b'
      rw [dg_no b, if_pos (by omega)]
      refine ⟨?_, hk⟩
      by_cases hl : 3 + k < t.length
      · rw [drop_get hl, Uq.hexRun, if_pos (hexV_big (by omega))]
      · rw [List.drop_of_length_le (by omega), Uq.hexRun]

theorem take_three {t : List UInt8} (h : 2 < t.length) : t.take 3 = [t.getD 0 0, t.getD 1 0, t.getD 2 0] := by
  match t, h with
  | x :: y :: z :: r, _ => rfl

theorem long_same {t : List UInt8} {a : Nat → Int} {ok : Nat → Prop} (H : Al t a ok) (o1 : ok 1) (h1 : t.getD 1 0 = 117) : longA a = escR t ∧ ∀ m, m < (longA a).2 → ok m := by
  have o0 := H.zero
  have hno : longA a = ([], 0) → escR t = ([], 0) → longA a = escR t ∧ ∀ m, m < (longA a).2 → ok m := fun e1 e2 => by
    rw [e1, e2]; exact ⟨rfl, fun m hm => absurd hm (Nat.not_lt_zero _)⟩
  have st : ok 2 ∨ ((a 2 = -1 ∨ 128 ≤ a 2) ∧ (t.length ≤ 2 ∨ 128 ≤ (t.getD 2 0).toNat)) := H.step 1 o1
  rcases st with o2 | ⟨b, b'⟩
  · obtain ⟨l2, v2, e2⟩ := H.of _ o2
    by_cases q : t.getD 2 0 = 123
    · have ha2 : a 2 = 123 := by rw [e2, q]; rfl
      have ht : t.take 3 = [92, 117, 123] := by rw [take_three l2, H.back, h1, q]
      obtain ⟨hr, hok⟩ := run_same H 6 0 0 o2
      rw [show 3 + 0 = 3 from rfl] at hr
      obtain ⟨n, k, hnk⟩ : ∃ n k, runA a 6 0 0 = (n, k) := ⟨_, _, rfl⟩
      rw [hnk] at hr hok
      have hok' : ok (2 + k) := hok
      have hL := longA_of ha2 hnk
      have hE := escR_of ht hr.symm
      rcases H.step _ hok' with o | ⟨b, b'⟩
      · rw [show 2 + k + 1 = 3 + k by omega] at o
        obtain ⟨l3, v3, e3⟩ := H.of _ o
        have hall : ∀ m, m < 3 + k + 1 → ok m := by
          intro m hm
          exact (H.down o) m (by omega)
        by_cases c1 : k = 0
        · exact hno (by rw [hL, if_pos (.inl c1)]) (by rw [hE, if_pos (.inl c1)])
        by_cases c2 : t.getD (3 + k) 0 = 125
        · have c2' : a (3 + k) = 125 := by rw [e3, c2]; rfl
          rw [if_neg (by simp [c1, c2'])] at hL
          rw [if_neg (fun hh => hh.elim c1 (fun h => h.elim (fun h => by omega) (fun h => h c2)))] at hE
          rw [hL, hE]
          refine ⟨rfl, fun m hm => ?_⟩
          by_cases c3 : Utf8.valid (n : Int) = true
          · rw [if_pos c3] at hm; exact hall m hm
          · rw [if_neg c3] at hm; exact absurd hm (Nat.not_lt_zero _)
        · have c2' : a (3 + k) ≠ 125 := by
            rw [e3]; intro e
            exact c2 (UInt8.toNat_inj.1 (by simpa using (by omega : (t.getD (3 + k) 0).toNat = 125)))
          exact hno (by rw [hL, if_pos (.inr c2')]) (by rw [hE, if_pos (.inr (.inr c2))])
      · rw [show 2 + k + 1 = 3 + k by omega] at b b'
        refine hno (by rw [hL, if_pos (.inr (by omega))]) ?_
        rw [hE, if_pos]
        rcases b' with b' | b'
        · exact .inr (.inl b')
        · exact .inr (.inr (fun e => by rw [e] at b'; revert b'; decide))
    · have ha2 : a 2 ≠ 123 := by
        rw [e2]; intro e
        exact q (UInt8.toNat_inj.1 (by simpa using (by omega : (t.getD 2 0).toNat = 123)))
      refine hno (by unfold longA; rw [if_pos ha2]) ?_
      unfold Uq.escR
      rw [if_pos]
      rw [take_three l2]
      intro e
      simp only [List.cons.injEq] at e
      exact q e.2.2.1
  · refine hno (by unfold longA; rw [if_pos (by omega)]) ?_
    unfold Uq.escR
    rw [if_pos]
    intro e
    have hl : 2 < t.length := by
      have := congrArg List.length e
      rw [List.length_take] at this
      simp at this
      omega
    rw [take_three hl] at e
    simp only [List.cons.injEq] at e
    have e3 := e.2.2.1
    rcases b' with b' | b'
    · omega
    · rw [e3] at b'; revert b'; decide
theorem esc_same {t : List UInt8} {a : Nat → Int} {ok : Nat → Prop} (H : Al t a ok) : escA a = escF t ∧ ∀ m, m < (escA a).2 → ok m := by
  have o0 := H.zero
  have hno : escA a = ([], 0) → escF t = ([], 0) → escA a = escF t ∧ ∀ m, m < (escA a).2 → ok m := fun e1 e2 => by
    rw [e1, e2]; exact ⟨rfl, fun m hm => absurd hm (Nat.not_lt_zero _)⟩
  have st : ok 1 ∨ ((a 1 = -1 ∨ 128 ≤ a 1) ∧ (t.length ≤ 1 ∨ 128 ≤ (t.getD 1 0).toNat)) := H.step 0 o0
  rcases st with o1 | ⟨b, b'⟩
  · obtain ⟨l1, v1, e1⟩ := H.of _ o1
    have hlen : ¬ t.length < 2 := by omega
    have key : ∀ d : UInt8, a 1 = (d.toNat : Int) ↔ t.getD 1 0 = d := fun d => by
      rw [e1]
      constructor
      · intro h; exact UInt8.toNat_inj.1 (by omega)
      · intro h; rw [h]
    have k34 : a 1 = 34 ↔ t.getD 1 0 = 34 := key 34
    have k92 : a 1 = 92 ↔ t.getD 1 0 = 92 := key 92
    have k110 : a 1 = 110 ↔ t.getD 1 0 = 110 := key 110
    have k114 : a 1 = 114 ↔ t.getD 1 0 = 114 := key 114
    have k116 : a 1 = 116 ↔ t.getD 1 0 = 116 := key 116
    have k120 : a 1 = 120 ↔ t.getD 1 0 = 120 := key 120
    have k117 : a 1 = 117 ↔ t.getD 1 0 = 117 := key 117
    by_cases q6 : t.getD 1 0 = 120
    · have hE : escF t = escB t := by
        unfold Uq.escF
        rw [if_neg hlen, q6, if_neg (by decide), if_neg (by decide), if_neg (by decide), if_neg (by decide), if_neg (by decide), if_pos rfl]
      have hA : escA a = (if dg (a 2) < 0 ∨ dg (a 3) < 0 then ([], 0) else ([UInt8.ofNat (16 * (dg (a 2)).toNat + (dg (a 3)).toNat)], 4)) := by
        unfold escA
        have h := k120.2 q6
        rw [if_neg (by omega), if_neg (by omega), if_neg (by omega), if_neg (by omega), if_neg (by omega), if_pos h]
      have st2 : ok 2 ∨ ((a 2 = -1 ∨ 128 ≤ a 2) ∧ (t.length ≤ 2 ∨ 128 ≤ (t.getD 2 0).toNat)) := H.step 1 o1
      rcases st2 with o2 | ⟨b, b'⟩
      · obtain ⟨l2, v2, e2⟩ := H.of _ o2
        have st3 : ok 3 ∨ ((a 3 = -1 ∨ 128 ≤ a 3) ∧ (t.length ≤ 3 ∨ 128 ≤ (t.getD 3 0).toNat)) := H.step 2 o2
        rcases st3 with o3 | ⟨b, b'⟩
        · obtain ⟨l3, v3, e3⟩ := H.of _ o3
          rw [e2, e3, dg_hex, dg_hex] at hA
          have hB : escB t = if hexV (t.getD 2 0).toNat = 16 ∨ hexV (t.getD 3 0).toNat = 16 then ([], 0) else ([UInt8.ofNat (16 * hexV (t.getD 2 0).toNat + hexV (t.getD 3 0).toNat)], 4) := by
            unfold Uq.escB
            rw [if_neg (by omega)]
          by_cases c2 : hexV (t.getD 2 0).toNat = 16
          · exact hno (by rw [hA, if_pos (.inl (by rw [if_pos c2]; omega))]) (by rw [hE, hB, if_pos (.inl c2)])
          by_cases c3 : hexV (t.getD 3 0).toNat = 16
          · exact hno (by rw [hA, if_pos (.inr (by rw [if_pos c3]; omega))]) (by rw [hE, hB, if_pos (.inr c3)])
          rw [if_neg c2, if_neg c3, if_neg (by omega)] at hA
          rw [if_neg (by omega)] at hB
          rw [hA, hE, hB]
          exact ⟨rfl, fun m hm => H.down o3 m (by simp only at hm; omega)⟩
        · refine hno (by rw [hA, if_pos (.inr (by rw [dg_no b]; omega))]) ?_
          rw [hE]
          unfold Uq.escB
          by_cases hl : t.length < 4
          · rw [if_pos hl]
          · rw [if_neg hl, if_pos (.inr (hexV_big (by omega)))]
      · refine hno (by rw [hA, if_pos (.inl (by rw [dg_no b]; omega))]) ?_
        rw [hE]
        unfold Uq.escB
        by_cases hl : t.length < 4
        · rw [if_pos hl]
        · rw [if_neg hl, if_pos (.inl (hexV_big (by omega)))]
    by_cases q7 : t.getD 1 0 = 117
    · have hE : escF t = escR t := by
        unfold Uq.escF
        rw [if_neg hlen, q7, if_neg (by decide), if_neg (by decide), if_neg (by decide), if_neg (by decide), if_neg (by decide), if_neg (by decide), if_pos rfl]
      have hA : escA a = longA a := by
        unfold escA
        have h := k117.2 q7
        rw [if_neg (by omega), if_neg (by omega), if_neg (by omega), if_neg (by omega), if_neg (by omega), if_neg (by omega), if_pos h]
      rw [hE, hA]
      exact long_same H o1 q7
    · have n6 : ¬ a 1 = 120 := fun h => q6 (k120.1 h)
      have n7 : ¬ a 1 = 117 := fun h => q7 (k117.1 h)
      have hA : escA a = escF t := by
        unfold escA Uq.escF
        rw [if_neg hlen, if_neg n6, if_neg n7, if_neg q6, if_neg q7]
        simp only [k34, k92, k110, k114, k116]
      have h2 : (escA a).2 ≤ 2 := by
        unfold escA
        rw [if_neg n6, if_neg n7]
        repeat' split
        all_goals simp
      exact ⟨hA, fun m hm => H.down o1 m (by omega)⟩
  · refine hno ?_ ?_
    · unfold escA
      rw [if_neg (by omega), if_neg (by omega), if_neg (by omega), if_neg (by omega), if_neg (by omega), if_neg (by omega), if_neg (by omega)]
    · unfold Uq.escF
      rcases b' with b' | b'
      · rw [if_pos (by omega)]
      · have hn : ∀ d : UInt8, d.toNat < 128 → ¬ t.getD 1 0 = d := fun d hd e => by rw [e] at b'; omega
        by_cases hl : t.length < 2
        · rw [if_pos hl]
        rw [if_neg hl, if_neg (hn 34 (by decide)), if_neg (hn 92 (by decide)), if_neg (hn 110 (by decide)), if_neg (hn 114 (by decide)), if_neg (hn 116 (by decide)), if_neg (hn 120 (by decide)), if_neg (hn 117 (by decide))]

/-! pieces and bytes -/
theorem get_of (s : ByteArray) (p j : Nat) (h : p + j < s.size) : (s.data.toList.drop p).getD j 0 = s.get! (p + j) := by
  rw [List.getD_eq_getElem?_getD, List.getElem?_drop, Ft.get_list s (p + j) h]
  rfl
theorem drop_len (s : ByteArray) (p : Nat) : (s.data.toList.drop p).length = s.size - p := by
  rw [List.length_drop, Array.length_toList]; rfl
theorem at_bg {s : ByteArray} {k pos : Nat} (h : Bg s k pos) :
    (pos < s.size ∧ (s.get! pos).toNat < 128 ∧ atL (pieces s) k = ((s.get! pos).toNat : Int) ∧ Bg s (k + 1) (pos + 1)) ∨ ((atL (pieces s) k = -1 ∨ 128 ≤ atL (pieces s) k) ∧ (s.size ≤ pos ∨ 128 ≤ (s.get! pos).toNat)) := by
  by_cases hk : k < (pieces s).length
  · obtain ⟨hp, hpc, hw, hn⟩ := bg_step h hk
    by_cases h128 : (s.get! pos).toNat < 128
    · have ha := Cb.ascii hp _ rfl h128
      rw [ha.1] at hn
      left
      refine ⟨hp, h128, ?_, hn⟩
      rw [atL_in hk, hpc, ha.2]
      rfl
    · right
      refine ⟨?_, .inr (by omega)⟩
      rw [atL_in hk, hpc]
      rcases pc_cases s pos hp with ⟨_, e, _⟩ | ⟨r, k', e, _, he⟩
      · rw [e]; left; rfl
      · rw [e]
        right
        show (128 : Int) ≤ (r : Int)
        rcases he with he | he | he | he <;> omega
  · right
    have := bg_end h (by omega)
    exact ⟨.inl (atL_out (by omega)), .inl (by omega)⟩

/-- the escape at a backslash: of pieces as of bytes; its pieces have a byte each -/
theorem esc_at {s : ByteArray} {k pos : Nat} (h : Bg s k pos) (hp : pos < s.size) (h92 : s.get! pos = 92) :
    escA (aA (pieces s) k) = escF (s.data.toList.drop pos) ∧ ∀ m, m < (escA (aA (pieces s) k)).2 → pos + m < s.size ∧ Bg s (k + m) (pos + m) ∧ Bg s (k + m + 1) (pos + m + 1) := by
  have H : Al (s.data.toList.drop pos) (aA (pieces s) k) (fun j => ∀ m, m ≤ j → (pos + m < s.size ∧ (s.get! (pos + m)).toNat < 128 ∧ aA (pieces s) k m = ((s.get! (pos + m)).toNat : Int) ∧ Bg s (k + m) (pos + m) ∧ Bg s (k + m + 1) (pos + m + 1))) := by
    have one : ∀ m, Bg s (k + m) (pos + m) → (pos + m < s.size ∧ (s.get! (pos + m)).toNat < 128 ∧ aA (pieces s) k m = ((s.get! (pos + m)).toNat : Int) ∧ Bg s (k + m) (pos + m) ∧ Bg s (k + m + 1) (pos + m + 1)) ∨ ((aA (pieces s) k m = -1 ∨ 128 ≤ aA (pieces s) k m) ∧ (s.size ≤ pos + m ∨ 128 ≤ (s.get! (pos + m)).toNat)) := fun m hm => by
      rcases at_bg hm with ⟨a1, a2, a3, a4⟩ | h
      · exact .inl ⟨a1, a2, a3, hm, a4⟩
      · exact .inr h
    refine ⟨fun j hj => ?_, fun j hj => ?_, fun m hm => ?_, ?_, fun {j} hj m hm m' hm' => hj m' (by omega)⟩
    · obtain ⟨a1, a2, a3, _⟩ := hj j (Nat.le_refl _)
      rw [drop_len, get_of s pos j a1]
      exact ⟨by omega, a2, a3⟩
    · obtain ⟨_, _, _, _, a5⟩ := hj j (Nat.le_refl _)
      rcases one (j + 1) a5 with h | ⟨b, b'⟩
      · left
        intro m hm
        by_cases e : m = j + 1
        · rw [e]; exact h
        · exact hj m (by omega)
      · right
        refine ⟨b, ?_⟩
        rw [drop_len]
        by_cases hl : pos + (j + 1) < s.size
        · right
          rw [get_of s pos (j + 1) hl]
          omega
        · left; omega
    · obtain rfl : m = 0 := by omega
      rcases one 0 h with h' | ⟨_, b'⟩
      · exact h'
      · rw [Nat.add_zero, h92] at b'
        rcases b' with b' | b'
        · omega
        · exact absurd b' (by decide)
    · rw [get_of s pos 0 hp]; exact h92
  obtain ⟨h1, h2⟩ := esc_same H
  exact ⟨h1, fun m hm => by obtain ⟨a1, _, _, a4, a5⟩ := h2 m hm m (Nat.le_refl _); exact ⟨a1, a4, a5⟩⟩
end Go.Proofs.YtckjededijgjgaaDoor.Ur
namespace Go.Proofs.YtckjededijgjgaaDoor.Ur
open Go.RowKit
open Go.Proofs.YtckjededijgjgaaDoor.Pc (P4 pieces pcF)
open Go.Proofs.YtckjededijgjgaaDoor.Uq (escF escAt rqG)
open Go.Proofs.YtckjededijgjgaaDoor.Wd (Bg bg_step bg_end)
open Go.Proofs.YtckjededijgjgaaDoor.Enc (plainF)
set_option linter.unusedVariables false

theorem ext_drop (s : ByteArray) (p : Nat) : (s.extract p s.size).data.toList = s.data.toList.drop p := by
  rw [Lib.extract_data, List.take_of_length_le (by rw [drop_len]; omega)]
theorem bg_in {s : ByteArray} {k pos : Nat} (h : Bg s k pos) (hp : pos < s.size) : k < (pieces s).length := by
  rcases Nat.lt_or_ge k (pieces s).length with h' | h'
  · exact h'
  · have := bg_end h h'; omega
theorem rq_end {s : ByteArray} {k : Nat} (hk : (pieces s).length ≤ k) (nx : Int) (acc : List UInt8) : rqG s ((pieces s).drop k) nx acc = ([], (s.size : Int), 11) := by
  rw [List.drop_of_length_le hk, Uq.rqG]
theorem rq_skip {s : ByteArray} {k pos n : Nat} (H : ∀ m, m < n → pos + m < s.size ∧ Bg s (k + m) (pos + m)) (acc : List UInt8) : ∀ d m, m + d = n → rqG s ((pieces s).drop (k + m)) ((pos : Int) + (n : Int)) acc = rqG s ((pieces s).drop (k + n)) ((pos : Int) + (n : Int)) acc := by
  intro d
  induction d with
  | zero => intro m hm; rw [show m = n by omega]
  | succ d ih =>
    intro m hm
    obtain ⟨h1, h2⟩ := H m (by omega)
    have hk := bg_in h2 h1
    obtain ⟨_, hpc, _, _⟩ := bg_step h2 hk
    have h3 := ih (m + 1) (by omega)
    rw [← Nat.add_assoc] at h3
    rw [List.drop_eq_getElem_cons hk, Uq.rqG, hpc, if_pos (by rw [(Wd.pcF_end s (pos + m)).1]; omega)]
    exact h3

theorem long_q (P Q v : Prop) [Decidable P] [Decidable Q] [Decidable v] (E : List UInt8) (c : Nat) (hE : E.length ≤ 4) : (if P then (([], 0) : List UInt8 × Nat) else if Q then ([], 0) else if v then (E, 3 + c + 1) else ([], 0)).1.length ≤ 4 * (if P then (([], 0) : List UInt8 × Nat) else if Q then ([], 0) else if v then (E, 3 + c + 1) else ([], 0)).2 := by
  by_cases c1 : P
  · rw [if_pos c1]; simp
  rw [if_neg c1]
  by_cases c2 : Q
  · rw [if_pos c2]; simp
  rw [if_neg c2]
  by_cases c3 : v
  · rw [if_pos c3]; show E.length ≤ 4 * (3 + c + 1); omega
  rw [if_neg c3]
  simp
theorem longA_le (a : Nat → Int) : (longA a).1.length ≤ 4 * (longA a).2 := by
  unfold longA
  exact long_q _ _ _ _ _ (Uq.enc_le _)
theorem escA_le (a : Nat → Int) : (escA a).1.length ≤ 4 * (escA a).2 := by
  have := longA_le a
  unfold escA
  by_cases c1 : a 1 = 34
  · rw [if_pos c1]; simp
  rw [if_neg c1]
  by_cases c2 : a 1 = 92
  · rw [if_pos c2]; simp
  rw [if_neg c2]
  by_cases c3 : a 1 = 110
  · rw [if_pos c3]; simp
  rw [if_neg c3]
  by_cases c4 : a 1 = 114
  · rw [if_pos c4]; simp
  rw [if_neg c4]
  by_cases c5 : a 1 = 116
  · rw [if_pos c5]; simp
  rw [if_neg c5]
  by_cases c6 : a 1 = 120
  · rw [if_pos c6]; split <;> simp
  rw [if_neg c6]
  by_cases c7 : a 1 = 117
  · rw [if_pos c7]; exact this
  · rw [if_neg c7]; simp
/-- what is read at a piece -/
theorem rq_at {s : ByteArray} {k pos : Nat} (h : Bg s k pos) (hk : k < (pieces s).length) : ∃ (r : Int) (z : Nat) (br : Bool), (pieces s)[k] = (r, (pos : Int), (z : Int), br) ∧ z ≤ 4 ∧ pos + z ≤ s.size ∧ Bg s (k + 1) (pos + z) ∧ pos < s.size ∧
    (br = false → r = 34 → Bg s (k + 1) (pos + 1)) ∧
    (br = false → r = 92 → Bg s (k + (escA (aA (pieces s) k)).2) (pos + (escA (aA (pieces s) k)).2) ∧ (escA (aA (pieces s) k)).2 ≤ 10) ∧ (escA (aA (pieces s) k)).1.length ≤ 4 * (escA (aA (pieces s) k)).2 ∧
    ∀ (nx : Int) (acc : List UInt8), nx ≤ (pos : Int) → rqG s ((pieces s).drop k) nx acc = if br = true then ([], (pos : Int), 13) else if r = 34 then (acc, (pos : Int) + 1, 0)
      else if r = 92 then (if (escA (aA (pieces s) k)).2 = 0 then ([], (pos : Int), 12) else rqG s ((pieces s).drop (k + (escA (aA (pieces s) k)).2)) ((pos : Int) + ((escA (aA (pieces s) k)).2 : Int)) (acc ++ (escA (aA (pieces s) k)).1))
      else if plainF r = true then rqG s ((pieces s).drop (k + 1)) nx (acc ++ (s.extract pos (pos + z)).data.toList) else ([], (pos : Int), 12) := by
  obtain ⟨hp, hpc, hw, hn⟩ := bg_step h hk
  have hw4 := Pc.width_le s pos hp
  have hend := Wd.pcF_end s pos
  have hat := at_bg h
  rw [atL_in hk, hpc] at hat
  have h92 : (pcF s pos).2.2.2 = false → (pcF s pos).1 = 92 → s.get! pos = 92 := fun hb hr => by
    rw [hb, hr] at hat
    rcases hat with ⟨_, _, e, _⟩ | ⟨e, _⟩
    · have e' : (92 : Int) = ((s.get! pos).toNat : Int) := e
      exact UInt8.toNat_inj.1 (by simpa using (by omega : (s.get! pos).toNat = 92))
    · have e' : (92 : Int) = -1 ∨ (128 : Int) ≤ 92 := e
      omega
  have h34 : (pcF s pos).2.2.2 = false → (pcF s pos).1 = 34 → Bg s (k + 1) (pos + 1) := fun hb hr => by
    rw [hb, hr] at hat
    rcases hat with ⟨_, _, _, e⟩ | ⟨e, _⟩
    · exact e
    · have e' : (34 : Int) = -1 ∨ (128 : Int) ≤ 34 := e
      omega
  have hes : s.get! pos = 92 → escA (aA (pieces s) k) = escAt s (pos : Int) ∧ ∀ m, m < (escA (aA (pieces s) k)).2 → pos + m < s.size ∧ Bg s (k + m) (pos + m) ∧ Bg s (k + m + 1) (pos + m + 1) := fun e => by
    have := esc_at h hp e
    rw [this.1]
    unfold Uq.escAt
    rw [show ((pos : Int)).toNat = pos from rfl, ext_drop]
    rw [← this.1]
    exact ⟨rfl, this.2⟩
  refine ⟨(pcF s pos).1, (Utf8.decode s pos).2, (pcF s pos).2.2.2, ?_, hw4.2.1, hw, hn, hp, h34, fun hb hr => ?_, ?_, fun nx acc hnx => ?_⟩
  · rw [hpc]
    obtain ⟨e1, e2⟩ := hend
    rw [← e1, ← e2]
  · refine ⟨?_, by rw [(hes (h92 hb hr)).1]; exact (Uq.escF_le _).2⟩
    rcases Nat.eq_zero_or_pos (escA (aA (pieces s) k)).2 with h0 | h0
    · rw [h0]; exact h
    · obtain ⟨_, _, h3⟩ := (hes (h92 hb hr)).2 ((escA (aA (pieces s) k)).2 - 1) (by omega)
      rw [show k + ((escA (aA (pieces s) k)).2 - 1) + 1 = k + (escA (aA (pieces s) k)).2 by omega, show pos + ((escA (aA (pieces s) k)).2 - 1) + 1 = pos + (escA (aA (pieces s) k)).2 by omega] at h3
      exact h3
  · exact escA_le _
  · rw [List.drop_eq_getElem_cons hk, Uq.rqG, hpc, hend.1, if_neg (by omega)]
    by_cases c1 : (pcF s pos).2.2.2 = true
    · rw [if_pos c1, if_pos c1]
    rw [if_neg c1, if_neg c1]
    by_cases c2 : (pcF s pos).1 = 34
    · rw [if_pos c2, if_pos c2]
    rw [if_neg c2, if_neg c2]
    by_cases c3 : (pcF s pos).1 = 92
    · rw [if_pos c3, if_pos c3]
      have hE := hes (h92 (by simpa using c1) c3)
      rw [← hE.1]
      by_cases c4 : (escA (aA (pieces s) k)).2 = 0
      · rw [if_pos c4, if_pos c4]
      · rw [if_neg c4, if_neg c4]
        exact rq_skip (fun m hm => ⟨(hE.2 m hm).1, (hE.2 m hm).2.1⟩) _ ((escA (aA (pieces s) k)).2 - 1) 1 (by omega)
    rw [if_neg c3, if_neg c3]
    have ho : Qt.ownB s (pcF s pos) = s.extract pos (pos + (Utf8.decode s pos).2) := by
      unfold Qt.ownB
      rw [hend.1, hend.2]
      congr 1
    rw [ho]
end Go.Proofs.YtckjededijgjgaaDoor.Ur
