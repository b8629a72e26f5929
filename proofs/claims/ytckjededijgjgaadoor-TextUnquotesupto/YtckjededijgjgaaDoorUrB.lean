import Derived.Test.YtckjededijgjgaaDoorUrA
import Derived.Test.YtckjededijgjgaaDoorEncD
namespace Go.Proofs.YtckjededijgjgaaDoor.Ur
open Go.RowKit
open Go.Proofs.YtckjededijgjgaaDoor.Pc (P4 pieces)
set_option linter.unusedVariables false

/-- the digits of a rune's escape, from the fourth place on, at most f: the number, how many -/
def runA (a : Nat → Int) : Nat → Nat → Nat → Nat × Nat
  | 0, n, k => (n, k)
  | f + 1, n, k => if dg (a (3 + k)) < 0 then (n, k) else runA a f (16 * n + (dg (a (3 + k))).toNat) (k + 1)
/-- the escape of a rune by its number, of runes -/
def longA (a : Nat → Int) : List UInt8 × Nat :=
  if a 2 ≠ 123 then ([], 0) else
    if (runA a 6 0 0).2 = 0 ∨ a (3 + (runA a 6 0 0).2) ≠ 125 then ([], 0)
    else if Utf8.valid ((runA a 6 0 0).1 : Int) = true then ((Utf8.encode ((runA a 6 0 0).1 : Int)).data.toList, 3 + (runA a 6 0 0).2 + 1) else ([], 0)
theorem longA_of {a : Nat → Int} {n k : Nat} (h : a 2 = 123) (hr : runA a 6 0 0 = (n, k)) :
    longA a = if k = 0 ∨ a (3 + k) ≠ 125 then ([], 0) else if Utf8.valid (n : Int) = true then ((Utf8.encode (n : Int)).data.toList, 3 + k + 1) else ([], 0) := by
  unfold longA
  rw [if_neg (by simp [h]), hr]
/-- k digits have been read, the number is n -/
def RunA (a : Nat → Int) (n k : Nat) : Prop := runA a 6 0 0 = runA a (6 - k) n k
theorem RunA.start (a : Nat → Int) : RunA a 0 0 := rfl
theorem RunA.six {a : Nat → Int} {n k : Nat} (h : RunA a n k) (hk : 6 ≤ k) : runA a 6 0 0 = (n, k) := by
  rw [h, show 6 - k = 0 by omega]
  rfl
theorem RunA.stop {a : Nat → Int} {n k : Nat} (h : RunA a n k) (hc : dg (a (3 + k)) < 0) : runA a 6 0 0 = (n, k) := by
  rw [h]
  cases 6 - k with
  | zero => rfl
  | succ f => rw [runA, if_pos hc]
theorem RunA.step {a : Nat → Int} {n k : Nat} (h : RunA a n k) (hk : k < 6) (hc : ¬ dg (a (3 + k)) < 0) : RunA a (16 * n + (dg (a (3 + k))).toNat) (k + 1) := by
  unfold RunA
  rw [h, show 6 - k = (6 - (k + 1)) + 1 by omega, runA, if_neg hc]
theorem ba (b : ByteArray) : (⟨b.data.toList.toArray⟩ : ByteArray) = b := by cases b; simp
theorem pow_lt {n d k : Nat} (hn : n < 16 ^ k) (hd : d < 16) : 16 * n + d < 16 ^ (k + 1) := by
  rw [Nat.pow_succ]; omega
/-- the runes from the piece number i on -/
def aA (l : List P4) (i : Nat) : Nat → Int := fun j => atL l (i + j)

set_option maxRecDepth 100000 in
set_option maxHeartbeats 1600000 in
theorem long_any {w : World} {ad : Option Addr} {l : List P4} (cap : Nat) (hL : Lp w ad l) (hl : l.length ≤ 11000000) (i : Nat) (hi : (i : Int) ≤ 11000000) :
    Calls Tryd.prog 127 #[.slice ad l.length cap, .int .i64 (i : Int)] w fun e w' => e = .returned (.tuple #[.string ⟨(longA (aA l i)).1.toArray⟩, .int .i64 ((longA (aA l i)).2 : Int)]) ∧ Below w.heap.size w w' := by
  have AT : ∀ (j : Nat) (z : Int), z = (i : Int) + (j : Int) → Calls Tryd.prog 77 #[.slice ad l.length cap, .int .i64 z] w fun e w' => e = .returned (.int .i64 (aA l i j)) ∧ w' = w := fun j z hz => by
    rw [hz, show (i : Int) + (j : Int) = ((i + j : Nat) : Int) by omega]; exact at_any cap hL hl (i + j)
  generalize aA l i = a at *
  clear hL
  generalize l.length = M at *
  by_cases h2 : a 2 = 123
  · have b2 : (a 2 != 123) = false := by rw [h2]; rfl
    have HP := hide h2
    have A2 := AT 2 ((i : Int) + 2) rfl
    go_enter Tryd.func127, Tryd.ntmps127
    go_wp2_with fail
    refine A2.mono ?_; rintro e w1 ⟨rfl, hw⟩; obtain rfl := hw.symm
    clear h2 A2
    generalize a 2 = a2 at b2
    go_wp2_with fail
    go_loop [7, 8] (fun nv kv => ∃ (N K : Int) (c : Nat), nv = .int .i64 N ∧ kv = .int .i64 K ∧ Hid (K = (i : Int) + 3 + (c : Int)) ∧ c ≤ 6 ∧ 0 ≤ N ∧ N < 16777216 ∧ Hid (RunA a N.toNat c ∧ N.toNat < 16 ^ c)) (fun _ kv => i + 9 - (intOf kv).toNat)
    case atStart => exact ⟨0, (i : Int) + 3, 0, rfl, rfl, by show _ = _; omega, by omega, by omega, by omega, RunA.start _, by decide⟩
    case round =>
      obtain ⟨N, K, c, rfl, rfl, HKc, hc6, hN0, hN1, hR⟩ := hrel
      have hK := HKc.out
      have AK := AT (3 + c) K (by omega)
      have hK0 : 0 ≤ K := by omega
      have hK1 : K ≤ 11000020 := by omega
      by_cases hend : 6 ≤ c
      · have HR : Hid (runA a 6 0 0 = (N.toNat, c)) := hR.out.1.six (by omega)
        have hx : ¬ K < (i : Int) + 9 := by omega
        clear hR hend
        by_cases o1 : c = 0
        · have HE : Hid (longA a = ([], 0)) := by show _ = _; rw [longA_of HP.out HR.out, if_pos (.inl o1)]
          have b1 : (K == (i : Int) + 3) = true := by rw [beq_iff_eq]; omega
          clear o1 HR hK
          go_wp2_with fail
          refine AK.mono ?_; rintro e w2 ⟨rfl, hw⟩; obtain rfl := hw.symm
          clear AK AT HP
          generalize a (3 + c) = ac at *
          go_wp2
          go_ret2
          rw [HE.out]
          exact ⟨rfl, Below.refl _ _⟩
        have b1 : (K == (i : Int) + 3) = false := by rw [beq_eq_false_iff_ne]; omega
        by_cases o3 : a (3 + c) = 125
        · have b3 : (a (3 + c) != 125) = false := by rw [o3]; rfl
          have HQ : Hid (longA a = if Utf8.valid (N.toNat : Int) = true then ((Utf8.encode (N.toNat : Int)).data.toList, 3 + c + 1) else ([], 0)) := by
            show _ = _
            rw [longA_of HP.out HR.out, if_neg (by simp [o1, o3])]
          have hNt : (N.toNat : Int) = N := by omega
          rw [hNt] at HQ
          have HK : Hid (K + 1 - (i : Int) = ((3 + c + 1 : Nat) : Int)) := by show _ = _; omega
          cases hv : Utf8.valid N
          · have EN := Enc.refEncode_not N w hv
            have HE : Hid (longA a = ([], 0)) := by show _ = _; rw [HQ.out, hv]; rfl
            clear o1 o3 HR HQ hNt hv hK
            go_wp2_with fail
            refine AK.mono ?_; rintro e w2 ⟨rfl, hw⟩; obtain rfl := hw.symm
            clear AK AT HP
            generalize a (3 + c) = ac at *
            go_wp2_with fail
            refine EN.mono ?_; rintro e w2 ⟨rfl, hw⟩; obtain rfl := hw.symm
            go_wp2
            go_ret2
            rw [HE.out]
            exact ⟨rfl, Below.refl _ _⟩
          · have EN := Enc.refEncode_yes N w hv
            have HE : Hid (longA a = ((Utf8.encode N).data.toList, 3 + c + 1)) := by show _ = _; rw [HQ.out, hv]; rfl
            generalize Utf8.encode N = ENC at *
            clear o1 o3 HR HQ hNt hv hK
            go_wp2_with fail
            refine AK.mono ?_; rintro e w2 ⟨rfl, hw⟩; obtain rfl := hw.symm
            clear AK AT HP
            generalize a (3 + c) = ac at *
            go_wp2_with fail
            refine EN.mono ?_; rintro e w2 ⟨rfl, hb⟩
            go_wp2
            go_ret2
            rw [HE.out, HK.out]
            first
              | exact ⟨rfl, hb⟩
              | (refine ⟨?_, hb⟩; simp only [ba])
        · have b3 : (a (3 + c) != 125) = true := by rw [bne_iff_ne]; exact o3
          have HE : Hid (longA a = ([], 0)) := by show _ = _; rw [longA_of HP.out HR.out, if_pos (.inr o3)]
          clear o1 o3 HR hK
          go_wp2_with fail
          refine AK.mono ?_; rintro e w2 ⟨rfl, hw⟩; obtain rfl := hw.symm
          clear AK AT HP
          generalize a (3 + c) = ac at *
          go_wp2
          go_ret2
          rw [HE.out]
          exact ⟨rfl, Below.refl _ _⟩
      · have hx : K < (i : Int) + 9 := by omega
        have D := digit_any (a (3 + c)) w
        rcases dg_le (a (3 + c)) with hd | hd
        · have HR : Hid (runA a 6 0 0 = (N.toNat, c)) := hR.out.1.stop (by omega)
          rw [hd] at D
          clear hR hend hd
          by_cases o1 : c = 0
          · have HE : Hid (longA a = ([], 0)) := by show _ = _; rw [longA_of HP.out HR.out, if_pos (.inl o1)]
            have b1 : (K == (i : Int) + 3) = true := by rw [beq_iff_eq]; omega
            clear o1 HR hK
            go_wp2_with fail
            refine AK.mono ?_; rintro e w2 ⟨rfl, hw⟩; obtain rfl := hw.symm
            go_wp2_with fail
            refine D.mono ?_; rintro e w2 ⟨rfl, hw⟩; obtain rfl := hw.symm
            go_wp2_with fail
            refine AK.mono ?_; rintro e w2 ⟨rfl, hw⟩; obtain rfl := hw.symm
            clear AK AT HP
            generalize a (3 + c) = ac at *
            go_wp2
            go_ret2
            rw [HE.out]
            exact ⟨rfl, Below.refl _ _⟩
          have b1 : (K == (i : Int) + 3) = false := by rw [beq_eq_false_iff_ne]; omega
          by_cases o3 : a (3 + c) = 125
          · have b3 : (a (3 + c) != 125) = false := by rw [o3]; rfl
            have HQ : Hid (longA a = if Utf8.valid (N.toNat : Int) = true then ((Utf8.encode (N.toNat : Int)).data.toList, 3 + c + 1) else ([], 0)) := by
              show _ = _
              rw [longA_of HP.out HR.out, if_neg (by simp [o1, o3])]
            have hNt : (N.toNat : Int) = N := by omega
            rw [hNt] at HQ
            have HK : Hid (K + 1 - (i : Int) = ((3 + c + 1 : Nat) : Int)) := by show _ = _; omega
            cases hv : Utf8.valid N
            · have EN := Enc.refEncode_not N w hv
              have HE : Hid (longA a = ([], 0)) := by show _ = _; rw [HQ.out, hv]; rfl
              clear o1 o3 HR HQ hNt hv hK
              go_wp2_with fail
              refine AK.mono ?_; rintro e w2 ⟨rfl, hw⟩; obtain rfl := hw.symm
              go_wp2_with fail
              refine D.mono ?_; rintro e w2 ⟨rfl, hw⟩; obtain rfl := hw.symm
              go_wp2_with fail
              refine AK.mono ?_; rintro e w2 ⟨rfl, hw⟩; obtain rfl := hw.symm
              clear AK AT HP
              generalize a (3 + c) = ac at *
              go_wp2_with fail
              refine EN.mono ?_; rintro e w2 ⟨rfl, hw⟩; obtain rfl := hw.symm
              go_wp2
              go_ret2
              rw [HE.out]
              exact ⟨rfl, Below.refl _ _⟩
            · have EN := Enc.refEncode_yes N w hv
              have HE : Hid (longA a = ((Utf8.encode N).data.toList, 3 + c + 1)) := by show _ = _; rw [HQ.out, hv]; rfl
              generalize Utf8.encode N = ENC at *
              clear o1 o3 HR HQ hNt hv hK
              go_wp2_with fail
              refine AK.mono ?_; rintro e w2 ⟨rfl, hw⟩; obtain rfl := hw.symm
              go_wp2_with fail
              refine D.mono ?_; rintro e w2 ⟨rfl, hw⟩; obtain rfl := hw.symm
              go_wp2_with fail
              refine AK.mono ?_; rintro e w2 ⟨rfl, hw⟩; obtain rfl := hw.symm
              clear AK AT HP
              generalize a (3 + c) = ac at *
              go_wp2_with fail
              refine EN.mono ?_; rintro e w2 ⟨rfl, hb⟩
              go_wp2
              go_ret2
              rw [HE.out, HK.out]
              first
                | exact ⟨rfl, hb⟩
                | (refine ⟨?_, hb⟩; simp only [ba])
          · have b3 : (a (3 + c) != 125) = true := by rw [bne_iff_ne]; exact o3
            have HE : Hid (longA a = ([], 0)) := by show _ = _; rw [longA_of HP.out HR.out, if_pos (.inr o3)]
            clear o1 o3 HR hK
            go_wp2_with fail
            refine AK.mono ?_; rintro e w2 ⟨rfl, hw⟩; obtain rfl := hw.symm
            go_wp2_with fail
            refine D.mono ?_; rintro e w2 ⟨rfl, hw⟩; obtain rfl := hw.symm
            go_wp2_with fail
            refine AK.mono ?_; rintro e w2 ⟨rfl, hw⟩; obtain rfl := hw.symm
            clear AK AT HP
            generalize a (3 + c) = ac at *
            go_wp2
            go_ret2
            rw [HE.out]
            exact ⟨rfl, Below.refl _ _⟩
        · have HS := hide (hR.out.1.step (by omega) (by omega))
          obtain ⟨hd0, hd1⟩ := hd
          have hPW := hide (pow_lt hR.out.2 (show (dg (a (3 + c))).toNat < 16 by omega))
          have hn20 : N.toNat < 1048576 := Nat.lt_of_lt_of_le hR.out.2 (Nat.le_trans (Nat.pow_le_pow_right (by omega) (show c ≤ 5 by omega)) (by decide))
          have HS2 : Hid (RunA a (16 * N + dg (a (3 + c))).toNat (c + 1) ∧ (16 * N + dg (a (3 + c))).toNat < 16 ^ (c + 1)) := by
            rw [show (16 * N + dg (a (3 + c))).toNat = 16 * N.toNat + (dg (a (3 + c))).toNat by omega]
            exact ⟨HS.out, hPW.out⟩
          generalize dg (a (3 + c)) = d at *
          have hN2 : N < 1048576 := by omega
          have HK2 : Hid (K + 1 = (i : Int) + 3 + ((c + 1 : Nat) : Int)) := by show _ = _; omega
          have HMS : Hid (i + 9 - (K + 1).toNat < i + 9 - K.toNat) := by show _ < _; omega
          have HC5 : Hid (c + 1 ≤ 6) := by show _ ≤ _; omega
          clear hR hend HS hPW hn20 hK
          go_wp2_with fail
          refine AK.mono ?_; rintro e w2 ⟨rfl, hw⟩; obtain rfl := hw.symm
          go_wp2_with fail
          refine D.mono ?_; rintro e w2 ⟨rfl, hw⟩; obtain rfl := hw.symm
          go_wp2
          exact ⟨⟨16 * N + d, K + 1, c + 1, rfl, by go_num, HK2, HC5.out, by omega, by omega, HS2.out⟩, by have := HMS.out; simp only [intOf]; exact this⟩
  · have b2 : (a 2 != 123) = true := by rw [bne_iff_ne]; exact h2
    have e : longA a = ([], 0) := by unfold longA; rw [if_pos h2]
    rw [e]
    have A2 := AT 2 ((i : Int) + 2) rfl
    clear e h2
    go_enter Tryd.func127, Tryd.ntmps127
    go_wp2_with fail
    refine A2.mono ?_; rintro e w1 ⟨rfl, hw⟩; obtain rfl := hw.symm
    clear A2 AT
    generalize a 2 = a2 at *
    go_wp2
    go_ret2
    exact ⟨rfl, Below.refl _ _⟩
end Go.Proofs.YtckjededijgjgaaDoor.Ur
