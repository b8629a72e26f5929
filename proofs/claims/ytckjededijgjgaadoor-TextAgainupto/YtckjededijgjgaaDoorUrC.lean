import Derived.Test.YtckjededijgjgaaDoorRnD
import Derived.Test.YtckjededijgjgaaDoorNumC
import Derived.Test.YtckjededijgjgaaDoorEncD
namespace Go.Proofs.YtckjededijgjgaaDoor.Ur
open Go.RowKit
open Go.Proofs.YtckjededijgjgaaDoor.Pc (P4 pieces)
open Go.Proofs.YtckjededijgjgaaDoor.Rn (row_at)
set_option linter.unusedVariables false

theorem hide {p : Prop} (h : p) : Hid p := h
/-- a list of pieces in memory -/
def Lp (w : World) (ad : Option Addr) (l : List P4) : Prop := ∀ k (hk : k < l.length), ∃ g, ad = some ⟨g, 0, none⟩ ∧ g < w.heap.size ∧ w.cell? ⟨g, k * 4, none⟩ = some (.int .i64 l[k].1) ∧ w.cell? ⟨g, k * 4 + 1, none⟩ = some (.int .i64 l[k].2.1) ∧ w.cell? ⟨g, k * 4 + 2, none⟩ = some (.int .i64 l[k].2.2.1) ∧ w.cell? ⟨g, k * 4 + 3, none⟩ = some (.bool l[k].2.2.2)
theorem Lp.below {w w' : World} {ad : Option Addr} {l : List P4} (h : Lp w ad l) (hb : Below w.heap.size w w') : Lp w' ad l := by
  intro k hk
  obtain ⟨g, h0, h1, c0, c1, c2, c3⟩ := h k hk
  exact ⟨g, h0, Nat.lt_of_lt_of_le h1 hb.size, (hb.cell (p := ⟨g, k * 4, none⟩) h1).trans c0, (hb.cell (p := ⟨g, k * 4 + 1, none⟩) h1).trans c1, (hb.cell (p := ⟨g, k * 4 + 2, none⟩) h1).trans c2, (hb.cell (p := ⟨g, k * 4 + 3, none⟩) h1).trans c3⟩
theorem lp_of {w : World} {base : Nat} {v : Value} {l : List P4} (h : w.ownsRow base 97 4 v l.length (Rp.cellsR l)) : ∃ ad cap, v = .slice ad l.length cap ∧ Lp w ad l := by
  rcases Nat.eq_zero_or_pos l.length with h0 | h0
  · rcases h.2 with ⟨rfl, _⟩ | ⟨g, cap, cur, rfl, _⟩
    · exact ⟨_, _, by rw [h0], fun k hk => by omega⟩
    · exact ⟨_, _, rfl, fun k hk => by omega⟩
  · obtain ⟨g, cap, hv, hg, _⟩ := row_at h (k := 0) h0
    refine ⟨_, cap, hv, fun k hk => ?_⟩
    obtain ⟨g', cap', hv', hg', c⟩ := row_at h hk
    rw [hv] at hv'
    cases hv'
    exact ⟨g, rfl, hg, c⟩

/-- the rune of the piece number i, -1: there is none, or it is broken -/
def atL (l : List P4) (i : Nat) : Int := match l[i]? with
  | none => -1
  | some x => if x.2.2.2 = true then -1 else x.1
theorem atL_out {l : List P4} {i : Nat} (h : l.length ≤ i) : atL l i = -1 := by
  unfold atL; rw [List.getElem?_eq_none h]
theorem atL_in {l : List P4} {i : Nat} (h : i < l.length) : atL l i = if l[i].2.2.2 = true then -1 else l[i].1 := by
  unfold atL; rw [List.getElem?_eq_getElem h]

set_option maxRecDepth 100000 in
set_option maxHeartbeats 1000000 in
theorem at_any {w : World} {ad : Option Addr} {l : List P4} (cap : Nat) (hL : Lp w ad l) (hl : l.length ≤ 11000000) (i : Nat) :
    Calls Tryd.prog 77 #[.slice ad l.length cap, .int .i64 (i : Int)] w fun e w' => e = .returned (.int .i64 (atL l i)) ∧ w' = w := by
  by_cases hk : i < l.length
  · obtain ⟨g, rfl, hg, c0, c1, c2, c3⟩ := hL i hk
    rw [atL_in hk]
    have hkI : (i : Int) < (l.length : Int) := by omega
    generalize l[i] = x at *
    clear hL
    generalize l.length = N at *
    obtain ⟨r, p, z, b⟩ := x
    simp only at c0 c1 c2 c3 ⊢
    cases b
    · rw [if_neg (by simp)]
      go_enter Tryd.func77, Tryd.ntmps77
      go_wp2
      go_ret
      exact ⟨rfl, rfl⟩
    · rw [if_pos rfl]
      go_enter Tryd.func77, Tryd.ntmps77
      go_wp2
      go_ret
      exact ⟨rfl, rfl⟩
  · rw [atL_out (by omega)]
    have hkI : (l.length : Int) ≤ (i : Int) := by omega
    clear hL
    generalize l.length = N at *
    go_enter Tryd.func77, Tryd.ntmps77
    go_wp2
    go_ret
    exact ⟨rfl, rfl⟩

/-- a hexadecimal digit's number, -1: it is none -/
def dg (r : Int) : Int := if 48 ≤ r ∧ r ≤ 57 then r - 48 else if 97 ≤ r ∧ r ≤ 102 then r - 97 + 10 else if 65 ≤ r ∧ r ≤ 70 then r - 65 + 10 else -1
theorem dg_le (r : Int) : dg r = -1 ∨ (0 ≤ dg r ∧ dg r < 16) := by
  unfold dg
  split
  · right; omega
  · split
    · right; omega
    · split
      · right; omega
      · left; rfl

set_option maxHeartbeats 1000000 in
theorem digit_any (r : Int) (w : World) :
    Calls Tryd.prog 126 #[.int .i64 r] w fun e w' => e = .returned (.int .i64 (dg r)) ∧ w' = w := by
  unfold dg
  by_cases h1 : 48 ≤ r ∧ r ≤ 57
  · rw [if_pos h1]
    obtain ⟨a, b⟩ := h1
    go_enter Tryd.func126, Tryd.ntmps126
    go_wp2
    go_ret
    exact ⟨rfl, rfl⟩
  · by_cases h2 : 97 ≤ r ∧ r ≤ 102
    · rw [if_neg h1, if_pos h2]
      have a : ¬ r ≤ 57 := by omega
      have a2 : (48 : Int) ≤ r := by omega
      obtain ⟨a3, b⟩ := h2
      clear h1
      go_enter Tryd.func126, Tryd.ntmps126
      go_wp2
      go_ret
      exact ⟨rfl, rfl⟩
    · by_cases h3 : 65 ≤ r ∧ r ≤ 70
      · rw [if_neg h1, if_neg h2, if_pos h3]
        have a : ¬ r ≤ 57 := by omega
        have a2 : (48 : Int) ≤ r := by omega
        have a3 : ¬ (97 : Int) ≤ r := by omega
        obtain ⟨a4, b⟩ := h3
        clear h1 h2
        go_enter Tryd.func126, Tryd.ntmps126
        go_wp2
        go_ret
        exact ⟨rfl, rfl⟩
      · rw [if_neg h1, if_neg h2, if_neg h3]
        have hh : r < 48 ∨ (57 < r ∧ r < 65) ∨ (70 < r ∧ r < 97) ∨ 102 < r := by omega
        clear h1 h2 h3
        rcases hh with h | h | h | h
        all_goals
          go_enter Tryd.func126, Tryd.ntmps126
          go_wp2
          go_ret
          exact ⟨rfl, rfl⟩
end Go.Proofs.YtckjededijgjgaaDoor.Ur
namespace Go.Proofs.YtckjededijgjgaaDoor.Ur
open Go.RowKit
open Go.Proofs.YtckjededijgjgaaDoor.Pc (P4 pieces)
set_option linter.unusedVariables false

/-- the digits of a rune's escape, from the fourth place on, at most f: the number, how many -/
def runA (a : Nat → Int) : Nat → Nat → Nat → Nat × Nat
  | 0, n, k => (n, k)
  | f + 1, n, k => if dg (a (3 + k)) < 0 then (n, k) else runA a f (16 * n + (dg (a (3 + k))).toNat) (k + 1)
/-- the escape of a rune by its number, of runes -/
def longA (a : Nat → Int) : List UInt8 × Nat :=
  if a 2 ≠ 123 then ([], 0) else
    if (runA a 6 0 0).2 = 0 ∨ a (3 + (runA a 6 0 0).2) ≠ 125 then ([], 0)
    else if Utf8.valid ((runA a 6 0 0).1 : Int) = true then ((Utf8.encode ((runA a 6 0 0).1 : Int)).data.toList, 3 + (runA a 6 0 0).2 + 1) else ([], 0)
theorem longA_of {a : Nat → Int} {n k : Nat} (h : a 2 = 123) (hr : runA a 6 0 0 = (n, k)) :
    longA a = if k = 0 ∨ a (3 + k) ≠ 125 then ([], 0) else if Utf8.valid (n : Int) = true then ((Utf8.encode (n : Int)).data.toList, 3 + k + 1) else ([], 0) := by
  unfold longA
  rw [if_neg (by simp [h]), hr]
/-- k digits have been read, the number is n -/
def RunA (a : Nat → Int) (n k : Nat) : Prop := runA a 6 0 0 = runA a (6 - k) n k
theorem RunA.start (a : Nat → Int) : RunA a 0 0 := rfl
theorem RunA.six {a : Nat → Int} {n k : Nat} (h : RunA a n k) (hk : 6 ≤ k) : runA a 6 0 0 = (n, k) := by
  rw [h, show 6 - k = 0 by omega]
  rfl
theorem RunA.stop {a : Nat → Int} {n k : Nat} (h : RunA a n k) (hc : dg (a (3 + k)) < 0) : runA a 6 0 0 = (n, k) := by
  rw [h]
  cases 6 - k with
  | zero => rfl
  | succ f => rw [runA, if_pos hc]
theorem RunA.step {a : Nat → Int} {n k : Nat} (h : RunA a n k) (hk : k < 6) (hc : ¬ dg (a (3 + k)) < 0) : RunA a (16 * n + (dg (a (3 + k))).toNat) (k + 1) := by
  unfold RunA
  rw [h, show 6 - k = (6 - (k + 1)) + 1 by omega, runA, if_neg hc]
theorem ba (b : ByteArray) : (⟨b.data.toList.toArray⟩ : ByteArray) = b := by cases b; simp
theorem pow_lt {n d k : Nat} (hn : n < 16 ^ k) (hd : d < 16) : 16 * n + d < 16 ^ (k + 1) := by
  rw [Nat.pow_succ]; omega
/-- the runes from the piece number i on -/
def aA (l : List P4) (i : Nat) : Nat → Int := fun j => atL l (i + j)

set_option maxRecDepth 100000 in
set_option maxHeartbeats 1600000 in
theorem long_any {w : World} {ad : Option Addr} {l : List P4} (cap : Nat) (hL : Lp w ad l) (hl : l.length ≤ 11000000) (i : Nat) (hi : (i : Int) ≤ 11000000) :
    Calls Tryd.prog 127 #[.slice ad l.length cap, .int .i64 (i : Int)] w fun e w' => e = .returned (.tuple #[.string ⟨(longA (aA l i)).1.toArray⟩, .int .i64 ((longA (aA l i)).2 : Int)]) ∧ Below w.heap.size w w' := by
  have AT : ∀ (j : Nat) (z : Int), z = (i : Int) + (j : Int) → Calls Tryd.prog 77 #[.slice ad l.length cap, .int .i64 z] w fun e w' => e = .returned (.int .i64 (aA l i j)) ∧ w' = w := fun j z hz => by
    rw [hz, show (i : Int) + (j : Int) = ((i + j : Nat) : Int) by omega]; exact at_any cap hL hl (i + j)
  generalize aA l i = a at *
  clear hL
  generalize l.length = M at *
  by_cases h2 : a 2 = 123
  · have b2 : (a 2 != 123) = false := by rw [h2]; rfl
    have HP := hide h2
    have A2 := AT 2 ((i : Int) + 2) rfl
    go_enter Tryd.func127, Tryd.ntmps127
    go_wp2_with fail
    refine A2.mono ?_; rintro e w1 ⟨rfl, hw⟩; obtain rfl := hw.symm
    clear h2 A2
    generalize a 2 = a2 at b2
    go_wp2_with fail
    go_loop [7, 8] (fun nv kv => ∃ (N K : Int) (c : Nat), nv = .int .i64 N ∧ kv = .int .i64 K ∧ Hid (K = (i : Int) + 3 + (c : Int)) ∧ c ≤ 6 ∧ 0 ≤ N ∧ N < 16777216 ∧ Hid (RunA a N.toNat c ∧ N.toNat < 16 ^ c)) (fun _ kv => i + 9 - (intOf kv).toNat)
    case atStart => exact ⟨0, (i : Int) + 3, 0, rfl, rfl, by show _ = _; omega, by omega, by omega, by omega, RunA.start _, by decide⟩
    case round =>
      obtain ⟨N, K, c, rfl, rfl, HKc, hc6, hN0, hN1, hR⟩ := hrel
      have hK := HKc.out
      have AK := AT (3 + c) K (by omega)
      have hK0 : 0 ≤ K := by omega
      have hK1 : K ≤ 11000020 := by omega
      by_cases hend : 6 ≤ c
      · have HR : Hid (runA a 6 0 0 = (N.toNat, c)) := hR.out.1.six (by omega)
        have hx : ¬ K < (i : Int) + 9 := by omega
        clear hR hend
        by_cases o1 : c = 0
        · have HE : Hid (longA a = ([], 0)) := by show _ = _; rw [longA_of HP.out HR.out, if_pos (.inl o1)]
          have b1 : (K == (i : Int) + 3) = true := by rw [beq_iff_eq]; omega
          clear o1 HR hK
          go_wp2_with fail
          refine AK.mono ?_; rintro e w2 ⟨rfl, hw⟩; obtain rfl := hw.symm
          clear AK AT HP
          generalize a (3 + c) = ac at *
          go_wp2
          go_ret2
          rw [HE.out]
          exact ⟨rfl, Below.refl _ _⟩
        have b1 : (K == (i : Int) + 3) = false := by rw [beq_eq_false_iff_ne]; omega
        by_cases o3 : a (3 + c) = 125
        · have b3 : (a (3 + c) != 125) = false := by rw [o3]; rfl
          have HQ : Hid (longA a = if Utf8.valid (N.toNat : Int) = true then ((Utf8.encode (N.toNat : Int)).data.toList, 3 + c + 1) else ([], 0)) := by
            show _ = _
            rw [longA_of HP.out HR.out, if_neg (by simp [o1, o3])]
          have hNt : (N.toNat : Int) = N := by omega
          rw [hNt] at HQ
          have HK : Hid (K + 1 - (i : Int) = ((3 + c + 1 : Nat) : Int)) := by show _ = _; omega
          cases hv : Utf8.valid N
          · have EN := Enc.refEncode_not N w hv
            have HE : Hid (longA a = ([], 0)) := by show _ = _; rw [HQ.out, hv]; rfl
            clear o1 o3 HR HQ hNt hv hK
            go_wp2_with fail
            refine AK.mono ?_; rintro e w2 ⟨rfl, hw⟩; obtain rfl := hw.symm
            clear AK AT HP
            generalize a (3 + c) = ac at *
            go_wp2_with fail
            refine EN.mono ?_; rintro e w2 ⟨rfl, hw⟩; obtain rfl := hw.symm
            go_wp2
            go_ret2
            rw [HE.out]
            exact ⟨rfl, Below.refl _ _⟩
          · have EN := Enc.refEncode_yes N w hv
            have HE : Hid (longA a = ((Utf8.encode N).data.toList, 3 + c + 1)) := by show _ = _; rw [HQ.out, hv]; rfl
            generalize Utf8.encode N = ENC at *
            clear o1 o3 HR HQ hNt hv hK
            go_wp2_with fail
            refine AK.mono ?_; rintro e w2 ⟨rfl, hw⟩; obtain rfl := hw.symm
            clear AK AT HP
            generalize a (3 + c) = ac at *
            go_wp2_with fail
            refine EN.mono ?_; rintro e w2 ⟨rfl, hb⟩
            go_wp2
            go_ret2
            rw [HE.out, HK.out]
            first
              | exact ⟨rfl, hb⟩
              | (refine ⟨?_, hb⟩; simp only [ba])
        · have b3 : (a (3 + c) != 125) = true := by rw [bne_iff_ne]; exact o3
          have HE : Hid (longA a = ([], 0)) := by show _ = _; rw [longA_of HP.out HR.out, if_pos (.inr o3)]
          clear o1 o3 HR hK
          go_wp2_with fail
          refine AK.mono ?_; rintro e w2 ⟨rfl, hw⟩; obtain rfl := hw.symm
          clear AK AT HP
          generalize a (3 + c) = ac at *
          go_wp2
          go_ret2
          rw [HE.out]
          exact ⟨rfl, Below.refl _ _⟩
      · have hx : K < (i : Int) + 9 := by omega
        have D := digit_any (a (3 + c)) w
        rcases dg_le (a (3 + c)) with hd | hd
        · have HR : Hid (runA a 6 0 0 = (N.toNat, c)) := hR.out.1.stop (by omega)
          rw [hd] at D
          clear hR hend hd
          by_cases o1 : c = 0
          · have HE : Hid (longA a = ([], 0)) := by show _ = _; rw [longA_of HP.out HR.out, if_pos (.inl o1)]
            have b1 : (K == (i : Int) + 3) = true := by rw [beq_iff_eq]; omega
            clear o1 HR hK
            go_wp2_with fail
            refine AK.mono ?_; rintro e w2 ⟨rfl, hw⟩; obtain rfl := hw.symm
            go_wp2_with fail
            refine D.mono ?_; rintro e w2 ⟨rfl, hw⟩; obtain rfl := hw.symm
            go_wp2_with fail
            refine AK.mono ?_; rintro e w2 ⟨rfl, hw⟩; obtain rfl := hw.symm
            clear AK AT HP
            generalize a (3 + c) = ac at *
            go_wp2
            go_ret2
            rw [HE.out]
            exact ⟨rfl, Below.refl _ _⟩
          have b1 : (K == (i : Int) + 3) = false := by rw [beq_eq_false_iff_ne]; omega
          by_cases o3 : a (3 + c) = 125
          · have b3 : (a (3 + c) != 125) = false := by rw [o3]; rfl
            have HQ : Hid (longA a = if Utf8.valid (N.toNat : Int) = true then ((Utf8.encode (N.toNat : Int)).data.toList, 3 + c + 1) else ([], 0)) := by
              show _ = _
              rw [longA_of HP.out HR.out, if_neg (by simp [o1, o3])]
            have hNt : (N.toNat : Int) = N := by omega
            rw [hNt] at HQ
            have HK : Hid (K + 1 - (i : Int) = ((3 + c + 1 : Nat) : Int)) := by show _ = _; omega
            cases hv : Utf8.valid N
            · have EN := Enc.refEncode_not N w hv
              have HE : Hid (longA a = ([], 0)) := by show _ = _; rw [HQ.out, hv]; rfl
              clear o1 o3 HR HQ hNt hv hK
              go_wp2_with fail
              refine AK.mono ?_; rintro e w2 ⟨rfl, hw⟩; obtain rfl := hw.symm
              go_wp2_with fail
              refine D.mono ?_; rintro e w2 ⟨rfl, hw⟩; obtain rfl := hw.symm
              go_wp2_with fail
              refine AK.mono ?_; rintro e w2 ⟨rfl, hw⟩; obtain rfl := hw.symm
              clear AK AT HP
              generalize a (3 + c) = ac at *
              go_wp2_with fail
              refine EN.mono ?_; rintro e w2 ⟨rfl, hw⟩; obtain rfl := hw.symm
              go_wp2
              go_ret2
              rw [HE.out]
              exact ⟨rfl, Below.refl _ _⟩
            · have EN := Enc.refEncode_yes N w hv
              have HE : Hid (longA a = ((Utf8.encode N).data.toList, 3 + c + 1)) := by show _ = _; rw [HQ.out, hv]; rfl
              generalize Utf8.encode N = ENC at *
              clear o1 o3 HR HQ hNt hv hK
              go_wp2_with fail
              refine AK.mono ?_; rintro e w2 ⟨rfl, hw⟩; obtain rfl := hw.symm
              go_wp2_with fail
              refine D.mono ?_; rintro e w2 ⟨rfl, hw⟩; obtain rfl := hw.symm
              go_wp2_with fail
              refine AK.mono ?_; rintro e w2 ⟨rfl, hw⟩; obtain rfl := hw.symm
              clear AK AT HP
              generalize a (3 + c) = ac at *
              go_wp2_with fail
              refine EN.mono ?_; rintro e w2 ⟨rfl, hb⟩
              go_wp2
              go_ret2
              rw [HE.out, HK.out]
              first
                | exact ⟨rfl, hb⟩
                | (refine ⟨?_, hb⟩; simp only [ba])
          · have b3 : (a (3 + c) != 125) = true := by rw [bne_iff_ne]; exact o3
            have HE : Hid (longA a = ([], 0)) := by show _ = _; rw [longA_of HP.out HR.out, if_pos (.inr o3)]
            clear o1 o3 HR hK
            go_wp2_with fail
            refine AK.mono ?_; rintro e w2 ⟨rfl, hw⟩; obtain rfl := hw.symm
            go_wp2_with fail
            refine D.mono ?_; rintro e w2 ⟨rfl, hw⟩; obtain rfl := hw.symm
            go_wp2_with fail
            refine AK.mono ?_; rintro e w2 ⟨rfl, hw⟩; obtain rfl := hw.symm
            clear AK AT HP
            generalize a (3 + c) = ac at *
            go_wp2
            go_ret2
            rw [HE.out]
            exact ⟨rfl, Below.refl _ _⟩
        · have HS := hide (hR.out.1.step (by omega) (by omega))
          obtain ⟨hd0, hd1⟩ := hd
          have hPW := hide (pow_lt hR.out.2 (show (dg (a (3 + c))).toNat < 16 by omega))
          have hn20 : N.toNat < 1048576 := Nat.lt_of_lt_of_le hR.out.2 (Nat.le_trans (Nat.pow_le_pow_right (by omega) (show c ≤ 5 by omega)) (by decide))
          have HS2 : Hid (RunA a (16 * N + dg (a (3 + c))).toNat (c + 1) ∧ (16 * N + dg (a (3 + c))).toNat < 16 ^ (c + 1)) := by
            rw [show (16 * N + dg (a (3 + c))).toNat = 16 * N.toNat + (dg (a (3 + c))).toNat by omega]
            exact ⟨HS.out, hPW.out⟩
          generalize dg (a (3 + c)) = d at *
          have hN2 : N < 1048576 := by omega
          have HK2 : Hid (K + 1 = (i : Int) + 3 + ((c + 1 : Nat) : Int)) := by show _ = _; omega
          have HMS : Hid (i + 9 - (K + 1).toNat < i + 9 - K.toNat) := by show _ < _; omega
          have HC5 : Hid (c + 1 ≤ 6) := by show _ ≤ _; omega
          clear hR hend HS hPW hn20 hK
          go_wp2_with fail
          refine AK.mono ?_; rintro e w2 ⟨rfl, hw⟩; obtain rfl := hw.symm
          go_wp2_with fail
          refine D.mono ?_; rintro e w2 ⟨rfl, hw⟩; obtain rfl := hw.symm
          go_wp2
          exact ⟨⟨16 * N + d, K + 1, c + 1, rfl, by go_num, HK2, HC5.out, by omega, by omega, HS2.out⟩, by have := HMS.out; simp only [intOf]; exact this⟩
  · have b2 : (a 2 != 123) = true := by rw [bne_iff_ne]; exact h2
    have e : longA a = ([], 0) := by unfold longA; rw [if_pos h2]
    rw [e]
    have A2 := AT 2 ((i : Int) + 2) rfl
    clear e h2
    go_enter Tryd.func127, Tryd.ntmps127
    go_wp2_with fail
    refine A2.mono ?_; rintro e w1 ⟨rfl, hw⟩; obtain rfl := hw.symm
    clear A2 AT
    generalize a 2 = a2 at *
    go_wp2
    go_ret2
    exact ⟨rfl, Below.refl _ _⟩
end Go.Proofs.YtckjededijgjgaaDoor.Ur
namespace Go.Proofs.YtckjededijgjgaaDoor.Ur
open Go.RowKit
open Go.Proofs.YtckjededijgjgaaDoor.Pc (P4 pieces)
set_option linter.unusedVariables false

/-- the escape whose backslash is the first rune: what it stands for, how many pieces it has; 0: it is none -/
def escA (a : Nat → Int) : List UInt8 × Nat :=
  if a 1 = 34 then ([34], 2) else if a 1 = 92 then ([92], 2) else if a 1 = 110 then ([10], 2) else if a 1 = 114 then ([13], 2) else if a 1 = 116 then ([9], 2)
  else if a 1 = 120 then (if dg (a 2) < 0 ∨ dg (a 3) < 0 then ([], 0) else ([UInt8.ofNat (16 * (dg (a 2)).toNat + (dg (a 3)).toNat)], 4))
  else if a 1 = 117 then longA a else ([], 0)

theorem one_str (d e : Int) (h0 : 0 ≤ d) (h1 : d < 16) (h2 : 0 ≤ e) (h3 : e < 16) : strOfNums [16 * d + e] = ⟨#[UInt8.ofNat (16 * d.toNat + e.toNat)]⟩ := by
  have : (16 * d + e).toNat = 16 * d.toNat + e.toNat := by omega
  simp [strOfNums, this]

set_option maxRecDepth 100000 in
set_option maxHeartbeats 1600000 in
theorem escaped_any {w : World} {ad : Option Addr} {l : List P4} (cap : Nat) (hL : Lp w ad l) (hl : l.length ≤ 11000000) (i : Nat) (hi : (i : Int) ≤ 11000000) :
    Calls Tryd.prog 106 #[.slice ad l.length cap, .int .i64 (i : Int)] w fun e w' => e = .returned (.tuple #[.string ⟨(escA (aA l i)).1.toArray⟩, .int .i64 ((escA (aA l i)).2 : Int)]) ∧ Below w.heap.size w w' := by
  have AT : ∀ (j : Nat) (z : Int), z = (i : Int) + (j : Int) → Calls Tryd.prog 77 #[.slice ad l.length cap, .int .i64 z] w fun e w' => e = .returned (.int .i64 (aA l i j)) ∧ w' = w := fun j z hz => by
    rw [hz, show (i : Int) + (j : Int) = ((i + j : Nat) : Int) by omega]; exact at_any cap hL hl (i + j)
  have LG := long_any cap hL hl i hi
  generalize aA l i = a at *
  clear hL
  generalize l.length = M at *
  have A1 := AT 1 ((i : Int) + 1) rfl
  have A2 := AT 2 ((i : Int) + 2) rfl
  have A3 := AT 3 ((i : Int) + 3) rfl
  clear AT
  by_cases q1 : a 1 = 34
  · have e : escA a = ([34], 2) := by unfold escA; rw [if_pos q1]
    rw [e]
    rw [q1] at A1
    have kc := Enc.conv1 w
    clear e LG A2 A3
    go_enter Tryd.func106, Tryd.ntmps106
    go_wp2_with fail
    refine A1.mono ?_; rintro e w1 ⟨rfl, hw⟩; obtain rfl := hw.symm
    go_wp2
    go_ret2
    exact ⟨rfl, (Below.refl _ _).alloc (Nat.le_refl _) _⟩
  by_cases q2 : a 1 = 92
  · have e : escA a = ([92], 2) := by unfold escA; rw [if_neg q1, if_pos q2]
    rw [e]
    rw [q2] at A1
    have kc := Enc.conv1 w
    clear e LG A2 A3
    go_enter Tryd.func106, Tryd.ntmps106
    go_wp2_with fail
    refine A1.mono ?_; rintro e w1 ⟨rfl, hw⟩; obtain rfl := hw.symm
    go_wp2
    go_ret2
    exact ⟨rfl, (Below.refl _ _).alloc (Nat.le_refl _) _⟩
  by_cases q3 : a 1 = 110
  · have e : escA a = ([10], 2) := by unfold escA; rw [if_neg q1, if_neg q2, if_pos q3]
    rw [e]
    rw [q3] at A1
    clear e LG A2 A3
    go_enter Tryd.func106, Tryd.ntmps106
    go_wp2_with fail
    refine A1.mono ?_; rintro e w1 ⟨rfl, hw⟩; obtain rfl := hw.symm
    go_wp2
    go_ret2
    exact ⟨rfl, Below.refl _ _⟩
  by_cases q4 : a 1 = 114
  · have e : escA a = ([13], 2) := by unfold escA; rw [if_neg q1, if_neg q2, if_neg q3, if_pos q4]
    rw [e]
    rw [q4] at A1
    clear e LG A2 A3
    go_enter Tryd.func106, Tryd.ntmps106
    go_wp2_with fail
    refine A1.mono ?_; rintro e w1 ⟨rfl, hw⟩; obtain rfl := hw.symm
    go_wp2
    go_ret2
    exact ⟨rfl, Below.refl _ _⟩
  by_cases q5 : a 1 = 116
  · have e : escA a = ([9], 2) := by unfold escA; rw [if_neg q1, if_neg q2, if_neg q3, if_neg q4, if_pos q5]
    rw [e]
    rw [q5] at A1
    clear e LG A2 A3
    go_enter Tryd.func106, Tryd.ntmps106
    go_wp2_with fail
    refine A1.mono ?_; rintro e w1 ⟨rfl, hw⟩; obtain rfl := hw.symm
    go_wp2
    go_ret2
    exact ⟨rfl, Below.refl _ _⟩
  by_cases q6 : a 1 = 120
  · have e : escA a = (if dg (a 2) < 0 ∨ dg (a 3) < 0 then ([], 0) else ([UInt8.ofNat (16 * (dg (a 2)).toNat + (dg (a 3)).toNat)], 4)) := by unfold escA; rw [if_neg q1, if_neg q2, if_neg q3, if_neg q4, if_neg q5, if_pos q6]
    rw [e]
    rw [q6] at A1
    have D2 := digit_any (a 2) w
    have D3 := digit_any (a 3) w
    have h2 := dg_le (a 2)
    have h3 := dg_le (a 3)
    have kc := Enc.conv1 w
    clear e LG q1 q2 q3 q4 q5 q6
    generalize dg (a 2) = d2 at *
    generalize dg (a 3) = d3 at *
    by_cases g2 : d2 < 0
    · rw [if_pos (.inl g2)]
      clear h2
      go_enter Tryd.func106, Tryd.ntmps106
      go_wp2_with fail
      refine A1.mono ?_; rintro e w1 ⟨rfl, hw⟩; obtain rfl := hw.symm
      go_wp2_with fail
      refine A2.mono ?_; rintro e w1 ⟨rfl, hw⟩; obtain rfl := hw.symm
      go_wp2_with fail
      refine D2.mono ?_; rintro e w1 ⟨rfl, hw⟩; obtain rfl := hw.symm
      go_wp2_with fail
      refine A3.mono ?_; rintro e w1 ⟨rfl, hw⟩; obtain rfl := hw.symm
      go_wp2_with fail
      refine D3.mono ?_; rintro e w1 ⟨rfl, hw⟩; obtain rfl := hw.symm
      go_wp2
      go_ret2
      exact ⟨rfl, Below.refl _ _⟩
    have h20 : 0 ≤ d2 := by omega
    have h21 : d2 < 16 := by omega
    by_cases g3 : d3 < 0
    · rw [if_pos (.inr g3)]
      clear h2 h3
      go_enter Tryd.func106, Tryd.ntmps106
      go_wp2_with fail
      refine A1.mono ?_; rintro e w1 ⟨rfl, hw⟩; obtain rfl := hw.symm
      go_wp2_with fail
      refine A2.mono ?_; rintro e w1 ⟨rfl, hw⟩; obtain rfl := hw.symm
      go_wp2_with fail
      refine D2.mono ?_; rintro e w1 ⟨rfl, hw⟩; obtain rfl := hw.symm
      go_wp2_with fail
      refine A3.mono ?_; rintro e w1 ⟨rfl, hw⟩; obtain rfl := hw.symm
      go_wp2_with fail
      refine D3.mono ?_; rintro e w1 ⟨rfl, hw⟩; obtain rfl := hw.symm
      go_wp2
      go_ret2
      exact ⟨rfl, Below.refl _ _⟩
    · rw [if_neg (by omega)]
      have h30 : 0 ≤ d3 := by omega
      have h31 : d3 < 16 := by omega
      have HO := hide (one_str d2 d3 h20 h21 h30 h31)
      clear h2 h3 g2 g3
      go_enter Tryd.func106, Tryd.ntmps106
      go_wp2_with fail
      refine A1.mono ?_; rintro e w1 ⟨rfl, hw⟩; obtain rfl := hw.symm
      go_wp2_with fail
      refine A2.mono ?_; rintro e w1 ⟨rfl, hw⟩; obtain rfl := hw.symm
      go_wp2_with fail
      refine D2.mono ?_; rintro e w1 ⟨rfl, hw⟩; obtain rfl := hw.symm
      go_wp2_with fail
      refine A3.mono ?_; rintro e w1 ⟨rfl, hw⟩; obtain rfl := hw.symm
      go_wp2_with fail
      refine D3.mono ?_; rintro e w1 ⟨rfl, hw⟩; obtain rfl := hw.symm
      go_wp2
      go_ret2
      rw [HO.out]
      exact ⟨rfl, (Below.refl _ _).alloc (Nat.le_refl _) _⟩
  by_cases q7 : a 1 = 117
  · have e : escA a = longA a := by unfold escA; rw [if_neg q1, if_neg q2, if_neg q3, if_neg q4, if_neg q5, if_neg q6, if_pos q7]
    rw [e]
    rw [q7] at A1
    clear e A2 A3 q1 q2 q3 q4 q5 q6 q7
    generalize longA a = r at *
    go_enter Tryd.func106, Tryd.ntmps106
    go_wp2_with fail
    refine A1.mono ?_; rintro e w1 ⟨rfl, hw⟩; obtain rfl := hw.symm
    go_wp2_with fail
    refine LG.mono ?_; rintro e w1 ⟨rfl, hb⟩
    go_wp2
    go_ret2
    exact ⟨rfl, hb⟩
  · have e : escA a = ([], 0) := by unfold escA; rw [if_neg q1, if_neg q2, if_neg q3, if_neg q4, if_neg q5, if_neg q6, if_neg q7]
    rw [e]
    clear e LG A2 A3
    generalize a 1 = a1 at *
    have b1 : (a1 == 34) = false := beq_eq_false_iff_ne.2 q1
    have b2 : (a1 == 92) = false := beq_eq_false_iff_ne.2 q2
    have b3 : (a1 == 110) = false := beq_eq_false_iff_ne.2 q3
    have b4 : (a1 == 114) = false := beq_eq_false_iff_ne.2 q4
    have b5 : (a1 == 116) = false := beq_eq_false_iff_ne.2 q5
    have b6 : (a1 == 120) = false := beq_eq_false_iff_ne.2 q6
    have b7 : (a1 == 117) = false := beq_eq_false_iff_ne.2 q7
    clear q1 q2 q3 q4 q5 q6 q7
    go_enter Tryd.func106, Tryd.ntmps106
    go_wp2_with fail
    refine A1.mono ?_; rintro e w1 ⟨rfl, hw⟩; obtain rfl := hw.symm
    go_wp2
    go_ret2
    exact ⟨rfl, Below.refl _ _⟩
end Go.Proofs.YtckjededijgjgaaDoor.Ur
