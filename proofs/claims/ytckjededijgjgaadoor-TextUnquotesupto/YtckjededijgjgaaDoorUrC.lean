import Derived.Test.YtckjededijgjgaaDoorUrB
namespace Go.Proofs.YtckjededijgjgaaDoor.Ur
open Go.RowKit
open Go.Proofs.YtckjededijgjgaaDoor.Pc (P4 pieces)
set_option linter.unusedVariables false

/-- the escape whose backslash is the first rune: what it stands for, how many pieces it has; 0: it is none -/
def escA (a : Nat → Int) : List UInt8 × Nat :=
  if a 1 = 34 then ([34], 2) else if a 1 = 92 then ([92], 2) else if a 1 = 110 then ([10], 2) else if a 1 = 114 then ([13], 2) else if a 1 = 116 then ([9], 2)
  else if a 1 = 120 then (if dg (a 2) < 0 ∨ dg (a 3) < 0 then ([], 0) else ([UInt8.ofNat (16 * (dg (a 2)).toNat + (dg (a 3)).toNat)], 4))
  else if a 1 = 117 then longA a else ([], 0)

theorem one_str (d e : Int) (h0 : 0 ≤ d) (h1 : d < 16) (h2 : 0 ≤ e) (h3 : e < 16) : strOfNums [16 * d + e] = ⟨#[UInt8.ofNat (16 * d.toNat + e.toNat)]⟩ := by
  have : (16 * d + e).toNat = 16 * d.toNat + e.toNat := by omega
  simp [strOfNums, this]

set_option maxRecDepth 100000 in
set_option maxHeartbeats 1600000 in
theorem escaped_any {w : World} {ad : Option Addr} {l : List P4} (cap : Nat) (hL : Lp w ad l) (hl : l.length ≤ 11000000) (i : Nat) (hi : (i : Int) ≤ 11000000) :
    Calls Tryd.prog 106 #[.slice ad l.length cap, .int .i64 (i : Int)] w fun e w' => e = .returned (.tuple #[.string ⟨(escA (aA l i)).1.toArray⟩, .int .i64 ((escA (aA l i)).2 : Int)]) ∧ Below w.heap.size w w' := by
  have AT : ∀ (j : Nat) (z : Int), z = (i : Int) + (j : Int) → Calls Tryd.prog 77 #[.slice ad l.length cap, .int .i64 z] w fun e w' => e = .returned (.int .i64 (aA l i j)) ∧ w' = w := fun j z hz => by
    rw [hz, show (i : Int) + (j : Int) = ((i + j : Nat) : Int) by omega]; exact at_any cap hL hl (i + j)
  have LG := long_any cap hL hl i hi
  generalize aA l i = a at *
  clear hL
  generalize l.length = M at *
  have A1 := AT 1 ((i : Int) + 1) rfl
  have A2 := AT 2 ((i : Int) + 2) rfl
  have A3 := AT 3 ((i : Int) + 3) rfl
  clear AT
  by_cases q1 : a 1 = 34
  · have e : escA a = ([34], 2) := by unfold escA; rw [if_pos q1]
    rw [e]
    rw [q1] at A1
    have kc := Enc.conv1 w
    clear e LG A2 A3
    go_enter Tryd.func106, Tryd.ntmps106
    go_wp2_with fail
    refine A1.mono ?_; rintro e w1 ⟨rfl, hw⟩; obtain rfl := hw.symm
    go_wp2
    go_ret2
    exact ⟨rfl, (Below.refl _ _).alloc (Nat.le_refl _) _⟩
  by_cases q2 : a 1 = 92
  · have e : escA a = ([92], 2) := by unfold escA; rw [if_neg q1, if_pos q2]
    rw [e]
    rw [q2] at A1
    have kc := Enc.conv1 w
    clear e LG A2 A3
    go_enter Tryd.func106, Tryd.ntmps106
    go_wp2_with fail
    refine A1.mono ?_; rintro e w1 ⟨rfl, hw⟩; obtain rfl := hw.symm
    go_wp2
    go_ret2
    exact ⟨rfl, (Below.refl _ _).alloc (Nat.le_refl _) _⟩
  by_cases q3 : a 1 = 110
  · have e : escA a = ([10], 2) := by unfold escA; rw [if_neg q1, if_neg q2, if_pos q3]
    rw [e]
    rw [q3] at A1
    clear e LG A2 A3
    go_enter Tryd.func106, Tryd.ntmps106
    go_wp2_with fail
    refine A1.mono ?_; rintro e w1 ⟨rfl, hw⟩; obtain rfl := hw.symm
    go_wp2
    go_ret2
    exact ⟨rfl, Below.refl _ _⟩
  by_cases q4 : a 1 = 114
  · have e : escA a = ([13], 2) := by unfold escA; rw [if_neg q1, if_neg q2, if_neg q3, if_pos q4]
    rw [e]
    rw [q4] at A1
    clear e LG A2 A3
    go_enter Tryd.func106, Tryd.ntmps106
    go_wp2_with fail
    refine A1.mono ?_; rintro e w1 ⟨rfl, hw⟩; obtain rfl := hw.symm
    go_wp2
    go_ret2
    exact ⟨rfl, Below.refl _ _⟩
  by_cases q5 : a 1 = 116
  · have e : escA a = ([9], 2) := by unfold escA; rw [if_neg q1, if_neg q2, if_neg q3, if_neg q4, if_pos q5]
    rw [e]
    rw [q5] at A1
    clear e LG A2 A3
    go_enter Tryd.func106, Tryd.ntmps106
    go_wp2_with fail
    refine A1.mono ?_; rintro e w1 ⟨rfl, hw⟩; obtain rfl := hw.symm
    go_wp2
    go_ret2
    exact ⟨rfl, Below.refl _ _⟩
  by_cases q6 : a 1 = 120
  · have e : escA a = (if dg (a 2) < 0 ∨ dg (a 3) < 0 then ([], 0) else ([UInt8.ofNat (16 * (dg (a 2)).toNat + (dg (a 3)).toNat)], 4)) := by unfold escA; rw [if_neg q1, if_neg q2, if_neg q3, if_neg q4, if_neg q5, if_pos q6]
    rw [e]
    rw [q6] at A1
    have D2 := digit_any (a 2) w
    have D3 := digit_any (a 3) w
    have h2 := dg_le (a 2)
    have h3 := dg_le (a 3)
    have kc := Enc.conv1 w
    clear e LG q1 q2 q3 q4 q5 q6
    generalize dg (a 2) = d2 at *
    generalize dg (a 3) = d3 at *
    by_cases g2 : d2 < 0
    · rw [if_pos (.inl g2)]
      clear h2
      go_enter Tryd.func106, Tryd.ntmps106
      go_wp2_with fail
      refine A1.mono ?_; rintro e w1 ⟨rfl, hw⟩; obtain rfl := hw.symm
      go_wp2_with fail
      refine A2.mono ?_; rintro e w1 ⟨rfl, hw⟩; obtain rfl := hw.symm
      go_wp2_with fail
      refine D2.mono ?_; rintro e w1 ⟨rfl, hw⟩; obtain rfl := hw.symm
      go_wp2_with fail
      refine A3.mono ?_; rintro e w1 ⟨rfl, hw⟩; obtain rfl := hw.symm
      go_wp2_with fail
      refine D3.mono ?_; rintro e w1 ⟨rfl, hw⟩; obtain rfl := hw.symm
      go_wp2
      go_ret2
      exact ⟨rfl, Below.refl _ _⟩
    have h20 : 0 ≤ d2 := by omega
    have h21 : d2 < 16 := by omega
    by_cases g3 : d3 < 0
    · rw [if_pos (.inr g3)]
      clear h2 h3
      go_enter Tryd.func106, Tryd.ntmps106
      go_wp2_with fail
      refine A1.mono ?_; rintro e w1 ⟨rfl, hw⟩; obtain rfl := hw.symm
      go_wp2_with fail
      refine A2.mono ?_; rintro e w1 ⟨rfl, hw⟩; obtain rfl := hw.symm
      go_wp2_with fail
      refine D2.mono ?_; rintro e w1 ⟨rfl, hw⟩; obtain rfl := hw.symm
      go_wp2_with fail
      refine A3.mono ?_; rintro e w1 ⟨rfl, hw⟩; obtain rfl := hw.symm
      go_wp2_with fail
      refine D3.mono ?_; rintro e w1 ⟨rfl, hw⟩; obtain rfl := hw.symm
      go_wp2
      go_ret2
      exact ⟨rfl, Below.refl _ _⟩
    · rw [if_neg (by omega)]
      have h30 : 0 ≤ d3 := by omega
      have h31 : d3 < 16 := by omega
      have HO := hide (one_str d2 d3 h20 h21 h30 h31)
      clear h2 h3 g2 g3
      go_enter Tryd.func106, Tryd.ntmps106
      go_wp2_with fail
      refine A1.mono ?_; rintro e w1 ⟨rfl, hw⟩; obtain rfl := hw.symm
      go_wp2_with fail
      refine A2.mono ?_; rintro e w1 ⟨rfl, hw⟩; obtain rfl := hw.symm
      go_wp2_with fail
      refine D2.mono ?_; rintro e w1 ⟨rfl, hw⟩; obtain rfl := hw.symm
      go_wp2_with fail
      refine A3.mono ?_; rintro e w1 ⟨rfl, hw⟩; obtain rfl := hw.symm
      go_wp2_with fail
      refine D3.mono ?_; rintro e w1 ⟨rfl, hw⟩; obtain rfl := hw.symm
      go_wp2
      go_ret2
      rw [HO.out]
      exact ⟨rfl, (Below.refl _ _).alloc (Nat.le_refl _) _⟩
  by_cases q7 : a 1 = 117
  · have e : escA a = longA a := by unfold escA; rw [if_neg q1, if_neg q2, if_neg q3, if_neg q4, if_neg q5, if_neg q6, if_pos q7]
    rw [e]
    rw [q7] at A1
    clear e A2 A3 q1 q2 q3 q4 q5 q6 q7
    generalize longA a = r at *
    go_enter Tryd.func106, Tryd.ntmps106
    go_wp2_with fail
    refine A1.mono ?_; rintro e w1 ⟨rfl, hw⟩; obtain rfl := hw.symm
    go_wp2_with fail
    refine LG.mono ?_; rintro e w1 ⟨rfl, hb⟩
    go_wp2
    go_ret2
    exact ⟨rfl, hb⟩
  · have e : escA a = ([], 0) := by unfold escA; rw [if_neg q1, if_neg q2, if_neg q3, if_neg q4, if_neg q5, if_neg q6, if_neg q7]
    rw [e]
    clear e LG A2 A3
    generalize a 1 = a1 at *
    have b1 : (a1 == 34) = false := beq_eq_false_iff_ne.2 q1
    have b2 : (a1 == 92) = false := beq_eq_false_iff_ne.2 q2
    have b3 : (a1 == 110) = false := beq_eq_false_iff_ne.2 q3
    have b4 : (a1 == 114) = false := beq_eq_false_iff_ne.2 q4
    have b5 : (a1 == 116) = false := beq_eq_false_iff_ne.2 q5
    have b6 : (a1 == 120) = false := beq_eq_false_iff_ne.2 q6
    have b7 : (a1 == 117) = false := beq_eq_false_iff_ne.2 q7
    clear q1 q2 q3 q4 q5 q6 q7
    go_enter Tryd.func106, Tryd.ntmps106
    go_wp2_with fail
    refine A1.mono ?_; rintro e w1 ⟨rfl, hw⟩; obtain rfl := hw.symm
    go_wp2
    go_ret2
    exact ⟨rfl, Below.refl _ _⟩
end Go.Proofs.YtckjededijgjgaaDoor.Ur
