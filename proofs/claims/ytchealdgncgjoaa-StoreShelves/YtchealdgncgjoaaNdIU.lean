import Derived.Test.YtchealdgncgjoaaNdDU
import Derived.Deep.LoopGhost
namespace Go.Proofs.Ytchealdgncgjoaa.StU
open Go.RowKit Go.Proofs.Ytchealdgncgjoaa.St
set_option linter.unusedVariables false

/-- the pair at a place -/
def atT : T (Int × Sv) → Int → Option (Int × Sv)
  | .nil, _ => none
  | .node l p r, i => if i < (l.sz : Int) then atT l i else if (l.sz : Int) < i then atT r (i - ((l.sz : Int) + 1)) else some p
theorem atT_neg : ∀ (t : T (Int × Sv)) (i : Int), i < 0 → atT t i = none
  | .nil, i, h => rfl
  | .node l p r, i, h => by simp only [atT]; rw [if_pos (by omega), atT_neg l i h]
theorem atT_xs : ∀ (t : T (Int × Sv)) (i : Nat), atT t (i : Int) = t.xs[i]?
  | .nil, i => by simp [atT, T.xs]
  | .node l p r, i => by
    have el := T.xs_length l
    simp only [atT, T.xs]
    by_cases h1 : (i : Int) < (l.sz : Int)
    · rw [if_pos h1, atT_xs l i, List.getElem?_append_left (by omega)]
    · rw [if_neg h1, List.getElem?_append_right (by omega)]
      by_cases h2 : (l.sz : Int) < (i : Int)
      · rw [if_pos h2]
        have e : (i : Int) - ((l.sz : Int) + 1) = ((i - l.sz - 1 : Nat) : Int) := by omega
        rw [e, atT_xs r _]
        have e2 : i - l.xs.length = (i - l.sz - 1) + 1 := by omega
        rw [e2]; rfl
      · rw [if_neg h2]
        have e2 : i - l.xs.length = 0 := by omega
        rw [e2]; rfl
/-- what at answers: a node with this pair, or none -/
def An (w : World) (o : Option (Int × Sv)) (a : Option Addr) : Prop := match o with
  | none => a = none
  | some p => Nd w p a

set_option maxRecDepth 100000 in
set_option maxHeartbeats 2000000 in
theorem at_any {w : World} {t : T (Int × Sv)} {a : Option Addr} (h : Tr w t a) (i : Int) (hi : i ≤ 9223372036854775807) (hs : t.sz < 2 ^ 62) :
    Calls Try.prog 166 #[.pointer a, .int .i64 i] w fun e w' => ∃ a', e = .returned (.pointer a') ∧ An w (atT t i) a' ∧ w' = w := by
  have HI : Hid (i ≤ 9223372036854775807 ∧ t.sz < 2 ^ 62) := ⟨hi, hs⟩
  have HT : Hid (Tr w t a) := h
  clear hi hs h
  go_enter Try.func166, Try.ntmps166
  go_wp2_with fail
  go_loopg [0, 1] t.sz (fun k s0 s1 wr => ∃ (t' : T (Int × Sv)) (a' : Option Addr) (i' : Int), s0 = .pointer a' ∧ s1 = .int .i64 i' ∧ wr = w ∧ t'.sz ≤ k ∧ Hid (Tr w t' a' ∧ atT t i = atT t' i' ∧ i' ≤ 9223372036854775807 ∧ t'.sz < 2 ^ 62))
  case atStart => exact ⟨t, a, i, rfl, rfl, rfl, Nat.le_refl _, HT.out, rfl, HI.out.1, HI.out.2⟩
  case round =>
    obtain ⟨t', a', i', rfl, rfl, hw, hk, hh⟩ := hrel
    subst hw
    cases t' with
    | nil =>
      cases (show a' = none from hh.out.1)
      have HF : Hid (An wr (atT t i) none) := by rw [hh.out.2.1]; exact rfl
      clear hh HT HI
      go_wp2_with fail
      go_ret
      exact ⟨_, rfl, HF.out, rfl⟩
    | node l p r =>
      obtain ⟨⟨b, al, ar, ea, hb, hl, hr⟩, hat, hi1, hs1⟩ := hh.out
      obtain ⟨c0, c1, c2, c3, c4, c5⟩ := cell6 hb
      have CO : Calls Try.prog 177 #[.pointer al] wr fun e w' => e = .returned (.int .i64 (l.sz : Int)) ∧ w' = wr := count_any hl
      have hnd : Nd wr p (some ⟨b, 0, none⟩) := ⟨b, _, _, _, _, rfl, hb⟩
      subst ea
      have hsl : l.sz + 1 + r.sz ≤ gk := hk
      have hsz : l.sz + 1 + r.sz < 2 ^ 62 := hs1
      simp only [atT] at hat
      rcases Int.lt_trichotomy i' (l.sz : Int) with hc | hc | hc
      · rw [if_pos hc] at hat
        have HN : Hid ((Tr wr l al ∧ atT t i = atT l i' ∧ i' ≤ 9223372036854775807 ∧ l.sz < 2 ^ 62) ∧ l.sz < gk) := ⟨⟨hl, hat, hi1, by omega⟩, by omega⟩
        clear hh HT HI hb hl hr hat hi1 hs1 c0 c1 c3 c4 c5 hnd hsl hsz hk
        generalize (l.sz : Int) = L at *
        go_wp2_with (go_at_call 177; refine CO.mono ?_; rintro e w' ⟨rfl, hw⟩; obtain rfl := hw.symm)
        go_roundg l.sz
        case measure => exact HN.out.2
        case rel => exact ⟨l, al, i', rfl, rfl, rfl, Nat.le_refl _, HN.out.1⟩
      · rw [if_neg (by omega), if_neg (by omega)] at hat
        have HF : Hid (An wr (atT t i) (some ⟨b, 0, none⟩)) := by rw [hat]; exact hnd
        clear hh HT HI hb hl hr hat hi1 hs1 c0 c1 c3 c4 c5 hnd hsl hsz hk
        subst hc
        go_wp2_with (go_at_call 177; refine CO.mono ?_; rintro e w' ⟨rfl, hw⟩; obtain rfl := hw.symm)
        go_ret
        exact ⟨_, rfl, HF.out, rfl⟩
      · rw [if_neg (by omega), if_pos hc] at hat
        have HN : Hid ((Tr wr r ar ∧ atT t i = atT r (i' - ((l.sz : Int) + 1)) ∧ i' - ((l.sz : Int) + 1) ≤ 9223372036854775807 ∧ r.sz < 2 ^ 62) ∧ r.sz < gk) := ⟨⟨hr, hat, by omega, by omega⟩, by omega⟩
        have q1 : wrap64 ((l.sz : Int) + 1) = (l.sz : Int) + 1 := by unfold wrap64; omega
        have q2 : wrap64 (i' - ((l.sz : Int) + 1)) = i' - ((l.sz : Int) + 1) := by unfold wrap64; omega
        have hc2 : ¬ i' < (l.sz : Int) := by omega
        clear hh HT HI hb hl hr hat hi1 hs1 c0 c1 c4 c5 hnd hsl hsz hk
        generalize (l.sz : Int) = L at *
        go_wp2_with (go_at_call 177; refine CO.mono ?_; rintro e w' ⟨rfl, hw⟩; obtain rfl := hw.symm)
        go_roundg r.sz
        case measure => exact HN.out.2
        case rel => exact ⟨r, ar, _, rfl, rfl, rfl, Nat.le_refl _, by rw [q2]; exact HN.out.1⟩
end Go.Proofs.Ytchealdgncgjoaa.StU
