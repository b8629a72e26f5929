import Derived.Test.YtobhepaagpdhmaaDoorRows
import Derived.Test.YtobhepaagpdhmaaDoorCl
import Derived.WalkKit
import Derived.WalkLawsBesides
import Derived.WalkSpells
import Derived.Outline
import Derived.Below
namespace Go.Proofs.YtobhepaagpdhmaaDoor.Wi
open Go.RowKit
set_option linter.unusedVariables false

/-- what an address is -/
def role (a : Int) : Int := if a < 16 then 1 else if a < 32 then 2 else if a < 33 then 3 else 4
theorem role4 (a : Int) : role a = 1 ∨ role a = 2 ∨ role a = 3 ∨ role a = 4 := by
  unfold role
  split
  · exact .inl rfl
  · split
    · exact .inr (.inl rfl)
    · split
      · exact .inr (.inr (.inl rfl))
      · exact .inr (.inr (.inr rfl))

theorem roleOf_any (a : Int) (w : World) : Calls Tryd.prog 4 #[.int .u8 a] w fun e w' => e = .returned (.int .u8 (role a)) ∧ w' = w := by
  unfold role
  by_cases h1 : a < 16
  · rw [if_pos h1]
    go_enter Tryd.func4, Tryd.ntmps4
    go_wp2
    go_ret
    exact ⟨rfl, rfl⟩
  · rw [if_neg h1]
    by_cases h2 : a < 32
    · rw [if_pos h2]
      go_enter Tryd.func4, Tryd.ntmps4
      go_wp2
      go_ret
      exact ⟨rfl, rfl⟩
    · rw [if_neg h2]
      by_cases h3 : a < 33
      · rw [if_pos h3]
        go_enter Tryd.func4, Tryd.ntmps4
        go_wp2
        go_ret
        exact ⟨rfl, rfl⟩
      · rw [if_neg h3]
        go_enter Tryd.func4, Tryd.ntmps4
        go_wp2
        go_ret
        exact ⟨rfl, rfl⟩

theorem refRole_any (a : Int) (w : World) : Calls Tryd.prog 9 #[.int .i64 a] w fun e w' => e = .returned (.int .i64 (role a)) ∧ w' = w := by
  unfold role
  by_cases h1 : a < 16
  · rw [if_pos h1]
    go_enter Tryd.func9, Tryd.ntmps9
    go_wp2
    go_ret
    exact ⟨rfl, rfl⟩
  · rw [if_neg h1]
    by_cases h2 : a < 32
    · rw [if_pos h2]
      go_enter Tryd.func9, Tryd.ntmps9
      go_wp2
      go_ret
      exact ⟨rfl, rfl⟩
    · rw [if_neg h2]
      by_cases h3 : a < 33
      · rw [if_pos h3]
        have h4 : a = 32 := by omega
        subst h4
        go_enter Tryd.func9, Tryd.ntmps9
        go_wp2
        go_ret
        exact ⟨rfl, rfl⟩
      · rw [if_neg h3]
        have h4 : (a == 32) = false := by simp; omega
        go_enter Tryd.func9, Tryd.ntmps9
        go_wp2
        go_ret
        exact ⟨rfl, rfl⟩

theorem isRequest_any (k : Int) (w : World) : Calls Tryd.prog 10 #[.int .u8 k] w fun e w' => e = .returned (.bool (decide (1 ≤ k) && decide (k ≤ 5))) ∧ w' = w := by
  by_cases h1 : 1 ≤ k
  · by_cases h2 : k ≤ 5
    · simp only [h1, h2, decide_true, Bool.and_true]
      go_enter Tryd.func10, Tryd.ntmps10
      go_wp2
      go_ret
      exact ⟨rfl, rfl⟩
    · simp only [h1, h2, decide_true, decide_false, Bool.and_false]
      go_enter Tryd.func10, Tryd.ntmps10
      go_wp2
      go_ret
      exact ⟨rfl, rfl⟩
  · simp only [h1, decide_false, Bool.false_and]
    go_enter Tryd.func10, Tryd.ntmps10
    go_wp2
    go_ret
    exact ⟨rfl, rfl⟩
theorem isKind_any (k : Int) (w : World) : Calls Tryd.prog 11 #[.int .u8 k] w fun e w' => e = .returned (.bool (decide (1 ≤ k) && decide (k ≤ 12))) ∧ w' = w := by
  by_cases h1 : 1 ≤ k
  · by_cases h2 : k ≤ 12
    · simp only [h1, h2, decide_true, Bool.and_true]
      go_enter Tryd.func11, Tryd.ntmps11
      go_wp2
      go_ret
      exact ⟨rfl, rfl⟩
    · simp only [h1, h2, decide_true, decide_false, Bool.and_false]
      go_enter Tryd.func11, Tryd.ntmps11
      go_wp2
      go_ret
      exact ⟨rfl, rfl⟩
  · simp only [h1, decide_false, Bool.false_and]
    go_enter Tryd.func11, Tryd.ntmps11
    go_wp2
    go_ret
    exact ⟨rfl, rfl⟩
theorem clone_any (s : ByteArray) (w : World) (hs : s.size ≤ 1000) : Calls Tryd.prog 12 #[.string s] w fun e w' => e = .returned (.string s) ∧ Below w.heap.size w w' := by
  have C := Tryd.stringslite_Clone s w (by omega)
  go_enter Tryd.func12, Tryd.ntmps12
  go_wp2_with fail
  refine C.mono ?_; rintro e w' ⟨rfl, hb⟩
  go_wp2
  go_ret
  exact ⟨rfl, hb⟩
/-- who may send what -/
def al (x y k : Int) : Bool :=
  if role x = 2 ∧ role y = 1 then decide (1 ≤ k) && decide (k ≤ 5) else
  if role x = 1 ∧ role y = 2 then k == 6 || k == 7 else
  if role x = 3 ∧ role y = 1 then k == 8 else
  if role x = 1 ∧ role y = 3 then k == 9 else
  if role x = 1 ∧ role y = 1 then x != y && (k == 10 || k == 11) else false

end Go.Proofs.YtobhepaagpdhmaaDoor.Wi
