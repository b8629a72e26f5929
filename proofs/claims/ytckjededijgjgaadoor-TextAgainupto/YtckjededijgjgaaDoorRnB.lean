import Derived.Test.YtckjededijgjgaaDoorNmA
namespace Go.Proofs.YtckjededijgjgaaDoor.Rn
open Go.RowKit Nm

/-- a letter, as the reference asks it -/
def letP (r : Int) : Prop := (65 ≤ r ∧ r ≤ 90) ∨ (97 ≤ r ∧ r ≤ 122) ∨ (192 ≤ r ∧ r ≤ 255 ∧ r ≠ 215 ∧ r ≠ 247) ∨ (913 ≤ r ∧ r ≤ 937 ∧ r ≠ 930) ∨ (945 ≤ r ∧ r ≤ 969) ∨ (1040 ≤ r ∧ r ≤ 1103)
/-- the letters that are made small -/
def bigP (r : Int) : Prop := (65 ≤ r ∧ r ≤ 90) ∨ (192 ≤ r ∧ r ≤ 222 ∧ r ≠ 215) ∨ (913 ≤ r ∧ r ≤ 937 ∧ r ≠ 930) ∨ (1040 ≤ r ∧ r ≤ 1071)

theorem some_if {c : Prop} [Decidable c] {x : Int} {y : Option Int} : (if c then some x else y).isSome = (decide c || y.isSome) := by split <;> simp_all
theorem let_iff (r : Int) : (letF r lets).isSome = true ↔ letP r := by
  simp only [lets, letF, some_if, Bool.or_eq_true, decide_eq_true_eq, Option.isSome_none, Bool.false_eq_true, or_false]
  unfold letP
  constructor
  · rintro (h | h | h | h | h | h | h | h | h | h | h | h | h) <;> omega
  · rintro (h | h | ⟨h, h', h2, h3⟩ | h | h | h)
    · exact .inl h
    · exact .inr (.inl h)
    · by_cases a : r ≤ 214
      · exact .inr (.inr (.inl (by omega)))
      · by_cases b : r ≤ 222
        · exact .inr (.inr (.inr (.inl (by omega))))
        · by_cases c : r ≤ 246
          · exact .inr (.inr (.inr (.inr (.inl (by omega)))))
          · exact .inr (.inr (.inr (.inr (.inr (.inl (by omega))))))
    · by_cases a : r ≤ 929
      · exact .inr (.inr (.inr (.inr (.inr (.inr (.inl (by omega)))))))
      · exact .inr (.inr (.inr (.inr (.inr (.inr (.inr (.inl (by omega))))))))
    · by_cases a : r ≤ 961
      · exact .inr (.inr (.inr (.inr (.inr (.inr (.inr (.inr (.inl (by omega)))))))))
      · by_cases b : r ≤ 962
        · exact .inr (.inr (.inr (.inr (.inr (.inr (.inr (.inr (.inr (.inl (by omega))))))))))
        · exact .inr (.inr (.inr (.inr (.inr (.inr (.inr (.inr (.inr (.inr (.inl (by omega)))))))))))
    · by_cases a : r ≤ 1071
      · exact .inr (.inr (.inr (.inr (.inr (.inr (.inr (.inr (.inr (.inr (.inr (.inl (by omega))))))))))))
      · exact .inr (.inr (.inr (.inr (.inr (.inr (.inr (.inr (.inr (.inr (.inr (.inr (by omega))))))))))))
theorem let_yes {r : Int} (h : letP r) : true = (letF r lets).isSome := ((let_iff r).2 h).symm
theorem let_no {r : Int} (h : ¬ letP r) : false = (letF r lets).isSome := by
  cases e : (letF r lets).isSome with
  | false => rfl
  | true => exact absurd ((let_iff r).1 e) h
theorem ret_bool {a b : Bool} (h : a = b) : Ending.returned (.bool a) = .returned (.bool b) := by rw [h]

theorem bool_is {r : Int} {b : Bool} (h : b = true ↔ letP r) : b = (letF r lets).isSome := by
  cases b with
  | true => exact let_yes (h.1 rfl)
  | false => exact let_no (fun e => by cases h.2 e)

set_option maxHeartbeats 2000000 in
theorem letter_any (r : Int) (w : World) :
    Calls Tryd.prog 58 #[.int .i64 r] w fun e w' => e = .returned (.bool (letF r lets).isSome) ∧ w' = w := by
  go_enter Tryd.func58, Tryd.ntmps58
  go_wp2
  all_goals go_ret
  all_goals refine ⟨ret_bool ?_, rfl⟩
  all_goals first | exact let_yes (by unfold letP; omega) | exact let_no (by unfold letP; omega) | (refine bool_is ?_; unfold letP; simp only [Bool.or_eq_true, decide_eq_true_eq]; omega)

end Go.Proofs.YtckjededijgjgaaDoor.Rn
namespace Go.Proofs.YtckjededijgjgaaDoor.Rn
open Go.RowKit Nm

instance (r : Int) : Decidable (bigP r) := by unfold bigP; infer_instance
/-- a letter made small -/
def foldF (r : Int) : Int := if bigP r then r + 32 else if r = 962 then 963 else r

set_option maxHeartbeats 2000000 in
theorem fold_any (r : Int) (w : World) (_h0 : 0 ≤ r) (_h1 : r ≤ 1114111) :
    Calls Tryd.prog 59 #[.int .i64 r] w fun e w' => e = .returned (.int .i64 (foldF r)) ∧ w' = w := by
  by_cases hb : bigP r
  · have E := Nm.hide (show foldF r = r + 32 by unfold foldF; rw [if_pos hb])
    unfold bigP at hb
    rcases hb with ⟨h1, h2⟩ | ⟨h1, h2, h3⟩ | ⟨h1, h2, h3⟩ | ⟨h1, h2⟩
    all_goals
      go_enter Tryd.func59, Tryd.ntmps59
      go_wp2
      all_goals first | omega | (go_ret; rw [E.out]; exact ⟨rfl, rfl⟩)
  · by_cases h2 : r = 962
    · subst h2
      go_enter Tryd.func59, Tryd.ntmps59
      go_wp2
      go_ret
      exact ⟨rfl, rfl⟩
    · have h2' : (r == 962) = false := beq_eq_false_iff_ne.2 h2
      have E := Nm.hide (show foldF r = r by unfold foldF; rw [if_neg hb, if_neg h2])
      have HB := Nm.hide hb
      clear hb
      go_enter Tryd.func59, Tryd.ntmps59
      go_wp2
      all_goals first | (go_ret; rw [E.out]; exact ⟨rfl, rfl⟩) | (exfalso; exact HB.out (by unfold bigP; omega)) | (go_ret; refine ⟨?_, rfl⟩; simp [foldF, bigP])
end Go.Proofs.YtckjededijgjgaaDoor.Rn
