import Derived.Test.YtchealdgncgjoaaNdBS
import Derived.Deep.LoopGhost
import Derived.Sort.Walk0
import Derived.Laws.Cover1
namespace Go.Proofs.Ytchealdgncgjoaa.StS
open Go.RowKit Go.Proofs.Ytchealdgncgjoaa.St
set_option linter.unusedVariables false
/-- cmp.Compare of strings -/
def cmpS (a b : ByteArray) : Int := if a.toList < b.toList then -1 else if b.toList < a.toList then 1 else 0
theorem tl_inj {a b : ByteArray} (h : a.toList = b.toList) : a = b := by
  have h1 : a.data.toList = b.data.toList := by simpa [ByteArray.toList_eq] using h
  cases a; cases b; simp_all
theorem lt_irr (a : List UInt8) : ¬ a < a := List.lt_irrefl a
theorem lt_tr {a b c : List UInt8} (h : a < b) (k : b < c) : a < c := List.lt_trans h k
theorem lt_tri {a b : List UInt8} (h : ¬ a < b) (k : ¬ b < a) : a = b := List.le_antisymm k h
theorem cmpS_ord : OrdL cmpS := by
  have key : ∀ a b : ByteArray, (a.toList < b.toList ∧ ¬ b.toList < a.toList ∧ cmpS a b = -1 ∧ cmpS b a = 1) ∨ (a.toList = b.toList ∧ cmpS a b = 0 ∧ cmpS b a = 0) ∨ (b.toList < a.toList ∧ ¬ a.toList < b.toList ∧ cmpS a b = 1 ∧ cmpS b a = -1) := fun a b => by
    by_cases h : a.toList < b.toList
    · have h2 : ¬ b.toList < a.toList := fun k => lt_irr _ (lt_tr h k)
      exact .inl ⟨h, h2, by simp [cmpS, h], by simp [cmpS, h, h2]⟩
    · by_cases k : b.toList < a.toList
      · exact .inr (.inr ⟨k, h, by simp [cmpS, h, k], by simp [cmpS, k]⟩)
      · have e := lt_tri h k
        exact .inr (.inl ⟨e, by simp [cmpS, h, k], by simp [cmpS, h, k]⟩)
  refine ⟨fun a b => ?_, fun a b c h1 h2 => ?_, fun a b c h1 h2 => ?_⟩
  · rcases key a b with ⟨_, _, h, k⟩ | ⟨_, h, k⟩ | ⟨_, _, h, k⟩ <;> omega
  · rcases key a b with ⟨l1, _, h, k⟩ | ⟨_, h, k⟩ | ⟨_, _, h, k⟩ <;> try omega
    have l3 : a.toList < c.toList := by
      rcases key b c with ⟨l2, _, h', k'⟩ | ⟨e, h', k'⟩ | ⟨_, _, h', k'⟩
      · exact lt_tr l1 l2
      · rw [← e]; exact l1
      · omega
    simp [cmpS, l3]
  · rcases key b c with ⟨l1, _, h, k⟩ | ⟨_, h, k⟩ | ⟨_, _, h, k⟩ <;> try omega
    have l3 : a.toList < c.toList := by
      rcases key a b with ⟨l2, _, h', k'⟩ | ⟨e, h', k'⟩ | ⟨_, _, h', k'⟩
      · exact lt_tr l2 l1
      · rw [e]; exact l1
      · omega
    simp [cmpS, l3]
theorem cmpS_eq {a b : ByteArray} : cmpS a b = 0 ↔ a = b := by
  refine ⟨fun h => ?_, fun h => by rw [h]; exact cmpS_ord.zero b⟩
  unfold cmpS at h
  split at h
  · omega
  · split at h
    · omega
    · exact tl_inj (lt_tri (by assumption) (by assumption))
theorem beq_self (a : List UInt8) : (a == a) = true := by simp

set_option maxRecDepth 100000 in
set_option maxHeartbeats 400000 in
theorem compare_any (x y : ByteArray) (w : World) : Calls Try.prog 91 #[.string x, .string y] w fun e w' => e = .returned (.int .i64 (cmpS x y)) ∧ w' = w := by
  have b1 := beq_self x.toList
  have b2 := beq_self y.toList
  have e1 := _root_.Go.Proofs.bytesLess_eq x.toList y.toList
  by_cases h : x.toList < y.toList
  · have e : cmpS x y = -1 := by simp [cmpS, h]
    have hb : Op.bytesLess x.toList y.toList = true := by rw [e1]; simpa using h
    rw [e]
    clear e h e1
    go_enter Try.func91, Try.ntmps91
    go_wp2
    go_ret
    exact ⟨rfl, rfl⟩
  · have hb : Op.bytesLess x.toList y.toList = false := by rw [e1]; simpa using h
    by_cases k : y.toList < x.toList
    · have e : cmpS x y = 1 := by simp [cmpS, h, k]
      have hne : (x.toList == y.toList) = false := by
        simp only [beq_eq_false_iff_ne]; intro he; rw [he] at k; exact lt_irr _ k
      rw [e]
      clear e h e1 k
      go_enter Try.func91, Try.ntmps91
      go_wp2
      go_ret
      exact ⟨rfl, rfl⟩
    · have e : cmpS x y = 0 := by simp [cmpS, h, k]
      have hne : (x.toList == y.toList) = true := by
        rw [lt_tri h k]; exact beq_self _
      rw [e]
      clear e h e1 k
      go_enter Try.func91, Try.ntmps91
      go_wp2
      go_ret
      exact ⟨rfl, rfl⟩
end Go.Proofs.Ytchealdgncgjoaa.StS
