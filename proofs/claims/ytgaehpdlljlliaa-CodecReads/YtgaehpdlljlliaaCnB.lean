import Derived.Test.YtgaehpdlljlliaaCrJ
import Derived.Test.YtgaehpdlljlliaaCnA
namespace Go.Proofs.Ytgaehpdlljlliaa.Cd
open Go.RowKit
set_option linter.unusedVariables false

theorem canon_split {xs p r : List Int} {A : Nat} (h : p ++ r = xs.drop A) (hA : A ≤ xs.length) : xs.take (A + p.length) = xs.take A ++ p ∧ xs.drop (A + p.length) = r ∧ A + p.length ≤ xs.length := by
  have e : xs = xs.take A ++ (p ++ r) := by rw [h, List.take_append_drop]
  have hl : (xs.take A).length = A := by rw [List.length_take]; omega
  refine ⟨?_, ?_, ?_⟩
  · conv => lhs; rw [e]
    rw [← List.append_assoc, List.take_append_of_le_length (by rw [List.length_append]; omega), List.take_of_length_le (by rw [List.length_append]; omega)]
  · conv => lhs; rw [e]
    rw [← List.append_assoc, List.drop_append_of_le_length (by rw [List.length_append]; omega), List.drop_of_length_le (by rw [List.length_append]; omega), List.nil_append]
  · have := congrArg List.length e
    rw [List.length_append, List.length_append, hl] at this
    omega

theorem canon_lay {w : World} {b : Nat} {lim : Int} {v : Value} {ys : List Int} {t : Stp} (h : Wr w b lim 0 v ys) (f : Fit w t) (hT : isT t.kind = true) (hsep : t.bs ≠ [] → ∀ g, at? t.bv = some g → ¬ fp b v g) (h0 : 0 ≤ lim) (h1 : lim ≤ 16777216) (hroom : ((ys ++ tb t).length : Int) ≤ lim) :
    Calls Try.prog 15 #[.pointer (some ⟨b, 0, none⟩), .agg #[.int .i64 t.kind, .int .u64 t.N, .int .i64 t.I, .bool t.F, t.bv]] w fun e w' => e = .returned (.bool true) ∧ ∃ v', Wr w' b lim 0 v' (ys ++ tb t) ∧ Fr b v w w' v' := by
  rw [List.length_append] at hroom
  have L := lay_any h ⟨h0, h1, by omega⟩ t f hsep
  have e : layS lim 0 ys t = (0, ys ++ tb t) := by
    unfold layS
    rw [hT, if_pos rfl, put, if_pos rfl, if_pos (by omega)]
  rw [e] at L
  exact L

/-- a byte slice that came in, whole -/
def Dt (w : World) (v : Value) (xs : List Int) : Prop := Rd w v xs ∧ ∃ ad cap, v = .slice ad xs.length cap ∧ xs.length ≤ cap

/-- the first m bytes of what came in -/
theorem dt_take {w : World} {ad : Option Addr} {n cap m : Nat} {xs : List Int} (h : Rd w (.slice ad n cap) xs) (hm : m ≤ xs.length) : Rd w (.slice ad m cap) (xs.take m) := by
  have hl : (xs.take m).length = m := by rw [List.length_take]; omega
  rcases h with ⟨e, rfl⟩ | ⟨a, cap', e, hc⟩
  · cases e
    have : m = 0 := by simpa using hm
    subst this
    exact .inl ⟨rfl, rfl⟩
  · cases e
    refine .inr ⟨a, cap, by rw [hl], fun j u hj => hc j u ?_⟩
    simp only [cs, List.getElem?_map, List.getElem?_take] at hj ⊢
    split at hj
    · exact hj
    · simp at hj
end Go.Proofs.Ytgaehpdlljlliaa.Cd
