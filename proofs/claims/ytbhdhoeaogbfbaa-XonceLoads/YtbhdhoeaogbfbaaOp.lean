import Derived.Test.YtbhdhoeaogbfbaaKpA
import Derived.ProofKit
import Derived.OpenShut
import Derived.SizedLaws
import Derived.Carry
import Derived.Deep.Slices
import Derived.Deep.Fields
namespace Go.Proofs.Ytbhdhoeaogbfbaa.Xo
open Go.ChangeShapes Go.WideShapes Go.ChangeAt Go.RowKit
open Go.Deep
set_option linter.unusedVariables false

theorem ownK : ownKnob Try.prog.godebug = none := by kernel_rfl
theorem cellsOf5 : Try.prog.cellsOf 5 = 1 := by kernel_rfl
theorem bytesOf5 : Try.prog.bytesOf 5 = 1 := by kernel_rfl
def Byt (ys : List Int) : Prop := ∀ y ∈ ys, 0 ≤ y ∧ y ≤ 255
section
variable {H : Type} {enc : TypeId × Value → H} {W : World}
/-- a slice of bytes that came in -/
theorem open_bytes {fuel : Nat} {cs0 : List Value} {x : DataW H × List MemPlace} (h : DataW.trod enc Try.prog W 0 (fun _ => true) true fuel 45 cs0 = some x) :
    ∃ (v : Value) (bs : List Int), cs0 = [v] ∧ Rd W v bs ∧ Byt bs ∧ ((x.1 = .nil ∧ bs = []) ∨ ∃ el sp, x.1 = .slice el sp ∧ el.length = bs.length) := by
  rcases open_ints Try.underlying45 Try.underlying5 cellsOf5 h with ⟨rfl, rfl⟩ | ⟨a, len, cap, zs, rfl, _, hl, hm, hz, rfl, hcell, hwz⟩
  · exact ⟨_, [], rfl, .inl ⟨rfl, rfl⟩, (fun z hz => by simp at hz), .inl ⟨rfl, rfl⟩⟩
  · have hzl : (zs.take len).length = len := by
      rw [List.length_take, hz]
      simp
      omega
    refine ⟨_, zs.take len, rfl, .inr ⟨a, cap, by rw [hzl], fun j u hj => ?_⟩, ?_, .inr ⟨_, _, rfl, ?_⟩⟩
    · have hj2 : j < len := by
        have := (List.getElem?_eq_some_iff.1 hj).1
        rw [cs_length, hzl] at this
        exact this
      have hj3 : j < zs.length := by rw [hz]; simp; omega
      have := hcell j hj3
      rw [this]
      rw [← hj]
      simp [cs, hj2, hj3]
    · intro z hz'
      have := hwz z (List.mem_of_mem_take hz')
      simpa [Lit.wf, IntKind.min, IntKind.max, IntKind.signed, IntKind.bits] using this
    · simp [lits]

theorem sized_at {ts : List TypeId} {ds : List (DataW H)} (h : (DataW.weightsEach Try.prog ts ds).all (· ≤ reachBytes) = true) (j : Nat) {t : TypeId} {d : DataW H} (ht : ts[j]? = some t) (hd : ds[j]? = some d) : ∀ n ∈ d.weights Try.prog t, n ≤ 140737488351232 := by
  intro n hn
  have := List.all_eq_true.1 h n (DataW.weights_mem_each ht hd n hn)
  exact of_decide_eq_true this
theorem open_at {t : TypeId} {v0 : Value} {d0 : DataW H} {p0 : List MemPlace} (h : DataW.Trod enc Try.prog W 0 (fun _ => true) true t v0 d0 p0) (hone : v0.cells.toList = [v0]) : ∃ fuel, DataW.trod enc Try.prog W 0 (fun _ => true) true fuel t [v0] = some (d0, p0) := by
  obtain ⟨fuel, hf⟩ := h
  exact ⟨fuel, by rw [← hone]; exact hf⟩
end
end Go.Proofs.Ytbhdhoeaogbfbaa.Xo
