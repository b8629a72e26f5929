import Derived.Test.YthajboipnjjgfaaLyO
import Derived.ProofKit
import Derived.OpenShut
import Derived.SizedLaws
import Derived.Carry
import Derived.Deep.Slices
import Derived.Deep.Fields
namespace Go.Proofs.Ythajboipnjjgfaa.Ly
open Go.ChangeShapes Go.WideShapes Go.ChangeAt Go.RowKit
open Go.Deep
set_option linter.unusedVariables false

theorem ownK : ownKnob Try.prog.godebug = none := by kernel_rfl
theorem cellsOf3 : Try.prog.cellsOf 3 = 1 := by kernel_rfl
theorem cellsOf4 : Try.prog.cellsOf 4 = 1 := by kernel_rfl
theorem cellsOf22 : Try.prog.cellsOf 22 = 1 := by kernel_rfl
theorem cellsOf25 : Try.prog.cellsOf 25 = 1 := by kernel_rfl
theorem cellsOf5 : Try.prog.cellsOf 5 = 1 := by kernel_rfl
theorem cellsOf55 : Try.prog.cellsOf 55 = 7 := by kernel_rfl
theorem bytesOf55 : Try.prog.bytesOf 55 = 88 := by kernel_rfl
theorem bytesOf5 : Try.prog.bytesOf 5 = 1 := by kernel_rfl
theorem bytesOf3 : Try.prog.bytesOf 3 = 8 := by kernel_rfl

theorem spot_none {w : World} {a : Addr} {u : Value} (h : w.cell? a = some u) : a.spot = none := by
  unfold World.cell? at h
  split at h
  · split at h
    · cases h
    · rename_i _ hs; simpa using hs
  · cases h

def Byt (ys : List Int) : Prop := ∀ y ∈ ys, 0 ≤ y ∧ y ≤ 255

section
variable {H : Type} {enc : TypeId × Value → H} {W : World}

/-- a slice of bytes that came in -/
theorem open_bytes {fuel : Nat} {cs0 : List Value} {x : DataW H × List MemPlace} (h : DataW.trod enc Try.prog W 0 (fun _ => true) true fuel 25 cs0 = some x) :
    ∃ (v : Value) (bs : List Int), cs0 = [v] ∧ Rd W v bs ∧ Byt bs ∧ ((x.1 = .nil ∧ bs = []) ∨ ∃ el sp, x.1 = .slice el sp ∧ el.length = bs.length) := by
  rcases open_ints Try.underlying25 Try.underlying5 cellsOf5 h with ⟨rfl, rfl⟩ | ⟨a, len, cap, zs, rfl, _, hl, hm, hz, rfl, hcell, hwz⟩
  · exact ⟨_, [], rfl, .inl ⟨rfl, rfl⟩, (fun z hz => by simp at hz), .inl ⟨rfl, rfl⟩⟩
  · have hzl : (zs.take len).length = len := by
      rw [List.length_take, hz]
      simp
      omega
    refine ⟨_, zs.take len, rfl, .inr ⟨a, cap, by rw [hzl], fun j u hj => ?_⟩, ?_, .inr ⟨_, _, rfl, ?_⟩⟩
    · have hj2 : j < len := by
        have := (List.getElem?_eq_some_iff.1 hj).1
        rw [cs_length, hzl] at this
        exact this
      have hj3 : j < zs.length := by rw [hz]; simp; omega
      have := hcell j hj3
      rw [this]
      rw [← hj]
      simp [cs, hj2, hj3]
    · intro z hz'
      have := hwz z (List.mem_of_mem_take hz')
      simpa [Lit.wf, IntKind.min, IntKind.max, IntKind.signed, IntKind.bits] using this
    · simp [lits]

/-- a slice of ints that came in -/
theorem open_places {fuel : Nat} {cs0 : List Value} {x : DataW H × List MemPlace} (h : DataW.trod enc Try.prog W 0 (fun _ => true) true fuel 22 cs0 = some x) :
    ∃ (v : Value) (xs : List Int), cs0 = [v] ∧ RdI W v xs ∧ (xs.length : Int) ≤ 9223372036854775807 := by
  rcases open_ints Try.underlying22 Try.underlying3 cellsOf3 h with ⟨rfl, rfl⟩ | ⟨a, len, cap, zs, rfl, _, hl, hm, hz, rfl, hcell, hwz⟩
  · exact ⟨_, [], rfl, .inl ⟨⟨_, _, rfl⟩, rfl⟩, by simp⟩
  · have hzl : (zs.take len).length = len := by
      rw [List.length_take, hz]
      simp
      omega
    have hlen : len ≤ 9223372036854775807 := by
      unfold maxLen at hm
      omega
    refine ⟨_, zs.take len, rfl, ?_, by rw [hzl]; omega⟩
    by_cases h0 : len = 0
    · subst h0
      exact .inl ⟨⟨_, _, rfl⟩, by simp⟩
    · have hz0 : 0 < zs.length := by rw [hz]; simp; omega
      have c0 := hcell 0 hz0
      have hsp : a.spot = none := by
        have := spot_none c0
        simpa [Addr.add] using this
      obtain ⟨ab, ao, sp⟩ := a
      simp only at hsp
      subst hsp
      refine .inr ⟨ab, ao, cap, by rw [hzl], fun i y hi => ?_⟩
      have hi2 : i < len := by
        have := (List.getElem?_eq_some_iff.1 hi).1
        rw [hzl] at this
        exact this
      have hi3 : i < zs.length := by rw [hz]; simp; omega
      have := hcell i hi3
      rw [Addr.add_lit] at this
      rw [this]
      rw [List.getElem?_take_of_lt hi2, List.getElem?_eq_getElem hi3] at hi
      simp at hi
      simp [hi3, hi]

theorem sized_at {ts : List TypeId} {ds : List (DataW H)} (h : (DataW.weightsEach Try.prog ts ds).all (· ≤ reachBytes) = true) (j : Nat) {t : TypeId} {d : DataW H} (ht : ts[j]? = some t) (hd : ds[j]? = some d) : ∀ n ∈ d.weights Try.prog t, n ≤ 140737488351232 := by
  intro n hn
  have := List.all_eq_true.1 h n (DataW.weights_mem_each ht hd n hn)
  exact of_decide_eq_true this
theorem open_at {t : TypeId} {v0 : Value} {d0 : DataW H} {p0 : List MemPlace} (h : DataW.Trod enc Try.prog W 0 (fun _ => true) true t v0 d0 p0) (hone : v0.cells.toList = [v0]) : ∃ fuel, DataW.trod enc Try.prog W 0 (fun _ => true) true fuel t [v0] = some (d0, p0) := by
  obtain ⟨fuel, hf⟩ := h
  exact ⟨fuel, by rw [← hone]; exact hf⟩
end
end Go.Proofs.Ythajboipnjjgfaa.Ly
