import Derived.Test.YtbifmcadllilhaaGreatPnF
import Derived.ProofKit
import Derived.OpenShut
import Derived.SizedLaws
import Derived.Carry
import Derived.Deep.Slices
import Derived.Deep.Fields
import Derived.Test.YtbifmcadllilhaaGreatPdL
namespace Go.Proofs.YtbifmcadllilhaaGreat.Pn
open Go.ChangeShapes Go.WideShapes Go.ChangeAt Go.RowKit
open Go.Deep
set_option linter.unusedVariables false
theorem ownK : ownKnob Tryz.prog.godebug = none := by kernel_rfl
theorem laidOut : laidOutB Tryz.prog = true := by kernel_rfl
theorem cellsOf3 : Tryz.prog.cellsOf 3 = 1 := by kernel_rfl
theorem bytesOf3 : Tryz.prog.bytesOf 3 = 8 := by kernel_rfl
section
variable {H : Type} {enc : TypeId × Value → H} {W : World}
theorem sized_at {ts : List TypeId} {ds : List (DataW H)} (h : (DataW.weightsEach Tryz.prog ts ds).all (· ≤ reachBytes) = true) (j : Nat) {t : TypeId} {d : DataW H} (ht : ts[j]? = some t) (hd : ds[j]? = some d) : ∀ n ∈ d.weights Tryz.prog t, n ≤ 140737488351232 := by
  intro n hn
  have := List.all_eq_true.1 h n (DataW.weights_mem_each ht hd n hn)
  exact of_decide_eq_true this
/-- an order that came in -/
theorem open_order {v0 : Value} {d0 : DataW H} {p0 : List MemPlace} (h : DataW.Trod enc Tryz.prog W 0 (fun _ => true) true 45 v0 d0 p0) (hone : ∃ a len cap, v0 = .slice a len cap) (hw : ∀ n ∈ d0.weights Tryz.prog 45, n ≤ 140737488351232) :
    ∃ a c o, v0 = .slice a o.length c ∧ Ns W (.slice a o.length c) o ∧ (a = none → c = 0) ∧ o.length * 8 ≤ 140737488351232 := by
  obtain ⟨fuel, hf⟩ := h
  obtain ⟨a0, len0, cap0, rfl⟩ := hone
  have hf' : DataW.trod enc Tryz.prog W 0 (fun _ => true) true fuel 45 [.slice a0 len0 cap0] = some (d0, p0) := by simpa [Value.cells] using hf
  rcases open_ints Tryz.underlying45 Tryz.underlying3 cellsOf3 hf' with ⟨hcs, _⟩ | ⟨a, len, cap, zs, hcs, _, hl, hm, hz, hx, hcell, hwz⟩
  · simp only [List.cons.injEq, and_true, Value.slice.injEq] at hcs
    obtain ⟨rfl, rfl, rfl⟩ := hcs
    exact ⟨none, 0, [], rfl, ⟨none, 0, rfl, by simp, fun j x hx => by simp at hx⟩, fun _ => rfl, by simp⟩
  · simp only [List.cons.injEq, and_true, Value.slice.injEq] at hcs
    obtain ⟨rfl, rfl, rfl⟩ := hcs
    have hzl : (zs.take len0).length = len0 := by
      rw [List.length_take, hz]
      simp
      omega
    refine ⟨some a, cap0, zs.take len0, by rw [hzl], ⟨some a, cap0, rfl, by rw [hzl]; exact hl, fun j x hj => ⟨a, rfl, ?_⟩⟩, (fun e => by cases e), ?_⟩
    · have hj2 : j < len0 := by
        have := (List.getElem?_eq_some_iff.1 hj).1
        rw [hzl] at this
        exact this
      have hj3 : j < zs.length := by rw [hz]; simp; omega
      have := hcell j hj3
      rw [this]
      rw [List.getElem?_take_of_lt hj2] at hj
      have e : zs.getD j 0 = x := by
        rw [List.getD_eq_getElem?_getD, hj]
        rfl
      rw [e]
    · have hd : d0 = _ := congrArg Prod.fst hx
      have := hw _ (by rw [hd]; simp [DataW.weights, Tryz.underlying45]; exact .inl rfl)
      rw [bytesOf3] at this
      have e1 : (lits IntKind.i64 (List.take len0 zs) : List (DataW H)).length = (List.take len0 zs).length := by simp [lits]
      rw [e1, hzl] at this
      rw [hzl]
      omega
end
end Go.Proofs.YtbifmcadllilhaaGreat.Pn
namespace Go.Proofs.YtbifmcadllilhaaGreat.Rg
open Go.ChangeShapes Go.WideShapes Go.ChangeAt Go.RowKit
open Go.Deep
set_option linter.unusedVariables false
theorem cellsOf56 : Tryz.prog.cellsOf 24 = 1 := by kernel_rfl
theorem bytesOf56 : Tryz.prog.bytesOf 24 = 8 := by kernel_rfl
section
variable {H : Type} {enc : TypeId × Value → H} {W : World}
/-- a nil slice that came in has no room -/
theorem open_nil {t e : TypeId} {v0 : Value} {d0 : DataW H} {p0 : List MemPlace} (ht : Tryz.prog.underlying t = some (.slice e)) (h : DataW.Trod enc Tryz.prog W 0 (fun _ => true) true t v0 d0 p0) : ∀ m c, v0 = .slice none m c → c = 0 := by
  rintro m c rfl
  obtain ⟨fuel, hf⟩ := h
  have hf' : DataW.trod enc Tryz.prog W 0 (fun _ => true) true fuel t [.slice none m c] = some (d0, p0) := by simpa [Value.cells] using hf
  rcases open_slice ht hf' with ⟨hcs, hx⟩ | ⟨a, len, cap, m', n, D, Pl, hcs, _⟩
  · simp only [List.cons.injEq, and_true, Value.slice.injEq] at hcs
    exact hcs.2.2
  · simp only [List.cons.injEq, and_true, Value.slice.injEq] at hcs
    exact absurd hcs.1 (by simp)
/-- keys that came in -/
theorem open_keys {v0 : Value} {d0 : DataW H} {p0 : List MemPlace} (h : DataW.Trod enc Tryz.prog W 0 (fun _ => true) true 23 v0 d0 p0) (hone : ∃ a len cap, v0 = .slice a len cap) (hw : ∀ n ∈ d0.weights Tryz.prog 23, n ≤ 140737488351232) :
    ∃ a c o, v0 = .slice a o.length c ∧ Us W (.slice a o.length c) o ∧ (a = none → c = 0) ∧ o.length * 8 ≤ 140737488351232 ∧ (∀ x ∈ o, 0 ≤ x ∧ x < 18446744073709551616) := by
  obtain ⟨fuel, hf⟩ := h
  obtain ⟨a0, len0, cap0, rfl⟩ := hone
  have hf' : DataW.trod enc Tryz.prog W 0 (fun _ => true) true fuel 23 [.slice a0 len0 cap0] = some (d0, p0) := by simpa [Value.cells] using hf
  rcases open_ints Tryz.underlying23 Tryz.underlying24 cellsOf56 hf' with ⟨hcs, _⟩ | ⟨a, len, cap, zs, hcs, _, hl, hm, hz, hx, hcell, hwz⟩
  · simp only [List.cons.injEq, and_true, Value.slice.injEq] at hcs
    obtain ⟨rfl, rfl, rfl⟩ := hcs
    exact ⟨none, 0, [], rfl, ⟨none, 0, rfl, by simp, fun j x hx => by simp at hx⟩, fun _ => rfl, by simp, fun x hx => by cases hx⟩
  · simp only [List.cons.injEq, and_true, Value.slice.injEq] at hcs
    obtain ⟨rfl, rfl, rfl⟩ := hcs
    have hzl : (zs.take len0).length = len0 := by
      rw [List.length_take, hz]
      simp
      omega
    refine ⟨some a, cap0, zs.take len0, by rw [hzl], ⟨some a, cap0, rfl, by rw [hzl]; exact hl, fun j x hj => ⟨a, rfl, ?_⟩⟩, (fun e => by cases e), ?_, ?_⟩
    · have hj2 : j < len0 := by
        have := (List.getElem?_eq_some_iff.1 hj).1
        rw [hzl] at this
        exact this
      have hj3 : j < zs.length := by rw [hz]; simp; omega
      have := hcell j hj3
      rw [this]
      rw [List.getElem?_take_of_lt hj2] at hj
      have e : zs.getD j 0 = x := by
        rw [List.getD_eq_getElem?_getD, hj]
        rfl
      rw [e]
    · have hd : d0 = _ := congrArg Prod.fst hx
      have := hw _ (by rw [hd]; simp [DataW.weights, Tryz.underlying23]; exact .inl rfl)
      rw [bytesOf56] at this
      have e1 : (lits IntKind.u64 (List.take len0 zs) : List (DataW H)).length = (List.take len0 zs).length := by simp [lits]
      rw [e1, hzl] at this
      rw [hzl]
      omega
    · intro z hz'
      have := hwz z (List.mem_of_mem_take hz')
      simp [Lit.wf, IntKind.min, IntKind.max, IntKind.signed, IntKind.bits] at this
      omega
end
end Go.Proofs.YtbifmcadllilhaaGreat.Rg
