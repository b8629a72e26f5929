import Derived.Test.YtchealdgncgjoaaNdDI
import Derived.ProofKit
import Derived.OpenShut
import Derived.SizedLaws
import Derived.Carry
import Derived.Deep.Slices
import Derived.Deep.Fields
import Derived.Deep.Strs
import Derived.Test.YtchealdgncgjoaaFiA
namespace Go.Proofs.Ytchealdgncgjoaa.St
open Go.ChangeShapes Go.WideShapes Go.ChangeAt Go.RowKit
open Go.Deep
set_option linter.unusedVariables false

theorem ownK : ownKnob Try.prog.godebug = none := by kernel_rfl
theorem cellsOf3 : Try.prog.cellsOf 3 = 1 := by kernel_rfl
theorem bytesOf3 : Try.prog.bytesOf 3 = 8 := by kernel_rfl
theorem cellsOf9 : Try.prog.cellsOf 9 = 1 := by kernel_rfl
theorem bytesOf9 : Try.prog.bytesOf 9 = 16 := by kernel_rfl
section
variable {H : Type} {enc : TypeId × Value → H} {W : World}
theorem sized_at {ts : List TypeId} {ds : List (DataW H)} (h : (DataW.weightsEach Try.prog ts ds).all (· ≤ reachBytes) = true) (j : Nat) {t : TypeId} {d : DataW H} (ht : ts[j]? = some t) (hd : ds[j]? = some d) : ∀ n ∈ d.weights Try.prog t, n ≤ 140737488351232 := by
  intro n hn
  have := List.all_eq_true.1 h n (DataW.weights_mem_each ht hd n hn)
  exact of_decide_eq_true this
end
end Go.Proofs.Ytchealdgncgjoaa.St
namespace Go.Proofs.Ytchealdgncgjoaa.St
open Go.ChangeShapes Go.WideShapes Go.ChangeAt Go.RowKit
open Go.Deep
set_option linter.unusedVariables false
theorem spot_noneI {w : World} {a : Addr} {u : Value} (h : w.cell? a = some u) : a.spot = none := by
  unfold World.cell? at h
  split at h
  · split at h
    · cases h
    · rename_i _ hs; simpa using hs
  · cases h
section
variable {H : Type} {enc : TypeId × Value → H} {W : World}
/-- numbers that came in -/
theorem open_ints {v0 : Value} {d0 : DataW H} {p0 : List MemPlace} (h : DataW.Trod enc Try.prog W 0 (fun _ => true) true 47 v0 d0 p0) (hone : ∃ a len cap, v0 = .slice a len cap) (hw : ∀ n ∈ d0.weights Try.prog 47, n ≤ 140737488351232) :
    ∃ S : List Int, StI.Wi W v0 S ∧ S.length ≤ 17592186043904 := by
  obtain ⟨fuel, hf⟩ := h
  obtain ⟨a0, len0, cap0, rfl⟩ := hone
  have hf' : DataW.trod enc Try.prog W 0 (fun _ => true) true fuel 47 [.slice a0 len0 cap0] = some (d0, p0) := by simpa [Value.cells] using hf
  rcases open_slice1 Try.underlying47 cellsOf3 hf' with ⟨hcs, hx⟩ | ⟨a, len, cap, m, n, V, D, Pl, hcs, _, hl, hm, hmm, hx, hel⟩
  · simp only [List.cons.injEq, and_true] at hcs
    rw [hcs]
    exact ⟨[], ⟨_, _, rfl, fun i s hi => by simp at hi⟩, by simp⟩
  · simp only [List.cons.injEq, and_true] at hcs
    rw [hcs]
    simp only [Prod.mk.injEq] at hx
    have hml : m = cap := by rw [hmm]; simp
    have each : ∀ i, i < len → ∃ s : Int, W.cell? (a.add i) = some (.int .i64 s) := by
      intro i hi
      obtain ⟨hc, ht⟩ := hel i (by omega)
      obtain ⟨t, e0, h0, _⟩ := DataW.trod_int Try.underlying3 ht
      have e : V i = .int .i64 t := by simpa using e0
      rw [e] at hc
      exact ⟨t, hc⟩
    obtain ⟨f, hf2⟩ := choose_lt (α := Int) each
    by_cases h0 : len = 0
    · subst h0
      exact ⟨[], ⟨_, _, rfl, fun i s hi => by simp at hi⟩, by simp⟩
    · have hsp : a.spot = none := by
        have h1 := hf2 0 (by omega)
        have e : a.add 0 = a := by simp [Addr.add]
        rw [e] at h1
        exact spot_noneI h1
      obtain ⟨ab, ao, sp⟩ := a
      simp only at hsp
      subst hsp
      have hlb : len ≤ 17592186043904 := by
        have := hw ((((List.range len).map D).length + ((List.range (m - len)).map fun j => D (len + j)).length) * Try.prog.bytesOf 3) (by rw [hx.1]; simp [DataW.weights, Try.underlying47])
        rw [bytesOf3] at this
        simp only [List.length_map, List.length_range] at this
        omega
      refine ⟨(List.range len).map f, ⟨_, cap, by rw [List.length_map, List.length_range], fun i s hs => ?_⟩, by simpa using hlb⟩
      have hi : i < len := by
        have := (List.getElem?_eq_some_iff.1 hs).1
        simpa using this
      have hs' : f i = s := by simpa [hi] using hs
      subst hs'
      have hc := hf2 i hi
      simp only [Addr.add_lit] at hc
      exact ⟨ab, ao, rfl, hc⟩
end
end Go.Proofs.Ytchealdgncgjoaa.St
