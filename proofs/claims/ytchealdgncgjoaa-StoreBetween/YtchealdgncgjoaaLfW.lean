import Derived.Test.YtchealdgncgjoaaLf
import Derived.Test.YtchealdgncgjoaaPlB
namespace Go.Proofs.Ytchealdgncgjoaa.St
open Go.ChangeShapes Go.WideShapes Go.ChangeAt Go.RowKit
open Go.Deep
set_option linter.unusedVariables false
theorem spot_none {w : World} {a : Addr} {u : Value} (h : w.cell? a = some u) : a.spot = none := by
  unfold World.cell? at h
  split at h
  · split at h
    · cases h
    · rename_i _ hs; simpa using hs
  · cases h
section
variable {H : Type} {enc : TypeId × Value → H} {W : World}
/-- words that came in -/
theorem open_words {v0 : Value} {d0 : DataW H} {p0 : List MemPlace} (h : DataW.Trod enc Try.prog W 0 (fun _ => true) true 36 v0 d0 p0) (hone : ∃ a len cap, v0 = .slice a len cap) (hw : ∀ n ∈ d0.weights Try.prog 36, n ≤ 140737488351232) :
    ∃ S : List ByteArray, StS.Wd W v0 S ∧ S.length < 2 ^ 59 := by
  obtain ⟨fuel, hf⟩ := h
  obtain ⟨a0, len0, cap0, rfl⟩ := hone
  have hf' : DataW.trod enc Try.prog W 0 (fun _ => true) true fuel 36 [.slice a0 len0 cap0] = some (d0, p0) := by simpa [Value.cells] using hf
  rcases open_slice1 Try.underlying36 cellsOf9 hf' with ⟨hcs, hx⟩ | ⟨a, len, cap, m, n, V, D, Pl, hcs, _, hl, hm, hmm, hx, hel⟩
  · simp only [List.cons.injEq, and_true] at hcs
    rw [hcs]
    exact ⟨[], ⟨_, _, rfl, fun i s hi => by simp at hi⟩, by simp⟩
  · simp only [List.cons.injEq, and_true] at hcs
    rw [hcs]
    simp only [Prod.mk.injEq] at hx
    have hml : m = cap := by rw [hmm]; simp
    have each : ∀ i, i < len → ∃ s : ByteArray, W.cell? (a.add i) = some (.string s) := by
      intro i hi
      obtain ⟨hc, ht⟩ := hel i (by omega)
      obtain ⟨t, e0, h0, _⟩ := DataW.trod_string Try.underlying9 ht
      have e : V i = .string t := by simpa using e0
      rw [e] at hc
      exact ⟨t, hc⟩
    haveI : Inhabited ByteArray := ⟨⟨#[]⟩⟩
    obtain ⟨f, hf2⟩ := choose_lt (α := ByteArray) each
    by_cases h0 : len = 0
    · subst h0
      exact ⟨[], ⟨_, _, rfl, fun i s hi => by simp at hi⟩, by simp⟩
    · have hsp : a.spot = none := by
        have h1 := hf2 0 (by omega)
        have e : a.add 0 = a := by simp [Addr.add]
        rw [e] at h1
        exact spot_none h1
      obtain ⟨ab, ao, sp⟩ := a
      simp only at hsp
      subst hsp
      have hlb : len < 2 ^ 59 := by
        have := hw ((((List.range len).map D).length + ((List.range (m - len)).map fun j => D (len + j)).length) * Try.prog.bytesOf 9) (by rw [hx.1]; simp [DataW.weights, Try.underlying36])
        rw [bytesOf9] at this
        simp only [List.length_map, List.length_range] at this
        omega
      refine ⟨(List.range len).map f, ⟨_, cap, by rw [List.length_map, List.length_range], fun i s hs => ?_⟩, by simpa using hlb⟩
      have hi : i < len := by
        have := (List.getElem?_eq_some_iff.1 hs).1
        simpa using this
      have hs' : f i = s := by simpa [hi] using hs
      subst hs'
      have hc := hf2 i hi
      simp only [Addr.add_lit] at hc
      exact ⟨ab, ao, rfl, hc⟩
end
end Go.Proofs.Ytchealdgncgjoaa.St
