import Derived.Test.YtchealdgncgjoaaLfI
import Derived.Test.YtchealdgncgjoaaMrS
namespace Go.Proofs.Ytchealdgncgjoaa.St
open Go.ChangeShapes Go.WideShapes Go.ChangeAt Go.RowKit
open Go.Deep
set_option linter.unusedVariables false
theorem cellsOf111 : Try.prog.cellsOf 111 = 4 := by kernel_rfl
theorem bytesOf111 : Try.prog.bytesOf 111 = 32 := by kernel_rfl
theorem get4 {α : Type} {l : List α} (h : l.length = 4) : ∃ a b c d, l = [a, b, c, d] := by
  match l, h with
  | [a, b, c, d], _ => exact ⟨a, b, c, d, rfl⟩
section
variable {H : Type} {enc : TypeId × Value → H} {W : World}
theorem open_op1 {fuel : Nat} {cs0 : List Value} {x : DataW H × List MemPlace} (h : DataW.trod enc Try.prog W 0 (fun _ => true) true fuel 111 cs0 = some x) :
    ∃ s : StM.Op4, cs0 = [.int .i64 s.kd, .int .i64 s.mm, .int .i64 s.k, .int .i64 s.v] ∧ s.k ≤ 9223372036854775807 := by
  obtain ⟨xs, n, rfl, rfl, hl, hxl, hf⟩ := DataW.trod_struct Try.underlying111 h
  rw [cellsOf111] at hl
  obtain ⟨y0, y1, y2, y3, rfl⟩ := get4 (show xs.length = 4 from hxl)
  obtain ⟨v0, v1, v2, v3, rfl⟩ := get4 hl
  have f0 : DataW.trod enc Try.prog W 0 (fun _ => true) true n 3 [v0] = some y0 := by
    have g : DataW.trod enc Try.prog W 0 (fun _ => true) true n 3 (([v0, v1, v2, v3].drop 0).take (Try.prog.cellsOf 3)) = [y0, y1, y2, y3][0]? := hf 0 _ rfl
    rw [cellsOf3] at g; exact g
  have f1 : DataW.trod enc Try.prog W 0 (fun _ => true) true n 3 [v1] = some y1 := by
    have g : DataW.trod enc Try.prog W 0 (fun _ => true) true n 3 (([v0, v1, v2, v3].drop 1).take (Try.prog.cellsOf 3)) = [y0, y1, y2, y3][1]? := hf 1 _ rfl
    rw [cellsOf3] at g; exact g
  have f2 : DataW.trod enc Try.prog W 0 (fun _ => true) true n 3 [v2] = some y2 := by
    have g : DataW.trod enc Try.prog W 0 (fun _ => true) true n 3 (([v0, v1, v2, v3].drop 2).take (Try.prog.cellsOf 3)) = [y0, y1, y2, y3][2]? := hf 2 _ rfl
    rw [cellsOf3] at g; exact g
  have f3 : DataW.trod enc Try.prog W 0 (fun _ => true) true n 3 [v3] = some y3 := by
    have g : DataW.trod enc Try.prog W 0 (fun _ => true) true n 3 (([v0, v1, v2, v3].drop 3).take (Try.prog.cellsOf 3)) = [y0, y1, y2, y3][3]? := hf 3 _ rfl
    rw [cellsOf3] at g; exact g
  obtain ⟨k0, e0, _, b0⟩ := DataW.trod_int Try.underlying3 f0
  obtain rfl : v0 = .int .i64 k0 := by simpa using e0
  obtain ⟨k1, e1, _, b1⟩ := DataW.trod_int Try.underlying3 f1
  obtain rfl : v1 = .int .i64 k1 := by simpa using e1
  obtain ⟨k2, e2, _, b2⟩ := DataW.trod_int Try.underlying3 f2
  obtain rfl : v2 = .int .i64 k2 := by simpa using e2
  obtain ⟨k3, e3, _, b3⟩ := DataW.trod_int Try.underlying3 f3
  obtain rfl : v3 = .int .i64 k3 := by simpa using e3
  simp [Lit.wf, IntKind.min, IntKind.max, IntKind.signed, IntKind.bits] at b2
  exact ⟨⟨k0, k1, k2, k3⟩, rfl, by dsimp only; omega⟩
/-- a script that came in -/
theorem open_ops {v0 : Value} {d0 : DataW H} {p0 : List MemPlace} (h : DataW.Trod enc Try.prog W 0 (fun _ => true) true 105 v0 d0 p0) (hone : ∃ a len cap, v0 = .slice a len cap) (hw : ∀ n ∈ d0.weights Try.prog 105, n ≤ 140737488351232) :
    ∃ S : List StM.Op4, StM.Wo W v0 S ∧ S.length ≤ 4398046510976 := by
  obtain ⟨fuel, hf⟩ := h
  obtain ⟨a0, len0, cap0, rfl⟩ := hone
  have hf' : DataW.trod enc Try.prog W 0 (fun _ => true) true fuel 105 [.slice a0 len0 cap0] = some (d0, p0) := by simpa [Value.cells] using hf
  rcases open_slice Try.underlying105 hf' with ⟨hcs, hx⟩ | ⟨a, len, cap, m, n, D, Pl, hcs, _, hl, hm, hmm, hx, hel⟩
  · simp only [List.cons.injEq, and_true] at hcs
    rw [hcs]
    exact ⟨[], ⟨_, _, rfl, fun i s hi => by simp at hi⟩, by simp⟩
  · simp only [List.cons.injEq, and_true] at hcs
    rw [hcs]
    simp only [Prod.mk.injEq] at hx
    have hml : m = cap := by rw [hmm]; simp
    have each : ∀ i, i < len → ∃ s : StM.Op4, (∀ j, j < 4 → W.cell? (a.add (i * 4 + j)) = [Value.int .i64 s.kd, .int .i64 s.mm, .int .i64 s.k, .int .i64 s.v][j]?) ∧ s.k ≤ 9223372036854775807 := by
      intro i hi
      obtain ⟨cs', hc, ht⟩ := hel i (by omega)
      rw [cellsOf111] at hc
      obtain ⟨s, rfl, hfit⟩ := open_op1 ht
      refine ⟨s, fun j hj => ?_, hfit⟩
      obtain ⟨_, _, hcell⟩ := World.cells?_some hc
      have := hcell j hj
      rw [Deep.add_add] at this
      exact this
    haveI : Inhabited StM.Op4 := ⟨⟨0, 0, 0, 0⟩⟩
    obtain ⟨f, hf2⟩ := choose_lt (α := StM.Op4) each
    by_cases h0 : len = 0
    · subst h0
      exact ⟨[], ⟨_, _, rfl, fun i s hi => by simp at hi⟩, by simp⟩
    · have hsp : a.spot = none := by
        have h1 := (hf2 0 (by omega)).1 0 (by omega)
        have e : a.add (0 * 4 + 0) = a := by simp [Addr.add]
        rw [e] at h1
        simp only [List.getElem?_cons_zero] at h1
        exact spot_noneI h1
      obtain ⟨ab, ao, sp⟩ := a
      simp only at hsp
      subst hsp
      have hlb : len ≤ 4398046510976 := by
        have := hw ((((List.range len).map D).length + ((List.range (m - len)).map fun j => D (len + j)).length) * Try.prog.bytesOf 111) (by rw [hx.1]; simp [DataW.weights, Try.underlying105])
        rw [bytesOf111] at this
        simp only [List.length_map, List.length_range] at this
        omega
      refine ⟨(List.range len).map f, ⟨_, cap, by rw [List.length_map, List.length_range], fun i s hs => ⟨ab, ao, rfl, ?_⟩⟩, by simpa using hlb⟩
      have hi : i < len := by
        have := (List.getElem?_eq_some_iff.1 hs).1
        simpa using this
      have hs' : f i = s := by simpa [hi] using hs
      subst hs'
      obtain ⟨hc, hfit⟩ := hf2 i hi
      have c := fun j hj => hc j hj
      simp only [Addr.add_lit] at c
      refine ⟨by simpa using c 0 (by omega), ?_, ?_, ?_, hfit⟩
      · have := c 1 (by omega); rw [← Nat.add_assoc] at this; simpa using this
      · have := c 2 (by omega); rw [← Nat.add_assoc] at this; simpa using this
      · have := c 3 (by omega); rw [← Nat.add_assoc] at this; simpa using this
end
end Go.Proofs.Ytchealdgncgjoaa.St
