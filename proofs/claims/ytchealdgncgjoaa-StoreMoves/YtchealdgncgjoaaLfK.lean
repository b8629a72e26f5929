import Derived.Test.YtchealdgncgjoaaLf
import Derived.Test.YtchealdgncgjoaaMvF
import Derived.Deep.Slices
import Derived.Deep.Fields
namespace Go.Proofs.Ytchealdgncgjoaa.St
open Go.ChangeShapes Go.WideShapes Go.ChangeAt Go.RowKit
open Go.Deep
set_option linter.unusedVariables false
theorem cellsOf100 : Try.prog.cellsOf 100 = 3 := by kernel_rfl
theorem bytesOf100 : Try.prog.bytesOf 100 = 24 := by kernel_rfl
theorem cellsOf69K : Try.prog.cellsOf 69 = 1 := by kernel_rfl
theorem cellsOf4K : Try.prog.cellsOf 4 = 1 := by kernel_rfl
theorem bytesOf69K : Try.prog.bytesOf 69 = 8 := by kernel_rfl
theorem get3K {α : Type} {l : List α} (h : l.length = 3) : ∃ a b c, l = [a, b, c] := by
  match l, h with
  | [a, b, c], _ => exact ⟨a, b, c, rfl⟩
section
variable {H : Type} {enc : TypeId × Value → H} {W : World}
theorem spot_noneK {w : World} {a : Addr} {u : Value} (h : w.cell? a = some u) : a.spot = none := by
  unfold World.cell? at h
  split at h
  · split at h
    · cases h
    · rename_i _ hs; simpa using hs
  · cases h
/-- keys that came in -/
theorem open_keys {v0 : Value} {d0 : DataW H} {p0 : List MemPlace} (h : DataW.Trod enc Try.prog W 0 (fun _ => true) true 96 v0 d0 p0) (hone : ∃ a len cap, v0 = .slice a len cap) (hw : ∀ n ∈ d0.weights Try.prog 96, n ≤ 140737488351232) :
    ∃ S : List Int, StU.Wk W v0 S ∧ S.length ≤ 17592186043904 := by
  obtain ⟨fuel, hf⟩ := h
  obtain ⟨a0, len0, cap0, rfl⟩ := hone
  have hf' : DataW.trod enc Try.prog W 0 (fun _ => true) true fuel 96 [.slice a0 len0 cap0] = some (d0, p0) := by simpa [Value.cells] using hf
  rcases open_slice1 Try.underlying96 cellsOf69K hf' with ⟨hcs, hx⟩ | ⟨a, len, cap, m, n, V, D, Pl, hcs, _, hl, hm, hmm, hx, hel⟩
  · simp only [List.cons.injEq, and_true] at hcs
    rw [hcs]
    exact ⟨[], ⟨_, _, rfl, fun i s hi => by simp at hi⟩, by simp⟩
  · simp only [List.cons.injEq, and_true] at hcs
    rw [hcs]
    simp only [Prod.mk.injEq] at hx
    have hml : m = cap := by rw [hmm]; simp
    have each : ∀ i, i < len → ∃ s : Int, W.cell? (a.add i) = some (.int .u64 s) ∧ 0 ≤ s ∧ s ≤ 18446744073709551615 := by
      intro i hi
      obtain ⟨hc, ht⟩ := hel i (by omega)
      obtain ⟨t, e0, h0, b0⟩ := DataW.trod_int Try.underlying69 ht
      have e : V i = .int .u64 t := by simpa using e0
      rw [e] at hc
      simp [Lit.wf, IntKind.min, IntKind.max, IntKind.signed, IntKind.bits] at b0
      exact ⟨t, hc, by omega, by omega⟩
    obtain ⟨f, hf2⟩ := choose_lt (α := Int) each
    by_cases h0 : len = 0
    · subst h0
      exact ⟨[], ⟨_, _, rfl, fun i s hi => by simp at hi⟩, by simp⟩
    · have hsp : a.spot = none := by
        have h1 := (hf2 0 (by omega)).1
        have e : a.add 0 = a := by simp [Addr.add]
        rw [e] at h1
        exact spot_noneK h1
      obtain ⟨ab, ao, sp⟩ := a
      simp only at hsp
      subst hsp
      have hlb : len ≤ 17592186043904 := by
        have := hw ((((List.range len).map D).length + ((List.range (m - len)).map fun j => D (len + j)).length) * Try.prog.bytesOf 69) (by rw [hx.1]; simp [DataW.weights, Try.underlying96])
        rw [bytesOf69K] at this
        simp only [List.length_map, List.length_range] at this
        omega
      refine ⟨(List.range len).map f, ⟨_, cap, by rw [List.length_map, List.length_range], fun i s hs => ?_⟩, by simpa using hlb⟩
      have hi : i < len := by
        have := (List.getElem?_eq_some_iff.1 hs).1
        simpa using this
      have hs' : f i = s := by simpa [hi] using hs
      subst hs'
      obtain ⟨hc, h1, h2⟩ := hf2 i hi
      simp only [Addr.add_lit] at hc
      exact ⟨ab, ao, rfl, hc, h1, h2⟩
theorem open_move1 {fuel : Nat} {cs0 : List Value} {x : DataW H × List MemPlace} (h : DataW.trod enc Try.prog W 0 (fun _ => true) true fuel 100 cs0 = some x) :
    ∃ s : StU.Mv, cs0 = [.int .u64 s.lo, .int .u64 s.hi, .bool s.bk] := by
  obtain ⟨xs, n, rfl, rfl, hl, hxl, hf⟩ := DataW.trod_struct Try.underlying100 h
  rw [cellsOf100] at hl
  obtain ⟨y0, y1, y2, rfl⟩ := get3K (show xs.length = 3 from hxl)
  obtain ⟨v0, v1, v2, rfl⟩ := get3K hl
  have f0 : DataW.trod enc Try.prog W 0 (fun _ => true) true n 69 [v0] = some y0 := by
    have g : DataW.trod enc Try.prog W 0 (fun _ => true) true n 69 (([v0, v1, v2].drop 0).take (Try.prog.cellsOf 69)) = [y0, y1, y2][0]? := hf 0 _ rfl
    rw [cellsOf69K] at g; exact g
  have f1 : DataW.trod enc Try.prog W 0 (fun _ => true) true n 69 [v1] = some y1 := by
    have g : DataW.trod enc Try.prog W 0 (fun _ => true) true n 69 (([v0, v1, v2].drop 1).take (Try.prog.cellsOf 69)) = [y0, y1, y2][1]? := hf 1 _ rfl
    rw [cellsOf69K] at g; exact g
  have f2 : DataW.trod enc Try.prog W 0 (fun _ => true) true n 4 [v2] = some y2 := by
    have g : DataW.trod enc Try.prog W 0 (fun _ => true) true n 4 (([v0, v1, v2].drop 2).take (Try.prog.cellsOf 4)) = [y0, y1, y2][2]? := hf 2 _ rfl
    rw [cellsOf4K] at g; exact g
  obtain ⟨k0, e0, _, b0⟩ := DataW.trod_int Try.underlying69 f0
  obtain rfl : v0 = .int .u64 k0 := by simpa using e0
  obtain ⟨k1, e1, _, b1⟩ := DataW.trod_int Try.underlying69 f1
  obtain rfl : v1 = .int .u64 k1 := by simpa using e1
  obtain ⟨k2, e2, _⟩ := DataW.trod_bool Try.underlying4 f2
  obtain rfl : v2 = .bool k2 := by simpa using e2
  exact ⟨⟨k0, k1, k2⟩, rfl⟩
/-- moves that came in -/
theorem open_moves {v0 : Value} {d0 : DataW H} {p0 : List MemPlace} (h : DataW.Trod enc Try.prog W 0 (fun _ => true) true 97 v0 d0 p0) (hone : ∃ a len cap, v0 = .slice a len cap) (hw : ∀ n ∈ d0.weights Try.prog 97, n ≤ 140737488351232) :
    ∃ S : List StU.Mv, StU.Wm W v0 S ∧ S.length ≤ 17592186043904 := by
  obtain ⟨fuel, hf⟩ := h
  obtain ⟨a0, len0, cap0, rfl⟩ := hone
  have hf' : DataW.trod enc Try.prog W 0 (fun _ => true) true fuel 97 [.slice a0 len0 cap0] = some (d0, p0) := by simpa [Value.cells] using hf
  rcases open_slice Try.underlying97 hf' with ⟨hcs, hx⟩ | ⟨a, len, cap, m, n, D, Pl, hcs, _, hl, hm, hmm, hx, hel⟩
  · simp only [List.cons.injEq, and_true] at hcs
    rw [hcs]
    exact ⟨[], ⟨_, _, rfl, fun i s hi => by simp at hi⟩, by simp⟩
  · simp only [List.cons.injEq, and_true] at hcs
    rw [hcs]
    simp only [Prod.mk.injEq] at hx
    have hml : m = cap := by rw [hmm]; simp
    have each : ∀ i, i < len → ∃ s : StU.Mv, ∀ j, j < 3 → W.cell? (a.add (i * 3 + j)) = [Value.int .u64 s.lo, .int .u64 s.hi, .bool s.bk][j]? := by
      intro i hi
      obtain ⟨cs', hc, ht⟩ := hel i (by omega)
      rw [cellsOf100] at hc
      obtain ⟨s, rfl⟩ := open_move1 ht
      refine ⟨s, fun j hj => ?_⟩
      obtain ⟨_, _, hcell⟩ := World.cells?_some hc
      have := hcell j hj
      rw [Deep.add_add] at this
      exact this
    haveI : Inhabited StU.Mv := ⟨⟨0, 0, false⟩⟩
    obtain ⟨f, hf2⟩ := choose_lt (α := StU.Mv) each
    by_cases h0 : len = 0
    · subst h0
      exact ⟨[], ⟨_, _, rfl, fun i s hi => by simp at hi⟩, by simp⟩
    · have hsp : a.spot = none := by
        have h1 := hf2 0 (by omega) 0 (by omega)
        have e : a.add (0 * 3 + 0) = a := by simp [Addr.add]
        rw [e] at h1
        simp only [List.getElem?_cons_zero] at h1
        exact spot_noneK h1
      obtain ⟨ab, ao, sp⟩ := a
      simp only at hsp
      subst hsp
      have hlb : len ≤ 17592186043904 := by
        have := hw ((((List.range len).map D).length + ((List.range (m - len)).map fun j => D (len + j)).length) * Try.prog.bytesOf 100) (by rw [hx.1]; simp [DataW.weights, Try.underlying97])
        rw [bytesOf100] at this
        simp only [List.length_map, List.length_range] at this
        omega
      refine ⟨(List.range len).map f, ⟨_, cap, by rw [List.length_map, List.length_range], fun i s hs => ⟨ab, ao, rfl, ?_⟩⟩, by simpa using hlb⟩
      have hi : i < len := by
        have := (List.getElem?_eq_some_iff.1 hs).1
        simpa using this
      have hs' : f i = s := by simpa [hi] using hs
      subst hs'
      have c := fun j hj => hf2 i hi j hj
      simp only [Addr.add_lit] at c
      refine ⟨by simpa using c 0 (by omega), ?_, ?_⟩
      · have := c 1 (by omega); rw [← Nat.add_assoc] at this; simpa using this
      · have := c 2 (by omega); rw [← Nat.add_assoc] at this; simpa using this
end
end Go.Proofs.Ytchealdgncgjoaa.St
