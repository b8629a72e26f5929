import Derived.Test.YtchealdgncgjoaaLf
import Derived.Test.YtchealdgncgjoaaShI
import Derived.Deep.Slices
import Derived.Deep.Fields
namespace Go.Proofs.Ytchealdgncgjoaa.St
open Go.ChangeShapes Go.WideShapes Go.ChangeAt Go.RowKit
open Go.Deep
set_option linter.unusedVariables false
theorem cellsOf78 : Try.prog.cellsOf 78 = 2 := by kernel_rfl
theorem bytesOf78 : Try.prog.bytesOf 78 = 32 := by kernel_rfl
theorem cellsOf69 : Try.prog.cellsOf 69 = 1 := by kernel_rfl
theorem cellsOf74 : Try.prog.cellsOf 74 = 1 := by kernel_rfl
theorem cellsOf5 : Try.prog.cellsOf 5 = 1 := by kernel_rfl
theorem get2 {α : Type} {l : List α} (h : l.length = 2) : ∃ a b, l = [a, b] := by
  match l, h with
  | [a, b], _ => exact ⟨a, b, rfl⟩
section
variable {H : Type} {enc : TypeId × Value → H} {W : World}
theorem bytesOf5 : Try.prog.bytesOf 5 = 1 := by kernel_rfl
theorem spot_noneP {w : World} {a : Addr} {u : Value} (h : w.cell? a = some u) : a.spot = none := by
  unfold World.cell? at h
  split at h
  · split at h
    · cases h
    · rename_i _ hs; simpa using hs
  · cases h
theorem wAll_mem {P : Program} {e : TypeId} : ∀ {l : List (DataW H)} {d : DataW H}, d ∈ l → ∀ n ∈ d.weights P e, n ∈ DataW.weightsAll P e l
  | [], d, h, n, hn => by cases h
  | x :: r, d, h, n, hn => by
    simp only [DataW.weightsAll, List.mem_append]
    rcases List.mem_cons.1 h with rfl | h
    · exact .inl hn
    · exact .inr (wAll_mem h n hn)
/-- a slice of bytes that came in -/
theorem open_bytesP {fuel : Nat} {cs0 : List Value} {x : DataW H × List MemPlace} (h : DataW.trod enc Try.prog W 0 (fun _ => true) true fuel 74 cs0 = some x) :
    ∃ (v : Value) (bs : List Int), cs0 = [v] ∧ StU.Rd W v bs ∧ StU.Byt bs ∧ ((x.1 = .nil ∧ bs = []) ∨ ∃ el sp, x.1 = .slice el sp ∧ el.length = bs.length) := by
  rcases open_ints Try.underlying74 Try.underlying5 cellsOf5 h with ⟨rfl, rfl⟩ | ⟨a, len, cap, zs, rfl, _, hl, hm, hz, rfl, hcell, hwz⟩
  · exact ⟨_, [], rfl, .inl ⟨rfl, rfl⟩, (fun z hz => by simp at hz), .inl ⟨rfl, rfl⟩⟩
  · have hzl : (zs.take len).length = len := by
      rw [List.length_take, hz]
      simp
      omega
    refine ⟨_, zs.take len, rfl, .inr ⟨a, cap, by rw [hzl], fun j u hj => ?_⟩, ?_, .inr ⟨_, _, rfl, ?_⟩⟩
    · have hj2 : j < len := by
        have := (List.getElem?_eq_some_iff.1 hj).1
        rw [StU.cs_length, hzl] at this
        exact this
      have hj3 : j < zs.length := by rw [hz]; simp; omega
      have := hcell j hj3
      rw [this]
      rw [← hj]
      simp [StU.cs, hj2, hj3]
    · intro z hz'
      have := hwz z (List.mem_of_mem_take hz')
      simpa [Lit.wf, IntKind.min, IntKind.max, IntKind.signed, IntKind.bits] using this
    · simp [lits]
/-- what a pair that came in is -/
def PgOk (W : World) (s : StU.Pg) : Prop := StU.Rd W (.slice s.v.a s.v.n s.v.c) s.ys ∧ StU.Byt s.ys ∧ 0 ≤ s.k ∧ s.k ≤ 18446744073709551615
theorem open_pair1 {fuel : Nat} {cs0 : List Value} {x : DataW H × List MemPlace} (h : DataW.trod enc Try.prog W 0 (fun _ => true) true fuel 78 cs0 = some x) :
    ∃ s : StU.Pg, cs0 = [.int .u64 s.k, .slice s.v.a s.v.n s.v.c] ∧ PgOk W s ∧ ((∀ n ∈ x.1.weights Try.prog 78, n ≤ 140737488351232) → s.ys.length ≤ 140737488355328) := by
  obtain ⟨xs, n, rfl, rfl, hl, hxl, hf⟩ := DataW.trod_struct Try.underlying78 h
  rw [cellsOf78] at hl
  obtain ⟨y0, y1, rfl⟩ := get2 (show xs.length = 2 from hxl)
  obtain ⟨v0, v1, rfl⟩ := get2 hl
  have f0 : DataW.trod enc Try.prog W 0 (fun _ => true) true n 69 [v0] = some y0 := by
    have g : DataW.trod enc Try.prog W 0 (fun _ => true) true n 69 (([v0, v1].drop 0).take (Try.prog.cellsOf 69)) = [y0, y1][0]? := hf 0 _ rfl
    rw [cellsOf69] at g; exact g
  have f1 : DataW.trod enc Try.prog W 0 (fun _ => true) true n 74 [v1] = some y1 := by
    have g : DataW.trod enc Try.prog W 0 (fun _ => true) true n 74 (([v0, v1].drop 1).take (Try.prog.cellsOf 74)) = [y0, y1][1]? := hf 1 _ rfl
    rw [cellsOf74] at g; exact g
  obtain ⟨k0, e0, _, b0⟩ := DataW.trod_int Try.underlying69 f0
  obtain ⟨bv, bs, e1, hd, hby, w1⟩ := open_bytesP f1
  obtain rfl : v0 = .int .u64 k0 := by simpa using e0
  obtain rfl : v1 = bv := by simpa using e1
  obtain ⟨ad, cap, rfl⟩ := hd.slice
  simp [Lit.wf, IntKind.min, IntKind.max, IntKind.signed, IntKind.bits] at b0
  refine ⟨⟨k0, ⟨ad, bs.length, cap⟩, bs⟩, rfl, ⟨hd, hby, by dsimp only; omega, by dsimp only; omega⟩, fun hw => ?_⟩
  rcases w1 with ⟨_, rfl⟩ | ⟨el, sp, e, hel⟩
  · simp
  · have := hw ((el.length + sp.length) * Try.prog.bytesOf 5) (by simp [DataW.weights, DataW.weightsEach, Try.underlying78, e, Try.underlying74])
    rw [bytesOf5] at this
    show bs.length ≤ _
    omega
/-- pairs that came in -/
theorem open_pairs {v0 : Value} {d0 : DataW H} {p0 : List MemPlace} (h : DataW.Trod enc Try.prog W 0 (fun _ => true) true 68 v0 d0 p0) (hone : ∃ a len cap, v0 = .slice a len cap) (hw : ∀ n ∈ d0.weights Try.prog 68, n ≤ 140737488351232) :
    ∃ S : List StU.Pg, StU.Wp W v0 S ∧ S.length ≤ 4398046511104 := by
  obtain ⟨fuel, hf⟩ := h
  obtain ⟨a0, len0, cap0, rfl⟩ := hone
  have hf' : DataW.trod enc Try.prog W 0 (fun _ => true) true fuel 68 [.slice a0 len0 cap0] = some (d0, p0) := by simpa [Value.cells] using hf
  rcases open_slice Try.underlying68 hf' with ⟨hcs, hx⟩ | ⟨a, len, cap, m, n, D, Pl, hcs, _, hl, hm, hmm, hx, hel⟩
  · simp only [List.cons.injEq, and_true] at hcs
    rw [hcs]
    exact ⟨[], ⟨_, _, rfl, fun i s hi => by simp at hi⟩, by simp⟩
  · simp only [List.cons.injEq, and_true] at hcs
    rw [hcs]
    simp only [Prod.mk.injEq] at hx
    have hml : m = cap := by rw [hmm]; simp
    have each : ∀ i, i < len → ∃ s : StU.Pg, (∀ j, j < 2 → W.cell? (a.add (i * 2 + j)) = [Value.int .u64 s.k, .slice s.v.a s.v.n s.v.c][j]?) ∧ PgOk W s ∧ s.ys.length ≤ 140737488355328 := by
      intro i hi
      obtain ⟨cs', hc, ht⟩ := hel i (by omega)
      rw [cellsOf78] at hc
      obtain ⟨s, rfl, hfit, hbd⟩ := open_pair1 ht
      refine ⟨s, fun j hj => ?_, hfit, hbd (fun n hn => hw n ?_)⟩
      rotate_left
      · rw [hx.1]
        simp only [DataW.weights, Try.underlying68, List.mem_cons, List.mem_append]
        refine .inr (.inl (wAll_mem (d := D i) ?_ n hn))
        exact List.mem_map.2 ⟨i, List.mem_range.2 hi, rfl⟩
      obtain ⟨_, _, hcell⟩ := World.cells?_some hc
      have := hcell j hj
      rw [Deep.add_add] at this
      exact this
    haveI : Inhabited StU.Pg := ⟨⟨0, ⟨none, 0, 0⟩, []⟩⟩
    obtain ⟨f, hf2⟩ := choose_lt (α := StU.Pg) each
    by_cases h0 : len = 0
    · subst h0
      exact ⟨[], ⟨_, _, rfl, fun i s hi => by simp at hi⟩, by simp⟩
    · have hsp : a.spot = none := by
        have h1 := (hf2 0 (by omega)).1 0 (by omega)
        have e : a.add (0 * 2 + 0) = a := by simp [Addr.add]
        rw [e] at h1
        simp only [List.getElem?_cons_zero] at h1
        exact spot_noneP h1
      obtain ⟨ab, ao, sp⟩ := a
      simp only at hsp
      subst hsp
      have hlb : len ≤ 4398046511104 := by
        have := hw ((((List.range len).map D).length + ((List.range (m - len)).map fun j => D (len + j)).length) * Try.prog.bytesOf 78) (by rw [hx.1]; simp [DataW.weights, Try.underlying68])
        rw [bytesOf78] at this
        simp only [List.length_map, List.length_range] at this
        omega
      refine ⟨(List.range len).map f, ⟨_, cap, by rw [List.length_map, List.length_range], fun i s hs => ⟨ab, ao, rfl, ?_⟩⟩, by simpa using hlb⟩
      have hi : i < len := by
        have := (List.getElem?_eq_some_iff.1 hs).1
        simpa using this
      have hs' : f i = s := by simpa [hi] using hs
      subst hs'
      obtain ⟨hc, hfit, hbd⟩ := hf2 i hi
      have c := fun j hj => hc j hj
      simp only [Addr.add_lit] at c
      refine ⟨by simpa using c 0 (by omega), ?_, hfit.1, hfit.2.1, hfit.2.2.1, hfit.2.2.2, hbd⟩
      have := c 1 (by omega); rw [← Nat.add_assoc] at this; simpa using this
end
end Go.Proofs.Ytchealdgncgjoaa.St
