import Derived.Test.YtgaehpdlljlliaaCrI
import Derived.ProofKit
import Derived.OpenShut
import Derived.SizedLaws
import Derived.Carry
import Derived.Deep.Slices
import Derived.Deep.Fields
namespace Go.Proofs.Ytgaehpdlljlliaa.Cd
open Go.ChangeShapes Go.WideShapes Go.ChangeAt Go.RowKit
open Go.Deep
set_option linter.unusedVariables false

theorem cellsOf38 : Try.prog.cellsOf 38 = 5 := by kernel_rfl
theorem cellsOf3 : Try.prog.cellsOf 3 = 1 := by kernel_rfl
theorem cellsOf36 : Try.prog.cellsOf 36 = 1 := by kernel_rfl
theorem cellsOf2 : Try.prog.cellsOf 2 = 1 := by kernel_rfl
theorem cellsOf4 : Try.prog.cellsOf 4 = 1 := by kernel_rfl
theorem cellsOf30 : Try.prog.cellsOf 30 = 1 := by kernel_rfl
theorem cellsOf5 : Try.prog.cellsOf 5 = 1 := by kernel_rfl
theorem bytesOf38 : Try.prog.bytesOf 38 = 56 := by kernel_rfl
theorem bytesOf5 : Try.prog.bytesOf 5 = 1 := by kernel_rfl

section
variable {H : Type} {enc : TypeId × Value → H} {W : World}

/-- a slice of bytes that came in -/
theorem open_bytes {fuel : Nat} {cs0 : List Value} {x : DataW H × List MemPlace} (h : DataW.trod enc Try.prog W 0 (fun _ => true) true fuel 30 cs0 = some x) :
    ∃ (v : Value) (bs : List Int), cs0 = [v] ∧ Rd W v bs ∧ Byt bs ∧ ((x.1 = .nil ∧ bs = []) ∨ ∃ el sp, x.1 = .slice el sp ∧ el.length = bs.length) := by
  rcases open_ints Try.underlying30 Try.underlying5 cellsOf5 h with ⟨rfl, rfl⟩ | ⟨a, len, cap, zs, rfl, _, hl, hm, hz, rfl, hcell, hwz⟩
  · exact ⟨_, [], rfl, rd_nil W, (fun z hz => by simp at hz), .inl ⟨rfl, rfl⟩⟩
  · have hzl : (zs.take len).length = len := by
      rw [List.length_take, hz]
      simp
      omega
    refine ⟨_, zs.take len, rfl, .inr ⟨a, cap, by rw [hzl], fun j u hj => ?_⟩, ?_, .inr ⟨_, _, rfl, ?_⟩⟩
    · have hj2 : j < len := by
        have := (List.getElem?_eq_some_iff.1 hj).1
        rw [cs_length, hzl] at this
        exact this
      have hj3 : j < zs.length := by rw [hz]; simp; omega
      have := hcell j hj3
      rw [this]
      rw [← hj]
      simp [cs, hj2, hj3]
    · intro z hz'
      have := hwz z (List.mem_of_mem_take hz')
      simpa [Lit.wf, IntKind.min, IntKind.max, IntKind.signed, IntKind.bits] using this
    · simp [lits]

theorem get5 {α : Type} {l : List α} (h : l.length = 5) : ∃ a b c d e, l = [a, b, c, d, e] := by
  match l, h with
  | [a, b, c, d, e], _ => exact ⟨a, b, c, d, e, rfl⟩

theorem weightsAll_mem {P : Program} {e : TypeId} : ∀ {l : List (DataW H)} {d : DataW H}, d ∈ l → ∀ n ∈ d.weights P e, n ∈ DataW.weightsAll P e l
  | d' :: r, d, hd, n, hn => by
    simp only [DataW.weightsAll, List.mem_append]
    rcases List.mem_cons.1 hd with rfl | h
    · exact Or.inl hn
    · exact Or.inr (weightsAll_mem h n hn)

/-- the reach, of the bytes of a step -/
theorem step_sized {el sp : List (DataW H)} {ps : List (DataW H)} (h5 : ps.length = 5) (h4 : ps[4]? = some (.slice el sp)) : (el.length + sp.length) ∈ (DataW.agg ps).weights Try.prog 38 := by
  obtain ⟨a, b, c, d, e, rfl⟩ := get5 h5
  simp only [List.getElem?_cons_succ, List.getElem?_cons_zero, Option.some.injEq] at h4
  subst h4
  simp [DataW.weights, Try.underlying38, DataW.weightsEach, Try.underlying30, bytesOf5]

/-- a step that came in -/
theorem open_step {fuel : Nat} {cs0 : List Value} {x : DataW H × List MemPlace} (h : DataW.trod enc Try.prog W 0 (fun _ => true) true fuel 38 cs0 = some x) (hlen : ∀ n ∈ x.1.weights Try.prog 38, n ≤ 140737488351232) :
    ∃ s : Stp, cs0 = [.int .i64 s.kind, .int .u64 s.N, .int .i64 s.I, .bool s.F, s.bv] ∧ Fit W s := by
  obtain ⟨xs, n, rfl, rfl, hl, hxl, hf⟩ := DataW.trod_struct Try.underlying38 h
  rw [cellsOf38] at hl
  obtain ⟨y0, y1, y2, y3, y4, rfl⟩ := get5 (show xs.length = 5 from hxl)
  obtain ⟨v0, v1, v2, v3, v4, rfl⟩ := get5 hl
  have f0 : DataW.trod enc Try.prog W 0 (fun _ => true) true n 3 [v0] = some y0 := by
    have g : DataW.trod enc Try.prog W 0 (fun _ => true) true n 3 (([v0, v1, v2, v3, v4].drop 0).take (Try.prog.cellsOf 3)) = [y0, y1, y2, y3, y4][0]? := hf 0 _ rfl
    rw [cellsOf3] at g
    exact g
  have f1 : DataW.trod enc Try.prog W 0 (fun _ => true) true n 36 [v1] = some y1 := by
    have g : DataW.trod enc Try.prog W 0 (fun _ => true) true n 36 (([v0, v1, v2, v3, v4].drop 1).take (Try.prog.cellsOf 36)) = [y0, y1, y2, y3, y4][1]? := hf 1 _ rfl
    rw [cellsOf36] at g
    exact g
  have f2 : DataW.trod enc Try.prog W 0 (fun _ => true) true n 2 [v2] = some y2 := by
    have g : DataW.trod enc Try.prog W 0 (fun _ => true) true n 2 (([v0, v1, v2, v3, v4].drop 2).take (Try.prog.cellsOf 2)) = [y0, y1, y2, y3, y4][2]? := hf 2 _ rfl
    rw [cellsOf2] at g
    exact g
  have f3 : DataW.trod enc Try.prog W 0 (fun _ => true) true n 4 [v3] = some y3 := by
    have g : DataW.trod enc Try.prog W 0 (fun _ => true) true n 4 (([v0, v1, v2, v3, v4].drop 3).take (Try.prog.cellsOf 4)) = [y0, y1, y2, y3, y4][3]? := hf 3 _ rfl
    rw [cellsOf4] at g
    exact g
  have f4 : DataW.trod enc Try.prog W 0 (fun _ => true) true n 30 [v4] = some y4 := by
    have g : DataW.trod enc Try.prog W 0 (fun _ => true) true n 30 (([v0, v1, v2, v3, v4].drop 4).take (Try.prog.cellsOf 30)) = [y0, y1, y2, y3, y4][4]? := hf 4 _ rfl
    rw [cellsOf30] at g
    exact g
  obtain ⟨k, e0, h0, w0⟩ := DataW.trod_int Try.underlying3 f0
  obtain ⟨N, e1, h1, w1⟩ := DataW.trod_int Try.underlying36 f1
  obtain ⟨I, e2, h2, w2⟩ := DataW.trod_int Try.underlying2 f2
  obtain ⟨F, e3, h3⟩ := DataW.trod_bool Try.underlying4 f3
  obtain ⟨bv, bs, e4, hr, hb, hx⟩ := open_bytes f4
  obtain rfl : v0 = .int .i64 k := by simpa using e0
  obtain rfl : v1 = .int .u64 N := by simpa using e1
  obtain rfl : v2 = .int .i64 I := by simpa using e2
  obtain rfl : v3 = .bool F := by simpa using e3
  obtain rfl : v4 = bv := by simpa using e4
  have n1 : (0 : Int) ≤ N ∧ N ≤ 18446744073709551615 := by simpa [Lit.wf, IntKind.min, IntKind.max, IntKind.signed, IntKind.bits] using w1
  have i1 : (-9223372036854775808 : Int) ≤ I ∧ I ≤ 9223372036854775807 := by simpa [Lit.wf, IntKind.min, IntKind.max, IntKind.signed, IntKind.bits] using w2
  refine ⟨⟨k, N, I, F, v4, bs⟩, rfl, ⟨hr, hb, n1.1, by show N < _; omega, i1.1, i1.2, ?_⟩⟩
  rcases hx with ⟨_, rfl⟩ | ⟨el, sp, hy, hel⟩
  · simp
  · show bs.length ≤ _
    rw [← hel]
    have := hlen (el.length + sp.length) (step_sized (by simp) (by simp [hy]))
    omega


/-- a script that came in -/
theorem open_script {v0 : Value} {d0 : DataW H} {p0 : List MemPlace} (h : DataW.Trod enc Try.prog W 0 (fun _ => true) true 25 v0 d0 p0) (hone : ∃ a len cap, v0 = .slice a len cap) (hw : ∀ n ∈ d0.weights Try.prog 25, n ≤ 140737488351232) : ∃ S, Scr W v0 S ∧ S.length ≤ 140737488351232 := by
  obtain ⟨fuel, hf⟩ := h
  obtain ⟨a0, len0, cap0, rfl⟩ := hone
  have hf' : DataW.trod enc Try.prog W 0 (fun _ => true) true fuel 25 [.slice a0 len0 cap0] = some (d0, p0) := by simpa [Value.cells] using hf
  rcases open_slice Try.underlying25 hf' with ⟨hcs, hx⟩ | ⟨a, len, cap, m, n, D, Pl, hcs, _, hl, hm, hmm, hx, hel⟩
  · simp only [List.cons.injEq, and_true] at hcs
    rw [hcs]
    exact ⟨[], .inl ⟨⟨_, _, rfl⟩, rfl⟩, by simp⟩
  · simp only [List.cons.injEq, and_true] at hcs
    rw [hcs]
    simp only [Prod.mk.injEq] at hx
    have hml : m = cap := by rw [hmm]; simp
    have each : ∀ i, i < len → ∃ s : Stp, (∀ j, j < 5 → W.cell? (a.add (i * 5 + j)) = [Value.int .i64 s.kind, .int .u64 s.N, .int .i64 s.I, .bool s.F, s.bv][j]?) ∧ Fit W s := by
      intro i hi
      obtain ⟨cs', hc, ht⟩ := hel i (by omega)
      rw [cellsOf38] at hc
      obtain ⟨s, rfl, hfit⟩ := open_step ht (fun q hq => hw q (by
        rw [hx.1]
        simp only [DataW.weights, Try.underlying25, List.mem_cons, List.mem_append]
        refine Or.inr (Or.inl (weightsAll_mem (d := D i) ?_ q hq))
        exact List.mem_map.2 ⟨i, by simpa using hi, rfl⟩))
      refine ⟨s, fun j hj => ?_, hfit⟩
      obtain ⟨_, _, hcell⟩ := World.cells?_some hc
      have := hcell j hj
      rw [Deep.add_add] at this
      exact this
    haveI : Inhabited Stp := ⟨⟨0, 0, 0, false, .slice none 0 0, []⟩⟩
    obtain ⟨f, hf2⟩ := choose_lt (α := Stp) each
    by_cases h0 : len = 0
    · subst h0
      exact ⟨[], .inl ⟨⟨_, _, rfl⟩, rfl⟩, by simp⟩
    · have hsp : a.spot = none := by
        have h1 := (hf2 0 (by omega)).1 0 (by omega)
        have e : a.add (0 * 5 + 0) = a := by simp [Addr.add]
        rw [e] at h1
        simp only [List.getElem?_cons_zero] at h1
        unfold World.cell? at h1
        split at h1
        · split at h1
          · cases h1
          · rename_i h; simpa using h
        · cases h1
      obtain ⟨ab, ao, sp⟩ := a
      simp only at hsp
      subst hsp
      have hlb : len ≤ 140737488351232 := by
        have := hw ((((List.range len).map D).length + ((List.range (m - len)).map fun j => D (len + j)).length) * Try.prog.bytesOf 38) (by rw [hx.1]; simp [DataW.weights, Try.underlying25])
        rw [bytesOf38] at this
        simp only [List.length_map, List.length_range] at this
        omega
      refine ⟨(List.range len).map f, .inr ⟨ab, ao, cap, by simp, fun i s hs => ?_⟩, by simpa using hlb⟩
      have hi : i < len := by
        have := (List.getElem?_eq_some_iff.1 hs).1
        simpa using this
      have hs' : f i = s := by simpa [hi] using hs
      subst hs'
      obtain ⟨hc, hfit⟩ := hf2 i hi
      have c := fun j hj => hc j hj
      simp only [addo] at c
      refine ⟨by simpa using c 0 (by omega), ?_, ?_, ?_, ?_, hfit⟩
      · have := c 1 (by omega); rw [← Nat.add_assoc] at this; simpa using this
      · have := c 2 (by omega); rw [← Nat.add_assoc] at this; simpa using this
      · have := c 3 (by omega); rw [← Nat.add_assoc] at this; simpa using this
      · have := c 4 (by omega); rw [← Nat.add_assoc] at this; simpa using this
end
end Go.Proofs.Ytgaehpdlljlliaa.Cd
