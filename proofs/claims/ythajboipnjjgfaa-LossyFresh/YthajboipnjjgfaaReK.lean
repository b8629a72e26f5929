import Derived.Test.YthajboipnjjgfaaReJ
import Derived.Test.YthajboipnjjgfaaPlC
namespace Go.Proofs.Ythajboipnjjgfaa.Ly
open Go.ChangeShapes Go.WideShapes Go.ChangeAt Go.RowKit Go.Maps
open Go.Deep
set_option linter.unusedVariables false

/-- its lists are no longer than what can be read -/
structure SpB (s : Sp) : Prop where
  ds : s.ds.length ≤ 140737488351232
  at' : s.at'.length ≤ 17592186043904
  nil : s.atv = .slice none 0 0 ∨ ∃ a n cap, s.atv = .slice (some a) n cap
theorem wAll_mem {H : Type} {P : Program} {e : TypeId} : ∀ {l : List (DataW H)} {d : DataW H}, d ∈ l → ∀ n ∈ d.weights P e, n ∈ DataW.weightsAll P e l
  | [], d, h, n, hn => by cases h
  | x :: r, d, h, n, hn => by
    simp only [DataW.weightsAll, List.mem_append]
    rcases List.mem_cons.1 h with rfl | h
    · exact .inl hn
    · exact .inr (wAll_mem h n hn)
section
variable {H : Type} {enc : TypeId × Value → H} {W : World}

/-- a slice of ints that came in -/
theorem open_places2 {fuel : Nat} {cs0 : List Value} {x : DataW H × List MemPlace} (h : DataW.trod enc Try.prog W 0 (fun _ => true) true fuel 22 cs0 = some x) :
    ∃ (v : Value) (xs : List Int), cs0 = [v] ∧ RdI W v xs ∧ (xs.length : Int) ≤ 9223372036854775807 ∧ ((x.1 = .nil ∧ xs = []) ∨ ∃ el sp, x.1 = .slice el sp ∧ el.length = xs.length) ∧ (v = .slice none 0 0 ∨ ∃ a n cap, v = .slice (some a) n cap) := by
  rcases open_ints Try.underlying22 Try.underlying3 cellsOf3 h with ⟨rfl, rfl⟩ | ⟨a, len, cap, zs, rfl, _, hl, hm, hz, rfl, hcell, hwz⟩
  · exact ⟨_, [], rfl, .inl ⟨⟨_, _, rfl⟩, rfl⟩, by simp, .inl ⟨rfl, rfl⟩, .inl rfl⟩
  · have hzl : (zs.take len).length = len := by
      rw [List.length_take, hz]
      simp
      omega
    have hlen : len ≤ 9223372036854775807 := by
      unfold maxLen at hm
      omega
    refine ⟨_, zs.take len, rfl, ?_, by rw [hzl]; omega, .inr ⟨_, _, rfl, by simp [lits]⟩, .inr ⟨_, _, _, rfl⟩⟩
    by_cases h0 : len = 0
    · subst h0
      exact .inl ⟨⟨_, _, rfl⟩, by simp⟩
    · have hz0 : 0 < zs.length := by rw [hz]; simp; omega
      have c0 := hcell 0 hz0
      have hsp : a.spot = none := by
        have := spot_none c0
        simpa [Addr.add] using this
      obtain ⟨ab, ao, sp⟩ := a
      simp only at hsp
      subst hsp
      refine .inr ⟨ab, ao, cap, by rw [hzl], fun i y hi => ?_⟩
      have hi2 : i < len := by
        have := (List.getElem?_eq_some_iff.1 hi).1
        rw [hzl] at this
        exact this
      have hi3 : i < zs.length := by rw [hz]; simp; omega
      have := hcell i hi3
      rw [Addr.add_lit] at this
      rw [this]
      rw [List.getElem?_take_of_lt hi2, List.getElem?_eq_getElem hi3] at hi
      simp at hi
      simp [hi3, hi]

/-- a step that came in -/
theorem open_step2 {fuel : Nat} {cs0 : List Value} {x : DataW H × List MemPlace} (h : DataW.trod enc Try.prog W 0 (fun _ => true) true fuel 55 cs0 = some x) :
    ∃ s : Sp, cs0 = [.int .i64 s.kind, .int .i64 s.a, .int .i64 s.b, .int .i64 s.n, .bool s.keep, s.atv, s.dv] ∧ SpR W s ∧ ((∀ n ∈ x.1.weights Try.prog 55, n ≤ 140737488351232) → SpB s) := by
  obtain ⟨xs, n, rfl, rfl, hl, hxl, hf⟩ := DataW.trod_struct Try.underlying55 h
  rw [cellsOf55] at hl
  obtain ⟨y0, y1, y2, y3, y4, y5, y6, rfl⟩ := get7 (show xs.length = 7 from hxl)
  obtain ⟨v0, v1, v2, v3, v4, v5, v6, rfl⟩ := get7 hl
  have f0 : DataW.trod enc Try.prog W 0 (fun _ => true) true n 3 [v0] = some y0 := by
    have g : DataW.trod enc Try.prog W 0 (fun _ => true) true n 3 (([v0, v1, v2, v3, v4, v5, v6].drop 0).take (Try.prog.cellsOf 3)) = [y0, y1, y2, y3, y4, y5, y6][0]? := hf 0 _ rfl
    rw [cellsOf3] at g; exact g
  have f1 : DataW.trod enc Try.prog W 0 (fun _ => true) true n 3 [v1] = some y1 := by
    have g : DataW.trod enc Try.prog W 0 (fun _ => true) true n 3 (([v0, v1, v2, v3, v4, v5, v6].drop 1).take (Try.prog.cellsOf 3)) = [y0, y1, y2, y3, y4, y5, y6][1]? := hf 1 _ rfl
    rw [cellsOf3] at g; exact g
  have f2 : DataW.trod enc Try.prog W 0 (fun _ => true) true n 3 [v2] = some y2 := by
    have g : DataW.trod enc Try.prog W 0 (fun _ => true) true n 3 (([v0, v1, v2, v3, v4, v5, v6].drop 2).take (Try.prog.cellsOf 3)) = [y0, y1, y2, y3, y4, y5, y6][2]? := hf 2 _ rfl
    rw [cellsOf3] at g; exact g
  have f3 : DataW.trod enc Try.prog W 0 (fun _ => true) true n 3 [v3] = some y3 := by
    have g : DataW.trod enc Try.prog W 0 (fun _ => true) true n 3 (([v0, v1, v2, v3, v4, v5, v6].drop 3).take (Try.prog.cellsOf 3)) = [y0, y1, y2, y3, y4, y5, y6][3]? := hf 3 _ rfl
    rw [cellsOf3] at g; exact g
  have f4 : DataW.trod enc Try.prog W 0 (fun _ => true) true n 4 [v4] = some y4 := by
    have g : DataW.trod enc Try.prog W 0 (fun _ => true) true n 4 (([v0, v1, v2, v3, v4, v5, v6].drop 4).take (Try.prog.cellsOf 4)) = [y0, y1, y2, y3, y4, y5, y6][4]? := hf 4 _ rfl
    rw [cellsOf4] at g; exact g
  have f5 : DataW.trod enc Try.prog W 0 (fun _ => true) true n 22 [v5] = some y5 := by
    have g : DataW.trod enc Try.prog W 0 (fun _ => true) true n 22 (([v0, v1, v2, v3, v4, v5, v6].drop 5).take (Try.prog.cellsOf 22)) = [y0, y1, y2, y3, y4, y5, y6][5]? := hf 5 _ rfl
    rw [cellsOf22] at g; exact g
  have f6 : DataW.trod enc Try.prog W 0 (fun _ => true) true n 25 [v6] = some y6 := by
    have g : DataW.trod enc Try.prog W 0 (fun _ => true) true n 25 (([v0, v1, v2, v3, v4, v5, v6].drop 6).take (Try.prog.cellsOf 25)) = [y0, y1, y2, y3, y4, y5, y6][6]? := hf 6 _ rfl
    rw [cellsOf25] at g; exact g
  obtain ⟨k0, e0, _, _⟩ := DataW.trod_int Try.underlying3 f0
  obtain ⟨k1, e1, _, _⟩ := DataW.trod_int Try.underlying3 f1
  obtain ⟨k2, e2, _, _⟩ := DataW.trod_int Try.underlying3 f2
  obtain ⟨k3, e3, _, _⟩ := DataW.trod_int Try.underlying3 f3
  obtain ⟨k4, e4, _⟩ := DataW.trod_bool Try.underlying4 f4
  obtain ⟨av, xs, e5, hr, hn, w5, hnl⟩ := open_places2 f5
  obtain ⟨bv, bs, e6, hd, _, w6⟩ := open_bytes f6
  obtain rfl : v0 = .int .i64 k0 := by simpa using e0
  obtain rfl : v1 = .int .i64 k1 := by simpa using e1
  obtain rfl : v2 = .int .i64 k2 := by simpa using e2
  obtain rfl : v3 = .int .i64 k3 := by simpa using e3
  obtain rfl : v4 = .bool k4 := by simpa using e4
  obtain rfl : v5 = av := by simpa using e5
  obtain rfl : v6 = bv := by simpa using e6
  refine ⟨⟨k0, k1, k2, k3, k4, v5, xs, v6, bs⟩, rfl, ⟨hr, hn, hd⟩, fun hw => ⟨?_, ?_, hnl⟩⟩
  · rcases w6 with ⟨_, rfl⟩ | ⟨el, sp, e, hel⟩
    · simp
    · have := hw ((el.length + sp.length) * Try.prog.bytesOf 5) (by simp [DataW.weights, DataW.weightsEach, Try.underlying55, e, Try.underlying25])
      rw [bytesOf5] at this
      show bs.length ≤ _
      omega
  · rcases w5 with ⟨_, rfl⟩ | ⟨el, sp, e, hel⟩
    · simp
    · have := hw ((el.length + sp.length) * Try.prog.bytesOf 3) (by simp [DataW.weights, DataW.weightsEach, Try.underlying55, e, Try.underlying22])
      rw [bytesOf3] at this
      show xs.length ≤ _
      omega

/-- a script that came in -/
theorem open_script2 {v0 : Value} {d0 : DataW H} {p0 : List MemPlace} (h : DataW.Trod enc Try.prog W 0 (fun _ => true) true 52 v0 d0 p0) (hone : ∃ a len cap, v0 = .slice a len cap) (hw : ∀ n ∈ d0.weights Try.prog 52, n ≤ 140737488351232) : ∃ S, Scr W v0 S ∧ (S.length : Int) ≤ 1599289640354 ∧ ∀ s ∈ S, SpB s := by
  obtain ⟨fuel, hf⟩ := h
  obtain ⟨a0, len0, cap0, rfl⟩ := hone
  have hf' : DataW.trod enc Try.prog W 0 (fun _ => true) true fuel 52 [.slice a0 len0 cap0] = some (d0, p0) := by simpa [Value.cells] using hf
  rcases open_slice Try.underlying52 hf' with ⟨hcs, hx⟩ | ⟨a, len, cap, m, n, D, Pl, hcs, _, hl, hm, hmm, hx, hel⟩
  · simp only [List.cons.injEq, and_true] at hcs
    rw [hcs]
    exact ⟨[], .inl ⟨⟨_, _, rfl⟩, rfl⟩, by simp, by simp⟩
  · simp only [List.cons.injEq, and_true] at hcs
    rw [hcs]
    simp only [Prod.mk.injEq] at hx
    have hml : m = cap := by rw [hmm]; simp
    have each : ∀ i, i < len → ∃ s : Sp, (∀ j, j < 7 → W.cell? (a.add (i * 7 + j)) = [Value.int .i64 s.kind, .int .i64 s.a, .int .i64 s.b, .int .i64 s.n, .bool s.keep, s.atv, s.dv][j]?) ∧ SpR W s ∧ SpB s := by
      intro i hi
      obtain ⟨cs', hc, ht⟩ := hel i (by omega)
      rw [cellsOf55] at hc
      obtain ⟨s, rfl, hfit, hbd⟩ := open_step2 ht
      refine ⟨s, fun j hj => ?_, hfit, hbd (fun n hn => hw n ?_)⟩
      rotate_left
      · rw [hx.1]
        simp only [DataW.weights, Try.underlying52, List.mem_cons, List.mem_append]
        refine .inr (.inl (wAll_mem (d := D i) ?_ n hn))
        exact List.mem_map.2 ⟨i, List.mem_range.2 hi, rfl⟩
      obtain ⟨_, _, hcell⟩ := World.cells?_some hc
      have := hcell j hj
      rw [Deep.add_add] at this
      exact this
    haveI : Inhabited Sp := ⟨⟨0, 0, 0, 0, false, .slice none 0 0, [], .slice none 0 0, []⟩⟩
    obtain ⟨f, hf2⟩ := choose_lt (α := Sp) each
    by_cases h0 : len = 0
    · subst h0
      exact ⟨[], .inl ⟨⟨_, _, rfl⟩, rfl⟩, by simp, by simp⟩
    · have hsp : a.spot = none := by
        have h1 := (hf2 0 (by omega)).1 0 (by omega)
        have e : a.add (0 * 7 + 0) = a := by simp [Addr.add]
        rw [e] at h1
        simp only [List.getElem?_cons_zero] at h1
        exact spot_none h1
      obtain ⟨ab, ao, sp⟩ := a
      simp only at hsp
      subst hsp
      have hlb : (len : Int) ≤ 1599289640354 := by
        have := hw ((((List.range len).map D).length + ((List.range (m - len)).map fun j => D (len + j)).length) * Try.prog.bytesOf 55) (by rw [hx.1]; simp [DataW.weights, Try.underlying52])
        rw [bytesOf55] at this
        simp only [List.length_map, List.length_range] at this
        omega
      refine ⟨(List.range len).map f, .inr ⟨ab, ao, cap, by simp, fun i s hs => ?_⟩, by simpa using hlb, fun s hs => ?_⟩
      rotate_left
      · obtain ⟨i, hi, rfl⟩ := List.mem_map.1 hs
        exact (hf2 i (List.mem_range.1 hi)).2.2
      have hi : i < len := by
        have := (List.getElem?_eq_some_iff.1 hs).1
        simpa using this
      have hs' : f i = s := by simpa [hi] using hs
      subst hs'
      obtain ⟨hc, hfit, _⟩ := hf2 i hi
      have c := fun j hj => hc j hj
      simp only [Addr.add_lit] at c
      refine ⟨by simpa using c 0 (by omega), ?_, ?_, ?_, ?_, ?_, ?_, hfit⟩
      · have := c 1 (by omega); rw [← Nat.add_assoc] at this; simpa using this
      · have := c 2 (by omega); rw [← Nat.add_assoc] at this; simpa using this
      · have := c 3 (by omega); rw [← Nat.add_assoc] at this; simpa using this
      · have := c 4 (by omega); rw [← Nat.add_assoc] at this; simpa using this
      · have := c 5 (by omega); rw [← Nat.add_assoc] at this; simpa using this
      · have := c 6 (by omega); rw [← Nat.add_assoc] at this; simpa using this
end
end Go.Proofs.Ythajboipnjjgfaa.Ly
