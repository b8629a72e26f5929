import Derived.Test.YtcbonbeogdgogaaLoJ
import Derived.Test.YtcbonbeogdgogaaLiQ
namespace Go.Proofs.Ytcbonbeogdgogaa.Li
open Go.ChangeShapes Go.WideShapes Go.ChangeAt Go.RowKit
open Go.Deep
set_option linter.unusedVariables false
theorem cellsOf33 : Try.prog.cellsOf 33 = 1 := by kernel_rfl
theorem bytesOf3 : Try.prog.bytesOf 3 = 8 := by kernel_rfl
section
variable {H : Type} {enc : TypeId × Value → H} {W : World}
set_option maxRecDepth 100000 in
set_option maxHeartbeats 1000000 in
theorem open_requestK {fuel : Nat} {cs0 : List Value} {x : DataW H × List MemPlace} (h : DataW.trod enc Try.prog W 0 (fun _ => true) true fuel 27 cs0 = some x) (hw : ∀ m ∈ x.1.weights Try.prog 27, m ≤ 140737488351232) :
    ∃ (k key hi : Int) (va : Option Addr) (vc : Nat) (V : List Int) (oa : Option Addr) (oc : Nat) (O : List Int) (has : Bool) (lim : Int), cs0 = [.int .u8 k, .int .u64 key, .int .u64 hi, .slice va V.length vc, .slice oa O.length oc, .bool has, .int .u8 lim] ∧ By W (.slice va V.length vc) V ∧ By W (.slice oa O.length oc) O ∧ 0 ≤ key ∧ key < 18446744073709551616 := by
  obtain ⟨xs, n, rfl, rfl, hl, hxl, hf⟩ := DataW.trod_struct Try.underlying27 h
  rw [cellsOf27] at hl
  obtain ⟨y0, y1, y2, y3, y4, y5, y6, rfl⟩ := get7 (show xs.length = 7 from hxl)
  obtain ⟨v0, v1, v2, v3, v4, v5, v6, rfl⟩ := get7 hl
  have hin : ∀ (j : Nat) (t : TypeId) (d : DataW H), [24, 23, 23, 25, 25, 4, 5][j]? = some t → [y0.1, y1.1, y2.1, y3.1, y4.1, y5.1, y6.1][j]? = some d → ∀ m ∈ d.weights Try.prog t, m ∈ (DataW.agg ([y0, y1, y2, y3, y4, y5, y6].map Prod.fst)).weights Try.prog 27 := fun j t d ht hd m hm => by
    simp only [DataW.weights, Try.underlying27]
    exact DataW.weights_mem_each ht hd m hm
  have f0 : DataW.trod enc Try.prog W 0 (fun _ => true) true n 24 [v0] = some y0 := by
    have g : DataW.trod enc Try.prog W 0 (fun _ => true) true n 24 (([v0, v1, v2, v3, v4, v5, v6].drop 0).take (Try.prog.cellsOf 24)) = [y0, y1, y2, y3, y4, y5, y6][0]? := hf 0 _ rfl
    rw [cellsOf24] at g; exact g
  have f1 : DataW.trod enc Try.prog W 0 (fun _ => true) true n 23 [v1] = some y1 := by
    have g : DataW.trod enc Try.prog W 0 (fun _ => true) true n 23 (([v0, v1, v2, v3, v4, v5, v6].drop 1).take (Try.prog.cellsOf 23)) = [y0, y1, y2, y3, y4, y5, y6][1]? := hf 1 _ rfl
    rw [cellsOf23] at g; exact g
  have f2 : DataW.trod enc Try.prog W 0 (fun _ => true) true n 23 [v2] = some y2 := by
    have g : DataW.trod enc Try.prog W 0 (fun _ => true) true n 23 (([v0, v1, v2, v3, v4, v5, v6].drop 2).take (Try.prog.cellsOf 23)) = [y0, y1, y2, y3, y4, y5, y6][2]? := hf 2 _ rfl
    rw [cellsOf23] at g; exact g
  have f3 : DataW.trod enc Try.prog W 0 (fun _ => true) true n 25 [v3] = some y3 := by
    have g : DataW.trod enc Try.prog W 0 (fun _ => true) true n 25 (([v0, v1, v2, v3, v4, v5, v6].drop 3).take (Try.prog.cellsOf 25)) = [y0, y1, y2, y3, y4, y5, y6][3]? := hf 3 _ rfl
    rw [cellsOf25] at g; exact g
  have f4 : DataW.trod enc Try.prog W 0 (fun _ => true) true n 25 [v4] = some y4 := by
    have g : DataW.trod enc Try.prog W 0 (fun _ => true) true n 25 (([v0, v1, v2, v3, v4, v5, v6].drop 4).take (Try.prog.cellsOf 25)) = [y0, y1, y2, y3, y4, y5, y6][4]? := hf 4 _ rfl
    rw [cellsOf25] at g; exact g
  have f5 : DataW.trod enc Try.prog W 0 (fun _ => true) true n 4 [v5] = some y5 := by
    have g : DataW.trod enc Try.prog W 0 (fun _ => true) true n 4 (([v0, v1, v2, v3, v4, v5, v6].drop 5).take (Try.prog.cellsOf 4)) = [y0, y1, y2, y3, y4, y5, y6][5]? := hf 5 _ rfl
    rw [cellsOf4] at g; exact g
  have f6 : DataW.trod enc Try.prog W 0 (fun _ => true) true n 5 [v6] = some y6 := by
    have g : DataW.trod enc Try.prog W 0 (fun _ => true) true n 5 (([v0, v1, v2, v3, v4, v5, v6].drop 6).take (Try.prog.cellsOf 5)) = [y0, y1, y2, y3, y4, y5, y6][6]? := hf 6 _ rfl
    rw [cellsOf5] at g; exact g
  have hw3 : ∀ m ∈ y3.1.weights Try.prog 25, m ≤ 140737488351232 := fun m hm => hw m (hin 3 _ _ rfl rfl m hm)
  have hw4 : ∀ m ∈ y4.1.weights Try.prog 25, m ≤ 140737488351232 := fun m hm => hw m (hin 4 _ _ rfl rfl m hm)
  clear hf
  obtain ⟨k0, e0, _, b0⟩ := DataW.trod_int Try.underlying24 f0
  obtain rfl : v0 = .int .u8 k0 := by simpa using e0
  obtain ⟨k1, e1, _, b1⟩ := DataW.trod_int Try.underlying23 f1
  obtain rfl : v1 = .int .u64 k1 := by simpa using e1
  obtain ⟨k2, e2, _, b2⟩ := DataW.trod_int Try.underlying23 f2
  obtain rfl : v2 = .int .u64 k2 := by simpa using e2
  obtain ⟨a3, c3, bs3, e3, h3⟩ := open_bytes f3 hw3
  obtain rfl : v3 = .slice a3 bs3.length c3 := by simpa using e3
  obtain ⟨a4, c4, bs4, e4, h4⟩ := open_bytes f4 hw4
  obtain rfl : v4 = .slice a4 bs4.length c4 := by simpa using e4
  obtain ⟨k5, e5, _⟩ := DataW.trod_bool Try.underlying4 f5
  obtain rfl : v5 = .bool k5 := by simpa using e5
  obtain ⟨k6, e6, _, b6⟩ := DataW.trod_int Try.underlying5 f6
  obtain rfl : v6 = .int .u8 k6 := by simpa using e6
  have w1 : 0 ≤ k1 ∧ k1 < 18446744073709551616 := by
    simp [Lit.wf, IntKind.min, IntKind.max, IntKind.signed, IntKind.bits] at b1
    omega
  exact ⟨k0, k1, k2, a3, c3, bs3, a4, c4, bs4, k5, k6, rfl, h3, h4, w1⟩
set_option maxRecDepth 100000 in
set_option maxHeartbeats 1000000 in
theorem open_callK {fuel : Nat} {cs0 : List Value} {x : DataW H × List MemPlace} (h : DataW.trod enc Try.prog W 0 (fun _ => true) true fuel 30 cs0 = some x) (hw : ∀ m ∈ x.1.weights Try.prog 30, m ≤ 140737488351232) :
    ∃ c : Ca, cs0 = c.cells ∧ CaOk W c ∧ 0 ≤ c.key ∧ c.key < 18446744073709551616 := by
  obtain ⟨xs, n, rfl, rfl, hl, hxl, hf⟩ := DataW.trod_struct Try.underlying30 h
  rw [cellsOf30] at hl
  obtain ⟨y0, y1, y2, y3, y4, y5, y6, rfl⟩ := get7 (show xs.length = 7 from hxl)
  obtain ⟨v0, v1, v2, v3, v4, v5, v6, v7, v8, v9, v10, v11, v12, rfl⟩ := get13 hl
  have hin : ∀ (j : Nat) (t : TypeId) (d : DataW H), [22, 23, 27, 28, 25, 3, 3][j]? = some t → [y0.1, y1.1, y2.1, y3.1, y4.1, y5.1, y6.1][j]? = some d → ∀ m ∈ d.weights Try.prog t, m ∈ (DataW.agg ([y0, y1, y2, y3, y4, y5, y6].map Prod.fst)).weights Try.prog 30 := fun j t d ht hd m hm => by
    simp only [DataW.weights, Try.underlying30]
    exact DataW.weights_mem_each ht hd m hm
  have f0 : DataW.trod enc Try.prog W 0 (fun _ => true) true n 22 [v0] = some y0 := by
    have g : DataW.trod enc Try.prog W 0 (fun _ => true) true n 22 (([v0, v1, v2, v3, v4, v5, v6, v7, v8, v9, v10, v11, v12].drop 0).take (Try.prog.cellsOf 22)) = [y0, y1, y2, y3, y4, y5, y6][0]? := hf 0 _ rfl
    rw [cellsOf22] at g; exact g
  have f1 : DataW.trod enc Try.prog W 0 (fun _ => true) true n 23 [v1] = some y1 := by
    have g : DataW.trod enc Try.prog W 0 (fun _ => true) true n 23 (([v0, v1, v2, v3, v4, v5, v6, v7, v8, v9, v10, v11, v12].drop 1).take (Try.prog.cellsOf 23)) = [y0, y1, y2, y3, y4, y5, y6][1]? := hf 1 _ rfl
    rw [cellsOf23] at g; exact g
  have f2 : DataW.trod enc Try.prog W 0 (fun _ => true) true n 27 [v2, v3, v4, v5, v6, v7, v8] = some y2 := by
    have g : DataW.trod enc Try.prog W 0 (fun _ => true) true n 27 (([v0, v1, v2, v3, v4, v5, v6, v7, v8, v9, v10, v11, v12].drop 2).take (Try.prog.cellsOf 27)) = [y0, y1, y2, y3, y4, y5, y6][2]? := hf 2 _ rfl
    rw [cellsOf27] at g; exact g
  have f3 : DataW.trod enc Try.prog W 0 (fun _ => true) true n 28 [v9] = some y3 := by
    have g : DataW.trod enc Try.prog W 0 (fun _ => true) true n 28 (([v0, v1, v2, v3, v4, v5, v6, v7, v8, v9, v10, v11, v12].drop 9).take (Try.prog.cellsOf 28)) = [y0, y1, y2, y3, y4, y5, y6][3]? := hf 3 _ rfl
    rw [cellsOf28] at g; exact g
  have f4 : DataW.trod enc Try.prog W 0 (fun _ => true) true n 25 [v10] = some y4 := by
    have g : DataW.trod enc Try.prog W 0 (fun _ => true) true n 25 (([v0, v1, v2, v3, v4, v5, v6, v7, v8, v9, v10, v11, v12].drop 10).take (Try.prog.cellsOf 25)) = [y0, y1, y2, y3, y4, y5, y6][4]? := hf 4 _ rfl
    rw [cellsOf25] at g; exact g
  have f5 : DataW.trod enc Try.prog W 0 (fun _ => true) true n 3 [v11] = some y5 := by
    have g : DataW.trod enc Try.prog W 0 (fun _ => true) true n 3 (([v0, v1, v2, v3, v4, v5, v6, v7, v8, v9, v10, v11, v12].drop 11).take (Try.prog.cellsOf 3)) = [y0, y1, y2, y3, y4, y5, y6][5]? := hf 5 _ rfl
    rw [cellsOf3] at g; exact g
  have f6 : DataW.trod enc Try.prog W 0 (fun _ => true) true n 3 [v12] = some y6 := by
    have g : DataW.trod enc Try.prog W 0 (fun _ => true) true n 3 (([v0, v1, v2, v3, v4, v5, v6, v7, v8, v9, v10, v11, v12].drop 12).take (Try.prog.cellsOf 3)) = [y0, y1, y2, y3, y4, y5, y6][6]? := hf 6 _ rfl
    rw [cellsOf3] at g; exact g
  have hw2 : ∀ m ∈ y2.1.weights Try.prog 27, m ≤ 140737488351232 := fun m hm => hw m (hin 2 _ _ rfl rfl m hm)
  have hw4 : ∀ m ∈ y4.1.weights Try.prog 25, m ≤ 140737488351232 := fun m hm => hw m (hin 4 _ _ rfl rfl m hm)
  clear hf
  obtain ⟨k0, e0, _, b0⟩ := DataW.trod_int Try.underlying22 f0
  obtain rfl : v0 = .int .u8 k0 := by simpa using e0
  obtain ⟨k1, e1, _, b1⟩ := DataW.trod_int Try.underlying23 f1
  obtain rfl : v1 = .int .u64 k1 := by simpa using e1
  obtain ⟨k, key, hi, va, vc, V, oa, oc, O, has, lim, e2, h3, h4, hkey⟩ := open_requestK f2 hw2
  simp only [List.cons.injEq, and_true] at e2
  obtain ⟨rfl, rfl, rfl, rfl, rfl, rfl, rfl⟩ := e2
  obtain ⟨k3, e3, _, b3⟩ := DataW.trod_int Try.underlying28 f3
  obtain rfl : v9 = .int .u8 k3 := by simpa using e3
  obtain ⟨a4, c4, bs4, e4, h5⟩ := open_bytes f4 hw4
  obtain rfl : v10 = .slice a4 bs4.length c4 := by simpa using e4
  obtain ⟨k5, e5, _, b5⟩ := DataW.trod_int Try.underlying3 f5
  obtain rfl : v11 = .int .i64 k5 := by simpa using e5
  obtain ⟨k6, e6, _, b6⟩ := DataW.trod_int Try.underlying3 f6
  obtain rfl : v12 = .int .i64 k6 := by simpa using e6
  exact ⟨⟨k0, k1, k, key, hi, lim, k3, k5, k6, has, va, oa, a4, vc, oc, c4, V, O, bs4⟩, rfl, ⟨h3, h4, h5⟩, hkey⟩
theorem weights_all {P : Program} {e : TypeId} : ∀ {l : List (DataW H)} {d : DataW H}, d ∈ l → ∀ n ∈ d.weights P e, n ∈ DataW.weightsAll P e l
  | x :: l, d, hd, n, hn => by
    simp only [DataW.weightsAll, List.mem_append]
    rcases List.mem_cons.1 hd with rfl | h
    · exact .inl hn
    · exact .inr (weights_all h n hn)
theorem spot_noneC {w : World} {a : Addr} {u : Value} (h : w.cell? a = some u) : a.spot = none := by
  unfold World.cell? at h
  split at h
  · split at h
    · cases h
    · rename_i _ hs; simpa using hs
  · cases h
/-- calls that came in -/
theorem open_calls {v0 : Value} {d0 : DataW H} {p0 : List MemPlace} (h : DataW.Trod enc Try.prog W 0 (fun _ => true) true 33 v0 d0 p0) (hone : ∃ a len cap, v0 = .slice a len cap) (hw : ∀ n ∈ d0.weights Try.prog 33, n ≤ 140737488351232) :
    ∃ S, Cls W v0 S ∧ Kys S ∧ S.length * 144 ≤ 140737488351232 := by
  obtain ⟨fuel, hf⟩ := h
  obtain ⟨a0, len0, cap0, rfl⟩ := hone
  have hf' : DataW.trod enc Try.prog W 0 (fun _ => true) true fuel 33 [.slice a0 len0 cap0] = some (d0, p0) := by simpa [Value.cells] using hf
  rcases open_slice Try.underlying33 hf' with ⟨hcs, hx⟩ | ⟨a, len, cap, m, n, D, Pl, hcs, _, hl, hm, hmm, hx, hel⟩
  · simp only [List.cons.injEq, and_true] at hcs
    rw [hcs]
    exact ⟨[], .inl ⟨⟨_, _, rfl⟩, rfl⟩, (fun m hm => by cases hm), by simp⟩
  · simp only [List.cons.injEq, and_true] at hcs
    rw [hcs]
    simp only [Prod.mk.injEq] at hx
    have hml : m = cap := by rw [hmm]; simp
    have each : ∀ i, i < len → ∃ s : Ca, (∀ j, j < 13 → W.cell? (a.add (i * 13 + j)) = s.cells[j]?) ∧ CaOk W s ∧ 0 ≤ s.key ∧ s.key < 18446744073709551616 := by
      intro i hi
      obtain ⟨cs', hc, ht⟩ := hel i (by omega)
      rw [cellsOf30] at hc
      obtain ⟨s, rfl, ok, hk⟩ := open_callK ht (fun k hk => hw k (by
        rw [hx.1]
        simp only [DataW.weights, Try.underlying33, List.mem_cons, List.mem_append]
        exact .inr (.inl (weights_all (List.mem_map.2 ⟨i, List.mem_range.2 hi, rfl⟩) k hk))))
      refine ⟨s, fun j hj => ?_, ok, hk⟩
      obtain ⟨_, _, hcell⟩ := World.cells?_some hc
      have := hcell j hj
      rw [Deep.add_add] at this
      exact this
    haveI : Inhabited Ca := ⟨zca⟩
    obtain ⟨f, hf2⟩ := choose_lt (α := Ca) each
    by_cases h0 : len = 0
    · subst h0
      exact ⟨[], .inl ⟨⟨_, _, rfl⟩, rfl⟩, (fun m hm => by cases hm), by simp⟩
    · have hsp : a.spot = none := by
        have h1 := (hf2 0 (by omega)).1 0 (by omega)
        have e : a.add (0 * 13 + 0) = a := by simp [Addr.add]
        rw [e] at h1
        exact spot_noneC (u := .int .u8 (f 0).who) h1
      obtain ⟨ab, ao, sp⟩ := a
      simp only at hsp
      subst hsp
      have hlb : len * 144 ≤ 140737488351232 := by
        have h1 := hw ((((List.range len).map D).length + ((List.range (m - len)).map fun j => D (len + j)).length) * Try.prog.bytesOf 30) (by rw [hx.1]; simp [DataW.weights, Try.underlying33])
        simp only [List.length_map, List.length_range] at h1
        rw [bytesOf30] at h1
        omega
      refine ⟨(List.range len).map f, .inr ⟨ab, ao, cap, by simp, fun i s hs => ?_⟩, fun s hs => ?_, by simpa using hlb⟩
      · have hi : i < len := by
          have := (List.getElem?_eq_some_iff.1 hs).1
          simpa using this
        have hs' : f i = s := by simpa [hi] using hs
        subst hs'
        obtain ⟨hc, ok, _⟩ := hf2 i hi
        refine ⟨fun j x hx => ?_, ok⟩
        have hj : j < 13 := (List.getElem?_eq_some_iff.1 hx).1
        have c := hc j hj
        rw [Addr.add_lit, ← Nat.add_assoc] at c
        rw [c]
        exact hx
      · obtain ⟨i, hi, rfl⟩ := List.mem_map.1 hs
        exact (hf2 i (by simpa using hi)).2.2
/-- an order that came in -/
theorem open_order {v0 : Value} {d0 : DataW H} {p0 : List MemPlace} (h : DataW.Trod enc Try.prog W 0 (fun _ => true) true 39 v0 d0 p0) (hone : ∃ a len cap, v0 = .slice a len cap) (hw : ∀ n ∈ d0.weights Try.prog 39, n ≤ 140737488351232) :
    ∃ a c o, v0 = .slice a o.length c ∧ Ns W (.slice a o.length c) o ∧ (a = none → c = 0) ∧ o.length ≤ 140737488351232 := by
  obtain ⟨fuel, hf⟩ := h
  obtain ⟨a0, len0, cap0, rfl⟩ := hone
  have hf' : DataW.trod enc Try.prog W 0 (fun _ => true) true fuel 39 [.slice a0 len0 cap0] = some (d0, p0) := by simpa [Value.cells] using hf
  rcases open_ints Try.underlying39 Try.underlying3 cellsOf3 hf' with ⟨hcs, _⟩ | ⟨a, len, cap, zs, hcs, _, hl, hm, hz, hx, hcell, hwz⟩
  · simp only [List.cons.injEq, and_true, Value.slice.injEq] at hcs
    obtain ⟨rfl, rfl, rfl⟩ := hcs
    exact ⟨none, 0, [], rfl, ⟨none, 0, rfl, by simp, fun j x hx => by simp at hx⟩, fun _ => rfl, by simp⟩
  · simp only [List.cons.injEq, and_true, Value.slice.injEq] at hcs
    obtain ⟨rfl, rfl, rfl⟩ := hcs
    have hzl : (zs.take len0).length = len0 := by
      rw [List.length_take, hz]
      simp
      omega
    refine ⟨some a, cap0, zs.take len0, by rw [hzl], ⟨some a, cap0, rfl, by rw [hzl]; exact hl, fun j x hj => ⟨a, rfl, ?_⟩⟩, (fun e => by cases e), ?_⟩
    · have hj2 : j < len0 := by
        have := (List.getElem?_eq_some_iff.1 hj).1
        rw [hzl] at this
        exact this
      have hj3 : j < zs.length := by rw [hz]; simp; omega
      have := hcell j hj3
      rw [this]
      rw [List.getElem?_take_of_lt hj2] at hj
      have e : zs.getD j 0 = x := by
        rw [List.getD_eq_getElem?_getD, hj]
        rfl
      rw [e]
    · have hd : d0 = _ := congrArg Prod.fst hx
      have := hw _ (by rw [hd]; simp [DataW.weights, Try.underlying39]; exact .inl rfl)
      rw [bytesOf3] at this
      have e1 : (lits IntKind.i64 (List.take len0 zs) : List (DataW H)).length = (List.take len0 zs).length := by simp [lits]
      rw [e1, hzl] at this
      rw [hzl]
      omega
end
end Go.Proofs.Ytcbonbeogdgogaa.Li
