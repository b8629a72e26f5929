import Derived.Test.YtcbonbeogdgogaaLiO
import Derived.ProofKit
import Derived.OpenShut
import Derived.SizedLaws
import Derived.Carry
import Derived.Deep.Slices
import Derived.Deep.Fields
namespace Go.Proofs.Ytcbonbeogdgogaa.Li
open Go.ChangeShapes Go.WideShapes Go.ChangeAt Go.RowKit
open Go.Deep
set_option linter.unusedVariables false
theorem ownK : ownKnob Try.prog.godebug = none := by kernel_rfl
theorem laidOut : laidOutB Try.prog = true := by kernel_rfl
theorem cellsOf3 : Try.prog.cellsOf 3 = 1 := by kernel_rfl
theorem cellsOf4 : Try.prog.cellsOf 4 = 1 := by kernel_rfl
theorem cellsOf5 : Try.prog.cellsOf 5 = 1 := by kernel_rfl
theorem cellsOf22 : Try.prog.cellsOf 22 = 1 := by kernel_rfl
theorem cellsOf23 : Try.prog.cellsOf 23 = 1 := by kernel_rfl
theorem cellsOf24 : Try.prog.cellsOf 24 = 1 := by kernel_rfl
theorem cellsOf25 : Try.prog.cellsOf 25 = 1 := by kernel_rfl
theorem cellsOf28 : Try.prog.cellsOf 28 = 1 := by kernel_rfl
theorem cellsOf27 : Try.prog.cellsOf 27 = 7 := by kernel_rfl
theorem cellsOf30 : Try.prog.cellsOf 30 = 13 := by kernel_rfl
theorem bytesOf5 : Try.prog.bytesOf 5 = 1 := by kernel_rfl
theorem bytesOf30 : Try.prog.bytesOf 30 = 144 := by kernel_rfl
section
variable {H : Type} {enc : TypeId × Value → H} {W : World}
/-- a slice of bytes that came in -/
theorem open_bytes {fuel : Nat} {cs0 : List Value} {x : DataW H × List MemPlace} (h : DataW.trod enc Try.prog W 0 (fun _ => true) true fuel 25 cs0 = some x) (hw : ∀ m ∈ x.1.weights Try.prog 25, m ≤ 140737488351232) :
    ∃ (a : Option Addr) (c : Nat) (bs : List Int), cs0 = [.slice a bs.length c] ∧ By W (.slice a bs.length c) bs := by
  rcases open_ints Try.underlying25 Try.underlying5 cellsOf5 h with ⟨rfl, rfl⟩ | ⟨a, len, cap, zs, rfl, _, hl, hm, hz, rfl, hcell, hwz⟩
  · exact ⟨none, 0, [], rfl, By.nil _⟩
  · have hzl : (zs.take len).length = len := by
      rw [List.length_take, hz]
      simp
      omega
    refine ⟨some a, cap, zs.take len, by rw [hzl], ⟨.inr ⟨a, cap, rfl, fun j u hj => ?_⟩, ?_, ?_⟩⟩
    · have hj2 : j < len := by
        have := (List.getElem?_eq_some_iff.1 hj).1
        rw [cs_length, hzl] at this
        exact this
      have hj3 : j < zs.length := by rw [hz]; simp; omega
      have := hcell j hj3
      rw [this]
      rw [← hj]
      simp [cs, hj2, hj3]
    · intro z hz'
      have := hwz z (List.mem_of_mem_take hz')
      simpa [Lit.wf, IntKind.min, IntKind.max, IntKind.signed, IntKind.bits] using this
    · have := hw _ (by simp [DataW.weights, Try.underlying25]; exact .inl rfl)
      rw [bytesOf5, Nat.mul_one] at this
      have e1 : (lits IntKind.u8 (List.take len zs) : List (DataW H)).length = (List.take len zs).length := by simp [lits]
      rw [e1] at this
      exact Nat.le_trans (Nat.le_add_right _ _) this
theorem sized_at {ts : List TypeId} {ds : List (DataW H)} (h : (DataW.weightsEach Try.prog ts ds).all (· ≤ reachBytes) = true) (j : Nat) {t : TypeId} {d : DataW H} (ht : ts[j]? = some t) (hd : ds[j]? = some d) : ∀ n ∈ d.weights Try.prog t, n ≤ 140737488351232 := by
  intro n hn
  have := List.all_eq_true.1 h n (DataW.weights_mem_each ht hd n hn)
  exact of_decide_eq_true this
theorem get7 {α : Type} : ∀ {l : List α}, l.length = 7 → ∃ a0 a1 a2 a3 a4 a5 a6, l = [a0, a1, a2, a3, a4, a5, a6]
  | [a0, a1, a2, a3, a4, a5, a6], _ => ⟨a0, a1, a2, a3, a4, a5, a6, rfl⟩
theorem get13 {α : Type} : ∀ {l : List α}, l.length = 13 → ∃ a0 a1 a2 a3 a4 a5 a6 a7 a8 a9 a10 a11 a12, l = [a0, a1, a2, a3, a4, a5, a6, a7, a8, a9, a10, a11, a12]
  | [a0, a1, a2, a3, a4, a5, a6, a7, a8, a9, a10, a11, a12], _ => ⟨a0, a1, a2, a3, a4, a5, a6, a7, a8, a9, a10, a11, a12, rfl⟩
set_option maxRecDepth 100000 in
set_option maxHeartbeats 1000000 in
theorem open_request {fuel : Nat} {cs0 : List Value} {x : DataW H × List MemPlace} (h : DataW.trod enc Try.prog W 0 (fun _ => true) true fuel 27 cs0 = some x) (hw : ∀ m ∈ x.1.weights Try.prog 27, m ≤ 140737488351232) :
    ∃ (k key hi : Int) (va : Option Addr) (vc : Nat) (V : List Int) (oa : Option Addr) (oc : Nat) (O : List Int) (has : Bool) (lim : Int), cs0 = [.int .u8 k, .int .u64 key, .int .u64 hi, .slice va V.length vc, .slice oa O.length oc, .bool has, .int .u8 lim] ∧ By W (.slice va V.length vc) V ∧ By W (.slice oa O.length oc) O := by
  obtain ⟨xs, n, rfl, rfl, hl, hxl, hf⟩ := DataW.trod_struct Try.underlying27 h
  rw [cellsOf27] at hl
  obtain ⟨y0, y1, y2, y3, y4, y5, y6, rfl⟩ := get7 (show xs.length = 7 from hxl)
  obtain ⟨v0, v1, v2, v3, v4, v5, v6, rfl⟩ := get7 hl
  have hin : ∀ (j : Nat) (t : TypeId) (d : DataW H), [24, 23, 23, 25, 25, 4, 5][j]? = some t → [y0.1, y1.1, y2.1, y3.1, y4.1, y5.1, y6.1][j]? = some d → ∀ m ∈ d.weights Try.prog t, m ∈ (DataW.agg ([y0, y1, y2, y3, y4, y5, y6].map Prod.fst)).weights Try.prog 27 := fun j t d ht hd m hm => by
    simp only [DataW.weights, Try.underlying27]
    exact DataW.weights_mem_each ht hd m hm
  have f0 : DataW.trod enc Try.prog W 0 (fun _ => true) true n 24 [v0] = some y0 := by
    have g : DataW.trod enc Try.prog W 0 (fun _ => true) true n 24 (([v0, v1, v2, v3, v4, v5, v6].drop 0).take (Try.prog.cellsOf 24)) = [y0, y1, y2, y3, y4, y5, y6][0]? := hf 0 _ rfl
    rw [cellsOf24] at g; exact g
  have f1 : DataW.trod enc Try.prog W 0 (fun _ => true) true n 23 [v1] = some y1 := by
    have g : DataW.trod enc Try.prog W 0 (fun _ => true) true n 23 (([v0, v1, v2, v3, v4, v5, v6].drop 1).take (Try.prog.cellsOf 23)) = [y0, y1, y2, y3, y4, y5, y6][1]? := hf 1 _ rfl
    rw [cellsOf23] at g; exact g
  have f2 : DataW.trod enc Try.prog W 0 (fun _ => true) true n 23 [v2] = some y2 := by
    have g : DataW.trod enc Try.prog W 0 (fun _ => true) true n 23 (([v0, v1, v2, v3, v4, v5, v6].drop 2).take (Try.prog.cellsOf 23)) = [y0, y1, y2, y3, y4, y5, y6][2]? := hf 2 _ rfl
    rw [cellsOf23] at g; exact g
  have f3 : DataW.trod enc Try.prog W 0 (fun _ => true) true n 25 [v3] = some y3 := by
    have g : DataW.trod enc Try.prog W 0 (fun _ => true) true n 25 (([v0, v1, v2, v3, v4, v5, v6].drop 3).take (Try.prog.cellsOf 25)) = [y0, y1, y2, y3, y4, y5, y6][3]? := hf 3 _ rfl
    rw [cellsOf25] at g; exact g
  have f4 : DataW.trod enc Try.prog W 0 (fun _ => true) true n 25 [v4] = some y4 := by
    have g : DataW.trod enc Try.prog W 0 (fun _ => true) true n 25 (([v0, v1, v2, v3, v4, v5, v6].drop 4).take (Try.prog.cellsOf 25)) = [y0, y1, y2, y3, y4, y5, y6][4]? := hf 4 _ rfl
    rw [cellsOf25] at g; exact g
  have f5 : DataW.trod enc Try.prog W 0 (fun _ => true) true n 4 [v5] = some y5 := by
    have g : DataW.trod enc Try.prog W 0 (fun _ => true) true n 4 (([v0, v1, v2, v3, v4, v5, v6].drop 5).take (Try.prog.cellsOf 4)) = [y0, y1, y2, y3, y4, y5, y6][5]? := hf 5 _ rfl
    rw [cellsOf4] at g; exact g
  have f6 : DataW.trod enc Try.prog W 0 (fun _ => true) true n 5 [v6] = some y6 := by
    have g : DataW.trod enc Try.prog W 0 (fun _ => true) true n 5 (([v0, v1, v2, v3, v4, v5, v6].drop 6).take (Try.prog.cellsOf 5)) = [y0, y1, y2, y3, y4, y5, y6][6]? := hf 6 _ rfl
    rw [cellsOf5] at g; exact g
  have hw3 : ∀ m ∈ y3.1.weights Try.prog 25, m ≤ 140737488351232 := fun m hm => hw m (hin 3 _ _ rfl rfl m hm)
  have hw4 : ∀ m ∈ y4.1.weights Try.prog 25, m ≤ 140737488351232 := fun m hm => hw m (hin 4 _ _ rfl rfl m hm)
  clear hf
  obtain ⟨k0, e0, _, b0⟩ := DataW.trod_int Try.underlying24 f0
  obtain rfl : v0 = .int .u8 k0 := by simpa using e0
  obtain ⟨k1, e1, _, b1⟩ := DataW.trod_int Try.underlying23 f1
  obtain rfl : v1 = .int .u64 k1 := by simpa using e1
  obtain ⟨k2, e2, _, b2⟩ := DataW.trod_int Try.underlying23 f2
  obtain rfl : v2 = .int .u64 k2 := by simpa using e2
  obtain ⟨a3, c3, bs3, e3, h3⟩ := open_bytes f3 hw3
  obtain rfl : v3 = .slice a3 bs3.length c3 := by simpa using e3
  obtain ⟨a4, c4, bs4, e4, h4⟩ := open_bytes f4 hw4
  obtain rfl : v4 = .slice a4 bs4.length c4 := by simpa using e4
  obtain ⟨k5, e5, _⟩ := DataW.trod_bool Try.underlying4 f5
  obtain rfl : v5 = .bool k5 := by simpa using e5
  obtain ⟨k6, e6, _, b6⟩ := DataW.trod_int Try.underlying5 f6
  obtain rfl : v6 = .int .u8 k6 := by simpa using e6
  exact ⟨k0, k1, k2, a3, c3, bs3, a4, c4, bs4, k5, k6, rfl, h3, h4⟩
set_option maxRecDepth 100000 in
set_option maxHeartbeats 1000000 in
theorem open_call {fuel : Nat} {cs0 : List Value} {x : DataW H × List MemPlace} (h : DataW.trod enc Try.prog W 0 (fun _ => true) true fuel 30 cs0 = some x) (hw : ∀ m ∈ x.1.weights Try.prog 30, m ≤ 140737488351232) :
    ∃ c : Ca, cs0 = c.cells ∧ CaOk W c := by
  obtain ⟨xs, n, rfl, rfl, hl, hxl, hf⟩ := DataW.trod_struct Try.underlying30 h
  rw [cellsOf30] at hl
  obtain ⟨y0, y1, y2, y3, y4, y5, y6, rfl⟩ := get7 (show xs.length = 7 from hxl)
  obtain ⟨v0, v1, v2, v3, v4, v5, v6, v7, v8, v9, v10, v11, v12, rfl⟩ := get13 hl
  have hin : ∀ (j : Nat) (t : TypeId) (d : DataW H), [22, 23, 27, 28, 25, 3, 3][j]? = some t → [y0.1, y1.1, y2.1, y3.1, y4.1, y5.1, y6.1][j]? = some d → ∀ m ∈ d.weights Try.prog t, m ∈ (DataW.agg ([y0, y1, y2, y3, y4, y5, y6].map Prod.fst)).weights Try.prog 30 := fun j t d ht hd m hm => by
    simp only [DataW.weights, Try.underlying30]
    exact DataW.weights_mem_each ht hd m hm
  have f0 : DataW.trod enc Try.prog W 0 (fun _ => true) true n 22 [v0] = some y0 := by
    have g : DataW.trod enc Try.prog W 0 (fun _ => true) true n 22 (([v0, v1, v2, v3, v4, v5, v6, v7, v8, v9, v10, v11, v12].drop 0).take (Try.prog.cellsOf 22)) = [y0, y1, y2, y3, y4, y5, y6][0]? := hf 0 _ rfl
    rw [cellsOf22] at g; exact g
  have f1 : DataW.trod enc Try.prog W 0 (fun _ => true) true n 23 [v1] = some y1 := by
    have g : DataW.trod enc Try.prog W 0 (fun _ => true) true n 23 (([v0, v1, v2, v3, v4, v5, v6, v7, v8, v9, v10, v11, v12].drop 1).take (Try.prog.cellsOf 23)) = [y0, y1, y2, y3, y4, y5, y6][1]? := hf 1 _ rfl
    rw [cellsOf23] at g; exact g
  have f2 : DataW.trod enc Try.prog W 0 (fun _ => true) true n 27 [v2, v3, v4, v5, v6, v7, v8] = some y2 := by
    have g : DataW.trod enc Try.prog W 0 (fun _ => true) true n 27 (([v0, v1, v2, v3, v4, v5, v6, v7, v8, v9, v10, v11, v12].drop 2).take (Try.prog.cellsOf 27)) = [y0, y1, y2, y3, y4, y5, y6][2]? := hf 2 _ rfl
    rw [cellsOf27] at g; exact g
  have f3 : DataW.trod enc Try.prog W 0 (fun _ => true) true n 28 [v9] = some y3 := by
    have g : DataW.trod enc Try.prog W 0 (fun _ => true) true n 28 (([v0, v1, v2, v3, v4, v5, v6, v7, v8, v9, v10, v11, v12].drop 9).take (Try.prog.cellsOf 28)) = [y0, y1, y2, y3, y4, y5, y6][3]? := hf 3 _ rfl
    rw [cellsOf28] at g; exact g
  have f4 : DataW.trod enc Try.prog W 0 (fun _ => true) true n 25 [v10] = some y4 := by
    have g : DataW.trod enc Try.prog W 0 (fun _ => true) true n 25 (([v0, v1, v2, v3, v4, v5, v6, v7, v8, v9, v10, v11, v12].drop 10).take (Try.prog.cellsOf 25)) = [y0, y1, y2, y3, y4, y5, y6][4]? := hf 4 _ rfl
    rw [cellsOf25] at g; exact g
  have f5 : DataW.trod enc Try.prog W 0 (fun _ => true) true n 3 [v11] = some y5 := by
    have g : DataW.trod enc Try.prog W 0 (fun _ => true) true n 3 (([v0, v1, v2, v3, v4, v5, v6, v7, v8, v9, v10, v11, v12].drop 11).take (Try.prog.cellsOf 3)) = [y0, y1, y2, y3, y4, y5, y6][5]? := hf 5 _ rfl
    rw [cellsOf3] at g; exact g
  have f6 : DataW.trod enc Try.prog W 0 (fun _ => true) true n 3 [v12] = some y6 := by
    have g : DataW.trod enc Try.prog W 0 (fun _ => true) true n 3 (([v0, v1, v2, v3, v4, v5, v6, v7, v8, v9, v10, v11, v12].drop 12).take (Try.prog.cellsOf 3)) = [y0, y1, y2, y3, y4, y5, y6][6]? := hf 6 _ rfl
    rw [cellsOf3] at g; exact g
  have hw2 : ∀ m ∈ y2.1.weights Try.prog 27, m ≤ 140737488351232 := fun m hm => hw m (hin 2 _ _ rfl rfl m hm)
  have hw4 : ∀ m ∈ y4.1.weights Try.prog 25, m ≤ 140737488351232 := fun m hm => hw m (hin 4 _ _ rfl rfl m hm)
  clear hf
  obtain ⟨k0, e0, _, b0⟩ := DataW.trod_int Try.underlying22 f0
  obtain rfl : v0 = .int .u8 k0 := by simpa using e0
  obtain ⟨k1, e1, _, b1⟩ := DataW.trod_int Try.underlying23 f1
  obtain rfl : v1 = .int .u64 k1 := by simpa using e1
  obtain ⟨k, key, hi, va, vc, V, oa, oc, O, has, lim, e2, h3, h4⟩ := open_request f2 hw2
  simp only [List.cons.injEq, and_true] at e2
  obtain ⟨rfl, rfl, rfl, rfl, rfl, rfl, rfl⟩ := e2
  obtain ⟨k3, e3, _, b3⟩ := DataW.trod_int Try.underlying28 f3
  obtain rfl : v9 = .int .u8 k3 := by simpa using e3
  obtain ⟨a4, c4, bs4, e4, h5⟩ := open_bytes f4 hw4
  obtain rfl : v10 = .slice a4 bs4.length c4 := by simpa using e4
  obtain ⟨k5, e5, _, b5⟩ := DataW.trod_int Try.underlying3 f5
  obtain rfl : v11 = .int .i64 k5 := by simpa using e5
  obtain ⟨k6, e6, _, b6⟩ := DataW.trod_int Try.underlying3 f6
  obtain rfl : v12 = .int .i64 k6 := by simpa using e6
  exact ⟨⟨k0, k1, k, key, hi, lim, k3, k5, k6, has, va, oa, a4, vc, oc, c4, V, O, bs4⟩, rfl, h3, h4, h5⟩
end
end Go.Proofs.Ytcbonbeogdgogaa.Li
