import Derived.Test.YtmlnglillgplfaaGreatSmA
import Derived.ProofKit
import Derived.OpenShut
import Derived.SizedLaws
import Derived.Carry
import Derived.Deep.Slices
import Derived.Deep.Fields
import Derived.Test.YtmlnglillgplfaaGreatFnU
namespace Go.Proofs.YtmlnglillgplfaaGreat.Cl
open Go.ChangeShapes Go.WideShapes Go.ChangeAt Go.RowKit
open Go.Deep
set_option linter.unusedVariables false
theorem ownK : ownKnob Tryz.prog.godebug = none := by kernel_rfl
theorem laidOut : laidOutB Tryz.prog = true := by kernel_rfl
theorem cellsOf2 : Tryz.prog.cellsOf 2 = 1 := by kernel_rfl
theorem cellsOf3 : Tryz.prog.cellsOf 3 = 1 := by kernel_rfl
theorem cellsOf4 : Tryz.prog.cellsOf 4 = 1 := by kernel_rfl
theorem cellsOf5 : Tryz.prog.cellsOf 5 = 1 := by kernel_rfl
theorem cellsOf22 : Tryz.prog.cellsOf 22 = 1 := by kernel_rfl
theorem cellsOf23 : Tryz.prog.cellsOf 23 = 1 := by kernel_rfl
theorem cellsOf24 : Tryz.prog.cellsOf 24 = 1 := by kernel_rfl
theorem cellsOf30 : Tryz.prog.cellsOf 30 = 1 := by kernel_rfl
theorem cellsOf31 : Tryz.prog.cellsOf 31 = 1 := by kernel_rfl
theorem cellsOf32 : Tryz.prog.cellsOf 32 = 1 := by kernel_rfl
theorem cellsOf33 : Tryz.prog.cellsOf 33 = 1 := by kernel_rfl
theorem cellsOf34 : Tryz.prog.cellsOf 34 = 1 := by kernel_rfl
theorem cellsOf26 : Tryz.prog.cellsOf 26 = 7 := by kernel_rfl
theorem cellsOf36 : Tryz.prog.cellsOf 36 = 17 := by kernel_rfl
theorem cellsOf46 : Tryz.prog.cellsOf 46 = 27 := by kernel_rfl
theorem bytesOf5 : Tryz.prog.bytesOf 5 = 1 := by kernel_rfl
section
variable {H : Type} {enc : TypeId × Value → H} {W : World}
/-- a slice of bytes that came in -/
theorem open_bytes {fuel : Nat} {cs0 : List Value} {x : DataW H × List MemPlace} (h : DataW.trod enc Tryz.prog W 0 (fun _ => true) true fuel 24 cs0 = some x) :
    ∃ (v : Value) (bs : List Int), cs0 = [v] ∧ Rd W v bs ∧ Byt bs ∧ ((x.1 = .nil ∧ bs = []) ∨ ∃ el sp, x.1 = .slice el sp ∧ el.length = bs.length) := by
  rcases open_ints Tryz.underlying24 Tryz.underlying5 cellsOf5 h with ⟨rfl, rfl⟩ | ⟨a, len, cap, zs, rfl, _, hl, hm, hz, rfl, hcell, hwz⟩
  · exact ⟨_, [], rfl, .inl ⟨rfl, rfl⟩, (fun z hz => by simp at hz), .inl ⟨rfl, rfl⟩⟩
  · have hzl : (zs.take len).length = len := by
      rw [List.length_take, hz]
      simp
      omega
    refine ⟨_, zs.take len, rfl, .inr ⟨a, cap, by rw [hzl], fun j u hj => ?_⟩, ?_, .inr ⟨_, _, rfl, ?_⟩⟩
    · have hj2 : j < len := by
        have := (List.getElem?_eq_some_iff.1 hj).1
        rw [cs_length, hzl] at this
        exact this
      have hj3 : j < zs.length := by rw [hz]; simp; omega
      have := hcell j hj3
      rw [this]
      rw [← hj]
      simp [cs, hj2, hj3]
    · intro z hz'
      have := hwz z (List.mem_of_mem_take hz')
      simpa [Lit.wf, IntKind.min, IntKind.max, IntKind.signed, IntKind.bits] using this
    · simp [lits]
/-- a slice of structs that came in: its shape -/
theorem open_shape {t e : TypeId} (hu : Tryz.prog.underlying t = some (.slice e)) {fuel : Nat} {cs0 : List Value} {x : DataW H × List MemPlace} (h : DataW.trod enc Tryz.prog W 0 (fun _ => true) true fuel t cs0 = some x) :
    ∃ a n c, cs0 = [.slice a n c] := by
  rcases open_slice hu h with ⟨hcs, _⟩ | ⟨a, len, cap, m, n, D, Pl, hcs, _⟩
  · exact ⟨_, _, _, hcs⟩
  · exact ⟨_, _, _, hcs⟩
theorem sized_at {ts : List TypeId} {ds : List (DataW H)} (h : (DataW.weightsEach Tryz.prog ts ds).all (· ≤ reachBytes) = true) (j : Nat) {t : TypeId} {d : DataW H} (ht : ts[j]? = some t) (hd : ds[j]? = some d) : ∀ n ∈ d.weights Tryz.prog t, n ≤ 140737488351232 := by
  intro n hn
  have := List.all_eq_true.1 h n (DataW.weights_mem_each ht hd n hn)
  exact of_decide_eq_true this
theorem open_at {t : TypeId} {v0 : Value} {d0 : DataW H} {p0 : List MemPlace} (h : DataW.Trod enc Tryz.prog W 0 (fun _ => true) true t v0 d0 p0) (hone : v0.cells.toList = [v0]) : ∃ fuel, DataW.trod enc Tryz.prog W 0 (fun _ => true) true fuel t [v0] = some (d0, p0) := by
  obtain ⟨fuel, hf⟩ := h
  exact ⟨fuel, by rw [← hone]; exact hf⟩
theorem get5 {α : Type} : ∀ {l : List α}, l.length = 5 → ∃ a0 a1 a2 a3 a4, l = [a0, a1, a2, a3, a4]
  | [a0, a1, a2, a3, a4], _ => ⟨a0, a1, a2, a3, a4, rfl⟩
theorem get7 {α : Type} : ∀ {l : List α}, l.length = 7 → ∃ a0 a1 a2 a3 a4 a5 a6, l = [a0, a1, a2, a3, a4, a5, a6]
  | [a0, a1, a2, a3, a4, a5, a6], _ => ⟨a0, a1, a2, a3, a4, a5, a6, rfl⟩
theorem get17 {α : Type} : ∀ {l : List α}, l.length = 17 → ∃ a0 a1 a2 a3 a4 a5 a6 a7 a8 a9 a10 a11 a12 a13 a14 a15 a16, l = [a0, a1, a2, a3, a4, a5, a6, a7, a8, a9, a10, a11, a12, a13, a14, a15, a16]
  | [a0, a1, a2, a3, a4, a5, a6, a7, a8, a9, a10, a11, a12, a13, a14, a15, a16], _ => ⟨a0, a1, a2, a3, a4, a5, a6, a7, a8, a9, a10, a11, a12, a13, a14, a15, a16, rfl⟩
theorem get27 {α : Type} : ∀ {l : List α}, l.length = 27 → ∃ a0 a1 a2 a3 a4 a5 a6 a7 a8 a9 a10 a11 a12 a13 a14 a15 a16 a17 a18 a19 a20 a21 a22 a23 a24 a25 a26, l = [a0, a1, a2, a3, a4, a5, a6, a7, a8, a9, a10, a11, a12, a13, a14, a15, a16, a17, a18, a19, a20, a21, a22, a23, a24, a25, a26]
  | [a0, a1, a2, a3, a4, a5, a6, a7, a8, a9, a10, a11, a12, a13, a14, a15, a16, a17, a18, a19, a20, a21, a22, a23, a24, a25, a26], _ => ⟨a0, a1, a2, a3, a4, a5, a6, a7, a8, a9, a10, a11, a12, a13, a14, a15, a16, a17, a18, a19, a20, a21, a22, a23, a24, a25, a26, rfl⟩
set_option maxRecDepth 100000 in
set_option maxHeartbeats 1000000 in
theorem open_request {fuel : Nat} {cs0 : List Value} {x : DataW H × List MemPlace} (h : DataW.trod enc Tryz.prog W 0 (fun _ => true) true fuel 26 cs0 = some x) :
    ∃ (k : Int) (key : Int) (hi : Int) (va : Option Addr) (vc : Nat) (vY : List Int) (oa : Option Addr) (oc : Nat) (oY : List Int) (has : Bool) (lim : Int), cs0 = [.int .u8 k, .int .u64 key, .int .u64 hi, .slice va vY.length vc, .slice oa oY.length oc, .bool has, .int .u8 lim] ∧ (0 ≤ k ∧ k < 256) ∧ (0 ≤ key ∧ key < 18446744073709551616) ∧ (0 ≤ hi ∧ hi < 18446744073709551616) ∧ Rd W (.slice va vY.length vc) vY ∧ Byt vY ∧ Rd W (.slice oa oY.length oc) oY ∧ Byt oY ∧ (0 ≤ lim ∧ lim < 256) := by
  obtain ⟨xs, n, rfl, rfl, hl, hxl, hf⟩ := DataW.trod_struct Tryz.underlying26 h
  rw [cellsOf26] at hl
  obtain ⟨y0, y1, y2, y3, y4, y5, y6, rfl⟩ := get7 (show xs.length = 7 from hxl)
  obtain ⟨v0, v1, v2, v3, v4, v5, v6, rfl⟩ := get7 hl
  have f0 : DataW.trod enc Tryz.prog W 0 (fun _ => true) true n 22 [v0] = some y0 := by
    have g : DataW.trod enc Tryz.prog W 0 (fun _ => true) true n 22 (([v0, v1, v2, v3, v4, v5, v6].drop 0).take (Tryz.prog.cellsOf 22)) = [y0, y1, y2, y3, y4, y5, y6][0]? := hf 0 _ rfl
    rw [cellsOf22] at g; exact g
  have f1 : DataW.trod enc Tryz.prog W 0 (fun _ => true) true n 23 [v1] = some y1 := by
    have g : DataW.trod enc Tryz.prog W 0 (fun _ => true) true n 23 (([v0, v1, v2, v3, v4, v5, v6].drop 1).take (Tryz.prog.cellsOf 23)) = [y0, y1, y2, y3, y4, y5, y6][1]? := hf 1 _ rfl
    rw [cellsOf23] at g; exact g
  have f2 : DataW.trod enc Tryz.prog W 0 (fun _ => true) true n 23 [v2] = some y2 := by
    have g : DataW.trod enc Tryz.prog W 0 (fun _ => true) true n 23 (([v0, v1, v2, v3, v4, v5, v6].drop 2).take (Tryz.prog.cellsOf 23)) = [y0, y1, y2, y3, y4, y5, y6][2]? := hf 2 _ rfl
    rw [cellsOf23] at g; exact g
  have f3 : DataW.trod enc Tryz.prog W 0 (fun _ => true) true n 24 [v3] = some y3 := by
    have g : DataW.trod enc Tryz.prog W 0 (fun _ => true) true n 24 (([v0, v1, v2, v3, v4, v5, v6].drop 3).take (Tryz.prog.cellsOf 24)) = [y0, y1, y2, y3, y4, y5, y6][3]? := hf 3 _ rfl
    rw [cellsOf24] at g; exact g
  have f4 : DataW.trod enc Tryz.prog W 0 (fun _ => true) true n 24 [v4] = some y4 := by
    have g : DataW.trod enc Tryz.prog W 0 (fun _ => true) true n 24 (([v0, v1, v2, v3, v4, v5, v6].drop 4).take (Tryz.prog.cellsOf 24)) = [y0, y1, y2, y3, y4, y5, y6][4]? := hf 4 _ rfl
    rw [cellsOf24] at g; exact g
  have f5 : DataW.trod enc Tryz.prog W 0 (fun _ => true) true n 4 [v5] = some y5 := by
    have g : DataW.trod enc Tryz.prog W 0 (fun _ => true) true n 4 (([v0, v1, v2, v3, v4, v5, v6].drop 5).take (Tryz.prog.cellsOf 4)) = [y0, y1, y2, y3, y4, y5, y6][5]? := hf 5 _ rfl
    rw [cellsOf4] at g; exact g
  have f6 : DataW.trod enc Tryz.prog W 0 (fun _ => true) true n 5 [v6] = some y6 := by
    have g : DataW.trod enc Tryz.prog W 0 (fun _ => true) true n 5 (([v0, v1, v2, v3, v4, v5, v6].drop 6).take (Tryz.prog.cellsOf 5)) = [y0, y1, y2, y3, y4, y5, y6][6]? := hf 6 _ rfl
    rw [cellsOf5] at g; exact g
  clear hf
  obtain ⟨k0, e0, _, b0⟩ := DataW.trod_int Tryz.underlying22 f0
  obtain rfl : v0 = .int .u8 k0 := by simpa using e0
  have w0 : 0 ≤ k0 ∧ k0 < 256 := by
    simp [Lit.wf, IntKind.min, IntKind.max, IntKind.signed, IntKind.bits] at b0
    omega
  obtain ⟨k1, e1, _, b1⟩ := DataW.trod_int Tryz.underlying23 f1
  obtain rfl : v1 = .int .u64 k1 := by simpa using e1
  have w1 : 0 ≤ k1 ∧ k1 < 18446744073709551616 := by
    simp [Lit.wf, IntKind.min, IntKind.max, IntKind.signed, IntKind.bits] at b1
    omega
  obtain ⟨k2, e2, _, b2⟩ := DataW.trod_int Tryz.underlying23 f2
  obtain rfl : v2 = .int .u64 k2 := by simpa using e2
  have w2 : 0 ≤ k2 ∧ k2 < 18446744073709551616 := by
    simp [Lit.wf, IntKind.min, IntKind.max, IntKind.signed, IntKind.bits] at b2
    omega
  obtain ⟨bv3, bs3, e3, hr3, hb3, _⟩ := open_bytes f3
  obtain rfl : v3 = bv3 := by simpa using e3
  obtain ⟨ad3, cp3, rfl⟩ := hr3.slice
  obtain ⟨bv4, bs4, e4, hr4, hb4, _⟩ := open_bytes f4
  obtain rfl : v4 = bv4 := by simpa using e4
  obtain ⟨ad4, cp4, rfl⟩ := hr4.slice
  obtain ⟨k5, e5, _⟩ := DataW.trod_bool Tryz.underlying4 f5
  obtain rfl : v5 = .bool k5 := by simpa using e5
  obtain ⟨k6, e6, _, b6⟩ := DataW.trod_int Tryz.underlying5 f6
  obtain rfl : v6 = .int .u8 k6 := by simpa using e6
  have w6 : 0 ≤ k6 ∧ k6 < 256 := by
    simp [Lit.wf, IntKind.min, IntKind.max, IntKind.signed, IntKind.bits] at b6
    omega
  refine ⟨k0, k1, k2, ad3, cp3, bs3, ad4, cp4, bs4, k5, k6, rfl, ?_⟩
  repeat (first | assumption | constructor)
set_option maxRecDepth 100000 in
set_option maxHeartbeats 1000000 in
theorem open_message {fuel : Nat} {cs0 : List Value} {x : DataW H × List MemPlace} (h : DataW.trod enc Tryz.prog W 0 (fun _ => true) true fuel 36 cs0 = some x) :
    ∃ (k : Int) (seq : Int) (key : Int) (hi : Int) (va : Option Addr) (vc : Nat) (vY : List Int) (oa : Option Addr) (oc : Nat) (oY : List Int) (has : Bool) (of : Int) (st : Int) (host : Int) (gr : Int) (bo : Int) (ma : Int) (li : Int) (paa : Option Addr) (pan pac : Nat) (sea : Option Addr) (sen sec : Nat) (pya : Option Addr) (pyc : Nat) (pyY : List Int), cs0 = [.int .u8 k, .int .u64 seq, .int .u64 key, .int .u64 hi, .slice va vY.length vc, .slice oa oY.length oc, .bool has, .int .u8 of, .int .u8 st, .int .u8 host, .int .u32 gr, .int .u32 bo, .int .u64 ma, .int .u8 li, .slice paa pan pac, .slice sea sen sec, .slice pya pyY.length pyc] ∧ (0 ≤ k ∧ k < 256) ∧ (0 ≤ seq ∧ seq < 18446744073709551616) ∧ (0 ≤ key ∧ key < 18446744073709551616) ∧ (0 ≤ hi ∧ hi < 18446744073709551616) ∧ Rd W (.slice va vY.length vc) vY ∧ Byt vY ∧ Rd W (.slice oa oY.length oc) oY ∧ Byt oY ∧ (0 ≤ of ∧ of < 256) ∧ (0 ≤ st ∧ st < 256) ∧ (0 ≤ host ∧ host < 256) ∧ (0 ≤ gr ∧ gr < 4294967296) ∧ (0 ≤ bo ∧ bo < 4294967296) ∧ (0 ≤ ma ∧ ma < 18446744073709551616) ∧ (0 ≤ li ∧ li < 256) ∧ Rd W (.slice pya pyY.length pyc) pyY ∧ Byt pyY := by
  obtain ⟨xs, n, rfl, rfl, hl, hxl, hf⟩ := DataW.trod_struct Tryz.underlying36 h
  rw [cellsOf36] at hl
  obtain ⟨y0, y1, y2, y3, y4, y5, y6, y7, y8, y9, y10, y11, y12, y13, y14, y15, y16, rfl⟩ := get17 (show xs.length = 17 from hxl)
  obtain ⟨v0, v1, v2, v3, v4, v5, v6, v7, v8, v9, v10, v11, v12, v13, v14, v15, v16, rfl⟩ := get17 hl
  have f0 : DataW.trod enc Tryz.prog W 0 (fun _ => true) true n 22 [v0] = some y0 := by
    have g : DataW.trod enc Tryz.prog W 0 (fun _ => true) true n 22 (([v0, v1, v2, v3, v4, v5, v6, v7, v8, v9, v10, v11, v12, v13, v14, v15, v16].drop 0).take (Tryz.prog.cellsOf 22)) = [y0, y1, y2, y3, y4, y5, y6, y7, y8, y9, y10, y11, y12, y13, y14, y15, y16][0]? := hf 0 _ rfl
    rw [cellsOf22] at g; exact g
  have f1 : DataW.trod enc Tryz.prog W 0 (fun _ => true) true n 23 [v1] = some y1 := by
    have g : DataW.trod enc Tryz.prog W 0 (fun _ => true) true n 23 (([v0, v1, v2, v3, v4, v5, v6, v7, v8, v9, v10, v11, v12, v13, v14, v15, v16].drop 1).take (Tryz.prog.cellsOf 23)) = [y0, y1, y2, y3, y4, y5, y6, y7, y8, y9, y10, y11, y12, y13, y14, y15, y16][1]? := hf 1 _ rfl
    rw [cellsOf23] at g; exact g
  have f2 : DataW.trod enc Tryz.prog W 0 (fun _ => true) true n 23 [v2] = some y2 := by
    have g : DataW.trod enc Tryz.prog W 0 (fun _ => true) true n 23 (([v0, v1, v2, v3, v4, v5, v6, v7, v8, v9, v10, v11, v12, v13, v14, v15, v16].drop 2).take (Tryz.prog.cellsOf 23)) = [y0, y1, y2, y3, y4, y5, y6, y7, y8, y9, y10, y11, y12, y13, y14, y15, y16][2]? := hf 2 _ rfl
    rw [cellsOf23] at g; exact g
  have f3 : DataW.trod enc Tryz.prog W 0 (fun _ => true) true n 23 [v3] = some y3 := by
    have g : DataW.trod enc Tryz.prog W 0 (fun _ => true) true n 23 (([v0, v1, v2, v3, v4, v5, v6, v7, v8, v9, v10, v11, v12, v13, v14, v15, v16].drop 3).take (Tryz.prog.cellsOf 23)) = [y0, y1, y2, y3, y4, y5, y6, y7, y8, y9, y10, y11, y12, y13, y14, y15, y16][3]? := hf 3 _ rfl
    rw [cellsOf23] at g; exact g
  have f4 : DataW.trod enc Tryz.prog W 0 (fun _ => true) true n 24 [v4] = some y4 := by
    have g : DataW.trod enc Tryz.prog W 0 (fun _ => true) true n 24 (([v0, v1, v2, v3, v4, v5, v6, v7, v8, v9, v10, v11, v12, v13, v14, v15, v16].drop 4).take (Tryz.prog.cellsOf 24)) = [y0, y1, y2, y3, y4, y5, y6, y7, y8, y9, y10, y11, y12, y13, y14, y15, y16][4]? := hf 4 _ rfl
    rw [cellsOf24] at g; exact g
  have f5 : DataW.trod enc Tryz.prog W 0 (fun _ => true) true n 24 [v5] = some y5 := by
    have g : DataW.trod enc Tryz.prog W 0 (fun _ => true) true n 24 (([v0, v1, v2, v3, v4, v5, v6, v7, v8, v9, v10, v11, v12, v13, v14, v15, v16].drop 5).take (Tryz.prog.cellsOf 24)) = [y0, y1, y2, y3, y4, y5, y6, y7, y8, y9, y10, y11, y12, y13, y14, y15, y16][5]? := hf 5 _ rfl
    rw [cellsOf24] at g; exact g
  have f6 : DataW.trod enc Tryz.prog W 0 (fun _ => true) true n 4 [v6] = some y6 := by
    have g : DataW.trod enc Tryz.prog W 0 (fun _ => true) true n 4 (([v0, v1, v2, v3, v4, v5, v6, v7, v8, v9, v10, v11, v12, v13, v14, v15, v16].drop 6).take (Tryz.prog.cellsOf 4)) = [y0, y1, y2, y3, y4, y5, y6, y7, y8, y9, y10, y11, y12, y13, y14, y15, y16][6]? := hf 6 _ rfl
    rw [cellsOf4] at g; exact g
  have f7 : DataW.trod enc Tryz.prog W 0 (fun _ => true) true n 22 [v7] = some y7 := by
    have g : DataW.trod enc Tryz.prog W 0 (fun _ => true) true n 22 (([v0, v1, v2, v3, v4, v5, v6, v7, v8, v9, v10, v11, v12, v13, v14, v15, v16].drop 7).take (Tryz.prog.cellsOf 22)) = [y0, y1, y2, y3, y4, y5, y6, y7, y8, y9, y10, y11, y12, y13, y14, y15, y16][7]? := hf 7 _ rfl
    rw [cellsOf22] at g; exact g
  have f8 : DataW.trod enc Tryz.prog W 0 (fun _ => true) true n 31 [v8] = some y8 := by
    have g : DataW.trod enc Tryz.prog W 0 (fun _ => true) true n 31 (([v0, v1, v2, v3, v4, v5, v6, v7, v8, v9, v10, v11, v12, v13, v14, v15, v16].drop 8).take (Tryz.prog.cellsOf 31)) = [y0, y1, y2, y3, y4, y5, y6, y7, y8, y9, y10, y11, y12, y13, y14, y15, y16][8]? := hf 8 _ rfl
    rw [cellsOf31] at g; exact g
  have f9 : DataW.trod enc Tryz.prog W 0 (fun _ => true) true n 30 [v9] = some y9 := by
    have g : DataW.trod enc Tryz.prog W 0 (fun _ => true) true n 30 (([v0, v1, v2, v3, v4, v5, v6, v7, v8, v9, v10, v11, v12, v13, v14, v15, v16].drop 9).take (Tryz.prog.cellsOf 30)) = [y0, y1, y2, y3, y4, y5, y6, y7, y8, y9, y10, y11, y12, y13, y14, y15, y16][9]? := hf 9 _ rfl
    rw [cellsOf30] at g; exact g
  have f10 : DataW.trod enc Tryz.prog W 0 (fun _ => true) true n 32 [v10] = some y10 := by
    have g : DataW.trod enc Tryz.prog W 0 (fun _ => true) true n 32 (([v0, v1, v2, v3, v4, v5, v6, v7, v8, v9, v10, v11, v12, v13, v14, v15, v16].drop 10).take (Tryz.prog.cellsOf 32)) = [y0, y1, y2, y3, y4, y5, y6, y7, y8, y9, y10, y11, y12, y13, y14, y15, y16][10]? := hf 10 _ rfl
    rw [cellsOf32] at g; exact g
  have f11 : DataW.trod enc Tryz.prog W 0 (fun _ => true) true n 32 [v11] = some y11 := by
    have g : DataW.trod enc Tryz.prog W 0 (fun _ => true) true n 32 (([v0, v1, v2, v3, v4, v5, v6, v7, v8, v9, v10, v11, v12, v13, v14, v15, v16].drop 11).take (Tryz.prog.cellsOf 32)) = [y0, y1, y2, y3, y4, y5, y6, y7, y8, y9, y10, y11, y12, y13, y14, y15, y16][11]? := hf 11 _ rfl
    rw [cellsOf32] at g; exact g
  have f12 : DataW.trod enc Tryz.prog W 0 (fun _ => true) true n 23 [v12] = some y12 := by
    have g : DataW.trod enc Tryz.prog W 0 (fun _ => true) true n 23 (([v0, v1, v2, v3, v4, v5, v6, v7, v8, v9, v10, v11, v12, v13, v14, v15, v16].drop 12).take (Tryz.prog.cellsOf 23)) = [y0, y1, y2, y3, y4, y5, y6, y7, y8, y9, y10, y11, y12, y13, y14, y15, y16][12]? := hf 12 _ rfl
    rw [cellsOf23] at g; exact g
  have f13 : DataW.trod enc Tryz.prog W 0 (fun _ => true) true n 5 [v13] = some y13 := by
    have g : DataW.trod enc Tryz.prog W 0 (fun _ => true) true n 5 (([v0, v1, v2, v3, v4, v5, v6, v7, v8, v9, v10, v11, v12, v13, v14, v15, v16].drop 13).take (Tryz.prog.cellsOf 5)) = [y0, y1, y2, y3, y4, y5, y6, y7, y8, y9, y10, y11, y12, y13, y14, y15, y16][13]? := hf 13 _ rfl
    rw [cellsOf5] at g; exact g
  have f14 : DataW.trod enc Tryz.prog W 0 (fun _ => true) true n 33 [v14] = some y14 := by
    have g : DataW.trod enc Tryz.prog W 0 (fun _ => true) true n 33 (([v0, v1, v2, v3, v4, v5, v6, v7, v8, v9, v10, v11, v12, v13, v14, v15, v16].drop 14).take (Tryz.prog.cellsOf 33)) = [y0, y1, y2, y3, y4, y5, y6, y7, y8, y9, y10, y11, y12, y13, y14, y15, y16][14]? := hf 14 _ rfl
    rw [cellsOf33] at g; exact g
  have f15 : DataW.trod enc Tryz.prog W 0 (fun _ => true) true n 34 [v15] = some y15 := by
    have g : DataW.trod enc Tryz.prog W 0 (fun _ => true) true n 34 (([v0, v1, v2, v3, v4, v5, v6, v7, v8, v9, v10, v11, v12, v13, v14, v15, v16].drop 15).take (Tryz.prog.cellsOf 34)) = [y0, y1, y2, y3, y4, y5, y6, y7, y8, y9, y10, y11, y12, y13, y14, y15, y16][15]? := hf 15 _ rfl
    rw [cellsOf34] at g; exact g
  have f16 : DataW.trod enc Tryz.prog W 0 (fun _ => true) true n 24 [v16] = some y16 := by
    have g : DataW.trod enc Tryz.prog W 0 (fun _ => true) true n 24 (([v0, v1, v2, v3, v4, v5, v6, v7, v8, v9, v10, v11, v12, v13, v14, v15, v16].drop 16).take (Tryz.prog.cellsOf 24)) = [y0, y1, y2, y3, y4, y5, y6, y7, y8, y9, y10, y11, y12, y13, y14, y15, y16][16]? := hf 16 _ rfl
    rw [cellsOf24] at g; exact g
  clear hf
  obtain ⟨k0, e0, _, b0⟩ := DataW.trod_int Tryz.underlying22 f0
  obtain rfl : v0 = .int .u8 k0 := by simpa using e0
  have w0 : 0 ≤ k0 ∧ k0 < 256 := by
    simp [Lit.wf, IntKind.min, IntKind.max, IntKind.signed, IntKind.bits] at b0
    omega
  obtain ⟨k1, e1, _, b1⟩ := DataW.trod_int Tryz.underlying23 f1
  obtain rfl : v1 = .int .u64 k1 := by simpa using e1
  have w1 : 0 ≤ k1 ∧ k1 < 18446744073709551616 := by
    simp [Lit.wf, IntKind.min, IntKind.max, IntKind.signed, IntKind.bits] at b1
    omega
  obtain ⟨k2, e2, _, b2⟩ := DataW.trod_int Tryz.underlying23 f2
  obtain rfl : v2 = .int .u64 k2 := by simpa using e2
  have w2 : 0 ≤ k2 ∧ k2 < 18446744073709551616 := by
    simp [Lit.wf, IntKind.min, IntKind.max, IntKind.signed, IntKind.bits] at b2
    omega
  obtain ⟨k3, e3, _, b3⟩ := DataW.trod_int Tryz.underlying23 f3
  obtain rfl : v3 = .int .u64 k3 := by simpa using e3
  have w3 : 0 ≤ k3 ∧ k3 < 18446744073709551616 := by
    simp [Lit.wf, IntKind.min, IntKind.max, IntKind.signed, IntKind.bits] at b3
    omega
  obtain ⟨bv4, bs4, e4, hr4, hb4, _⟩ := open_bytes f4
  obtain rfl : v4 = bv4 := by simpa using e4
  obtain ⟨ad4, cp4, rfl⟩ := hr4.slice
  obtain ⟨bv5, bs5, e5, hr5, hb5, _⟩ := open_bytes f5
  obtain rfl : v5 = bv5 := by simpa using e5
  obtain ⟨ad5, cp5, rfl⟩ := hr5.slice
  obtain ⟨k6, e6, _⟩ := DataW.trod_bool Tryz.underlying4 f6
  obtain rfl : v6 = .bool k6 := by simpa using e6
  obtain ⟨k7, e7, _, b7⟩ := DataW.trod_int Tryz.underlying22 f7
  obtain rfl : v7 = .int .u8 k7 := by simpa using e7
  have w7 : 0 ≤ k7 ∧ k7 < 256 := by
    simp [Lit.wf, IntKind.min, IntKind.max, IntKind.signed, IntKind.bits] at b7
    omega
  obtain ⟨k8, e8, _, b8⟩ := DataW.trod_int Tryz.underlying31 f8
  obtain rfl : v8 = .int .u8 k8 := by simpa using e8
  have w8 : 0 ≤ k8 ∧ k8 < 256 := by
    simp [Lit.wf, IntKind.min, IntKind.max, IntKind.signed, IntKind.bits] at b8
    omega
  obtain ⟨k9, e9, _, b9⟩ := DataW.trod_int Tryz.underlying30 f9
  obtain rfl : v9 = .int .u8 k9 := by simpa using e9
  have w9 : 0 ≤ k9 ∧ k9 < 256 := by
    simp [Lit.wf, IntKind.min, IntKind.max, IntKind.signed, IntKind.bits] at b9
    omega
  obtain ⟨k10, e10, _, b10⟩ := DataW.trod_int Tryz.underlying32 f10
  obtain rfl : v10 = .int .u32 k10 := by simpa using e10
  have w10 : 0 ≤ k10 ∧ k10 < 4294967296 := by
    simp [Lit.wf, IntKind.min, IntKind.max, IntKind.signed, IntKind.bits] at b10
    omega
  obtain ⟨k11, e11, _, b11⟩ := DataW.trod_int Tryz.underlying32 f11
  obtain rfl : v11 = .int .u32 k11 := by simpa using e11
  have w11 : 0 ≤ k11 ∧ k11 < 4294967296 := by
    simp [Lit.wf, IntKind.min, IntKind.max, IntKind.signed, IntKind.bits] at b11
    omega
  obtain ⟨k12, e12, _, b12⟩ := DataW.trod_int Tryz.underlying23 f12
  obtain rfl : v12 = .int .u64 k12 := by simpa using e12
  have w12 : 0 ≤ k12 ∧ k12 < 18446744073709551616 := by
    simp [Lit.wf, IntKind.min, IntKind.max, IntKind.signed, IntKind.bits] at b12
    omega
  obtain ⟨k13, e13, _, b13⟩ := DataW.trod_int Tryz.underlying5 f13
  obtain rfl : v13 = .int .u8 k13 := by simpa using e13
  have w13 : 0 ≤ k13 ∧ k13 < 256 := by
    simp [Lit.wf, IntKind.min, IntKind.max, IntKind.signed, IntKind.bits] at b13
    omega
  obtain ⟨ad14, nn14, cp14, e14⟩ := open_shape Tryz.underlying33 f14
  obtain rfl : v14 = .slice ad14 nn14 cp14 := by simpa using e14
  obtain ⟨ad15, nn15, cp15, e15⟩ := open_shape Tryz.underlying34 f15
  obtain rfl : v15 = .slice ad15 nn15 cp15 := by simpa using e15
  obtain ⟨bv16, bs16, e16, hr16, hb16, _⟩ := open_bytes f16
  obtain rfl : v16 = bv16 := by simpa using e16
  obtain ⟨ad16, cp16, rfl⟩ := hr16.slice
  refine ⟨k0, k1, k2, k3, ad4, cp4, bs4, ad5, cp5, bs5, k6, k7, k8, k9, k10, k11, k12, k13, ad14, nn14, cp14, ad15, nn15, cp15, ad16, cp16, bs16, rfl, ?_⟩
  repeat (first | assumption | constructor)
set_option maxRecDepth 100000 in
theorem step_cells {fuel : Nat} {cs0 : List Value} {x : DataW H × List MemPlace} (h : DataW.trod enc Tryz.prog W 0 (fun _ => true) true fuel 46 cs0 = some x) :
    ∃ (sk fr : Int) (two : Bool) (n : Nat) (y3 y4 : DataW H × List MemPlace) (R M : List Value), cs0 = .int .i64 sk :: .bool two :: .int .u8 fr :: (R ++ M) ∧ (0 ≤ fr ∧ fr < 256) ∧ DataW.trod enc Tryz.prog W 0 (fun _ => true) true n 26 R = some y3 ∧ DataW.trod enc Tryz.prog W 0 (fun _ => true) true n 36 M = some y4 := by
  obtain ⟨xs, n, rfl, rfl, hl, hxl, hf⟩ := DataW.trod_struct Tryz.underlying46 h
  rw [cellsOf46] at hl
  obtain ⟨y0, y1, y2, y3, y4, rfl⟩ := get5 (show xs.length = 5 from hxl)
  obtain ⟨v0, v1, v2, v3, v4, v5, v6, v7, v8, v9, v10, v11, v12, v13, v14, v15, v16, v17, v18, v19, v20, v21, v22, v23, v24, v25, v26, rfl⟩ := get27 hl
  have f0 : DataW.trod enc Tryz.prog W 0 (fun _ => true) true n 3 [v0] = some y0 := by
    have g : DataW.trod enc Tryz.prog W 0 (fun _ => true) true n 3 (([v0, v1, v2, v3, v4, v5, v6, v7, v8, v9, v10, v11, v12, v13, v14, v15, v16, v17, v18, v19, v20, v21, v22, v23, v24, v25, v26].drop 0).take (Tryz.prog.cellsOf 3)) = [y0, y1, y2, y3, y4][0]? := hf 0 _ rfl
    rw [cellsOf3] at g; exact g
  have f1 : DataW.trod enc Tryz.prog W 0 (fun _ => true) true n 4 [v1] = some y1 := by
    have g : DataW.trod enc Tryz.prog W 0 (fun _ => true) true n 4 (([v0, v1, v2, v3, v4, v5, v6, v7, v8, v9, v10, v11, v12, v13, v14, v15, v16, v17, v18, v19, v20, v21, v22, v23, v24, v25, v26].drop 1).take (Tryz.prog.cellsOf 4)) = [y0, y1, y2, y3, y4][1]? := hf 1 _ rfl
    rw [cellsOf4] at g; exact g
  have f2 : DataW.trod enc Tryz.prog W 0 (fun _ => true) true n 30 [v2] = some y2 := by
    have g : DataW.trod enc Tryz.prog W 0 (fun _ => true) true n 30 (([v0, v1, v2, v3, v4, v5, v6, v7, v8, v9, v10, v11, v12, v13, v14, v15, v16, v17, v18, v19, v20, v21, v22, v23, v24, v25, v26].drop 2).take (Tryz.prog.cellsOf 30)) = [y0, y1, y2, y3, y4][2]? := hf 2 _ rfl
    rw [cellsOf30] at g; exact g
  have f3 : DataW.trod enc Tryz.prog W 0 (fun _ => true) true n 26 [v3, v4, v5, v6, v7, v8, v9] = some y3 := by
    have g : DataW.trod enc Tryz.prog W 0 (fun _ => true) true n 26 (([v0, v1, v2, v3, v4, v5, v6, v7, v8, v9, v10, v11, v12, v13, v14, v15, v16, v17, v18, v19, v20, v21, v22, v23, v24, v25, v26].drop 3).take (Tryz.prog.cellsOf 26)) = [y0, y1, y2, y3, y4][3]? := hf 3 _ rfl
    rw [cellsOf26] at g; exact g
  have f4 : DataW.trod enc Tryz.prog W 0 (fun _ => true) true n 36 [v10, v11, v12, v13, v14, v15, v16, v17, v18, v19, v20, v21, v22, v23, v24, v25, v26] = some y4 := by
    have g : DataW.trod enc Tryz.prog W 0 (fun _ => true) true n 36 (([v0, v1, v2, v3, v4, v5, v6, v7, v8, v9, v10, v11, v12, v13, v14, v15, v16, v17, v18, v19, v20, v21, v22, v23, v24, v25, v26].drop 10).take (Tryz.prog.cellsOf 36)) = [y0, y1, y2, y3, y4][4]? := hf 4 _ rfl
    rw [cellsOf36] at g; exact g
  obtain ⟨k0, e0, _, _⟩ := DataW.trod_int Tryz.underlying3 f0
  obtain rfl : v0 = .int .i64 k0 := by simpa using e0
  obtain ⟨k1, e1, _⟩ := DataW.trod_bool Tryz.underlying4 f1
  obtain rfl : v1 = .bool k1 := by simpa using e1
  obtain ⟨k2, e2, _, b2⟩ := DataW.trod_int Tryz.underlying30 f2
  obtain rfl : v2 = .int .u8 k2 := by simpa using e2
  have w2 : 0 ≤ k2 ∧ k2 < 256 := by
    simp [Lit.wf, IntKind.min, IntKind.max, IntKind.signed, IntKind.bits] at b2
    omega
  exact ⟨k0, k2, k1, n, y3, y4, [v3, v4, v5, v6, v7, v8, v9], [v10, v11, v12, v13, v14, v15, v16, v17, v18, v19, v20, v21, v22, v23, v24, v25, v26], rfl, w2, f3, f4⟩
end
end Go.Proofs.YtmlnglillgplfaaGreat.Cl
namespace Go.Proofs.YtmlnglillgplfaaGreat.Cl
open Go.ChangeShapes Go.WideShapes Go.ChangeAt Go.RowKit
open Go.Deep
set_option linter.unusedVariables false
theorem bytesOf30 : Tryz.prog.bytesOf 30 = 1 := by kernel_rfl
section
variable {H : Type} {enc : TypeId × Value → H} {W : World}
/-- addresses that came in -/
theorem open_addrs {v0 : Value} {d0 : DataW H} {p0 : List MemPlace} (h : DataW.Trod enc Tryz.prog W 0 (fun _ => true) true 64 v0 d0 p0) (hone : ∃ a len cap, v0 = .slice a len cap) (hw : ∀ n ∈ d0.weights Tryz.prog 64, n ≤ 140737488351232) :
    ∃ a c bs, v0 = .slice a bs.length c ∧ Rd W (.slice a bs.length c) bs ∧ Byt bs ∧ bs.length ≤ 140737488351232 := by
  obtain ⟨fuel, hf⟩ := h
  obtain ⟨a0, len0, cap0, rfl⟩ := hone
  have hf' : DataW.trod enc Tryz.prog W 0 (fun _ => true) true fuel 64 [.slice a0 len0 cap0] = some (d0, p0) := by simpa [Value.cells] using hf
  rcases open_ints Tryz.underlying64 Tryz.underlying30 cellsOf30 hf' with ⟨hcs, _⟩ | ⟨a, len, cap, zs, hcs, _, hl, hm, hz, hx, hcell, hwz⟩
  · simp only [List.cons.injEq, and_true, Value.slice.injEq] at hcs
    obtain ⟨rfl, rfl, rfl⟩ := hcs
    exact ⟨none, 0, [], rfl, .inl ⟨rfl, rfl⟩, (fun z hz => by simp at hz), by simp⟩
  · simp only [List.cons.injEq, and_true, Value.slice.injEq] at hcs
    obtain ⟨rfl, rfl, rfl⟩ := hcs
    have hzl : (zs.take len0).length = len0 := by
      rw [List.length_take, hz]
      simp
      omega
    refine ⟨some a, cap0, zs.take len0, by rw [hzl], .inr ⟨a, cap0, rfl, fun j u hj => ?_⟩, ?_, ?_⟩
    · have hj2 : j < len0 := by
        have := (List.getElem?_eq_some_iff.1 hj).1
        rw [cs_length, hzl] at this
        exact this
      have hj3 : j < zs.length := by rw [hz]; simp; omega
      have := hcell j hj3
      rw [this]
      rw [← hj]
      simp [cs, hj2, hj3]
    · intro z hz'
      have := hwz z (List.mem_of_mem_take hz')
      simpa [Lit.wf, IntKind.min, IntKind.max, IntKind.signed, IntKind.bits] using this
    · have hd : d0 = _ := congrArg Prod.fst hx
      have := hw _ (by rw [hd]; simp [DataW.weights, Tryz.underlying64]; exact .inl rfl)
      rw [bytesOf30, Nat.mul_one] at this
      have e1 : (lits IntKind.u8 (List.take len0 zs) : List (DataW H)).length = (List.take len0 zs).length := by simp [lits]
      rw [e1, hzl] at this
      rw [hzl]
      exact Nat.le_trans (Nat.le_add_right _ _) this
end
end Go.Proofs.YtmlnglillgplfaaGreat.Cl
namespace Go.Proofs.YtmlnglillgplfaaGreat.Cl
open Go.ChangeShapes Go.WideShapes Go.ChangeAt Go.RowKit
open Go.Deep
open Rg (Sg Sgs)
set_option linter.unusedVariables false
namespace Og
theorem cellsOf76 : Tryz.prog.cellsOf 76 = 3 := by kernel_rfl
theorem bytesOf76 : Tryz.prog.bytesOf 76 = 24 := by kernel_rfl
theorem cellsOf23 : Tryz.prog.cellsOf 23 = 1 := by kernel_rfl
theorem cellsOf30 : Tryz.prog.cellsOf 30 = 1 := by kernel_rfl
theorem spot_none {w : World} {a : Addr} {u : Value} (h : w.cell? a = some u) : a.spot = none := by
  unfold World.cell? at h
  split at h
  · split at h
    · cases h
    · rename_i _ hs; simpa using hs
  · cases h

section
variable {H : Type} {enc : TypeId × Value → H} {W : World}
theorem get3 {α : Type} {l : List α} (h : l.length = 3) : ∃ a b c, l = [a, b, c] := by
  match l, h with
  | [a, b, c], _ => exact ⟨a, b, c, rfl⟩

theorem open_seg1 {fuel : Nat} {cs0 : List Value} {x : DataW H × List MemPlace} (h : DataW.trod enc Tryz.prog W 0 (fun _ => true) true fuel 76 cs0 = some x) :
    ∃ s : Sg, cs0 = [.int .u64 s.lo, .int .u64 s.hi, .int .u8 s.h] ∧ 0 ≤ s.lo ∧ s.lo < 18446744073709551616 ∧ 0 ≤ s.hi ∧ s.hi < 18446744073709551616 ∧ 0 ≤ s.h ∧ s.h < 256 := by
  obtain ⟨xs, n, rfl, rfl, hl, hxl, hf⟩ := DataW.trod_struct Tryz.underlying76 h
  rw [cellsOf76] at hl
  obtain ⟨y0, y1, y2, rfl⟩ := get3 (show xs.length = 3 from hxl)
  obtain ⟨v0, v1, v2, rfl⟩ := get3 hl
  have f0 : DataW.trod enc Tryz.prog W 0 (fun _ => true) true n 23 [v0] = some y0 := by
    have g : DataW.trod enc Tryz.prog W 0 (fun _ => true) true n 23 (([v0, v1, v2].drop 0).take (Tryz.prog.cellsOf 23)) = [y0, y1, y2][0]? := hf 0 _ rfl
    rw [cellsOf23] at g; exact g
  have f1 : DataW.trod enc Tryz.prog W 0 (fun _ => true) true n 23 [v1] = some y1 := by
    have g : DataW.trod enc Tryz.prog W 0 (fun _ => true) true n 23 (([v0, v1, v2].drop 1).take (Tryz.prog.cellsOf 23)) = [y0, y1, y2][1]? := hf 1 _ rfl
    rw [cellsOf23] at g; exact g
  have f2 : DataW.trod enc Tryz.prog W 0 (fun _ => true) true n 30 [v2] = some y2 := by
    have g : DataW.trod enc Tryz.prog W 0 (fun _ => true) true n 30 (([v0, v1, v2].drop 2).take (Tryz.prog.cellsOf 30)) = [y0, y1, y2][2]? := hf 2 _ rfl
    rw [cellsOf30] at g; exact g
  obtain ⟨k0, e0, _, b0⟩ := DataW.trod_int Tryz.underlying23 f0
  obtain rfl : v0 = .int .u64 k0 := by simpa using e0
  obtain ⟨k1, e1, _, b1⟩ := DataW.trod_int Tryz.underlying23 f1
  obtain rfl : v1 = .int .u64 k1 := by simpa using e1
  obtain ⟨k2, e2, _, b2⟩ := DataW.trod_int Tryz.underlying30 f2
  obtain rfl : v2 = .int .u8 k2 := by simpa using e2
  simp [Lit.wf, IntKind.min, IntKind.max, IntKind.signed, IntKind.bits] at b0
  simp [Lit.wf, IntKind.min, IntKind.max, IntKind.signed, IntKind.bits] at b1
  simp [Lit.wf, IntKind.min, IntKind.max, IntKind.signed, IntKind.bits] at b2
  exact ⟨⟨k0, k1, k2⟩, rfl, by dsimp only; omega, by dsimp only; omega, by dsimp only; omega, by dsimp only; omega, by dsimp only; omega, by dsimp only; omega⟩

theorem open_seg {v0 : Value} {d0 : DataW H} {p0 : List MemPlace} (h : DataW.Trod enc Tryz.prog W 0 (fun _ => true) true 58 v0 d0 p0) (hone : ∃ a len cap, v0 = .slice a len cap) (hw : ∀ n ∈ d0.weights Tryz.prog 58, n ≤ 140737488351232) : ∃ S, Sgs W v0 S ∧ (S.length : Int) ≤ 5864062014634 := by
  obtain ⟨fuel, hf⟩ := h
  obtain ⟨a0, len0, cap0, rfl⟩ := hone
  have hf' : DataW.trod enc Tryz.prog W 0 (fun _ => true) true fuel 58 [.slice a0 len0 cap0] = some (d0, p0) := by simpa [Value.cells] using hf
  rcases open_slice Tryz.underlying58 hf' with ⟨hcs, hx⟩ | ⟨a, len, cap, m, n, D, Pl, hcs, _, hl, hm, hmm, hx, hel⟩
  · simp only [List.cons.injEq, and_true] at hcs
    rw [hcs]
    exact ⟨[], .inl ⟨⟨_, _, rfl⟩, rfl⟩, by simp⟩
  · simp only [List.cons.injEq, and_true] at hcs
    rw [hcs]
    simp only [Prod.mk.injEq] at hx
    have hml : m = cap := by rw [hmm]; simp
    have each : ∀ i, i < len → ∃ s : Sg, (∀ j, j < 3 → W.cell? (a.add (i * 3 + j)) = [Value.int .u64 s.lo, .int .u64 s.hi, .int .u8 s.h][j]?) ∧ (0 ≤ s.lo ∧ s.lo < 18446744073709551616 ∧ 0 ≤ s.hi ∧ s.hi < 18446744073709551616 ∧ 0 ≤ s.h ∧ s.h < 256) := by
      intro i hi
      obtain ⟨cs', hc, ht⟩ := hel i (by omega)
      rw [cellsOf76] at hc
      obtain ⟨s, rfl, hfit⟩ := open_seg1 ht
      refine ⟨s, fun j hj => ?_, hfit⟩
      obtain ⟨_, _, hcell⟩ := World.cells?_some hc
      have := hcell j hj
      rw [Deep.add_add] at this
      exact this
    haveI : Inhabited Sg := ⟨⟨0, 0, 0⟩⟩
    obtain ⟨f, hf2⟩ := choose_lt (α := Sg) each
    by_cases h0 : len = 0
    · subst h0
      exact ⟨[], .inl ⟨⟨_, _, rfl⟩, rfl⟩, by simp⟩
    · have hsp : a.spot = none := by
        have h1 := (hf2 0 (by omega)).1 0 (by omega)
        have e : a.add (0 * 3 + 0) = a := by simp [Addr.add]
        rw [e] at h1
        simp only [List.getElem?_cons_zero] at h1
        exact spot_none h1
      obtain ⟨ab, ao, sp⟩ := a
      simp only at hsp
      subst hsp
      have hlb : (len : Int) ≤ 5864062014634 := by
        have := hw ((((List.range len).map D).length + ((List.range (m - len)).map fun j => D (len + j)).length) * Tryz.prog.bytesOf 76) (by rw [hx.1]; simp [DataW.weights, Tryz.underlying58])
        rw [bytesOf76] at this
        simp only [List.length_map, List.length_range] at this
        omega
      refine ⟨(List.range len).map f, .inr ⟨ab, ao, cap, by simp, fun i s hs => ?_⟩, by simpa using hlb⟩
      have hi : i < len := by
        have := (List.getElem?_eq_some_iff.1 hs).1
        simpa using this
      have hs' : f i = s := by simpa [hi] using hs
      subst hs'
      obtain ⟨hc, hfit⟩ := hf2 i hi
      have c := fun j hj => hc j hj
      simp only [Addr.add_lit] at c
      refine ⟨by simpa using c 0 (by omega), ?_, ?_, hfit⟩
      · have := c 1 (by omega); rw [← Nat.add_assoc] at this; simpa using this
      · have := c 2 (by omega); rw [← Nat.add_assoc] at this; simpa using this
end
end Og
end Go.Proofs.YtmlnglillgplfaaGreat.Cl
