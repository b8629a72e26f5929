import Derived.Test.YtcbonbeogdgogaaLoC
namespace Go.Proofs.Ytcbonbeogdgogaa.Li
open Go.RowKit
set_option linter.unusedVariables false
theorem info60z : (Try.prog.info? 60).map (fun i => (i.zero, i.size, i.bytes)) = some (some (.agg #[.bool false, .slice none 0 0]), 2, 32) := by kernel_rfl
/-- a cell of the document's list -/
structure Zc where
  h : Bool
  a : Option Addr
  n : Nat
  c : Nat
/-- the document's list of cells -/
structure Rw (w : World) (g M : Nat) (Z : List Zc) : Prop where
  len : Z.length = M
  mem : ∃ cur : Array Value, w.heap[g]? = some (.cells cur 60 (0, 0)) ∧ cur.size = M * 2 ∧ ∀ q z, Z[q]? = some z → cur[q * 2]? = some (.bool z.h) ∧ cur[q * 2 + 1]? = some (.slice z.a z.n z.c)
theorem Rw.kp {w w' : World} {g M : Nat} {Z : List Zc} (h : Rw w g M Z) (k : w'.heap[g]? = w.heap[g]?) : Rw w' g M Z := by
  obtain ⟨cur, h1, h2, h3⟩ := h.mem
  exact ⟨h.len, cur, k.trans h1, h2, h3⟩
theorem Rw.lt {w : World} {g M : Nat} {Z : List Zc} (h : Rw w g M Z) : g < w.heap.size := by
  obtain ⟨cur, h1, _⟩ := h.mem
  exact blk_lt h1
theorem Rw.at_ {w : World} {g M : Nat} {Z : List Zc} (h : Rw w g M Z) {q : Nat} {z : Zc} (hz : Z[q]? = some z) : w.cell? ⟨g, q * 2, none⟩ = some (.bool z.h) ∧ w.cell? ⟨g, q * 2 + 1, none⟩ = some (.slice z.a z.n z.c) := by
  obtain ⟨cur, h1, h2, h3⟩ := h.mem
  exact ⟨cellAt h1 _ (h3 q z hz).1, cellAt h1 _ (h3 q z hz).2⟩
theorem Rw.free {w : World} {g M : Nat} {Z : List Zc} (h : Rw w g M Z) (o : Nat) : w.frozen? ⟨g, o, none⟩ = false := by
  obtain ⟨cur, h1, _⟩ := h.mem
  exact free3 h1 o
theorem Rw.set {w : World} {g M : Nat} {Z : List Zc} (h : Rw w g M Z) (i : Nat) (hi : i < M) (z : Zc) : Rw ((w.setCell ⟨g, i * 2, none⟩ (.bool z.h)).setCell ⟨g, i * 2 + 1, none⟩ (.slice z.a z.n z.c)) g M (Z.set i z) := by
  obtain ⟨cur, h1, h2, h3⟩ := h.mem
  refine ⟨by rw [List.length_set]; exact h.len, _, set3 (set3 h1 _ _) _ _, by simp [h2], fun q y hy => ?_⟩
  by_cases e : q = i
  · subst e
    rw [List.getElem?_set_self (by rw [h.len]; exact hi)] at hy
    cases hy
    constructor
    · rw [Array.getElem?_setIfInBounds_ne (by omega), Array.getElem?_setIfInBounds_self_of_lt (by omega)]
    · rw [Array.getElem?_setIfInBounds_self_of_lt (by simp; omega)]
  · rw [List.getElem?_set_ne (fun e' => e e'.symm)] at hy
    obtain ⟨p1, p2⟩ := h3 q y hy
    constructor
    · rw [Array.getElem?_setIfInBounds_ne (by omega), Array.getElem?_setIfInBounds_ne (by omega)]
      exact p1
    · rw [Array.getElem?_setIfInBounds_ne (by omega), Array.getElem?_setIfInBounds_ne (by omega)]
      exact p2
theorem rw_made {w1 : World} {base g M : Nat} (h : w1.ownsRow base 60 2 (.slice (some ⟨g, 0, none⟩) M M) M (madeCells (Value.agg #[.bool false, .slice none 0 0]).cells (M * 2)).toList) : Rw w1 g M (List.replicate M ⟨false, none, 0, 0⟩) := by
  rcases h.2 with ⟨e, _⟩ | ⟨g', cap, cur, e, hb', hg, h1, h2, h3, h4⟩
  · cases e
  · cases e
    have hsz : cur.size = M * 2 := by
      have := congrArg List.length h4
      rw [List.length_take] at this
      simp [size_madeCells] at this
      omega
    have hcur : ∀ q, q < M * 2 → cur[q]? = some (if q % 2 = 0 then .bool false else .slice none 0 0) := fun q hq => by
      have e := congrArg (fun l => l[q]?) h4
      rw [List.getElem?_take_of_lt hq] at e
      have e2 : (madeCells (Value.agg #[.bool false, .slice none 0 0]).cells (M * 2)).toList[q]? = some (if q % 2 = 0 then .bool false else .slice none 0 0) := by
        have hz : (Value.agg #[.bool false, .slice none 0 0]).cells = #[.bool false, .slice none 0 0] := rfl
        rw [hz]
        simp only [madeCells, Array.getElem?_toList, Array.getElem?_map]
        rw [Array.getElem?_range]
        simp only [hq, if_true, Option.map_some]
        have : q % 2 = 0 ∨ q % 2 = 1 := by omega
        rcases this with e | e <;> simp [e]
      rw [e2] at e
      simpa using e
    refine ⟨by simp, cur, hg, hsz, fun q z hz => ?_⟩
    have hq : q < M := by
      have := (List.getElem?_eq_some_iff.1 hz).1
      simpa using this
    obtain rfl : z = ⟨false, none, 0, 0⟩ := by
      rw [List.getElem?_replicate] at hz
      simp [hq] at hz
      exact hz.symm
    constructor
    · rw [hcur _ (by omega)]
      simp
    · rw [hcur _ (by omega)]
      have : (q * 2 + 1) % 2 = 1 := by omega
      simp [this]
/-- a cell says what a key has -/
def Ce (w : World) (z : Zc) (on : Option (List Int)) : Prop := ∃ X, on = opt z.h X ∧ (z.h = true → By w (.slice z.a z.n z.c) X)
/-- what the keys have behind the first i -/
def Fr (L : List Ca) (o : List Int) (i : Nat) : Option (Int → Option (List Int)) := run L (o.take i) (fun _ => none)
theorem Fr.zero (L : List Ca) (o : List Int) : Fr L o 0 = some (fun _ => none) := by simp [Fr, run]
theorem Fr.step {L : List Ca} {o : List Int} {i : Nat} {x : Int} {c : Ca} (hx : o[i]? = some x) (hc : L[x.toNat]? = some c) : Fr L o (i + 1) = (Fr L o i).bind (fun f => (stpc c (f c.key)).map (fun r => upd f c.key r)) := by
  unfold Fr
  rw [List.take_add_one, hx]
  simp only [Option.toList_some]
  rw [run_snoc]
  congr 1
  funext f
  simp only [run, hc]
  cases stpc c (f c.key) <;> rfl
theorem Fr.all (L : List Ca) (o : List Int) {i : Nat} (hi : o.length ≤ i) : Fr L o i = run L o (fun _ => none) := by
  unfold Fr
  rw [List.take_of_length_le hi]
theorem run_append (L : List Ca) (q : List Int) : ∀ (p : List Int) (f : Int → Option (List Int)), run L (p ++ q) f = (run L p f).bind (fun g => run L q g)
  | [], f => rfl
  | y :: p, f => by
    simp only [List.cons_append, run]
    cases L[y.toNat]? with
    | none => rfl
    | some c =>
      simp only
      cases stpc c (f c.key) with
      | none => rfl
      | some r => exact run_append L q p _
theorem Fr.none {L : List Ca} {o : List Int} {i : Nat} (h : Fr L o i = none) : run L o (fun _ => none) = none := by
  have e : o = o.take i ++ o.drop i := (List.take_append_drop i o).symm
  rw [e, run_append]
  have h' : run L (o.take i) (fun _ => Option.none) = Option.none := h
  rw [h']
  rfl
/-- where the third loop stands -/
structure Pl3 (w wr : World) (L : List Ca) (o : List Int) (i M g : Nat) (Z : List Zc) : Prop where
  kp : Kp Nu w wr
  rw : Rw wr g M Z
  run : ∃ f, Fr L o i = some f
  each : ∀ q x c z, q < i → o[q]? = some x → L[x.toNat]? = some c → Z[q]? = some z → ∃ f, Fr L o (q + 1) = some f ∧ Ce w z (f c.key)
/-- where the fourth loop stands -/
structure In4 (w wr : World) (L : List Ca) (o : List Int) (j M g bX bC : Nat) (c : Ca) (Z : List Zc) (z : Zc) : Prop where
  kp : Kp Nu w wr
  rw : Rw wr g M Z
  bx : wr.heap[bX]? = some (.cells #[.bool z.h, .slice z.a z.n z.c] 60 (0, 0))
  bc : wr.heap[bC]? = some (.cells c.cells.toArray 30 (0, 0))
  now : ∃ f, Fr L o j = some f ∧ Ce w z (f c.key)
theorem Fr.keep {L : List Ca} {o : List Int} {j : Nat} {y : Int} {d : Ca} {f f' : Int → Option (List Int)} (hy : o[j]? = some y) (hd : L[y.toNat]? = some d) (h : Fr L o j = some f) (h' : Fr L o (j + 1) = some f') {k : Int} (hk : ¬ d.key = k) : f' k = f k := by
  rw [Fr.step hy hd, h] at h'
  simp only [Option.bind_some] at h'
  obtain ⟨r, _, rfl⟩ := Option.map_eq_some_iff.1 h'
  unfold upd
  rw [if_neg (fun e => hk e.symm)]
theorem In4.turn {w wr W : World} {L : List Ca} {o : List Int} {j M g bX bC : Nat} {c : Ca} {Z : List Zc} {z z' : Zc} (h : In4 w wr L o j M g bX bC c Z z) (k : Kp (fun i => i = bX) wr W) (hb : W.heap[bX]? = some (.cells #[.bool z'.h, .slice z'.a z'.n z'.c] 60 (0, 0))) (hX : w.heap.size ≤ bX) (hg : g ≠ bX) {j' : Nat} (hn : ∃ f, Fr L o j' = some f ∧ Ce w z' (f c.key)) : In4 w W L o j' M g bX bC c Z z' :=
  ⟨h.kp.trans k (fun q hq e => by have e' : q = bX := e; omega), h.rw.kp (k.block _ h.rw.lt (fun e => hg e)), hb, (k.block _ (blk_lt h.bc) (fun e => by have e' : bC = bX := e; have h1 := h.bc; rw [e', h.bx] at h1; simp at h1)).trans h.bc, hn⟩
end Go.Proofs.Ytcbonbeogdgogaa.Li
