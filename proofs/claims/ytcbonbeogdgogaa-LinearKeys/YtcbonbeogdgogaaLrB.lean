import Derived.Test.YtcbonbeogdgogaaLrA
namespace Go.Proofs.Ytcbonbeogdgogaa.Li
open Go.RowKit
set_option linter.unusedVariables false
/-- where a call leads, as the table has it -/
def enc : Option Nat → Int
  | none => -1
  | some a => (a : Int)
/-- what may turn in a search -/
def Sx (P b bd : Nat) : Nat → Prop := fun i => i = b ∨ i = bd ∨ P ≤ i
/-- a block that stands in a search -/
def Fb (P b bd g : Nat) : Prop := g < P ∧ g ≠ b ∧ g ≠ bd
theorem Fb.cell {P b bd g o : Nat} (h : Fb P b bd g) {w w' : World} (k : Kp (Sx P b bd) w w') {v : Value} (hc : w.cell? ⟨g, o, none⟩ = some v) : w'.cell? ⟨g, o, none⟩ = some v := by
  refine (World.cell?_of_block (k.block _ (World.block_lt_of_cell? w _ hc) (fun hs => ?_))).trans hc
  obtain ⟨h1, h2, h3⟩ := h
  have hs : g = b ∨ g = bd ∨ P ≤ g := hs
  omega
/-- the tables of a search in memory -/
structure Fx (w : World) (P b bd : Nat) (D : Sch) (sa fa : Option Addr) : Prop where
  steps : ∀ k, k < D.n → ∃ g, sa = some ⟨g, 0, none⟩ ∧ Fb P b bd g ∧ ∃ a c, w.cell? ⟨g, k, none⟩ = some (.slice (some ⟨a, 0, none⟩) D.m c) ∧ Fb P b bd a ∧ ∀ i, i < D.m → w.cell? ⟨a, i, none⟩ = some (.int .i64 (enc (D.T k i)))
  first : ∀ k, k < D.n → ∃ g, fa = some ⟨g, 0, none⟩ ∧ Fb P b bd g ∧ w.cell? ⟨g, k, none⟩ = some (.int .u32 (D.B k : Int))
theorem Fx.kp {w w' : World} {P b bd : Nat} {D : Sch} {sa fa : Option Addr} (h : Fx w P b bd D sa fa) (k : Kp (Sx P b bd) w w') : Fx w' P b bd D sa fa := by
  refine ⟨fun j hj => ?_, fun j hj => ?_⟩
  · obtain ⟨g, h1, h2, a, c, h3, h4, h5⟩ := h.steps j hj
    exact ⟨g, h1, h2, a, c, h2.cell k h3, h4, fun i hi => h4.cell k (h5 i hi)⟩
  · obtain ⟨g, h1, h2, h3⟩ := h.first j hj
    exact ⟨g, h1, h2, h2.cell k h3⟩
/-- the sets that are dead -/
structure De (w : World) (bd : Nat) (D : Sch) (dd : Nat → Nat) : Prop where
  at_ : ∃ cur : Array Value, w.heap[bd]? = some (.cells cur 91 (0, 0)) ∧ ∀ st, st < 2 ^ D.n → cur[st]? = some (.int .u32 (dd st : Int))
  lt : ∀ st, st < 2 ^ D.n → dd st < 131072
  no : ∀ st i, st < 2 ^ D.n → (dd st).testBit i = true → ¬ Can D st i
def ints (o : List Nat) : List Value := o.map (fun (x : Nat) => Value.int .i64 (x : Int))
/-- a search in memory, with the order so far -/
structure Sr (w : World) (P b bd : Nat) (D : Sch) (sa fa : Option Addr) (cS cF : Nat) (o : List Nat) (ao : Option Addr) (co : Nat) (dd : Nat → Nat) : Prop where
  box : w.heap[b]? = some (.cells #[.slice sa D.n cS, .slice fa D.n cF, .int .u32 (D.must : Int), .slice (some ⟨bd, 0, none⟩) (2 ^ D.n) (2 ^ D.n), .slice ao o.length co] 94 (0, 0))
  fx : Fx w P b bd D sa fa
  de : De w bd D dd
  own : w.ownsRow P 3 1 (.slice ao o.length co) o.length (ints o)
  ne : b ≠ bd ∧ b < P ∧ bd < P
theorem must_cell {w : World} {P b bd : Nat} {D : Sch} {sa fa : Option Addr} {cS cF : Nat} {o : List Nat} {ao : Option Addr} {co : Nat} {dd : Nat → Nat} (h : Sr w P b bd D sa fa cS cF o ao co dd) :
    w.cell? ⟨b, 0, none⟩ = some (.slice sa D.n cS) ∧ w.cell? ⟨b, 1, none⟩ = some (.slice fa D.n cF) ∧ w.cell? ⟨b, 2, none⟩ = some (.int .u32 (D.must : Int)) ∧ w.cell? ⟨b, 3, none⟩ = some (.slice (some ⟨bd, 0, none⟩) (2 ^ D.n) (2 ^ D.n)) ∧ w.cell? ⟨b, 4, none⟩ = some (.slice ao o.length co) :=
  ⟨cellAt h.box 0 rfl, cellAt h.box 1 rfl, cellAt h.box 2 rfl, cellAt h.box 3 rfl, cellAt h.box 4 rfl⟩
set_option maxRecDepth 100000 in
set_option maxHeartbeats 2000000 in
theorem mayFollow90 (w : World) {P b bd : Nat} {D : Sch} {sa fa : Option Addr} {cS cF : Nat} {o : List Nat} {ao : Option Addr} {co : Nat} {dd : Nat → Nat} (h : Sr w P b bd D sa fa cS cF o ao co dd) (hD : D.Ok) (k st : Nat) (hk : k < D.n) (hs : st < 2 ^ D.n) :
    Calls Try.prog 90 #[.pointer (some ⟨b, 0, none⟩), .int .i64 (k : Int), .int .u32 (st : Int)] w fun e w' => Ans (D.may st k) e ∧ w' = w := by
  obtain ⟨_, c1, _, _, _⟩ := must_cell h
  obtain ⟨g, rfl, _, cg⟩ := h.fx.first k hk
  have hn := hD.n16
  have h16 := two16 hn
  have hB := hD.b k hk
  have hk0 : (0 : Int) ≤ (k : Int) := by omega
  have hkn : (k : Int) < (D.n : Int) := by omega
  have hk32 : (k : Int) ≤ 32 := by omega
  have etk : (k : Int).toNat = k := by omega
  have HM := hide (And.intro hk hs)
  have e2 := u32_andNot_nat (D.B k) st (by omega) (by omega)
  by_cases hb : st.testBit k = true
  · have e1 : bits .and .u32 ((st : Int) / 2 ^ k) 1 = 1 := by rw [bit_and (by omega) (by omega), if_pos hb]
    have HB := hide hb
    clear hb hD h hs
    go_enter Try.func90, Try.ntmps90
    go_wp2
    go_ret
    exact ⟨⟨false, rfl, by simp [Sch.may, HB.out]⟩, rfl⟩
  · have e1 : bits .and .u32 ((st : Int) / 2 ^ k) 1 = 0 := by rw [bit_and (by omega) (by omega), if_neg hb]
    have HB := hide hb
    have HS := hide (sub_iff (a := D.B k) (b := st) (by omega) (by omega))
    clear hb hD h hs
    go_enter Try.func90, Try.ntmps90
    go_wp2
    go_ret
    refine ⟨⟨_, rfl, ?_⟩, rfl⟩
    have hb2 : st.testBit k = false := by simpa using HB.out
    simp only [Sch.may, HM.out.1, hb2, true_and]
    rw [← HS.out]
    simp
end Go.Proofs.Ytcbonbeogdgogaa.Li
