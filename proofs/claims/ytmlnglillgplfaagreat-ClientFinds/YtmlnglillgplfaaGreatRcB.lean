import Derived.Test.YtmlnglillgplfaaGreatRcA
import Derived.Test.YtmlnglillgplfaaGreatWcB
namespace Go.Proofs.YtmlnglillgplfaaGreat.Cl
open Go.RowKit
set_option linter.unusedVariables false
/-- a bool, and what it says if it is true -/
def Ans (P : Prop) (e : Ending) : Prop := ∃ b : Bool, e = .returned (.bool b) ∧ (b = true → P)
/-- the document's rule of a field -/
def Mg.rul (m : Mg) : Nat → Prop
  | 1 => 0 < m.seq ∨ m.k = 11
  | 3 => m.key ≤ m.hi
  | 4 => (m.v.n : Int) ≤ 64
  | 5 => (m.o.n : Int) ≤ 64 ∧ (m.has = true ∨ m.o.n = 0)
  | 6 => 0 < m.li ∧ m.li ≤ 16
  | 7 => 1 ≤ m.of ∧ m.of ≤ 5
  | 8 => m.k ≠ 9 → 1 ≤ m.of → m.of ≤ 5 → stOk m.of m.st
  | 9 => m.host ≤ 15
  | _ => True
set_option maxRecDepth 100000 in
set_option maxHeartbeats 2000000 in
theorem rule1 (w : World) (m : Mg) (ok : m.Ok) : Calls Tryz.prog 84 #[.agg m.cells, .int .i64 1] w fun e w' => Ans (m.rul 1) e ∧ Kp Nu w w' := by
  obtain ⟨k, seq, key, hi, ⟨va, vn, vc⟩, ⟨oa, on, oc⟩, has, of, st, host, gr, bo, ma, li, ⟨paa, pan, pac⟩, ⟨sea, sen, sec⟩, ⟨pya, pyn, pyc⟩⟩ := m
  have e1 := wrapI ok.k
  simp only [Mg.cells, Sl.val]
  clear ok
  by_cases h0 : 0 < seq <;> by_cases h1 : k = 11 <;>
  first
  | (exfalso; omega)
  | (go_enter Tryz.func84, Tryz.ntmps84; go_wp2; go_ret; refine ⟨⟨_, rfl, ?_⟩, Kp.alloc _ _ _⟩; intro hb; first | (cases hb; done) | (unfold Mg.rul; first | trivial | omega | (refine ⟨?_, ?_⟩ <;> omega) | (simp_all; done)))
set_option maxRecDepth 100000 in
set_option maxHeartbeats 2000000 in
theorem rule2 (w : World) (m : Mg) (ok : m.Ok) : Calls Tryz.prog 84 #[.agg m.cells, .int .i64 2] w fun e w' => Ans (m.rul 2) e ∧ Kp Nu w w' := by
  obtain ⟨k, seq, key, hi, ⟨va, vn, vc⟩, ⟨oa, on, oc⟩, has, of, st, host, gr, bo, ma, li, ⟨paa, pan, pac⟩, ⟨sea, sen, sec⟩, ⟨pya, pyn, pyc⟩⟩ := m
  simp only [Mg.cells, Sl.val]
  clear ok
  go_enter Tryz.func84, Tryz.ntmps84
  go_wp2
  go_ret
  refine ⟨⟨_, rfl, ?_⟩, Kp.alloc _ _ _⟩
  intro hb
  first | (cases hb; done) | (unfold Mg.rul; first | trivial | omega | (refine ⟨?_, ?_⟩ <;> omega) | (simp_all; done))
set_option maxRecDepth 100000 in
set_option maxHeartbeats 2000000 in
theorem rule3 (w : World) (m : Mg) (ok : m.Ok) : Calls Tryz.prog 84 #[.agg m.cells, .int .i64 3] w fun e w' => Ans (m.rul 3) e ∧ Kp Nu w w' := by
  obtain ⟨k, seq, key, hi, ⟨va, vn, vc⟩, ⟨oa, on, oc⟩, has, of, st, host, gr, bo, ma, li, ⟨paa, pan, pac⟩, ⟨sea, sen, sec⟩, ⟨pya, pyn, pyc⟩⟩ := m
  simp only [Mg.cells, Sl.val]
  clear ok
  by_cases h0 : key ≤ hi <;>
  first
  | (exfalso; omega)
  | (go_enter Tryz.func84, Tryz.ntmps84; go_wp2; go_ret; refine ⟨⟨_, rfl, ?_⟩, Kp.alloc _ _ _⟩; intro hb; first | (cases hb; done) | (unfold Mg.rul; first | trivial | omega | (refine ⟨?_, ?_⟩ <;> omega) | (simp_all; done)))
set_option maxRecDepth 100000 in
set_option maxHeartbeats 2000000 in
theorem rule4 (w : World) (m : Mg) (ok : m.Ok) : Calls Tryz.prog 84 #[.agg m.cells, .int .i64 4] w fun e w' => Ans (m.rul 4) e ∧ Kp Nu w w' := by
  obtain ⟨k, seq, key, hi, ⟨va, vn, vc⟩, ⟨oa, on, oc⟩, has, of, st, host, gr, bo, ma, li, ⟨paa, pan, pac⟩, ⟨sea, sen, sec⟩, ⟨pya, pyn, pyc⟩⟩ := m
  simp only [Mg.cells, Sl.val]
  clear ok
  by_cases h0 : (vn : Int) ≤ 64 <;>
  first
  | (exfalso; omega)
  | (go_enter Tryz.func84, Tryz.ntmps84; go_wp2; go_ret; refine ⟨⟨_, rfl, ?_⟩, Kp.alloc _ _ _⟩; intro hb; first | (cases hb; done) | (unfold Mg.rul; first | trivial | omega | (refine ⟨?_, ?_⟩ <;> omega) | (simp_all; done)))
set_option maxRecDepth 100000 in
set_option maxHeartbeats 2000000 in
theorem rule5 (w : World) (m : Mg) (ok : m.Ok) : Calls Tryz.prog 84 #[.agg m.cells, .int .i64 5] w fun e w' => Ans (m.rul 5) e ∧ Kp Nu w w' := by
  obtain ⟨k, seq, key, hi, ⟨va, vn, vc⟩, ⟨oa, on, oc⟩, has, of, st, host, gr, bo, ma, li, ⟨paa, pan, pac⟩, ⟨sea, sen, sec⟩, ⟨pya, pyn, pyc⟩⟩ := m
  simp only [Mg.cells, Sl.val]
  clear ok
  by_cases h0 : (on : Int) ≤ 64
  case neg =>
    go_enter Tryz.func84, Tryz.ntmps84
    go_wp2
    go_ret
    exact ⟨⟨_, rfl, fun hb => by cases hb⟩, Kp.alloc _ _ _⟩
  case pos =>
  cases has with
  | true =>
    go_enter Tryz.func84, Tryz.ntmps84
    go_wp2
    go_ret
    exact ⟨⟨_, rfl, fun _ => ⟨h0, .inl rfl⟩⟩, Kp.alloc _ _ _⟩
  | false =>
    by_cases h2 : on = 0
    case pos =>
      subst h2
      clear h0
      go_enter Tryz.func84, Tryz.ntmps84
      go_wp2
      go_ret
      exact ⟨⟨_, rfl, fun _ => ⟨by simp, .inr rfl⟩⟩, Kp.alloc _ _ _⟩
    case neg =>
      have h3 : ¬ (on : Int) = 0 := by omega
      clear h2
      go_enter Tryz.func84, Tryz.ntmps84
      go_wp2
      go_ret
      exact ⟨⟨_, rfl, fun hb => by first | (cases hb; done) | (simp at hb; omega)⟩, Kp.alloc _ _ _⟩
set_option maxRecDepth 100000 in
set_option maxHeartbeats 2000000 in
theorem rule6 (w : World) (m : Mg) (ok : m.Ok) : Calls Tryz.prog 84 #[.agg m.cells, .int .i64 6] w fun e w' => Ans (m.rul 6) e ∧ Kp Nu w w' := by
  obtain ⟨k, seq, key, hi, ⟨va, vn, vc⟩, ⟨oa, on, oc⟩, has, of, st, host, gr, bo, ma, li, ⟨paa, pan, pac⟩, ⟨sea, sen, sec⟩, ⟨pya, pyn, pyc⟩⟩ := m
  simp only [Mg.cells, Sl.val]
  clear ok
  by_cases h0 : 0 < li <;> by_cases h1 : li ≤ 16 <;>
  first
  | (exfalso; omega)
  | (go_enter Tryz.func84, Tryz.ntmps84; go_wp2; go_ret; refine ⟨⟨_, rfl, ?_⟩, Kp.alloc _ _ _⟩; intro hb; first | (cases hb; done) | (unfold Mg.rul; first | trivial | omega | (refine ⟨?_, ?_⟩ <;> omega) | (simp_all; done)))
set_option maxRecDepth 100000 in
set_option maxHeartbeats 2000000 in
theorem rule7 (w : World) (m : Mg) (ok : m.Ok) : Calls Tryz.prog 84 #[.agg m.cells, .int .i64 7] w fun e w' => Ans (m.rul 7) e ∧ Kp Nu w w' := by
  obtain ⟨k, seq, key, hi, ⟨va, vn, vc⟩, ⟨oa, on, oc⟩, has, of, st, host, gr, bo, ma, li, ⟨paa, pan, pac⟩, ⟨sea, sen, sec⟩, ⟨pya, pyn, pyc⟩⟩ := m
  have e1 := wrapI ok.of
  simp only [Mg.cells, Sl.val]
  clear ok
  by_cases h0 : 1 ≤ of <;> by_cases h1 : of ≤ 5 <;>
  first
  | (exfalso; omega)
  | (go_enter Tryz.func84, Tryz.ntmps84; go_wp2; go_ret; refine ⟨⟨_, rfl, ?_⟩, Kp.alloc _ _ _⟩; intro hb; first | (cases hb; done) | (unfold Mg.rul; first | trivial | omega | (refine ⟨?_, ?_⟩ <;> omega) | (simp_all; done)))
set_option maxRecDepth 100000 in
set_option maxHeartbeats 2000000 in
theorem rule9 (w : World) (m : Mg) (ok : m.Ok) : Calls Tryz.prog 84 #[.agg m.cells, .int .i64 9] w fun e w' => Ans (m.rul 9) e ∧ Kp Nu w w' := by
  obtain ⟨k, seq, key, hi, ⟨va, vn, vc⟩, ⟨oa, on, oc⟩, has, of, st, host, gr, bo, ma, li, ⟨paa, pan, pac⟩, ⟨sea, sen, sec⟩, ⟨pya, pyn, pyc⟩⟩ := m
  simp only [Mg.cells, Sl.val]
  clear ok
  by_cases h0 : host ≤ 15 <;>
  first
  | (exfalso; omega)
  | (go_enter Tryz.func84, Tryz.ntmps84; go_wp2; go_ret; refine ⟨⟨_, rfl, ?_⟩, Kp.alloc _ _ _⟩; intro hb; first | (cases hb; done) | (unfold Mg.rul; first | trivial | omega | (refine ⟨?_, ?_⟩ <;> omega) | (simp_all; done)))
set_option maxRecDepth 100000 in
set_option maxHeartbeats 2000000 in
theorem rule10 (w : World) (m : Mg) (ok : m.Ok) : Calls Tryz.prog 84 #[.agg m.cells, .int .i64 10] w fun e w' => Ans (m.rul 10) e ∧ Kp Nu w w' := by
  obtain ⟨k, seq, key, hi, ⟨va, vn, vc⟩, ⟨oa, on, oc⟩, has, of, st, host, gr, bo, ma, li, ⟨paa, pan, pac⟩, ⟨sea, sen, sec⟩, ⟨pya, pyn, pyc⟩⟩ := m
  simp only [Mg.cells, Sl.val]
  clear ok
  go_enter Tryz.func84, Tryz.ntmps84
  go_wp2
  go_ret
  refine ⟨⟨_, rfl, ?_⟩, Kp.alloc _ _ _⟩
  intro hb
  first | (cases hb; done) | (unfold Mg.rul; first | trivial | omega | (refine ⟨?_, ?_⟩ <;> omega) | (simp_all; done))
set_option maxRecDepth 100000 in
set_option maxHeartbeats 2000000 in
theorem rule11 (w : World) (m : Mg) (ok : m.Ok) : Calls Tryz.prog 84 #[.agg m.cells, .int .i64 11] w fun e w' => Ans (m.rul 11) e ∧ Kp Nu w w' := by
  obtain ⟨k, seq, key, hi, ⟨va, vn, vc⟩, ⟨oa, on, oc⟩, has, of, st, host, gr, bo, ma, li, ⟨paa, pan, pac⟩, ⟨sea, sen, sec⟩, ⟨pya, pyn, pyc⟩⟩ := m
  simp only [Mg.cells, Sl.val]
  clear ok
  go_enter Tryz.func84, Tryz.ntmps84
  go_wp2
  go_ret
  refine ⟨⟨_, rfl, ?_⟩, Kp.alloc _ _ _⟩
  intro hb
  first | (cases hb; done) | (unfold Mg.rul; first | trivial | omega | (refine ⟨?_, ?_⟩ <;> omega) | (simp_all; done))
set_option maxRecDepth 100000 in
set_option maxHeartbeats 2000000 in
theorem rule12 (w : World) (m : Mg) (ok : m.Ok) : Calls Tryz.prog 84 #[.agg m.cells, .int .i64 12] w fun e w' => Ans (m.rul 12) e ∧ Kp Nu w w' := by
  obtain ⟨k, seq, key, hi, ⟨va, vn, vc⟩, ⟨oa, on, oc⟩, has, of, st, host, gr, bo, ma, li, ⟨paa, pan, pac⟩, ⟨sea, sen, sec⟩, ⟨pya, pyn, pyc⟩⟩ := m
  simp only [Mg.cells, Sl.val]
  clear ok
  go_enter Tryz.func84, Tryz.ntmps84
  go_wp2
  go_ret
  refine ⟨⟨_, rfl, ?_⟩, Kp.alloc _ _ _⟩
  intro hb
  first | (cases hb; done) | (unfold Mg.rul; first | trivial | omega | (refine ⟨?_, ?_⟩ <;> omega) | (simp_all; done))
set_option maxRecDepth 100000 in
set_option maxHeartbeats 2000000 in
theorem rule13 (w : World) (m : Mg) (ok : m.Ok) : Calls Tryz.prog 84 #[.agg m.cells, .int .i64 13] w fun e w' => Ans (m.rul 13) e ∧ Kp Nu w w' := by
  obtain ⟨k, seq, key, hi, ⟨va, vn, vc⟩, ⟨oa, on, oc⟩, has, of, st, host, gr, bo, ma, li, ⟨paa, pan, pac⟩, ⟨sea, sen, sec⟩, ⟨pya, pyn, pyc⟩⟩ := m
  simp only [Mg.cells, Sl.val]
  clear ok
  by_cases h0 : (pyn : Int) > 0 <;> by_cases h1 : (pyn : Int) ≤ 3072 <;>
  first
  | (exfalso; omega)
  | (go_enter Tryz.func84, Tryz.ntmps84; go_wp2; go_ret; refine ⟨⟨_, rfl, ?_⟩, Kp.alloc _ _ _⟩; intro hb; first | (cases hb; done) | (unfold Mg.rul; first | trivial | omega | (refine ⟨?_, ?_⟩ <;> omega) | (simp_all; done)))
set_option maxRecDepth 100000 in
theorem order_any (w : World) (m : Mg) (hp : m.pa.n = 0) (hs : m.se.n = 0) (f : Nat) (hf : f ≤ 13) : Calls Tryz.prog 85 #[.agg m.cells, .int .i64 (f : Int)] w fun e w' => e = .returned (.bool true) ∧ Kp Nu w w' := by
  obtain ⟨k, seq, key, hi, ⟨va, vn, vc⟩, ⟨oa, on, oc⟩, has, of, st, host, gr, bo, ma, li, ⟨paa, pan, pac⟩, ⟨sea, sen, sec⟩, ⟨pya, pyn, pyc⟩⟩ := m
  have h1 : ¬ (f : Int) = 14 := by omega
  have h2 : ¬ (f : Int) = 15 := by omega
  simp only [Mg.cells, Sl.val] at *
  clear hf hp hs
  go_enter Tryz.func85, Tryz.ntmps85
  go_wp2
  go_ret
  exact ⟨rfl, Kp.alloc _ _ _⟩
end Go.Proofs.YtmlnglillgplfaaGreat.Cl
