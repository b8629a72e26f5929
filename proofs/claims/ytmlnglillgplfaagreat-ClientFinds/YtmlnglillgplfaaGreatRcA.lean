import Derived.Test.YtmlnglillgplfaaGreatWcA
import Derived.Test.YtmlnglillgplfaaGreatLl
import Derived.Handy
namespace Go.Proofs.YtmlnglillgplfaaGreat.Cl
open Go.RowKit
set_option linter.unusedVariables false
/-- the document's list of a message's fields -/
def ul (m : Mg) : List Nat :=
  if m.k = 1 then [1, 2] else if m.k = 2 then [1, 2, 4] else if m.k = 3 then [1, 2] else if m.k = 4 then [1, 2, 5, 4] else if m.k = 5 then [1, 2, 3, 6]
  else if m.k = 6 then (if m.of = 1 ∧ m.st = 1 then [1, 7, 8, 4] else if m.of = 5 then [1, 7, 8, 3, 14] else [1, 7, 8])
  else if m.k = 7 then [1, 2, 3, 9] else if m.k = 8 then [1, 2, 3, 9, 10, 11] else if m.k = 9 then [1, 8] else if m.k = 10 then [1, 13] else if m.k = 11 then [1, 12] else [2, 3, 10, 11, 14, 15]
/-- numbers in memory -/
def Is (w : World) (v : Value) (xs : List Nat) : Prop := ∃ r c, v = .slice (some ⟨r, 0, none⟩) xs.length c ∧ w.heap[r]? = some (.cells (xs.map (fun (x : Nat) => Value.int .i64 (x : Int))).toArray 3 (0, 0))
theorem Is.nu {w w' : World} {v : Value} {xs : List Nat} (h : Is w v xs) (k : Kp Nu w w') : Is w' v xs := by
  obtain ⟨r, c, e, hb⟩ := h
  exact ⟨r, c, e, (k.block r (blk_lt hb) (fun h => h)).trans hb⟩
/-- with one field more -/
def Mg.lay (n m : Mg) : Nat → Mg
  | 1 => { n with seq := m.seq }
  | 2 => { n with key := m.key }
  | 3 => { n with hi := m.hi }
  | 4 => { n with v := m.v }
  | 5 => { n with has := m.has, o := m.o }
  | 6 => { n with li := m.li }
  | 7 => { n with of := m.of }
  | 8 => { n with st := m.st }
  | 9 => { n with host := m.host }
  | 10 => { n with gr := m.gr }
  | 11 => { n with bo := m.bo }
  | 12 => { n with ma := m.ma }
  | 13 => { n with py := m.py }
  | 14 => { n with pa := m.pa }
  | 15 => { n with se := m.se }
  | _ => n
theorem wrapI {x : Int} (h : 0 ≤ x ∧ x < 256) : IntKind.i64.wrap x = x := by
  obtain ⟨h0, h1⟩ := h
  simp only [IntKind.wrap, IntKind.signed, IntKind.bits]
  first | omega | (simp; omega)
set_option maxRecDepth 100000 in
set_option maxHeartbeats 2000000 in
theorem uses_any (w : World) (m : Mg) (ok : m.Ok) (k1 : 1 ≤ m.k) (k12 : m.k ≤ 12) : Calls Tryz.prog 82 #[.agg m.cells] w fun e w' => ∃ v, e = .returned v ∧ Is w' v (ul m) ∧ Kp Nu w w' := by
  obtain ⟨k, seq, key, hi, ⟨va, vn, vc⟩, ⟨oa, on, oc⟩, has, of, st, host, gr, bo, ma, li, ⟨paa, pan, pac⟩, ⟨sea, sen, sec⟩, ⟨pya, pyn, pyc⟩⟩ := m
  simp only [Mg.cells, Sl.val, ul] at *
  have hc : k = 1 ∨ k = 2 ∨ k = 3 ∨ k = 4 ∨ k = 5 ∨ k = 7 ∨ k = 8 ∨ k = 9 ∨ k = 10 ∨ k = 11 ∨ k = 12 ∨ k = 6 := by omega
  have e1 := wrapI ok.of
  have e2 := wrapI ok.st
  simp only at e1 e2
  clear k1 k12 ok
  rcases hc with rfl | rfl | rfl | rfl | rfl | rfl | rfl | rfl | rfl | rfl | rfl | rfl
  · go_enter Tryz.func82, Tryz.ntmps82
    go_wp2
    go_ret
    exact ⟨_, rfl, ⟨w.heap.size + 1, _, rfl, new2 w _ _⟩, (Kp.alloc _ _ _).andAlloc _⟩
  · go_enter Tryz.func82, Tryz.ntmps82
    go_wp2
    go_ret
    exact ⟨_, rfl, ⟨w.heap.size + 1, _, rfl, new2 w _ _⟩, (Kp.alloc _ _ _).andAlloc _⟩
  · go_enter Tryz.func82, Tryz.ntmps82
    go_wp2
    go_ret
    exact ⟨_, rfl, ⟨w.heap.size + 1, _, rfl, new2 w _ _⟩, (Kp.alloc _ _ _).andAlloc _⟩
  · go_enter Tryz.func82, Tryz.ntmps82
    go_wp2
    go_ret
    exact ⟨_, rfl, ⟨w.heap.size + 1, _, rfl, new2 w _ _⟩, (Kp.alloc _ _ _).andAlloc _⟩
  · go_enter Tryz.func82, Tryz.ntmps82
    go_wp2
    go_ret
    exact ⟨_, rfl, ⟨w.heap.size + 1, _, rfl, new2 w _ _⟩, (Kp.alloc _ _ _).andAlloc _⟩
  · go_enter Tryz.func82, Tryz.ntmps82
    go_wp2
    go_ret
    exact ⟨_, rfl, ⟨w.heap.size + 1, _, rfl, new2 w _ _⟩, (Kp.alloc _ _ _).andAlloc _⟩
  · go_enter Tryz.func82, Tryz.ntmps82
    go_wp2
    go_ret
    exact ⟨_, rfl, ⟨w.heap.size + 1, _, rfl, new2 w _ _⟩, (Kp.alloc _ _ _).andAlloc _⟩
  · go_enter Tryz.func82, Tryz.ntmps82
    go_wp2
    go_ret
    exact ⟨_, rfl, ⟨w.heap.size + 1, _, rfl, new2 w _ _⟩, (Kp.alloc _ _ _).andAlloc _⟩
  · go_enter Tryz.func82, Tryz.ntmps82
    go_wp2
    go_ret
    exact ⟨_, rfl, ⟨w.heap.size + 1, _, rfl, new2 w _ _⟩, (Kp.alloc _ _ _).andAlloc _⟩
  · go_enter Tryz.func82, Tryz.ntmps82
    go_wp2
    go_ret
    exact ⟨_, rfl, ⟨w.heap.size + 1, _, rfl, new2 w _ _⟩, (Kp.alloc _ _ _).andAlloc _⟩
  · go_enter Tryz.func82, Tryz.ntmps82
    go_wp2
    go_ret
    exact ⟨_, rfl, ⟨w.heap.size + 1, _, rfl, new2 w _ _⟩, (Kp.alloc _ _ _).andAlloc _⟩
  · by_cases ho : of = 1
    · subst ho
      by_cases hs : st = 1
      · subst hs
        go_enter Tryz.func82, Tryz.ntmps82
        go_wp2
        go_ret
        exact ⟨_, rfl, ⟨w.heap.size + 1, _, rfl, new2 w _ _⟩, (Kp.alloc _ _ _).andAlloc _⟩
      · go_enter Tryz.func82, Tryz.ntmps82
        go_wp2
        go_ret
        refine ⟨_, rfl, ?_, (Kp.alloc _ _ _).andAlloc _⟩
        simp
        exact ⟨w.heap.size + 1, _, rfl, new2 w _ _⟩
    · by_cases ho5 : of = 5
      · subst ho5
        go_enter Tryz.func82, Tryz.ntmps82
        go_wp2
        go_ret
        exact ⟨_, rfl, ⟨w.heap.size + 1, _, rfl, new2 w _ _⟩, (Kp.alloc _ _ _).andAlloc _⟩
      · go_enter Tryz.func82, Tryz.ntmps82
        go_wp2
        go_ret
        refine ⟨_, rfl, ?_, (Kp.alloc _ _ _).andAlloc _⟩
        simp
        exact ⟨w.heap.size + 1, _, rfl, new2 w _ _⟩
set_option maxRecDepth 100000 in
set_option maxHeartbeats 2000000 in
theorem lay1 (w : World) (n m : Mg) : Calls Tryz.prog 83 #[.agg n.cells, .agg m.cells, .int .i64 1] w fun e w' => e = .returned (.agg (n.lay m 1).cells) ∧ Kp Nu w w' := by
  obtain ⟨k, seq, key, hi, ⟨va, vn, vc⟩, ⟨oa, on, oc⟩, has, of, st, host, gr, bo, ma, li, ⟨paa, pan, pac⟩, ⟨sea, sen, sec⟩, ⟨pya, pyn, pyc⟩⟩ := n
  obtain ⟨k2, seq2, key2, hi2, ⟨v2a, v2n, v2c⟩, ⟨o2a, o2n, o2c⟩, has2, of2, st2, host2, gr2, bo2, ma2, li2, ⟨pa2a, pa2n, pa2c⟩, ⟨se2a, se2n, se2c⟩, ⟨py2a, py2n, py2c⟩⟩ := m
  simp only [Mg.cells, Sl.val, Mg.lay]
  go_enter Tryz.func83, Tryz.ntmps83
  go_wp2_with (first | (guard_target =~ wpList _ _ _ ({ dst := _, op := Op.load 36 (Operand.tmp 3), type := _, pos := _, after := _, guard := _ } :: _) _ _; refine wpList_load_all 36 17 (.tmp 3) rfl rfl info36 _ Tryz.underlying36 rfl _ rfl (new13 w _ _ _) rfl ?_) | (guard_target =~ wpList _ _ _ ({ dst := none, op := Op.store 36 (Operand.tmp 6) (Operand.tmp 86), type := _, pos := _, after := _, guard := _ } :: _) _ _; refine wpList_store_new 36 17 (.tmp 6) (.tmp 86) rfl rfl info36 _ _ _ rfl rfl (by simp) rfl rfl (by simp [Value.oneCell']) ?_))
  refine bodyPost_ret (results_cell_row rfl _ _ (w.heap.size + 2) 36 _ _ _ rfl (new3 w _ _ _) Tryz.underlying36 rfl info36) rfl ?_
  exact ⟨rfl, ((Kp.alloc _ _ _).andAlloc _).andAlloc _⟩
set_option maxRecDepth 100000 in
set_option maxHeartbeats 2000000 in
theorem lay2 (w : World) (n m : Mg) : Calls Tryz.prog 83 #[.agg n.cells, .agg m.cells, .int .i64 2] w fun e w' => e = .returned (.agg (n.lay m 2).cells) ∧ Kp Nu w w' := by
  obtain ⟨k, seq, key, hi, ⟨va, vn, vc⟩, ⟨oa, on, oc⟩, has, of, st, host, gr, bo, ma, li, ⟨paa, pan, pac⟩, ⟨sea, sen, sec⟩, ⟨pya, pyn, pyc⟩⟩ := n
  obtain ⟨k2, seq2, key2, hi2, ⟨v2a, v2n, v2c⟩, ⟨o2a, o2n, o2c⟩, has2, of2, st2, host2, gr2, bo2, ma2, li2, ⟨pa2a, pa2n, pa2c⟩, ⟨se2a, se2n, se2c⟩, ⟨py2a, py2n, py2c⟩⟩ := m
  simp only [Mg.cells, Sl.val, Mg.lay]
  go_enter Tryz.func83, Tryz.ntmps83
  go_wp2_with (first | (guard_target =~ wpList _ _ _ ({ dst := _, op := Op.load 36 (Operand.tmp 3), type := _, pos := _, after := _, guard := _ } :: _) _ _; refine wpList_load_all 36 17 (.tmp 3) rfl rfl info36 _ Tryz.underlying36 rfl _ rfl (new13 w _ _ _) rfl ?_) | (guard_target =~ wpList _ _ _ ({ dst := none, op := Op.store 36 (Operand.tmp 6) (Operand.tmp 86), type := _, pos := _, after := _, guard := _ } :: _) _ _; refine wpList_store_new 36 17 (.tmp 6) (.tmp 86) rfl rfl info36 _ _ _ rfl rfl (by simp) rfl rfl (by simp [Value.oneCell']) ?_))
  refine bodyPost_ret (results_cell_row rfl _ _ (w.heap.size + 2) 36 _ _ _ rfl (new3 w _ _ _) Tryz.underlying36 rfl info36) rfl ?_
  exact ⟨rfl, ((Kp.alloc _ _ _).andAlloc _).andAlloc _⟩
set_option maxRecDepth 100000 in
set_option maxHeartbeats 2000000 in
theorem lay3 (w : World) (n m : Mg) : Calls Tryz.prog 83 #[.agg n.cells, .agg m.cells, .int .i64 3] w fun e w' => e = .returned (.agg (n.lay m 3).cells) ∧ Kp Nu w w' := by
  obtain ⟨k, seq, key, hi, ⟨va, vn, vc⟩, ⟨oa, on, oc⟩, has, of, st, host, gr, bo, ma, li, ⟨paa, pan, pac⟩, ⟨sea, sen, sec⟩, ⟨pya, pyn, pyc⟩⟩ := n
  obtain ⟨k2, seq2, key2, hi2, ⟨v2a, v2n, v2c⟩, ⟨o2a, o2n, o2c⟩, has2, of2, st2, host2, gr2, bo2, ma2, li2, ⟨pa2a, pa2n, pa2c⟩, ⟨se2a, se2n, se2c⟩, ⟨py2a, py2n, py2c⟩⟩ := m
  simp only [Mg.cells, Sl.val, Mg.lay]
  go_enter Tryz.func83, Tryz.ntmps83
  go_wp2_with (first | (guard_target =~ wpList _ _ _ ({ dst := _, op := Op.load 36 (Operand.tmp 3), type := _, pos := _, after := _, guard := _ } :: _) _ _; refine wpList_load_all 36 17 (.tmp 3) rfl rfl info36 _ Tryz.underlying36 rfl _ rfl (new13 w _ _ _) rfl ?_) | (guard_target =~ wpList _ _ _ ({ dst := none, op := Op.store 36 (Operand.tmp 6) (Operand.tmp 86), type := _, pos := _, after := _, guard := _ } :: _) _ _; refine wpList_store_new 36 17 (.tmp 6) (.tmp 86) rfl rfl info36 _ _ _ rfl rfl (by simp) rfl rfl (by simp [Value.oneCell']) ?_))
  refine bodyPost_ret (results_cell_row rfl _ _ (w.heap.size + 2) 36 _ _ _ rfl (new3 w _ _ _) Tryz.underlying36 rfl info36) rfl ?_
  exact ⟨rfl, ((Kp.alloc _ _ _).andAlloc _).andAlloc _⟩
set_option maxRecDepth 100000 in
set_option maxHeartbeats 2000000 in
theorem lay4 (w : World) (n m : Mg) : Calls Tryz.prog 83 #[.agg n.cells, .agg m.cells, .int .i64 4] w fun e w' => e = .returned (.agg (n.lay m 4).cells) ∧ Kp Nu w w' := by
  obtain ⟨k, seq, key, hi, ⟨va, vn, vc⟩, ⟨oa, on, oc⟩, has, of, st, host, gr, bo, ma, li, ⟨paa, pan, pac⟩, ⟨sea, sen, sec⟩, ⟨pya, pyn, pyc⟩⟩ := n
  obtain ⟨k2, seq2, key2, hi2, ⟨v2a, v2n, v2c⟩, ⟨o2a, o2n, o2c⟩, has2, of2, st2, host2, gr2, bo2, ma2, li2, ⟨pa2a, pa2n, pa2c⟩, ⟨se2a, se2n, se2c⟩, ⟨py2a, py2n, py2c⟩⟩ := m
  simp only [Mg.cells, Sl.val, Mg.lay]
  go_enter Tryz.func83, Tryz.ntmps83
  go_wp2_with (first | (guard_target =~ wpList _ _ _ ({ dst := _, op := Op.load 36 (Operand.tmp 3), type := _, pos := _, after := _, guard := _ } :: _) _ _; refine wpList_load_all 36 17 (.tmp 3) rfl rfl info36 _ Tryz.underlying36 rfl _ rfl (new13 w _ _ _) rfl ?_) | (guard_target =~ wpList _ _ _ ({ dst := none, op := Op.store 36 (Operand.tmp 6) (Operand.tmp 86), type := _, pos := _, after := _, guard := _ } :: _) _ _; refine wpList_store_new 36 17 (.tmp 6) (.tmp 86) rfl rfl info36 _ _ _ rfl rfl (by simp) rfl rfl (by simp [Value.oneCell']) ?_))
  refine bodyPost_ret (results_cell_row rfl _ _ (w.heap.size + 2) 36 _ _ _ rfl (new3 w _ _ _) Tryz.underlying36 rfl info36) rfl ?_
  exact ⟨rfl, ((Kp.alloc _ _ _).andAlloc _).andAlloc _⟩
set_option maxRecDepth 100000 in
set_option maxHeartbeats 2000000 in
theorem lay5 (w : World) (n m : Mg) : Calls Tryz.prog 83 #[.agg n.cells, .agg m.cells, .int .i64 5] w fun e w' => e = .returned (.agg (n.lay m 5).cells) ∧ Kp Nu w w' := by
  obtain ⟨k, seq, key, hi, ⟨va, vn, vc⟩, ⟨oa, on, oc⟩, has, of, st, host, gr, bo, ma, li, ⟨paa, pan, pac⟩, ⟨sea, sen, sec⟩, ⟨pya, pyn, pyc⟩⟩ := n
  obtain ⟨k2, seq2, key2, hi2, ⟨v2a, v2n, v2c⟩, ⟨o2a, o2n, o2c⟩, has2, of2, st2, host2, gr2, bo2, ma2, li2, ⟨pa2a, pa2n, pa2c⟩, ⟨se2a, se2n, se2c⟩, ⟨py2a, py2n, py2c⟩⟩ := m
  simp only [Mg.cells, Sl.val, Mg.lay]
  go_enter Tryz.func83, Tryz.ntmps83
  go_wp2_with (first | (guard_target =~ wpList _ _ _ ({ dst := _, op := Op.load 36 (Operand.tmp 3), type := _, pos := _, after := _, guard := _ } :: _) _ _; refine wpList_load_all 36 17 (.tmp 3) rfl rfl info36 _ Tryz.underlying36 rfl _ rfl (new13 w _ _ _) rfl ?_) | (guard_target =~ wpList _ _ _ ({ dst := none, op := Op.store 36 (Operand.tmp 6) (Operand.tmp 86), type := _, pos := _, after := _, guard := _ } :: _) _ _; refine wpList_store_new 36 17 (.tmp 6) (.tmp 86) rfl rfl info36 _ _ _ rfl rfl (by simp) rfl rfl (by simp [Value.oneCell']) ?_))
  refine bodyPost_ret (results_cell_row rfl _ _ (w.heap.size + 2) 36 _ _ _ rfl (new3 w _ _ _) Tryz.underlying36 rfl info36) rfl ?_
  exact ⟨rfl, ((Kp.alloc _ _ _).andAlloc _).andAlloc _⟩
set_option maxRecDepth 100000 in
set_option maxHeartbeats 2000000 in
theorem lay6 (w : World) (n m : Mg) : Calls Tryz.prog 83 #[.agg n.cells, .agg m.cells, .int .i64 6] w fun e w' => e = .returned (.agg (n.lay m 6).cells) ∧ Kp Nu w w' := by
  obtain ⟨k, seq, key, hi, ⟨va, vn, vc⟩, ⟨oa, on, oc⟩, has, of, st, host, gr, bo, ma, li, ⟨paa, pan, pac⟩, ⟨sea, sen, sec⟩, ⟨pya, pyn, pyc⟩⟩ := n
  obtain ⟨k2, seq2, key2, hi2, ⟨v2a, v2n, v2c⟩, ⟨o2a, o2n, o2c⟩, has2, of2, st2, host2, gr2, bo2, ma2, li2, ⟨pa2a, pa2n, pa2c⟩, ⟨se2a, se2n, se2c⟩, ⟨py2a, py2n, py2c⟩⟩ := m
  simp only [Mg.cells, Sl.val, Mg.lay]
  go_enter Tryz.func83, Tryz.ntmps83
  go_wp2_with (first | (guard_target =~ wpList _ _ _ ({ dst := _, op := Op.load 36 (Operand.tmp 3), type := _, pos := _, after := _, guard := _ } :: _) _ _; refine wpList_load_all 36 17 (.tmp 3) rfl rfl info36 _ Tryz.underlying36 rfl _ rfl (new13 w _ _ _) rfl ?_) | (guard_target =~ wpList _ _ _ ({ dst := none, op := Op.store 36 (Operand.tmp 6) (Operand.tmp 86), type := _, pos := _, after := _, guard := _ } :: _) _ _; refine wpList_store_new 36 17 (.tmp 6) (.tmp 86) rfl rfl info36 _ _ _ rfl rfl (by simp) rfl rfl (by simp [Value.oneCell']) ?_))
  refine bodyPost_ret (results_cell_row rfl _ _ (w.heap.size + 2) 36 _ _ _ rfl (new3 w _ _ _) Tryz.underlying36 rfl info36) rfl ?_
  exact ⟨rfl, ((Kp.alloc _ _ _).andAlloc _).andAlloc _⟩
set_option maxRecDepth 100000 in
set_option maxHeartbeats 2000000 in
theorem lay7 (w : World) (n m : Mg) : Calls Tryz.prog 83 #[.agg n.cells, .agg m.cells, .int .i64 7] w fun e w' => e = .returned (.agg (n.lay m 7).cells) ∧ Kp Nu w w' := by
  obtain ⟨k, seq, key, hi, ⟨va, vn, vc⟩, ⟨oa, on, oc⟩, has, of, st, host, gr, bo, ma, li, ⟨paa, pan, pac⟩, ⟨sea, sen, sec⟩, ⟨pya, pyn, pyc⟩⟩ := n
  obtain ⟨k2, seq2, key2, hi2, ⟨v2a, v2n, v2c⟩, ⟨o2a, o2n, o2c⟩, has2, of2, st2, host2, gr2, bo2, ma2, li2, ⟨pa2a, pa2n, pa2c⟩, ⟨se2a, se2n, se2c⟩, ⟨py2a, py2n, py2c⟩⟩ := m
  simp only [Mg.cells, Sl.val, Mg.lay]
  go_enter Tryz.func83, Tryz.ntmps83
  go_wp2_with (first | (guard_target =~ wpList _ _ _ ({ dst := _, op := Op.load 36 (Operand.tmp 3), type := _, pos := _, after := _, guard := _ } :: _) _ _; refine wpList_load_all 36 17 (.tmp 3) rfl rfl info36 _ Tryz.underlying36 rfl _ rfl (new13 w _ _ _) rfl ?_) | (guard_target =~ wpList _ _ _ ({ dst := none, op := Op.store 36 (Operand.tmp 6) (Operand.tmp 86), type := _, pos := _, after := _, guard := _ } :: _) _ _; refine wpList_store_new 36 17 (.tmp 6) (.tmp 86) rfl rfl info36 _ _ _ rfl rfl (by simp) rfl rfl (by simp [Value.oneCell']) ?_))
  refine bodyPost_ret (results_cell_row rfl _ _ (w.heap.size + 2) 36 _ _ _ rfl (new3 w _ _ _) Tryz.underlying36 rfl info36) rfl ?_
  exact ⟨rfl, ((Kp.alloc _ _ _).andAlloc _).andAlloc _⟩
set_option maxRecDepth 100000 in
set_option maxHeartbeats 2000000 in
theorem lay8 (w : World) (n m : Mg) : Calls Tryz.prog 83 #[.agg n.cells, .agg m.cells, .int .i64 8] w fun e w' => e = .returned (.agg (n.lay m 8).cells) ∧ Kp Nu w w' := by
  obtain ⟨k, seq, key, hi, ⟨va, vn, vc⟩, ⟨oa, on, oc⟩, has, of, st, host, gr, bo, ma, li, ⟨paa, pan, pac⟩, ⟨sea, sen, sec⟩, ⟨pya, pyn, pyc⟩⟩ := n
  obtain ⟨k2, seq2, key2, hi2, ⟨v2a, v2n, v2c⟩, ⟨o2a, o2n, o2c⟩, has2, of2, st2, host2, gr2, bo2, ma2, li2, ⟨pa2a, pa2n, pa2c⟩, ⟨se2a, se2n, se2c⟩, ⟨py2a, py2n, py2c⟩⟩ := m
  simp only [Mg.cells, Sl.val, Mg.lay]
  go_enter Tryz.func83, Tryz.ntmps83
  go_wp2_with (first | (guard_target =~ wpList _ _ _ ({ dst := _, op := Op.load 36 (Operand.tmp 3), type := _, pos := _, after := _, guard := _ } :: _) _ _; refine wpList_load_all 36 17 (.tmp 3) rfl rfl info36 _ Tryz.underlying36 rfl _ rfl (new13 w _ _ _) rfl ?_) | (guard_target =~ wpList _ _ _ ({ dst := none, op := Op.store 36 (Operand.tmp 6) (Operand.tmp 86), type := _, pos := _, after := _, guard := _ } :: _) _ _; refine wpList_store_new 36 17 (.tmp 6) (.tmp 86) rfl rfl info36 _ _ _ rfl rfl (by simp) rfl rfl (by simp [Value.oneCell']) ?_))
  refine bodyPost_ret (results_cell_row rfl _ _ (w.heap.size + 2) 36 _ _ _ rfl (new3 w _ _ _) Tryz.underlying36 rfl info36) rfl ?_
  exact ⟨rfl, ((Kp.alloc _ _ _).andAlloc _).andAlloc _⟩
set_option maxRecDepth 100000 in
set_option maxHeartbeats 2000000 in
theorem lay9 (w : World) (n m : Mg) : Calls Tryz.prog 83 #[.agg n.cells, .agg m.cells, .int .i64 9] w fun e w' => e = .returned (.agg (n.lay m 9).cells) ∧ Kp Nu w w' := by
  obtain ⟨k, seq, key, hi, ⟨va, vn, vc⟩, ⟨oa, on, oc⟩, has, of, st, host, gr, bo, ma, li, ⟨paa, pan, pac⟩, ⟨sea, sen, sec⟩, ⟨pya, pyn, pyc⟩⟩ := n
  obtain ⟨k2, seq2, key2, hi2, ⟨v2a, v2n, v2c⟩, ⟨o2a, o2n, o2c⟩, has2, of2, st2, host2, gr2, bo2, ma2, li2, ⟨pa2a, pa2n, pa2c⟩, ⟨se2a, se2n, se2c⟩, ⟨py2a, py2n, py2c⟩⟩ := m
  simp only [Mg.cells, Sl.val, Mg.lay]
  go_enter Tryz.func83, Tryz.ntmps83
  go_wp2_with (first | (guard_target =~ wpList _ _ _ ({ dst := _, op := Op.load 36 (Operand.tmp 3), type := _, pos := _, after := _, guard := _ } :: _) _ _; refine wpList_load_all 36 17 (.tmp 3) rfl rfl info36 _ Tryz.underlying36 rfl _ rfl (new13 w _ _ _) rfl ?_) | (guard_target =~ wpList _ _ _ ({ dst := none, op := Op.store 36 (Operand.tmp 6) (Operand.tmp 86), type := _, pos := _, after := _, guard := _ } :: _) _ _; refine wpList_store_new 36 17 (.tmp 6) (.tmp 86) rfl rfl info36 _ _ _ rfl rfl (by simp) rfl rfl (by simp [Value.oneCell']) ?_))
  refine bodyPost_ret (results_cell_row rfl _ _ (w.heap.size + 2) 36 _ _ _ rfl (new3 w _ _ _) Tryz.underlying36 rfl info36) rfl ?_
  exact ⟨rfl, ((Kp.alloc _ _ _).andAlloc _).andAlloc _⟩
set_option maxRecDepth 100000 in
set_option maxHeartbeats 2000000 in
theorem lay10 (w : World) (n m : Mg) : Calls Tryz.prog 83 #[.agg n.cells, .agg m.cells, .int .i64 10] w fun e w' => e = .returned (.agg (n.lay m 10).cells) ∧ Kp Nu w w' := by
  obtain ⟨k, seq, key, hi, ⟨va, vn, vc⟩, ⟨oa, on, oc⟩, has, of, st, host, gr, bo, ma, li, ⟨paa, pan, pac⟩, ⟨sea, sen, sec⟩, ⟨pya, pyn, pyc⟩⟩ := n
  obtain ⟨k2, seq2, key2, hi2, ⟨v2a, v2n, v2c⟩, ⟨o2a, o2n, o2c⟩, has2, of2, st2, host2, gr2, bo2, ma2, li2, ⟨pa2a, pa2n, pa2c⟩, ⟨se2a, se2n, se2c⟩, ⟨py2a, py2n, py2c⟩⟩ := m
  simp only [Mg.cells, Sl.val, Mg.lay]
  go_enter Tryz.func83, Tryz.ntmps83
  go_wp2_with (first | (guard_target =~ wpList _ _ _ ({ dst := _, op := Op.load 36 (Operand.tmp 3), type := _, pos := _, after := _, guard := _ } :: _) _ _; refine wpList_load_all 36 17 (.tmp 3) rfl rfl info36 _ Tryz.underlying36 rfl _ rfl (new13 w _ _ _) rfl ?_) | (guard_target =~ wpList _ _ _ ({ dst := none, op := Op.store 36 (Operand.tmp 6) (Operand.tmp 86), type := _, pos := _, after := _, guard := _ } :: _) _ _; refine wpList_store_new 36 17 (.tmp 6) (.tmp 86) rfl rfl info36 _ _ _ rfl rfl (by simp) rfl rfl (by simp [Value.oneCell']) ?_))
  refine bodyPost_ret (results_cell_row rfl _ _ (w.heap.size + 2) 36 _ _ _ rfl (new3 w _ _ _) Tryz.underlying36 rfl info36) rfl ?_
  exact ⟨rfl, ((Kp.alloc _ _ _).andAlloc _).andAlloc _⟩
set_option maxRecDepth 100000 in
set_option maxHeartbeats 2000000 in
theorem lay11 (w : World) (n m : Mg) : Calls Tryz.prog 83 #[.agg n.cells, .agg m.cells, .int .i64 11] w fun e w' => e = .returned (.agg (n.lay m 11).cells) ∧ Kp Nu w w' := by
  obtain ⟨k, seq, key, hi, ⟨va, vn, vc⟩, ⟨oa, on, oc⟩, has, of, st, host, gr, bo, ma, li, ⟨paa, pan, pac⟩, ⟨sea, sen, sec⟩, ⟨pya, pyn, pyc⟩⟩ := n
  obtain ⟨k2, seq2, key2, hi2, ⟨v2a, v2n, v2c⟩, ⟨o2a, o2n, o2c⟩, has2, of2, st2, host2, gr2, bo2, ma2, li2, ⟨pa2a, pa2n, pa2c⟩, ⟨se2a, se2n, se2c⟩, ⟨py2a, py2n, py2c⟩⟩ := m
  simp only [Mg.cells, Sl.val, Mg.lay]
  go_enter Tryz.func83, Tryz.ntmps83
  go_wp2_with (first | (guard_target =~ wpList _ _ _ ({ dst := _, op := Op.load 36 (Operand.tmp 3), type := _, pos := _, after := _, guard := _ } :: _) _ _; refine wpList_load_all 36 17 (.tmp 3) rfl rfl info36 _ Tryz.underlying36 rfl _ rfl (new13 w _ _ _) rfl ?_) | (guard_target =~ wpList _ _ _ ({ dst := none, op := Op.store 36 (Operand.tmp 6) (Operand.tmp 86), type := _, pos := _, after := _, guard := _ } :: _) _ _; refine wpList_store_new 36 17 (.tmp 6) (.tmp 86) rfl rfl info36 _ _ _ rfl rfl (by simp) rfl rfl (by simp [Value.oneCell']) ?_))
  refine bodyPost_ret (results_cell_row rfl _ _ (w.heap.size + 2) 36 _ _ _ rfl (new3 w _ _ _) Tryz.underlying36 rfl info36) rfl ?_
  exact ⟨rfl, ((Kp.alloc _ _ _).andAlloc _).andAlloc _⟩
set_option maxRecDepth 100000 in
set_option maxHeartbeats 2000000 in
theorem lay12 (w : World) (n m : Mg) : Calls Tryz.prog 83 #[.agg n.cells, .agg m.cells, .int .i64 12] w fun e w' => e = .returned (.agg (n.lay m 12).cells) ∧ Kp Nu w w' := by
  obtain ⟨k, seq, key, hi, ⟨va, vn, vc⟩, ⟨oa, on, oc⟩, has, of, st, host, gr, bo, ma, li, ⟨paa, pan, pac⟩, ⟨sea, sen, sec⟩, ⟨pya, pyn, pyc⟩⟩ := n
  obtain ⟨k2, seq2, key2, hi2, ⟨v2a, v2n, v2c⟩, ⟨o2a, o2n, o2c⟩, has2, of2, st2, host2, gr2, bo2, ma2, li2, ⟨pa2a, pa2n, pa2c⟩, ⟨se2a, se2n, se2c⟩, ⟨py2a, py2n, py2c⟩⟩ := m
  simp only [Mg.cells, Sl.val, Mg.lay]
  go_enter Tryz.func83, Tryz.ntmps83
  go_wp2_with (first | (guard_target =~ wpList _ _ _ ({ dst := _, op := Op.load 36 (Operand.tmp 3), type := _, pos := _, after := _, guard := _ } :: _) _ _; refine wpList_load_all 36 17 (.tmp 3) rfl rfl info36 _ Tryz.underlying36 rfl _ rfl (new13 w _ _ _) rfl ?_) | (guard_target =~ wpList _ _ _ ({ dst := none, op := Op.store 36 (Operand.tmp 6) (Operand.tmp 86), type := _, pos := _, after := _, guard := _ } :: _) _ _; refine wpList_store_new 36 17 (.tmp 6) (.tmp 86) rfl rfl info36 _ _ _ rfl rfl (by simp) rfl rfl (by simp [Value.oneCell']) ?_))
  refine bodyPost_ret (results_cell_row rfl _ _ (w.heap.size + 2) 36 _ _ _ rfl (new3 w _ _ _) Tryz.underlying36 rfl info36) rfl ?_
  exact ⟨rfl, ((Kp.alloc _ _ _).andAlloc _).andAlloc _⟩
set_option maxRecDepth 100000 in
set_option maxHeartbeats 2000000 in
theorem lay13 (w : World) (n m : Mg) : Calls Tryz.prog 83 #[.agg n.cells, .agg m.cells, .int .i64 13] w fun e w' => e = .returned (.agg (n.lay m 13).cells) ∧ Kp Nu w w' := by
  obtain ⟨k, seq, key, hi, ⟨va, vn, vc⟩, ⟨oa, on, oc⟩, has, of, st, host, gr, bo, ma, li, ⟨paa, pan, pac⟩, ⟨sea, sen, sec⟩, ⟨pya, pyn, pyc⟩⟩ := n
  obtain ⟨k2, seq2, key2, hi2, ⟨v2a, v2n, v2c⟩, ⟨o2a, o2n, o2c⟩, has2, of2, st2, host2, gr2, bo2, ma2, li2, ⟨pa2a, pa2n, pa2c⟩, ⟨se2a, se2n, se2c⟩, ⟨py2a, py2n, py2c⟩⟩ := m
  simp only [Mg.cells, Sl.val, Mg.lay]
  go_enter Tryz.func83, Tryz.ntmps83
  go_wp2_with (first | (guard_target =~ wpList _ _ _ ({ dst := _, op := Op.load 36 (Operand.tmp 3), type := _, pos := _, after := _, guard := _ } :: _) _ _; refine wpList_load_all 36 17 (.tmp 3) rfl rfl info36 _ Tryz.underlying36 rfl _ rfl (new13 w _ _ _) rfl ?_) | (guard_target =~ wpList _ _ _ ({ dst := none, op := Op.store 36 (Operand.tmp 6) (Operand.tmp 86), type := _, pos := _, after := _, guard := _ } :: _) _ _; refine wpList_store_new 36 17 (.tmp 6) (.tmp 86) rfl rfl info36 _ _ _ rfl rfl (by simp) rfl rfl (by simp [Value.oneCell']) ?_))
  refine bodyPost_ret (results_cell_row rfl _ _ (w.heap.size + 2) 36 _ _ _ rfl (new3 w _ _ _) Tryz.underlying36 rfl info36) rfl ?_
  exact ⟨rfl, ((Kp.alloc _ _ _).andAlloc _).andAlloc _⟩
set_option maxRecDepth 100000 in
set_option maxHeartbeats 2000000 in
theorem lay14 (w : World) (n m : Mg) : Calls Tryz.prog 83 #[.agg n.cells, .agg m.cells, .int .i64 14] w fun e w' => e = .returned (.agg (n.lay m 14).cells) ∧ Kp Nu w w' := by
  obtain ⟨k, seq, key, hi, ⟨va, vn, vc⟩, ⟨oa, on, oc⟩, has, of, st, host, gr, bo, ma, li, ⟨paa, pan, pac⟩, ⟨sea, sen, sec⟩, ⟨pya, pyn, pyc⟩⟩ := n
  obtain ⟨k2, seq2, key2, hi2, ⟨v2a, v2n, v2c⟩, ⟨o2a, o2n, o2c⟩, has2, of2, st2, host2, gr2, bo2, ma2, li2, ⟨pa2a, pa2n, pa2c⟩, ⟨se2a, se2n, se2c⟩, ⟨py2a, py2n, py2c⟩⟩ := m
  simp only [Mg.cells, Sl.val, Mg.lay]
  go_enter Tryz.func83, Tryz.ntmps83
  go_wp2_with (first | (guard_target =~ wpList _ _ _ ({ dst := _, op := Op.load 36 (Operand.tmp 3), type := _, pos := _, after := _, guard := _ } :: _) _ _; refine wpList_load_all 36 17 (.tmp 3) rfl rfl info36 _ Tryz.underlying36 rfl _ rfl (new13 w _ _ _) rfl ?_) | (guard_target =~ wpList _ _ _ ({ dst := none, op := Op.store 36 (Operand.tmp 6) (Operand.tmp 86), type := _, pos := _, after := _, guard := _ } :: _) _ _; refine wpList_store_new 36 17 (.tmp 6) (.tmp 86) rfl rfl info36 _ _ _ rfl rfl (by simp) rfl rfl (by simp [Value.oneCell']) ?_))
  refine bodyPost_ret (results_cell_row rfl _ _ (w.heap.size + 2) 36 _ _ _ rfl (new3 w _ _ _) Tryz.underlying36 rfl info36) rfl ?_
  exact ⟨rfl, ((Kp.alloc _ _ _).andAlloc _).andAlloc _⟩
set_option maxRecDepth 100000 in
set_option maxHeartbeats 2000000 in
theorem lay15 (w : World) (n m : Mg) : Calls Tryz.prog 83 #[.agg n.cells, .agg m.cells, .int .i64 15] w fun e w' => e = .returned (.agg (n.lay m 15).cells) ∧ Kp Nu w w' := by
  obtain ⟨k, seq, key, hi, ⟨va, vn, vc⟩, ⟨oa, on, oc⟩, has, of, st, host, gr, bo, ma, li, ⟨paa, pan, pac⟩, ⟨sea, sen, sec⟩, ⟨pya, pyn, pyc⟩⟩ := n
  obtain ⟨k2, seq2, key2, hi2, ⟨v2a, v2n, v2c⟩, ⟨o2a, o2n, o2c⟩, has2, of2, st2, host2, gr2, bo2, ma2, li2, ⟨pa2a, pa2n, pa2c⟩, ⟨se2a, se2n, se2c⟩, ⟨py2a, py2n, py2c⟩⟩ := m
  simp only [Mg.cells, Sl.val, Mg.lay]
  go_enter Tryz.func83, Tryz.ntmps83
  go_wp2_with (first | (guard_target =~ wpList _ _ _ ({ dst := _, op := Op.load 36 (Operand.tmp 3), type := _, pos := _, after := _, guard := _ } :: _) _ _; refine wpList_load_all 36 17 (.tmp 3) rfl rfl info36 _ Tryz.underlying36 rfl _ rfl (new13 w _ _ _) rfl ?_) | (guard_target =~ wpList _ _ _ ({ dst := none, op := Op.store 36 (Operand.tmp 6) (Operand.tmp 86), type := _, pos := _, after := _, guard := _ } :: _) _ _; refine wpList_store_new 36 17 (.tmp 6) (.tmp 86) rfl rfl info36 _ _ _ rfl rfl (by simp) rfl rfl (by simp [Value.oneCell']) ?_))
  refine bodyPost_ret (results_cell_row rfl _ _ (w.heap.size + 2) 36 _ _ _ rfl (new3 w _ _ _) Tryz.underlying36 rfl info36) rfl ?_
  exact ⟨rfl, ((Kp.alloc _ _ _).andAlloc _).andAlloc _⟩
theorem lay_any (w : World) (n m : Mg) (f : Nat) (h1 : 1 ≤ f) (h15 : f ≤ 15) : Calls Tryz.prog 83 #[.agg n.cells, .agg m.cells, .int .i64 (f : Int)] w fun e w' => e = .returned (.agg (n.lay m f).cells) ∧ Kp Nu w w' := by
  have hc : f = 1 ∨ f = 2 ∨ f = 3 ∨ f = 4 ∨ f = 5 ∨ f = 6 ∨ f = 7 ∨ f = 8 ∨ f = 9 ∨ f = 10 ∨ f = 11 ∨ f = 12 ∨ f = 13 ∨ f = 14 ∨ f = 15 := by omega
  rcases hc with rfl | rfl | rfl | rfl | rfl | rfl | rfl | rfl | rfl | rfl | rfl | rfl | rfl | rfl | rfl
  · exact lay1 w n m
  · exact lay2 w n m
  · exact lay3 w n m
  · exact lay4 w n m
  · exact lay5 w n m
  · exact lay6 w n m
  · exact lay7 w n m
  · exact lay8 w n m
  · exact lay9 w n m
  · exact lay10 w n m
  · exact lay11 w n m
  · exact lay12 w n m
  · exact lay13 w n m
  · exact lay14 w n m
  · exact lay15 w n m
end Go.Proofs.YtmlnglillgplfaaGreat.Cl
