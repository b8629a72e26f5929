import Derived.Test.YtmlnglillgplfaaGreatRcB
namespace Go.Proofs.YtmlnglillgplfaaGreat.Cl
open Go.RowKit
set_option linter.unusedVariables false
set_option maxRecDepth 100000 in
set_option maxHeartbeats 2000000 in
theorem rule14 (w : World) (m : Mg) (ok : m.Ok) (hp : m.pa.n = 0) : Calls Tryz.prog 84 #[.agg m.cells, .int .i64 14] w fun e w' => Ans (m.rul 14) e ∧ Kp Nu w w' := by
  have e1 := wrapI ok.k
  clear ok
  obtain ⟨k, seq, key, hi, ⟨va, vn, vc⟩, ⟨oa, on, oc⟩, has, of, st, host, gr, bo, ma, li, ⟨paa, pan, pac⟩, ⟨sea, sen, sec⟩, ⟨pya, pyn, pyc⟩⟩ := m
  simp only [] at hp
  subst hp
  simp only [Mg.cells, Sl.val] at *
  have B1 := fun (o p : Obj) => new12 w o p
  go_enter Tryz.func84, Tryz.ntmps84
  go_wp2
  go_loopw [5] (fun i wr => i = .int .i64 0 ∧ wr = w.alloc (.cells #[.int .u8 k, .int .u64 seq, .int .u64 key, .int .u64 hi, .slice va vn vc, .slice oa on oc, .bool has, .int .u8 of, .int .u8 st, .int .u8 host, .int .u32 gr, .int .u32 bo, .int .u64 ma, .int .u8 li, .slice paa 0 pac, .slice sea sen sec, .slice pya pyn pyc] 36)) (fun _ _ => 0)
  case atStart => exact ⟨rfl, rfl⟩
  case round =>
    obtain ⟨rfl, rfl⟩ := hrel
    by_cases hk : k = 6
    · subst hk
      go_wp2_with (first | (guard_target =~ wpList _ _ _ ({ dst := _, op := Op.load 36 (Operand.tmp 2), type := _, pos := _, after := _, guard := _ } :: _) _ _; refine wpList_load_all 36 17 (.tmp 2) rfl rfl info36 _ Tryz.underlying36 rfl _ rfl (heap_new w _) rfl ?_) | go_in)
      go_ret
      exact ⟨⟨_, rfl, fun _ => trivial⟩, (Kp.alloc _ _ _).andAlloc _⟩
    · go_wp2_with (first | (guard_target =~ wpList _ _ _ ({ dst := _, op := Op.load 36 (Operand.tmp 2), type := _, pos := _, after := _, guard := _ } :: _) _ _; refine wpList_load_all 36 17 (.tmp 2) rfl rfl info36 _ Tryz.underlying36 rfl _ rfl (heap_new w _) rfl ?_) | go_in)
      go_ret
      exact ⟨⟨_, rfl, fun _ => trivial⟩, (Kp.alloc _ _ _).andAlloc _⟩
set_option maxRecDepth 100000 in
set_option maxHeartbeats 2000000 in
theorem rule15 (w : World) (m : Mg) (hs : m.se.n = 0) : Calls Tryz.prog 84 #[.agg m.cells, .int .i64 15] w fun e w' => Ans (m.rul 15) e ∧ Kp Nu w w' := by
  obtain ⟨k, seq, key, hi, ⟨va, vn, vc⟩, ⟨oa, on, oc⟩, has, of, st, host, gr, bo, ma, li, ⟨paa, pan, pac⟩, ⟨sea, sen, sec⟩, ⟨pya, pyn, pyc⟩⟩ := m
  simp only [] at hs
  subst hs
  simp only [Mg.cells, Sl.val] at *
  go_enter Tryz.func84, Tryz.ntmps84
  go_wp2
  go_loopw [7] (fun i wr => i = .int .i64 0 ∧ wr = w.alloc (.cells #[.int .u8 k, .int .u64 seq, .int .u64 key, .int .u64 hi, .slice va vn vc, .slice oa on oc, .bool has, .int .u8 of, .int .u8 st, .int .u8 host, .int .u32 gr, .int .u32 bo, .int .u64 ma, .int .u8 li, .slice paa pan pac, .slice sea 0 sec, .slice pya pyn pyc] 36)) (fun _ _ => 0)
  case atStart => exact ⟨rfl, rfl⟩
  case round =>
    obtain ⟨rfl, rfl⟩ := hrel
    go_wp2
    go_ret
    exact ⟨⟨_, rfl, fun _ => trivial⟩, Kp.alloc _ _ _⟩
set_option maxRecDepth 100000 in
set_option maxHeartbeats 2000000 in
theorem status_any (w : World) (m : Mg) (ok : m.Ok) : Calls Tryz.prog 112 #[.agg m.cells] w fun e w' => Ans (m.rul 8) e ∧ Kp Nu w w' := by
  have e1 := wrapI ok.k
  have e2 := wrapI ok.of
  have e3 := wrapI ok.st
  clear ok
  obtain ⟨k, seq, key, hi, ⟨va, vn, vc⟩, ⟨oa, on, oc⟩, has, of, st, host, gr, bo, ma, li, ⟨paa, pan, pac⟩, ⟨sea, sen, sec⟩, ⟨pya, pyn, pyc⟩⟩ := m
  simp only [Mg.cells, Sl.val] at *
  by_cases h9 : k = 9
  · subst h9
    by_cases s1 : st = 1 <;> by_cases s4 : st ≥ 4 <;> by_cases s10 : st ≤ 10 <;>
    first
    | (exfalso; omega)
    | (go_enter Tryz.func112, Tryz.ntmps112; go_wp2; go_ret; exact ⟨⟨_, rfl, fun _ h => absurd rfl h⟩, Kp.alloc _ _ _⟩)
  · by_cases o1 : of = 1
    · subst o1
      by_cases s1 : st = 1 <;> by_cases s2 : st = 2 <;>
      first
      | (exfalso; omega)
      | (go_enter Tryz.func112, Tryz.ntmps112; go_wp2; go_ret; refine ⟨⟨_, rfl, fun hb _ _ _ => ?_⟩, Kp.alloc _ _ _⟩; first | (cases hb; done) | (show stOk _ _; unfold stOk; simp_all; done) | (show stOk _ _; unfold stOk; omega))
    · by_cases o2 : of = 2
      · subst o2
        by_cases s1 : st = 1 <;> by_cases s2 : st = 4 <;>
        first
        | (exfalso; omega)
        | (go_enter Tryz.func112, Tryz.ntmps112; go_wp2; go_ret; refine ⟨⟨_, rfl, fun hb _ _ _ => ?_⟩, Kp.alloc _ _ _⟩; first | (cases hb; done) | (show stOk _ _; unfold stOk; simp_all; done) | (show stOk _ _; unfold stOk; omega))
      · by_cases o3 : of = 3
        · subst o3
          by_cases s1 : st = 1 <;> by_cases s2 : st = 2 <;>
          first
          | (exfalso; omega)
          | (go_enter Tryz.func112, Tryz.ntmps112; go_wp2; go_ret; refine ⟨⟨_, rfl, fun hb _ _ _ => ?_⟩, Kp.alloc _ _ _⟩; first | (cases hb; done) | (show stOk _ _; unfold stOk; simp_all; done) | (show stOk _ _; unfold stOk; omega))
        · by_cases o4 : of = 4
          · subst o4
            by_cases s1 : st = 1 <;> by_cases s2 : st = 3 <;> by_cases s3 : st = 4 <;>
            first
            | (exfalso; omega)
            | (go_enter Tryz.func112, Tryz.ntmps112; go_wp2; go_ret; refine ⟨⟨_, rfl, fun hb _ _ _ => ?_⟩, Kp.alloc _ _ _⟩; first | (cases hb; done) | (show stOk _ _; unfold stOk; simp_all; done) | (show stOk _ _; unfold stOk; omega))
          · by_cases s1 : st = 1 <;>
            first
            | (exfalso; omega)
            | (go_enter Tryz.func112, Tryz.ntmps112; go_wp2; go_ret; refine ⟨⟨_, rfl, fun hb _ _ _ => ?_⟩, Kp.alloc _ _ _⟩; first | (cases hb; done) | (show stOk _ _; simp only [] at *; unfold stOk; omega) | (show stOk _ _; unfold stOk; simp_all; done))
set_option maxRecDepth 100000 in
set_option maxHeartbeats 2000000 in
theorem rule8 (w : World) (m : Mg) (ok : m.Ok) : Calls Tryz.prog 84 #[.agg m.cells, .int .i64 8] w fun e w' => Ans (m.rul 8) e ∧ Kp Nu w w' := by
  have SA := fun W => status_any W m ok
  clear ok
  obtain ⟨k, seq, key, hi, ⟨va, vn, vc⟩, ⟨oa, on, oc⟩, has, of, st, host, gr, bo, ma, li, ⟨paa, pan, pac⟩, ⟨sea, sen, sec⟩, ⟨pya, pyn, pyc⟩⟩ := m
  simp only [Mg.cells, Sl.val] at *
  go_enter Tryz.func84, Tryz.ntmps84
  go_wp2_with (guard_target =~ wpList _ _ _ ({ dst := _, op := Op.load 36 (Operand.tmp 2), type := _, pos := _, after := _, guard := _ } :: _) _ _; refine wpList_load_all 36 17 (.tmp 2) rfl rfl info36 _ Tryz.underlying36 rfl _ rfl (heap_new w _) rfl ?_)
  refine (SA _).mono ?_; rintro e w2 ⟨⟨b, rfl, hb⟩, hk⟩
  have HB := hide hb
  have HK := hide ((Kp.alloc w _ Nu).andNu hk)
  clear SA hb hk
  go_wp2
  go_ret
  exact ⟨⟨b, rfl, HB.out⟩, HK.out⟩
theorem rule_any (w : World) (m : Mg) (ok : m.Ok) (hp : m.pa.n = 0) (hs : m.se.n = 0) (f : Nat) (h1 : 1 ≤ f) (h15 : f ≤ 15) : Calls Tryz.prog 84 #[.agg m.cells, .int .i64 (f : Int)] w fun e w' => Ans (m.rul f) e ∧ Kp Nu w w' := by
  have hc : f = 1 ∨ f = 2 ∨ f = 3 ∨ f = 4 ∨ f = 5 ∨ f = 6 ∨ f = 7 ∨ f = 8 ∨ f = 9 ∨ f = 10 ∨ f = 11 ∨ f = 12 ∨ f = 13 ∨ f = 14 ∨ f = 15 := by omega
  rcases hc with rfl | rfl | rfl | rfl | rfl | rfl | rfl | rfl | rfl | rfl | rfl | rfl | rfl | rfl | rfl
  · exact rule1 w m ok
  · exact rule2 w m ok
  · exact rule3 w m ok
  · exact rule4 w m ok
  · exact rule5 w m ok
  · exact rule6 w m ok
  · exact rule7 w m ok
  · exact rule8 w m ok
  · exact rule9 w m ok
  · exact rule10 w m ok
  · exact rule11 w m ok
  · exact rule12 w m ok
  · exact rule13 w m ok
  · exact rule14 w m ok hp
  · exact rule15 w m hs
set_option maxRecDepth 100000 in
set_option maxHeartbeats 2000000 in
theorem order14 (w : World) (m : Mg) (hp : m.pa.n = 0) : Calls Tryz.prog 85 #[.agg m.cells, .int .i64 14] w fun e w' => e = .returned (.bool true) ∧ Kp Nu w w' := by
  obtain ⟨k, seq, key, hi, ⟨va, vn, vc⟩, ⟨oa, on, oc⟩, has, of, st, host, gr, bo, ma, li, ⟨paa, pan, pac⟩, ⟨sea, sen, sec⟩, ⟨pya, pyn, pyc⟩⟩ := m
  simp only [] at hp
  subst hp
  simp only [Mg.cells, Sl.val] at *
  go_enter Tryz.func85, Tryz.ntmps85
  go_wp2
  go_loopw [5] (fun i wr => i = .int .i64 0 ∧ wr = w.alloc (.cells #[.int .u8 k, .int .u64 seq, .int .u64 key, .int .u64 hi, .slice va vn vc, .slice oa on oc, .bool has, .int .u8 of, .int .u8 st, .int .u8 host, .int .u32 gr, .int .u32 bo, .int .u64 ma, .int .u8 li, .slice paa 0 pac, .slice sea sen sec, .slice pya pyn pyc] 36)) (fun _ _ => 0)
  case atStart => exact ⟨rfl, rfl⟩
  case round =>
    obtain ⟨rfl, rfl⟩ := hrel
    go_wp2
    go_ret
    exact ⟨rfl, Kp.alloc _ _ _⟩
set_option maxRecDepth 100000 in
set_option maxHeartbeats 2000000 in
theorem order15 (w : World) (m : Mg) (hs : m.se.n = 0) : Calls Tryz.prog 85 #[.agg m.cells, .int .i64 15] w fun e w' => e = .returned (.bool true) ∧ Kp Nu w w' := by
  obtain ⟨k, seq, key, hi, ⟨va, vn, vc⟩, ⟨oa, on, oc⟩, has, of, st, host, gr, bo, ma, li, ⟨paa, pan, pac⟩, ⟨sea, sen, sec⟩, ⟨pya, pyn, pyc⟩⟩ := m
  simp only [] at hs
  subst hs
  simp only [Mg.cells, Sl.val] at *
  go_enter Tryz.func85, Tryz.ntmps85
  go_wp2
  go_loopw [7] (fun i wr => i = .int .i64 1 ∧ wr = w.alloc (.cells #[.int .u8 k, .int .u64 seq, .int .u64 key, .int .u64 hi, .slice va vn vc, .slice oa on oc, .bool has, .int .u8 of, .int .u8 st, .int .u8 host, .int .u32 gr, .int .u32 bo, .int .u64 ma, .int .u8 li, .slice paa pan pac, .slice sea 0 sec, .slice pya pyn pyc] 36)) (fun _ _ => 0)
  case atStart => exact ⟨rfl, rfl⟩
  case round =>
    obtain ⟨rfl, rfl⟩ := hrel
    go_wp2
    go_ret
    exact ⟨rfl, Kp.alloc _ _ _⟩
theorem order_all (w : World) (m : Mg) (hp : m.pa.n = 0) (hs : m.se.n = 0) (f : Nat) (h15 : f ≤ 15) : Calls Tryz.prog 85 #[.agg m.cells, .int .i64 (f : Int)] w fun e w' => e = .returned (.bool true) ∧ Kp Nu w w' := by
  by_cases h : f ≤ 13
  · exact order_any w m hp hs f h
  · have hc : f = 14 ∨ f = 15 := by omega
    rcases hc with rfl | rfl
    · exact order14 w m hp
    · exact order15 w m hs
end Go.Proofs.YtmlnglillgplfaaGreat.Cl
