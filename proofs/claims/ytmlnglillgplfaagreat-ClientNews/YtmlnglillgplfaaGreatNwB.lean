import Derived.Test.YtmlnglillgplfaaGreatCtR
import Derived.Test.YtmlnglillgplfaaGreatCtI
import Derived.Test.YtmlnglillgplfaaGreatRgV
import Derived.Test.YtmlnglillgplfaaGreatNwR
namespace Go.Proofs.YtmlnglillgplfaaGreat.Cl
open Go.RowKit Go.Maps
set_option linter.unusedVariables false
theorem info107 : (Tryz.prog.info? 107).map (·.size) = some 35 := by kernel_rfl
theorem info73 : (Tryz.prog.info? 73).map (·.size) = some 2 := by kernel_rfl
/-- the document's client that has nothing under way yet -/
def rcl (a hosts pat tries lim : Int) (s : Value) : Array Value := #[.int .u8 a, .int .i64 hosts, .int .i64 pat, .int .i64 tries, .int .i64 lim, s, .int .u64 0, .int .i64 0, .int .u8 0, .int .u64 0, .int .u64 0, .slice none 0 0, .slice none 0 0, .bool false, .int .u8 0, .slice none 0 0, .int .i64 0, .int .u8 0, .int .u64 0, .int .u64 0, .int .u64 0, .slice none 0 0, .slice none 0 0, .bool false, .int .u8 0, .int .u8 0, .int .u8 0, .int .u32 0, .int .u32 0, .int .u64 0, .int .u8 0, .slice none 0 0, .slice none 0 0, .slice none 0 0, .int .u8 0]
/-- may New be asked so? -/
def NwOk (a hosts pat tries : Int) : Prop := (16 ≤ a ∧ a ≤ 31) ∧ (1 ≤ hosts ∧ hosts ≤ 16) ∧ (1 ≤ pat ∧ pat ≤ 64) ∧ (1 ≤ tries ∧ tries ≤ 64)
theorem role_any (w : World) (a : Int) (a0 : 0 ≤ a) (a1 : a < 256) : Calls Tryz.prog 67 #[.int .u8 a] w fun e w' => ∃ r, e = .returned (.int .u8 r) ∧ Hid ((r == 2) = decide (16 ≤ a ∧ a ≤ 31)) ∧ w' = w := by
  by_cases c0 : a < 16
  · go_enter Tryz.func67, Tryz.ntmps67
    go_wp2
    go_ret
    exact ⟨_, rfl, hide (by simp; omega), rfl⟩
  · by_cases c1 : a < 32
    · go_enter Tryz.func67, Tryz.ntmps67
      go_wp2
      go_ret
      exact ⟨_, rfl, hide (by simp; omega), rfl⟩
    · by_cases c2 : a < 33
      · go_enter Tryz.func67, Tryz.ntmps67
        go_wp2
        go_ret
        exact ⟨_, rfl, hide (by simp; omega), rfl⟩
      · go_enter Tryz.func67, Tryz.ntmps67
        go_wp2
        go_ret
        exact ⟨_, rfl, hide (by simp; omega), rfl⟩
set_option maxRecDepth 100000 in
set_option maxHeartbeats 2000000 in
theorem new_bad (w : World) (a hosts pat tries : Int) (a0 : 0 ≤ a) (a1 : a < 256) (hb : ¬ NwOk a hosts pat tries) :
    Calls Tryz.prog 32 #[.int .u8 a, .int .i64 hosts, .int .i64 pat, .int .i64 tries] w fun e w' => e = .returned (.tuple #[.pointer none, .int .i64 2]) ∧ w' = w := by
  have RO := fun W => role_any W a a0 a1
  have HB := hide hb
  clear hb
  go_enter Tryz.func32, Tryz.ntmps32
  go_wp2_with fail
  refine (RO _).mono ?_; rintro e w' ⟨r, rfl, HR, hw⟩
  obtain rfl := hw.symm
  clear RO hw
  by_cases c : 16 ≤ a ∧ a ≤ 31
  · have hr : (r == 2) = true := by rw [HR.out]; simpa using c
    have HC := hide c
    clear c
    by_cases g0 : hosts ≥ 1
    · skip
      by_cases g1 : hosts ≤ 16
      · skip
        by_cases g2 : pat ≥ 1
        · skip
          by_cases g3 : pat ≤ 64
          · skip
            by_cases g4 : tries ≥ 1
            · skip
              by_cases g5 : tries ≤ 64
              · exact absurd (⟨HC.out, by omega, by omega, by omega⟩ : NwOk a hosts pat tries) HB.out
              · have hd : decide (tries ≤ 64) = false := by simpa using g5
                go_wp2
                go_ret2
                exact ⟨rfl, rfl⟩
            · have hd : decide (tries ≥ 1) = false := by simpa using g4
              go_wp2
              go_ret2
              exact ⟨rfl, rfl⟩
          · have hd : decide (pat ≤ 64) = false := by simpa using g3
            go_wp2
            go_ret2
            exact ⟨rfl, rfl⟩
        · have hd : decide (pat ≥ 1) = false := by simpa using g2
          go_wp2
          go_ret2
          exact ⟨rfl, rfl⟩
      · have hd : decide (hosts ≤ 16) = false := by simpa using g1
        go_wp2
        go_ret2
        exact ⟨rfl, rfl⟩
    · have hd : decide (hosts ≥ 1) = false := by simpa using g0
      go_wp2
      go_ret2
      exact ⟨rfl, rfl⟩
  · have hr : (r == 2) = false := by rw [HR.out]; simpa using c
    go_wp2
    go_ret2
    exact ⟨rfl, rfl⟩
theorem refHost0 (w : World) : Calls Tryz.prog 100 #[.int .u8 0] w fun e w' => e = .returned (.bool true) ∧ w' = w := by
  go_enter Tryz.func100, Tryz.ntmps100
  go_wp2
  go_ret
  exact ⟨rfl, rfl⟩
/-- the document's table of one segment -/
structure Rt (w : World) (s : Value) (B : Nat) : Prop where
  out : ∃ r, s = .slice (some ⟨r, 0, none⟩) 1 1 ∧ w.heap[r]? = some (.cells #[.int .u64 0, .int .u64 18446744073709551615, .int .u8 0] 76 (0, 0)) ∧ B ≤ r
theorem Rt.nu {w w' : World} {s : Value} {B : Nat} (h : Rt w s B) (k : Kp Nu w w') : Rt w' s B := by
  obtain ⟨r, e, hb, hl⟩ := h.out
  exact ⟨r, e, (k.block _ (blk_lt hb) (fun h => h)).trans hb, hl⟩
set_option maxHeartbeats 1000000 in
theorem refTab (w : World) : Calls Tryz.prog 66 #[.int .u8 0, .int .i64 64] w fun e w' => ∃ r, e = .returned (.tuple #[.agg #[.int .i64 64, .slice (some ⟨r, 0, none⟩) 1 1], .int .i64 0]) ∧ w'.heap[r]? = some (.cells #[.int .u64 0, .int .u64 18446744073709551615, .int .u8 0] 76 (0, 0)) ∧ w.heap.size ≤ r ∧ Kp Nu w w' := by
  have IH := refHost0
  go_enter Tryz.func66, Tryz.ntmps66
  go_wp2_with fail
  refine (IH _).mono ?_; rintro e w' ⟨rfl, hw⟩
  obtain rfl := hw.symm
  clear IH hw
  go_wp2
  refine bodyPost_ret (results_two rfl _ _ ⟨w.heap.size, 0, none⟩ _ _ rfl rfl (run_loadVar_row _ w.heap.size 73 73 _ (0, 0) _ (new12 w _ _) Tryz.underlying73 rfl info73)) rfl ?_
  exact ⟨w.heap.size + 1, rfl, new2 w _ _, by omega, (Kp.alloc _ _ _).andAlloc _⟩
set_option maxRecDepth 100000 in
set_option maxHeartbeats 2000000 in
theorem refNew_ok (w : World) (a hosts pat tries : Int) (hb : NwOk a hosts pat tries) :
    Calls Tryz.prog 71 #[.int .u8 a, .int .i64 hosts, .int .i64 pat, .int .i64 tries] w fun e w' => ∃ r, e = .returned (.tuple #[.agg (rcl a hosts pat tries 64 (.slice (some ⟨r, 0, none⟩) 1 1)), .int .i64 0]) ∧ w'.heap[r]? = some (.cells #[.int .u64 0, .int .u64 18446744073709551615, .int .u8 0] 76 (0, 0)) ∧ w.heap.size ≤ r ∧ Kp Nu w w' := by
  have RT := refTab
  obtain ⟨⟨b0, b1⟩, ⟨b2, b3⟩, ⟨b4, b5⟩, b6, b7⟩ := hb
  have n0 : ¬ a < 16 := by omega
  have n1 : ¬ a > 31 := by omega
  have n2 : ¬ hosts < 1 := by omega
  have n3 : ¬ hosts > 16 := by omega
  have n4 : ¬ pat < 1 := by omega
  have n5 : ¬ pat > 64 := by omega
  have n6 : ¬ tries < 1 := by omega
  have n7 : ¬ tries > 64 := by omega
  clear b0 b1 b2 b3 b4 b5 b6 b7
  go_enter Tryz.func71, Tryz.ntmps71
  go_wp2_with fail
  refine (RT _).mono ?_; rintro e w2 ⟨r, rfl, hr, hrl, hk2⟩
  have hz := new_at w _ hk2
  have HZ := hide (box_k hz (Kp.alloc w2 (.cells #[.int .i64 64, .slice (some ⟨r, 0, none⟩) 1 1] 73) Nu))
  have HR := hide (And.intro hr (And.intro hrl hk2))
  clear RT hr hrl hk2 hz
  go_wp2_with (first | (guard_target =~ wpList _ _ _ ({ dst := none, op := Op.store 73 (Operand.tmp 10) (Operand.tmp 45), type := _, pos := _, after := _, guard := _ } :: _) _ _; refine wpList_store_new 73 2 (.tmp 10) (.tmp 45) rfl rfl info73 _ _ _ rfl rfl (by simp) rfl rfl (by simp [Value.oneCell']) ?_) | (guard_target =~ wpList _ _ _ ({ dst := none, op := Op.store 107 (Operand.tmp 8) (Operand.tmp 52), type := _, pos := _, after := _, guard := _ } :: _) _ _; refine wpList_store_all 107 35 (.tmp 8) (.tmp 52) rfl rfl info107 w.heap.size _ rfl rfl HZ.out rfl rfl (by simp [Value.oneCell']) ?_; intro W hW kW sW))
  refine bodyPost_ret (results_two rfl _ _ ⟨w.heap.size, 0, none⟩ _ _ rfl rfl (run_loadVar_row W w.heap.size 107 107 _ (0, 0) _ hW Tryz.underlying107 rfl info107)) rfl ?_
  obtain ⟨hr, hrl, hk2⟩ := HR.out
  have hrl' : w.heap.size + 1 ≤ r := by simpa using hrl
  have kA := Kp.alloc w2 (.cells #[.int .i64 64, .slice (some ⟨r, 0, none⟩) 1 1] 73) Nu
  refine ⟨r, rfl, (kW.block _ (Nat.lt_of_lt_of_le (blk_lt hr) kA.size) (fun e => by have e' : r = w.heap.size := e; omega)).trans ((kA.block _ (blk_lt hr) (fun h => h)).trans hr), by omega, ?_⟩
  exact (((Kp.alloc w _ Nu).andNu hk2).andNu kA).trans kW (fun i hi e => by have e' : i = w.heap.size := e; omega)
set_option maxRecDepth 100000 in
set_option maxHeartbeats 4000000 in
theorem refNew_bad (w : World) (a hosts pat tries : Int) (hb : ¬ NwOk a hosts pat tries) :
    Calls Tryz.prog 71 #[.int .u8 a, .int .i64 hosts, .int .i64 pat, .int .i64 tries] w fun e w' => e = .returned (.tuple #[.agg (rcl 0 0 0 0 0 (.slice none 0 0)), .int .i64 2]) ∧ Kp Nu w w' := by
  have HB := hide hb
  clear hb
  by_cases g0 : a < 16
  · have hd : decide (a < 16) = true := by simpa using g0
    go_enter Tryz.func71, Tryz.ntmps71
    go_wp2_with (guard_target =~ wpList _ _ _ ({ dst := none, op := Op.store 107 (Operand.tmp 8) (Operand.tmp 42), type := _, pos := _, after := _, guard := _ } :: _) _ _; refine wpList_store_new 107 35 (.tmp 8) (.tmp 42) rfl rfl info107 _ _ _ rfl rfl (by simp) rfl rfl (by simp [Value.oneCell']) ?_)
    refine bodyPost_ret (results_two rfl _ _ ⟨w.heap.size, 0, none⟩ _ _ rfl rfl (run_loadVar_row _ w.heap.size 107 107 _ (0, 0) _ (heap_new w _) Tryz.underlying107 rfl info107)) rfl ?_
    exact ⟨rfl, Kp.alloc _ _ _⟩
  by_cases g1 : a > 31
  · have hd : decide (a > 31) = true := by simpa using g1
    go_enter Tryz.func71, Tryz.ntmps71
    go_wp2_with (guard_target =~ wpList _ _ _ ({ dst := none, op := Op.store 107 (Operand.tmp 8) (Operand.tmp 42), type := _, pos := _, after := _, guard := _ } :: _) _ _; refine wpList_store_new 107 35 (.tmp 8) (.tmp 42) rfl rfl info107 _ _ _ rfl rfl (by simp) rfl rfl (by simp [Value.oneCell']) ?_)
    refine bodyPost_ret (results_two rfl _ _ ⟨w.heap.size, 0, none⟩ _ _ rfl rfl (run_loadVar_row _ w.heap.size 107 107 _ (0, 0) _ (heap_new w _) Tryz.underlying107 rfl info107)) rfl ?_
    exact ⟨rfl, Kp.alloc _ _ _⟩
  by_cases g2 : hosts < 1
  · have hd : decide (hosts < 1) = true := by simpa using g2
    go_enter Tryz.func71, Tryz.ntmps71
    go_wp2_with (guard_target =~ wpList _ _ _ ({ dst := none, op := Op.store 107 (Operand.tmp 8) (Operand.tmp 42), type := _, pos := _, after := _, guard := _ } :: _) _ _; refine wpList_store_new 107 35 (.tmp 8) (.tmp 42) rfl rfl info107 _ _ _ rfl rfl (by simp) rfl rfl (by simp [Value.oneCell']) ?_)
    refine bodyPost_ret (results_two rfl _ _ ⟨w.heap.size, 0, none⟩ _ _ rfl rfl (run_loadVar_row _ w.heap.size 107 107 _ (0, 0) _ (heap_new w _) Tryz.underlying107 rfl info107)) rfl ?_
    exact ⟨rfl, Kp.alloc _ _ _⟩
  by_cases g3 : hosts > 16
  · have hd : decide (hosts > 16) = true := by simpa using g3
    go_enter Tryz.func71, Tryz.ntmps71
    go_wp2_with (guard_target =~ wpList _ _ _ ({ dst := none, op := Op.store 107 (Operand.tmp 8) (Operand.tmp 42), type := _, pos := _, after := _, guard := _ } :: _) _ _; refine wpList_store_new 107 35 (.tmp 8) (.tmp 42) rfl rfl info107 _ _ _ rfl rfl (by simp) rfl rfl (by simp [Value.oneCell']) ?_)
    refine bodyPost_ret (results_two rfl _ _ ⟨w.heap.size, 0, none⟩ _ _ rfl rfl (run_loadVar_row _ w.heap.size 107 107 _ (0, 0) _ (heap_new w _) Tryz.underlying107 rfl info107)) rfl ?_
    exact ⟨rfl, Kp.alloc _ _ _⟩
  by_cases g4 : pat < 1
  · have hd : decide (pat < 1) = true := by simpa using g4
    go_enter Tryz.func71, Tryz.ntmps71
    go_wp2_with (guard_target =~ wpList _ _ _ ({ dst := none, op := Op.store 107 (Operand.tmp 8) (Operand.tmp 42), type := _, pos := _, after := _, guard := _ } :: _) _ _; refine wpList_store_new 107 35 (.tmp 8) (.tmp 42) rfl rfl info107 _ _ _ rfl rfl (by simp) rfl rfl (by simp [Value.oneCell']) ?_)
    refine bodyPost_ret (results_two rfl _ _ ⟨w.heap.size, 0, none⟩ _ _ rfl rfl (run_loadVar_row _ w.heap.size 107 107 _ (0, 0) _ (heap_new w _) Tryz.underlying107 rfl info107)) rfl ?_
    exact ⟨rfl, Kp.alloc _ _ _⟩
  by_cases g5 : pat > 64
  · have hd : decide (pat > 64) = true := by simpa using g5
    go_enter Tryz.func71, Tryz.ntmps71
    go_wp2_with (guard_target =~ wpList _ _ _ ({ dst := none, op := Op.store 107 (Operand.tmp 8) (Operand.tmp 42), type := _, pos := _, after := _, guard := _ } :: _) _ _; refine wpList_store_new 107 35 (.tmp 8) (.tmp 42) rfl rfl info107 _ _ _ rfl rfl (by simp) rfl rfl (by simp [Value.oneCell']) ?_)
    refine bodyPost_ret (results_two rfl _ _ ⟨w.heap.size, 0, none⟩ _ _ rfl rfl (run_loadVar_row _ w.heap.size 107 107 _ (0, 0) _ (heap_new w _) Tryz.underlying107 rfl info107)) rfl ?_
    exact ⟨rfl, Kp.alloc _ _ _⟩
  by_cases g6 : tries < 1
  · have hd : decide (tries < 1) = true := by simpa using g6
    go_enter Tryz.func71, Tryz.ntmps71
    go_wp2_with (guard_target =~ wpList _ _ _ ({ dst := none, op := Op.store 107 (Operand.tmp 8) (Operand.tmp 42), type := _, pos := _, after := _, guard := _ } :: _) _ _; refine wpList_store_new 107 35 (.tmp 8) (.tmp 42) rfl rfl info107 _ _ _ rfl rfl (by simp) rfl rfl (by simp [Value.oneCell']) ?_)
    refine bodyPost_ret (results_two rfl _ _ ⟨w.heap.size, 0, none⟩ _ _ rfl rfl (run_loadVar_row _ w.heap.size 107 107 _ (0, 0) _ (heap_new w _) Tryz.underlying107 rfl info107)) rfl ?_
    exact ⟨rfl, Kp.alloc _ _ _⟩
  by_cases g7 : tries > 64
  · have hd : decide (tries > 64) = true := by simpa using g7
    go_enter Tryz.func71, Tryz.ntmps71
    go_wp2_with (guard_target =~ wpList _ _ _ ({ dst := none, op := Op.store 107 (Operand.tmp 8) (Operand.tmp 42), type := _, pos := _, after := _, guard := _ } :: _) _ _; refine wpList_store_new 107 35 (.tmp 8) (.tmp 42) rfl rfl info107 _ _ _ rfl rfl (by simp) rfl rfl (by simp [Value.oneCell']) ?_)
    refine bodyPost_ret (results_two rfl _ _ ⟨w.heap.size, 0, none⟩ _ _ rfl rfl (run_loadVar_row _ w.heap.size 107 107 _ (0, 0) _ (heap_new w _) Tryz.underlying107 rfl info107)) rfl ?_
    exact ⟨rfl, Kp.alloc _ _ _⟩
  exact absurd (⟨⟨by omega, by omega⟩, ⟨by omega, by omega⟩, ⟨by omega, by omega⟩, by omega, by omega⟩ : NwOk a hosts pat tries) HB.out
end Go.Proofs.YtmlnglillgplfaaGreat.Cl
namespace Go.Proofs.YtmlnglillgplfaaGreat.Cl
open Go.RowKit Go.Maps
set_option linter.unusedVariables false
theorem rcl_size (a hosts pat tries lim : Int) (s : Value) : (rcl a hosts pat tries lim s).size = 35 := rfl
theorem rcl_one (a hosts pat tries lim : Int) (ad : Option Addr) (n c : Nat) : (rcl a hosts pat tries lim (.slice ad n c)).all (·.oneCell') = true := by
  simp [rcl, Value.oneCell']
set_option maxRecDepth 100000 in
set_option maxHeartbeats 4000000 in
theorem made_ok (w : World) (a hosts pat tries : Int) (hN : NwOk a hosts pat tries) :
    Calls Tryz.prog 43 #[.int .u8 a, .int .i64 hosts, .int .i64 pat, .int .i64 tries] w fun e w' => ∃ b hb mb tv r, e = .returned (.tuple #[.pointer (some ⟨b, 0, none⟩), .agg (rcl a hosts pat tries 64 (.slice (some ⟨r, 0, none⟩) 1 1)), .bool true]) ∧ CB w' b (Cs.new hosts pat tries hb mb) ∧ Am w' mb 0 (.map []) ∧ Rg.Tb w.heap.size w' hb 64 tv [⟨0, 18446744073709551615, 0⟩] ∧ w'.heap[r]? = some (.cells #[.int .u64 0, .int .u64 18446744073709551615, .int .u8 0] 76 (0, 0)) ∧ w.heap.size ≤ b ∧ w.heap.size ≤ mb ∧ w.heap.size ≤ r ∧ Kp Nu w w' := by
  have mixed : Tryz.prog.follows .mixedOrders = true := by kernel_rfl
  have NC := fun W => new_client W a hosts pat tries hN.1.1 hN.1.2 hN.2.1.1 hN.2.1.2 hN.2.2.1.1 hN.2.2.1.2 hN.2.2.2.1 hN.2.2.2.2
  have RN := fun W => refNew_ok W a hosts pat tries hN
  have NM := fun W => num_any W 0
  clear hN
  go_enter Tryz.func43, Tryz.ntmps43
  go_wp2_with fail
  refine (NC _).mono ?_; rintro e w1 ⟨b, hb, mb, tv, rfl, hc1, hm1, hT1, hbl, hml, hk1⟩
  have hZ1 := new_at w _ hk1
  have HF1 := hide (And.intro hc1 (And.intro hm1 (And.intro hT1 (And.intro hbl (And.intro hml (And.intro hk1 hZ1))))))
  clear NC hc1 hm1 hT1 hbl hml hk1 hZ1
  go_wp2_with fail
  refine (RN _).mono ?_; rintro e w2 ⟨r, rfl, hr, hrl, hk2⟩
  have HF2 := hide (And.intro hr (And.intro hrl hk2))
  clear RN hr hrl hk2
  go_wp2_with (guard_target =~ wpList _ _ _ ({ dst := none, op := Op.store 107 (Operand.tmp 13) (Operand.tmp 29), type := _, pos := _, after := _, guard := _ } :: _) _ _; refine wpList_store_new 107 35 (.tmp 13) (.tmp 29) rfl rfl info107 _ _ _ rfl rfl (by simp) rfl rfl (rcl_one _ _ _ _ _ _ _ _) ?_)
  obtain ⟨hc1, hm1, hT1, hbl, hml, hk1, hZ1⟩ := HF1.out
  obtain ⟨hr, hrl, hk2⟩ := HF2.out
  have kA : Kp Nu w2 (w2.alloc (.cells (rcl a hosts pat tries 64 (.slice (some ⟨r, 0, none⟩) 1 1)) 107)) := Kp.alloc _ _ _
  have hZ3 := box_k hZ1 (hk2.andNu kA)
  have RG := range_of (w := (w2.alloc (.cells (rcl a hosts pat tries 64 (.slice (some ⟨r, 0, none⟩) 1 1)) 107)).drew) (b := w2.heap.size) (heap_new w2 (.cells (rcl a hosts pat tries 64 (.slice (some ⟨r, 0, none⟩) 1 1)) 107))
  have TZ := there_of (w := (w2.alloc (.cells (rcl a hosts pat tries 64 (.slice (some ⟨r, 0, none⟩) 1 1)) 107)).drew) hZ3 0 35 (Nat.le_refl _)
  have hw6 := setCells_all (w2.alloc (.cells (rcl a hosts pat tries 64 (.slice (some ⟨r, 0, none⟩) 1 1)) 107)).drew _ (rcl a hosts pat tries 64 (.slice (some ⟨r, 0, none⟩) 1 1)).toList hZ3 rfl
  have kS := kp_setCells (b := w.heap.size) (rcl a hosts pat tries 64 (.slice (some ⟨r, 0, none⟩) 1 1)).toList 0 (w2.alloc (.cells (rcl a hosts pat tries 64 (.slice (some ⟨r, 0, none⟩) 1 1)) 107)).drew
  have kD : Kp Nu (w2.alloc (.cells (rcl a hosts pat tries 64 (.slice (some ⟨r, 0, none⟩) 1 1)) 107)) (w2.alloc (.cells (rcl a hosts pat tries 64 (.slice (some ⟨r, 0, none⟩) 1 1)) 107)).drew := (Kp.refl Nu _).drew
  have HW := hide (And.intro hw6 (And.intro kS (And.intro kD kA)))
  clear hc1 hm1 hT1 hbl hml hk1 hZ1 hr hrl hk2 kA hZ3 hw6 kS kD
  refine ret43 (fun _ _ _ _ _ h => h) mixed b w.heap.size w2.heap.size (rcl a hosts pat tries 64 (.slice (some ⟨r, 0, none⟩) 1 1)).toList _ _ _ _ _ _ _ _ _ _ _ _ _ _ _ _ _ _ _ _ _ _ _ _ _ _ _ _ _ _ _ _ _ _ _ _ _ _ _ rfl RG TZ (by simpa using rcl_one _ _ _ _ _ _ _ _) NM info107 ?_
  clear RG TZ NM
  generalize ((w2.alloc (.cells (rcl a hosts pat tries 64 (.slice (some ⟨r, 0, none⟩) 1 1)) 107)).drew.setCells w.heap.size 0 (rcl a hosts pat tries 64 (.slice (some ⟨r, 0, none⟩) 1 1)).toList) = w6 at HW ⊢
  have HW6 : w6.heap[w.heap.size]? = some (.cells (rcl a hosts pat tries 64 (.slice (some ⟨r, 0, none⟩) 1 1)) 107 (0, 0)) := by simpa using HW.out.1
  have H6 := hide HW6
  clear HW6
  go_wp2
  refine bodyPost_ret (results_tct rfl _ _ ⟨w.heap.size, 0, none⟩ _ rfl (run_loadVar_row w6 w.heap.size 107 107 _ (0, 0) _ H6.out Tryz.underlying107 rfl info107)) rfl ?_
  obtain ⟨_, kS, kD, kA⟩ := HW.out
  obtain ⟨hc1, hm1, hT1, hbl, hml, hk1, hZ1⟩ := HF1.out
  obtain ⟨hr, hrl, hk2⟩ := HF2.out
  have hbl' : w.heap.size + 1 ≤ b := by simpa using hbl
  have hml' : w.heap.size + 1 ≤ mb := by simpa using hml
  have hs1 : w.heap.size + 1 ≤ w1.heap.size := by have := hk1.size; simpa using this
  have k16 : Kp (fun i => i = w.heap.size) w1 w6 := (((hk2.andNu kA).andNu kD).mono (fun _ _ h => h.elim)).trans kS (fun _ _ e => e)
  have k26 : Kp (fun i => i = w.heap.size) w2 w6 := ((kA.andNu kD).mono (fun _ _ h => h.elim)).trans kS (fun _ _ e => e)
  refine ⟨b, hb, mb, tv, r, rfl, hc1.kp k16 (fun e => by have e' : b = w.heap.size := e; omega), hm1.keep (k16.block _ hm1.lt (fun e => by have e' : mb = w.heap.size := e; omega)), tb_base (tb_kp hT1 k16 (tb_ne hT1 hZ1 (by decide)) (fun i hi c hx => by have hi' : i = w.heap.size := hi; rw [hi', hZ1] at hx; simp at hx)) (by simp), (k26.block _ (blk_lt hr) (fun e => by have e' : r = w.heap.size := e; omega)).trans hr, by omega, by omega, by omega, ?_⟩
  exact ((Kp.alloc w _ Nu).andNu hk1).trans k16 (fun i hi e => by have e' : i = w.heap.size := e; omega)
set_option maxRecDepth 100000 in
set_option maxHeartbeats 4000000 in
theorem made_bad (w : World) (a hosts pat tries : Int) (a0 : 0 ≤ a) (a1 : a < 256) (hN : ¬ NwOk a hosts pat tries) :
    Calls Tryz.prog 43 #[.int .u8 a, .int .i64 hosts, .int .i64 pat, .int .i64 tries] w fun e w' => e = .returned (.tuple #[.pointer none, .agg (rcl 0 0 0 0 0 (.slice none 0 0)), .bool true]) ∧ Kp Nu w w' := by
  have mixed : Tryz.prog.follows .mixedOrders = true := by kernel_rfl
  have NC := fun W => new_bad W a hosts pat tries a0 a1 hN
  have RN := fun W => refNew_bad W a hosts pat tries hN
  have NM := fun W => num_any W 2
  clear hN
  go_enter Tryz.func43, Tryz.ntmps43
  go_wp2_with fail
  refine (NC _).mono ?_; rintro e w' ⟨rfl, hw⟩
  obtain rfl := hw.symm
  clear NC hw
  go_wp2_with fail
  refine (RN _).mono ?_; rintro e w2 ⟨rfl, hk2⟩
  have hZ1 := new_at w _ hk2
  have HF1 := hide (And.intro hk2 hZ1)
  clear RN hk2 hZ1
  go_wp2_with (guard_target =~ wpList _ _ _ ({ dst := none, op := Op.store 107 (Operand.tmp 13) (Operand.tmp 29), type := _, pos := _, after := _, guard := _ } :: _) _ _; refine wpList_store_new 107 35 (.tmp 13) (.tmp 29) rfl rfl info107 _ _ _ rfl rfl (by simp) rfl rfl (rcl_one _ _ _ _ _ _ _ _) ?_)
  obtain ⟨hk2, hZ1⟩ := HF1.out
  have kA : Kp Nu w2 (w2.alloc (.cells (rcl 0 0 0 0 0 (.slice none 0 0)) 107)) := Kp.alloc _ _ _
  have hZ3 := box_k hZ1 kA
  have RG := range_of (w := (w2.alloc (.cells (rcl 0 0 0 0 0 (.slice none 0 0)) 107)).drew) (b := w2.heap.size) (heap_new w2 (.cells (rcl 0 0 0 0 0 (.slice none 0 0)) 107))
  have TZ := there_of (w := (w2.alloc (.cells (rcl 0 0 0 0 0 (.slice none 0 0)) 107)).drew) hZ3 0 35 (Nat.le_refl _)
  have hw6 := setCells_all (w2.alloc (.cells (rcl 0 0 0 0 0 (.slice none 0 0)) 107)).drew _ (rcl 0 0 0 0 0 (.slice none 0 0)).toList hZ3 rfl
  have kS := kp_setCells (b := w.heap.size) (rcl 0 0 0 0 0 (.slice none 0 0)).toList 0 (w2.alloc (.cells (rcl 0 0 0 0 0 (.slice none 0 0)) 107)).drew
  have kD : Kp Nu (w2.alloc (.cells (rcl 0 0 0 0 0 (.slice none 0 0)) 107)) (w2.alloc (.cells (rcl 0 0 0 0 0 (.slice none 0 0)) 107)).drew := (Kp.refl Nu _).drew
  have HW := hide (And.intro hw6 (And.intro kS (And.intro kD kA)))
  clear hZ1 hk2 kA hZ3 hw6 kS kD
  refine ret43n (fun _ _ _ _ _ h => h) mixed 0 w.heap.size w2.heap.size (rcl 0 0 0 0 0 (.slice none 0 0)).toList _ _ _ _ _ _ _ _ _ _ _ _ _ _ _ _ _ _ _ _ _ _ _ _ _ _ _ _ _ _ _ _ _ _ _ _ _ _ _ rfl RG TZ (by simpa using rcl_one _ _ _ _ _ _ _ _) NM info107 ?_
  clear RG TZ NM
  generalize ((w2.alloc (.cells (rcl 0 0 0 0 0 (.slice none 0 0)) 107)).drew.setCells w.heap.size 0 (rcl 0 0 0 0 0 (.slice none 0 0)).toList) = w6 at HW ⊢
  have HW6 : w6.heap[w.heap.size]? = some (.cells (rcl 0 0 0 0 0 (.slice none 0 0)) 107 (0, 0)) := by simpa using HW.out.1
  have H6 := hide HW6
  clear HW6
  go_wp2
  refine bodyPost_ret (results_tct rfl _ _ ⟨w.heap.size, 0, none⟩ _ rfl (run_loadVar_row w6 w.heap.size 107 107 _ (0, 0) _ H6.out Tryz.underlying107 rfl info107)) rfl ?_
  obtain ⟨_, kS, kD, kA⟩ := HW.out
  obtain ⟨hk2, hZ1⟩ := HF1.out
  have k26 : Kp (fun i => i = w.heap.size) w2 w6 := ((kA.andNu kD).mono (fun _ _ h => h.elim)).trans kS (fun _ _ e => e)
  exact ⟨rfl, ((Kp.alloc w _ Nu).andNu hk2).trans k26 (fun i hi e => by have e' : i = w.heap.size := e; omega)⟩
end Go.Proofs.YtmlnglillgplfaaGreat.Cl
