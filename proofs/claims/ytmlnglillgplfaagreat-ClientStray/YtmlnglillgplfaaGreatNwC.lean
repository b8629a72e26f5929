import Derived.Test.YtmlnglillgplfaaGreatCtR
import Derived.Test.YtmlnglillgplfaaGreatCtI
import Derived.Test.YtmlnglillgplfaaGreatRgV
import Derived.BigRegion
import Derived.Test.YtmlnglillgplfaaGreatCeA
import Derived.Test.YtmlnglillgplfaaGreatSmC
namespace Go.Proofs.YtmlnglillgplfaaGreat.Cl
open Go.RowKit Go.Maps
set_option linter.unusedVariables false
theorem info107 : (Tryz.prog.info? 107).map (·.size) = some 35 := by kernel_rfl
theorem info73 : (Tryz.prog.info? 73).map (·.size) = some 2 := by kernel_rfl
/-- the document's client that has nothing under way yet -/
def rcl (a hosts pat tries lim : Int) (s : Value) : Array Value := #[.int .u8 a, .int .i64 hosts, .int .i64 pat, .int .i64 tries, .int .i64 lim, s, .int .u64 0, .int .i64 0, .int .u8 0, .int .u64 0, .int .u64 0, .slice none 0 0, .slice none 0 0, .bool false, .int .u8 0, .slice none 0 0, .int .i64 0, .int .u8 0, .int .u64 0, .int .u64 0, .int .u64 0, .slice none 0 0, .slice none 0 0, .bool false, .int .u8 0, .int .u8 0, .int .u8 0, .int .u32 0, .int .u32 0, .int .u64 0, .int .u8 0, .slice none 0 0, .slice none 0 0, .slice none 0 0, .int .u8 0]
/-- may New be asked so? -/
def NwOk (a hosts pat tries : Int) : Prop := (16 ≤ a ∧ a ≤ 31) ∧ (1 ≤ hosts ∧ hosts ≤ 16) ∧ (1 ≤ pat ∧ pat ≤ 64) ∧ (1 ≤ tries ∧ tries ≤ 64)
theorem role_any (w : World) (a : Int) (a0 : 0 ≤ a) (a1 : a < 256) : Calls Tryz.prog 67 #[.int .u8 a] w fun e w' => ∃ r, e = .returned (.int .u8 r) ∧ Hid ((r == 2) = decide (16 ≤ a ∧ a ≤ 31)) ∧ w' = w := by
  by_cases c0 : a < 16
  · go_enter Tryz.func67, Tryz.ntmps67
    go_wp2
    go_ret
    exact ⟨_, rfl, hide (by simp; omega), rfl⟩
  · by_cases c1 : a < 32
    · go_enter Tryz.func67, Tryz.ntmps67
      go_wp2
      go_ret
      exact ⟨_, rfl, hide (by simp; omega), rfl⟩
    · by_cases c2 : a < 33
      · go_enter Tryz.func67, Tryz.ntmps67
        go_wp2
        go_ret
        exact ⟨_, rfl, hide (by simp; omega), rfl⟩
      · go_enter Tryz.func67, Tryz.ntmps67
        go_wp2
        go_ret
        exact ⟨_, rfl, hide (by simp; omega), rfl⟩
set_option maxRecDepth 100000 in
set_option maxHeartbeats 2000000 in
theorem new_bad (w : World) (a hosts pat tries : Int) (a0 : 0 ≤ a) (a1 : a < 256) (hb : ¬ NwOk a hosts pat tries) :
    Calls Tryz.prog 32 #[.int .u8 a, .int .i64 hosts, .int .i64 pat, .int .i64 tries] w fun e w' => e = .returned (.tuple #[.pointer none, .int .i64 2]) ∧ w' = w := by
  have RO := fun W => role_any W a a0 a1
  have HB := hide hb
  clear hb
  go_enter Tryz.func32, Tryz.ntmps32
  go_wp2_with fail
  refine (RO _).mono ?_; rintro e w' ⟨r, rfl, HR, hw⟩
  obtain rfl := hw.symm
  clear RO hw
  by_cases c : 16 ≤ a ∧ a ≤ 31
  · have hr : (r == 2) = true := by rw [HR.out]; simpa using c
    have HC := hide c
    clear c
    by_cases g0 : hosts ≥ 1
    · skip
      by_cases g1 : hosts ≤ 16
      · skip
        by_cases g2 : pat ≥ 1
        · skip
          by_cases g3 : pat ≤ 64
          · skip
            by_cases g4 : tries ≥ 1
            · skip
              by_cases g5 : tries ≤ 64
              · exact absurd (⟨HC.out, by omega, by omega, by omega⟩ : NwOk a hosts pat tries) HB.out
              · have hd : decide (tries ≤ 64) = false := by simpa using g5
                go_wp2
                go_ret2
                exact ⟨rfl, rfl⟩
            · have hd : decide (tries ≥ 1) = false := by simpa using g4
              go_wp2
              go_ret2
              exact ⟨rfl, rfl⟩
          · have hd : decide (pat ≤ 64) = false := by simpa using g3
            go_wp2
            go_ret2
            exact ⟨rfl, rfl⟩
        · have hd : decide (pat ≥ 1) = false := by simpa using g2
          go_wp2
          go_ret2
          exact ⟨rfl, rfl⟩
      · have hd : decide (hosts ≤ 16) = false := by simpa using g1
        go_wp2
        go_ret2
        exact ⟨rfl, rfl⟩
    · have hd : decide (hosts ≥ 1) = false := by simpa using g0
      go_wp2
      go_ret2
      exact ⟨rfl, rfl⟩
  · have hr : (r == 2) = false := by rw [HR.out]; simpa using c
    go_wp2
    go_ret2
    exact ⟨rfl, rfl⟩
theorem refHost0 (w : World) : Calls Tryz.prog 100 #[.int .u8 0] w fun e w' => e = .returned (.bool true) ∧ w' = w := by
  go_enter Tryz.func100, Tryz.ntmps100
  go_wp2
  go_ret
  exact ⟨rfl, rfl⟩
/-- the document's table of one segment -/
structure Rt (w : World) (s : Value) (B : Nat) : Prop where
  out : ∃ r, s = .slice (some ⟨r, 0, none⟩) 1 1 ∧ w.heap[r]? = some (.cells #[.int .u64 0, .int .u64 18446744073709551615, .int .u8 0] 76 (0, 0)) ∧ B ≤ r
theorem Rt.nu {w w' : World} {s : Value} {B : Nat} (h : Rt w s B) (k : Kp Nu w w') : Rt w' s B := by
  obtain ⟨r, e, hb, hl⟩ := h.out
  exact ⟨r, e, (k.block _ (blk_lt hb) (fun h => h)).trans hb, hl⟩
set_option maxHeartbeats 1000000 in
theorem refTab (w : World) : Calls Tryz.prog 66 #[.int .u8 0, .int .i64 64] w fun e w' => ∃ r, e = .returned (.tuple #[.agg #[.int .i64 64, .slice (some ⟨r, 0, none⟩) 1 1], .int .i64 0]) ∧ w'.heap[r]? = some (.cells #[.int .u64 0, .int .u64 18446744073709551615, .int .u8 0] 76 (0, 0)) ∧ w.heap.size ≤ r ∧ Kp Nu w w' := by
  have IH := refHost0
  go_enter Tryz.func66, Tryz.ntmps66
  go_wp2_with fail
  refine (IH _).mono ?_; rintro e w' ⟨rfl, hw⟩
  obtain rfl := hw.symm
  clear IH hw
  go_wp2
  refine bodyPost_ret (results_two rfl _ _ ⟨w.heap.size, 0, none⟩ _ _ rfl rfl (run_loadVar_row _ w.heap.size 73 73 _ (0, 0) _ (new12 w _ _) Tryz.underlying73 rfl info73)) rfl ?_
  exact ⟨w.heap.size + 1, rfl, new2 w _ _, by omega, (Kp.alloc _ _ _).andAlloc _⟩
set_option maxRecDepth 100000 in
set_option maxHeartbeats 2000000 in
theorem refNew_ok (w : World) (a hosts pat tries : Int) (hb : NwOk a hosts pat tries) :
    Calls Tryz.prog 71 #[.int .u8 a, .int .i64 hosts, .int .i64 pat, .int .i64 tries] w fun e w' => ∃ r, e = .returned (.tuple #[.agg (rcl a hosts pat tries 64 (.slice (some ⟨r, 0, none⟩) 1 1)), .int .i64 0]) ∧ w'.heap[r]? = some (.cells #[.int .u64 0, .int .u64 18446744073709551615, .int .u8 0] 76 (0, 0)) ∧ w.heap.size ≤ r ∧ Kp Nu w w' := by
  have RT := refTab
  obtain ⟨⟨b0, b1⟩, ⟨b2, b3⟩, ⟨b4, b5⟩, b6, b7⟩ := hb
  have n0 : ¬ a < 16 := by omega
  have n1 : ¬ a > 31 := by omega
  have n2 : ¬ hosts < 1 := by omega
  have n3 : ¬ hosts > 16 := by omega
  have n4 : ¬ pat < 1 := by omega
  have n5 : ¬ pat > 64 := by omega
  have n6 : ¬ tries < 1 := by omega
  have n7 : ¬ tries > 64 := by omega
  clear b0 b1 b2 b3 b4 b5 b6 b7
  go_enter Tryz.func71, Tryz.ntmps71
  go_wp2_with fail
  refine (RT _).mono ?_; rintro e w2 ⟨r, rfl, hr, hrl, hk2⟩
  have hz := new_at w _ hk2
  have HZ := hide (box_k hz (Kp.alloc w2 (.cells #[.int .i64 64, .slice (some ⟨r, 0, none⟩) 1 1] 73) Nu))
  have HR := hide (And.intro hr (And.intro hrl hk2))
  clear RT hr hrl hk2 hz
  go_wp2_with (first | (guard_target =~ wpList _ _ _ ({ dst := none, op := Op.store 73 (Operand.tmp 10) (Operand.tmp 45), type := _, pos := _, after := _, guard := _ } :: _) _ _; refine wpList_store_new 73 2 (.tmp 10) (.tmp 45) rfl rfl info73 _ _ _ rfl rfl (by simp) rfl rfl (by simp [Value.oneCell']) ?_) | (guard_target =~ wpList _ _ _ ({ dst := none, op := Op.store 107 (Operand.tmp 8) (Operand.tmp 52), type := _, pos := _, after := _, guard := _ } :: _) _ _; refine wpList_store_all 107 35 (.tmp 8) (.tmp 52) rfl rfl info107 w.heap.size _ rfl rfl HZ.out rfl rfl (by simp [Value.oneCell']) ?_; intro W hW kW sW))
  refine bodyPost_ret (results_two rfl _ _ ⟨w.heap.size, 0, none⟩ _ _ rfl rfl (run_loadVar_row W w.heap.size 107 107 _ (0, 0) _ hW Tryz.underlying107 rfl info107)) rfl ?_
  obtain ⟨hr, hrl, hk2⟩ := HR.out
  have hrl' : w.heap.size + 1 ≤ r := by simpa using hrl
  have kA := Kp.alloc w2 (.cells #[.int .i64 64, .slice (some ⟨r, 0, none⟩) 1 1] 73) Nu
  refine ⟨r, rfl, (kW.block _ (Nat.lt_of_lt_of_le (blk_lt hr) kA.size) (fun e => by have e' : r = w.heap.size := e; omega)).trans ((kA.block _ (blk_lt hr) (fun h => h)).trans hr), by omega, ?_⟩
  exact (((Kp.alloc w _ Nu).andNu hk2).andNu kA).trans kW (fun i hi e => by have e' : i = w.heap.size := e; omega)
set_option maxRecDepth 100000 in
set_option maxHeartbeats 4000000 in
theorem refNew_bad (w : World) (a hosts pat tries : Int) (hb : ¬ NwOk a hosts pat tries) :
    Calls Tryz.prog 71 #[.int .u8 a, .int .i64 hosts, .int .i64 pat, .int .i64 tries] w fun e w' => e = .returned (.tuple #[.agg (rcl 0 0 0 0 0 (.slice none 0 0)), .int .i64 2]) ∧ Kp Nu w w' := by
  have HB := hide hb
  clear hb
  by_cases g0 : a < 16
  · have hd : decide (a < 16) = true := by simpa using g0
    go_enter Tryz.func71, Tryz.ntmps71
    go_wp2_with (guard_target =~ wpList _ _ _ ({ dst := none, op := Op.store 107 (Operand.tmp 8) (Operand.tmp 42), type := _, pos := _, after := _, guard := _ } :: _) _ _; refine wpList_store_new 107 35 (.tmp 8) (.tmp 42) rfl rfl info107 _ _ _ rfl rfl (by simp) rfl rfl (by simp [Value.oneCell']) ?_)
    refine bodyPost_ret (results_two rfl _ _ ⟨w.heap.size, 0, none⟩ _ _ rfl rfl (run_loadVar_row _ w.heap.size 107 107 _ (0, 0) _ (heap_new w _) Tryz.underlying107 rfl info107)) rfl ?_
    exact ⟨rfl, Kp.alloc _ _ _⟩
  by_cases g1 : a > 31
  · have hd : decide (a > 31) = true := by simpa using g1
    go_enter Tryz.func71, Tryz.ntmps71
    go_wp2_with (guard_target =~ wpList _ _ _ ({ dst := none, op := Op.store 107 (Operand.tmp 8) (Operand.tmp 42), type := _, pos := _, after := _, guard := _ } :: _) _ _; refine wpList_store_new 107 35 (.tmp 8) (.tmp 42) rfl rfl info107 _ _ _ rfl rfl (by simp) rfl rfl (by simp [Value.oneCell']) ?_)
    refine bodyPost_ret (results_two rfl _ _ ⟨w.heap.size, 0, none⟩ _ _ rfl rfl (run_loadVar_row _ w.heap.size 107 107 _ (0, 0) _ (heap_new w _) Tryz.underlying107 rfl info107)) rfl ?_
    exact ⟨rfl, Kp.alloc _ _ _⟩
  by_cases g2 : hosts < 1
  · have hd : decide (hosts < 1) = true := by simpa using g2
    go_enter Tryz.func71, Tryz.ntmps71
    go_wp2_with (guard_target =~ wpList _ _ _ ({ dst := none, op := Op.store 107 (Operand.tmp 8) (Operand.tmp 42), type := _, pos := _, after := _, guard := _ } :: _) _ _; refine wpList_store_new 107 35 (.tmp 8) (.tmp 42) rfl rfl info107 _ _ _ rfl rfl (by simp) rfl rfl (by simp [Value.oneCell']) ?_)
    refine bodyPost_ret (results_two rfl _ _ ⟨w.heap.size, 0, none⟩ _ _ rfl rfl (run_loadVar_row _ w.heap.size 107 107 _ (0, 0) _ (heap_new w _) Tryz.underlying107 rfl info107)) rfl ?_
    exact ⟨rfl, Kp.alloc _ _ _⟩
  by_cases g3 : hosts > 16
  · have hd : decide (hosts > 16) = true := by simpa using g3
    go_enter Tryz.func71, Tryz.ntmps71
    go_wp2_with (guard_target =~ wpList _ _ _ ({ dst := none, op := Op.store 107 (Operand.tmp 8) (Operand.tmp 42), type := _, pos := _, after := _, guard := _ } :: _) _ _; refine wpList_store_new 107 35 (.tmp 8) (.tmp 42) rfl rfl info107 _ _ _ rfl rfl (by simp) rfl rfl (by simp [Value.oneCell']) ?_)
    refine bodyPost_ret (results_two rfl _ _ ⟨w.heap.size, 0, none⟩ _ _ rfl rfl (run_loadVar_row _ w.heap.size 107 107 _ (0, 0) _ (heap_new w _) Tryz.underlying107 rfl info107)) rfl ?_
    exact ⟨rfl, Kp.alloc _ _ _⟩
  by_cases g4 : pat < 1
  · have hd : decide (pat < 1) = true := by simpa using g4
    go_enter Tryz.func71, Tryz.ntmps71
    go_wp2_with (guard_target =~ wpList _ _ _ ({ dst := none, op := Op.store 107 (Operand.tmp 8) (Operand.tmp 42), type := _, pos := _, after := _, guard := _ } :: _) _ _; refine wpList_store_new 107 35 (.tmp 8) (.tmp 42) rfl rfl info107 _ _ _ rfl rfl (by simp) rfl rfl (by simp [Value.oneCell']) ?_)
    refine bodyPost_ret (results_two rfl _ _ ⟨w.heap.size, 0, none⟩ _ _ rfl rfl (run_loadVar_row _ w.heap.size 107 107 _ (0, 0) _ (heap_new w _) Tryz.underlying107 rfl info107)) rfl ?_
    exact ⟨rfl, Kp.alloc _ _ _⟩
  by_cases g5 : pat > 64
  · have hd : decide (pat > 64) = true := by simpa using g5
    go_enter Tryz.func71, Tryz.ntmps71
    go_wp2_with (guard_target =~ wpList _ _ _ ({ dst := none, op := Op.store 107 (Operand.tmp 8) (Operand.tmp 42), type := _, pos := _, after := _, guard := _ } :: _) _ _; refine wpList_store_new 107 35 (.tmp 8) (.tmp 42) rfl rfl info107 _ _ _ rfl rfl (by simp) rfl rfl (by simp [Value.oneCell']) ?_)
    refine bodyPost_ret (results_two rfl _ _ ⟨w.heap.size, 0, none⟩ _ _ rfl rfl (run_loadVar_row _ w.heap.size 107 107 _ (0, 0) _ (heap_new w _) Tryz.underlying107 rfl info107)) rfl ?_
    exact ⟨rfl, Kp.alloc _ _ _⟩
  by_cases g6 : tries < 1
  · have hd : decide (tries < 1) = true := by simpa using g6
    go_enter Tryz.func71, Tryz.ntmps71
    go_wp2_with (guard_target =~ wpList _ _ _ ({ dst := none, op := Op.store 107 (Operand.tmp 8) (Operand.tmp 42), type := _, pos := _, after := _, guard := _ } :: _) _ _; refine wpList_store_new 107 35 (.tmp 8) (.tmp 42) rfl rfl info107 _ _ _ rfl rfl (by simp) rfl rfl (by simp [Value.oneCell']) ?_)
    refine bodyPost_ret (results_two rfl _ _ ⟨w.heap.size, 0, none⟩ _ _ rfl rfl (run_loadVar_row _ w.heap.size 107 107 _ (0, 0) _ (heap_new w _) Tryz.underlying107 rfl info107)) rfl ?_
    exact ⟨rfl, Kp.alloc _ _ _⟩
  by_cases g7 : tries > 64
  · have hd : decide (tries > 64) = true := by simpa using g7
    go_enter Tryz.func71, Tryz.ntmps71
    go_wp2_with (guard_target =~ wpList _ _ _ ({ dst := none, op := Op.store 107 (Operand.tmp 8) (Operand.tmp 42), type := _, pos := _, after := _, guard := _ } :: _) _ _; refine wpList_store_new 107 35 (.tmp 8) (.tmp 42) rfl rfl info107 _ _ _ rfl rfl (by simp) rfl rfl (by simp [Value.oneCell']) ?_)
    refine bodyPost_ret (results_two rfl _ _ ⟨w.heap.size, 0, none⟩ _ _ rfl rfl (run_loadVar_row _ w.heap.size 107 107 _ (0, 0) _ (heap_new w _) Tryz.underlying107 rfl info107)) rfl ?_
    exact ⟨rfl, Kp.alloc _ _ _⟩
  exact absurd (⟨⟨by omega, by omega⟩, ⟨by omega, by omega⟩, ⟨by omega, by omega⟩, by omega, by omega⟩ : NwOk a hosts pat tries) HB.out
end Go.Proofs.YtmlnglillgplfaaGreat.Cl
namespace Go.Proofs.YtmlnglillgplfaaGreat.Cl
open Go.RowKit Go.Maps
set_option linter.unusedVariables false
section
variable {P : Program} {md : Region.Mode} {ops : Array Oper} {Q : Exit → Act → World → Prop} {fuel : Nat} {listed : Array Bool} {a : Act} {w : World} {i : Nat} {o : Oper} {rs : List Nat}
theorem step_loadR (ho : ops[i]? = some o) (hg : o.guard = none) (ty : TypeId) (x : Operand) (hop : o.op = .load ty x) (b of : Nat) (hx : a.eval x = .pointer (some ⟨b, of, none⟩)) (cs : List Value) (d : TypeDesc) (hc : w.rangeAt b of cs) (hu : P.underlying ty = some d) (hd : d.isRow = true) (hi : (P.info? ty).map (·.size) = some cs.length)
    (h : wpAny P md ops Q fuel (listed.setIfInBounds i true) (a.put o.dst (.agg cs.toArray)) w) (hs : AllReady P md ops Q fuel listed a w rs) : AllReady P md ops Q fuel listed a w (i :: rs) :=
  AllReady.cons ho (fun K hK => step_plain hg (wp_load_mid ty x hop b of hx cs d hc hu hd hi (hK _ _ h))) hs
theorem step_callR (ho : ops[i]? = some o) (hg : o.guard = none) (f : FuncId) (args : Array Value) (hx : (execOp a.eval o).run P w = .ok (.enter f args) w) (v : Value) (hC : Calls P f args w fun e w' => e = .returned v ∧ w' = w)
    (h : wpAny P md ops Q fuel (listed.setIfInBounds i true) (a.put o.dst v) w) (hs : AllReady P md ops Q fuel listed a w rs) : AllReady P md ops Q fuel listed a w (i :: rs) :=
  AllReady.cons ho (fun K hK => step_plain hg (by
    unfold Oper.wp
    rw [hx, Oper.upon_enter]
    refine hC.mono ?_
    rintro e w' ⟨rfl, rfl⟩
    exact hK _ _ h)) hs
end
set_option maxRecDepth 100000 in
set_option maxHeartbeats 4000000 in
theorem ret43 {Q : Exit → Act → World → Prop} {W : World} {ds : List Deferred} (hQ : ∀ c a d v w, Q (.panic c) (a.put (some d) v) w → Q (.panic c) a w) (mixed : Tryz.prog.follows .mixedOrders = true) (b z y : Nat) (cs : List Value) (s0 s1 s2 s3 s4 s5 s6 s7 s8 s10 s15 s16 s17 s18 s19 s20 s21 s22 s23 s24 s25 s26 s27 s28 s29 s30 s31 s32 s33 s34 s35 s36 s37 s38 s39 s40 s41 s42 s43 : Value) (hl : cs.length = 35) (RG : W.drew.rangeAt y 0 cs) (TZ : W.drew.there z 0 35) (ONE : cs.toArray.all (·.oneCell') = true) (NM : ∀ w, Calls Tryz.prog 28 #[.int .i64 0] w fun e w' => e = .returned (.int .i64 0) ∧ w' = w) (i107 : (Tryz.prog.info? 107).map (·.size) = some 35)
    (h : Q .normal { tmps := #[s0, s1, s2, s3, s4, s5, s6, s7, .pointer (some ⟨b, 0, none⟩), .pointer (some ⟨z, 0, none⟩), .bool true, .pointer (some ⟨b, 0, none⟩), .int .i64 0, .pointer (some ⟨y, 0, none⟩), .int .i64 0, s15, s16, s17, s18, s19, s20, s21, s22, s23, s24, s25, s26, s27, s28, s29, s30, .pointer (some ⟨b, 0, none⟩), .agg cs.toArray, .int .i64 0, .int .i64 0, .int .i64 0, .bool true, .bool true, .pointer (some ⟨b, 0, none⟩), .bool false, .int .i64 0, .bool false, .bool true, .bool true], defers := ds } (W.drew.setCells z 0 cs)) :
    Code.wp Tryz.prog (Code.region 3 #[{ dst := some 31, op := Op.move (Operand.tmp 11), type := 29, pos := "law.go:91", after := #[], guard := none },
      { dst := some 32, op := Op.load 107 (Operand.tmp 13), type := 107, pos := "law.go:91", after := #[{ on := 13, ground := Ground.gcOnly Departure.lateStores }], guard := none },
      { dst := some 33, op := Op.move (Operand.tmp 12), type := 47, pos := "law.go:91", after := #[], guard := none },
      { dst := some 34, op := Op.call { callee := Callee.value (Operand.func 28), args := #[Operand.tmp 33], argTypes := #[47] }, type := 3, pos := "law.go:91", after := #[{ on := 2, ground := Ground.data }], guard := none },
      { dst := some 35, op := Op.move (Operand.tmp 14), type := 3, pos := "law.go:91", after := #[], guard := none },
      { dst := some 36, op := Op.binOp BinOp.eql 3 (Operand.tmp 34) (Operand.tmp 35) 3, type := 4, pos := "law.go:91", after := #[{ on := 3, ground := Ground.data }, { on := 4, ground := Ground.data }], guard := none },
      { dst := some 37, op := Op.move (Operand.tmp 36), type := 4, pos := "law.go:91", after := #[{ on := 5, ground := Ground.data }, { on := 3, ground := Ground.chain }], guard := none },
      { dst := some 38, op := Op.move (Operand.tmp 11), type := 29, pos := "law.go:91", after := #[{ on := 6, ground := Ground.guard }, { on := 14, ground := Ground.gcOnly Departure.lateStores }], guard := some (6, true) },
      { dst := some 39, op := Op.binOp BinOp.eql 29 (Operand.tmp 38) (Operand.const (Value.pointer none)) 29, type := 4, pos := "law.go:91", after := #[{ on := 7, ground := Ground.data }, { on := 6, ground := Ground.guard }, { on := 14, ground := Ground.gcOnly Departure.lateStores }], guard := some (6, true) },
      { dst := some 40, op := Op.move (Operand.tmp 14), type := 3, pos := "law.go:91", after := #[{ on := 6, ground := Ground.guard }, { on := 14, ground := Ground.gcOnly Departure.lateStores }], guard := some (6, true) },
      { dst := some 41, op := Op.binOp BinOp.neq 3 (Operand.tmp 40) (Operand.const (Value.int IntKind.i64 0)) 3, type := 4, pos := "law.go:91", after := #[{ on := 9, ground := Ground.data }, { on := 6, ground := Ground.guard }, { on := 14, ground := Ground.gcOnly Departure.lateStores }], guard := some (6, true) },
      { dst := some 42, op := Op.binOp BinOp.eql 4 (Operand.tmp 39) (Operand.tmp 41) 4, type := 4, pos := "law.go:91", after := #[{ on := 8, ground := Ground.data }, { on := 10, ground := Ground.data }, { on := 6, ground := Ground.guard }, { on := 14, ground := Ground.gcOnly Departure.lateStores }], guard := some (6, true) },
      { dst := some 43, op := Op.pick (Operand.tmp 37) (Operand.tmp 42) (Operand.const (Value.bool false)), type := 4, pos := "law.go:91", after := #[{ on := 6, ground := Ground.data }, { on := 11, ground := Ground.data }, { on := 14, ground := Ground.gcOnly Departure.lateStores }], guard := none },
      { dst := some 8, op := Op.assign (Operand.tmp 31), type := 29, pos := "law.go:91", after := #[{ on := 0, ground := Ground.data }, { on := 6, ground := Ground.chain }, { on := 0, ground := Ground.phase }, { on := 1, ground := Ground.textOnly Departure.lateStores }, { on := 2, ground := Ground.textOnly Departure.lateStores }, { on := 3, ground := Ground.textOnly Departure.lateStoresUnsure }, { on := 4, ground := Ground.textOnly Departure.lateStores }, { on := 5, ground := Ground.textOnly Departure.lateStores }, { on := 6, ground := Ground.textOnly Departure.lateStores }, { on := 7, ground := Ground.textOnly Departure.lateStores }, { on := 8, ground := Ground.textOnly Departure.lateStores }, { on := 9, ground := Ground.textOnly Departure.lateStores }, { on := 10, ground := Ground.textOnly Departure.lateStores }, { on := 11, ground := Ground.textOnly Departure.lateStores }, { on := 12, ground := Ground.textOnly Departure.lateStores }], guard := none },
      { dst := none, op := Op.store 107 (Operand.tmp 9) (Operand.tmp 32), type := 0, pos := "law.go:91", after := #[{ on := 1, ground := Ground.data }, { on := 13, ground := Ground.chain }, { on := 0, ground := Ground.phase }, { on := 1, ground := Ground.phase }, { on := 2, ground := Ground.textOnly Departure.lateStores }, { on := 3, ground := Ground.textOnly Departure.lateStoresUnsure }, { on := 4, ground := Ground.textOnly Departure.lateStores }, { on := 5, ground := Ground.textOnly Departure.lateStores }, { on := 6, ground := Ground.textOnly Departure.lateStores }, { on := 7, ground := Ground.textOnly Departure.lateStores }, { on := 8, ground := Ground.textOnly Departure.lateStores }, { on := 9, ground := Ground.textOnly Departure.lateStores }, { on := 10, ground := Ground.textOnly Departure.lateStores }, { on := 11, ground := Ground.textOnly Departure.lateStores }, { on := 12, ground := Ground.textOnly Departure.lateStores }, { on := 13, ground := Ground.phase }], guard := none },
      { dst := some 10, op := Op.assign (Operand.tmp 43), type := 4, pos := "law.go:91", after := #[{ on := 12, ground := Ground.data }, { on := 14, ground := Ground.chain }, { on := 0, ground := Ground.phase }, { on := 1, ground := Ground.phase }, { on := 2, ground := Ground.phase }, { on := 3, ground := Ground.phase }, { on := 4, ground := Ground.phase }, { on := 5, ground := Ground.phase }, { on := 6, ground := Ground.phase }, { on := 7, ground := Ground.phase }, { on := 8, ground := Ground.phase }, { on := 9, ground := Ground.phase }, { on := 10, ground := Ground.phase }, { on := 11, ground := Ground.phase }, { on := 12, ground := Ground.phase }, { on := 13, ground := Ground.phase }, { on := 14, ground := Ground.phase }], guard := none }] true) Q { tmps := #[s0, s1, s2, s3, s4, s5, s6, s7, s8, .pointer (some ⟨z, 0, none⟩), s10, .pointer (some ⟨b, 0, none⟩), .int .i64 0, .pointer (some ⟨y, 0, none⟩), .int .i64 0, s15, s16, s17, s18, s19, s20, s21, s22, s23, s24, s25, s26, s27, s28, s29, s30, s31, s32, s33, s34, s35, s36, s37, s38, s39, s40, s41, s42, s43], defers := ds } W := by
  refine wp_region_any mixed ?_
  change wpAny _ _ _ _ _ _ _ (World.drew _)
  refine wpAny_take (i := 0) (oi := { dst := some 31, op := Op.move (Operand.tmp 11), type := 29, pos := "law.go:91", after := #[], guard := none }) (v := .pointer (some ⟨b, 0, none⟩)) rfl (by kernel_rfl) (by kernel_rfl) (by kernel_rfl) (fun _ _ _ h => hQ _ _ _ _ _ h) (Or.inl ⟨rfl, fun w => BigFrame.run_move (.tmp 11) rfl w⟩) ?_
  go_frame
  refine wpAny_take (i := 2) (oi := { dst := some 33, op := Op.move (Operand.tmp 12), type := 47, pos := "law.go:91", after := #[], guard := none }) (v := .int .i64 0) rfl (by kernel_rfl) (by kernel_rfl) (by kernel_rfl) (fun _ _ _ h => hQ _ _ _ _ _ h) (Or.inl ⟨rfl, fun w => BigFrame.run_move (.tmp 12) rfl w⟩) ?_
  go_frame
  refine wpAny_take (i := 4) (oi := { dst := some 35, op := Op.move (Operand.tmp 14), type := 3, pos := "law.go:91", after := #[], guard := none }) (v := .int .i64 0) rfl (by kernel_rfl) (by kernel_rfl) (by kernel_rfl) (fun _ _ _ h => hQ _ _ _ _ _ h) (Or.inl ⟨rfl, fun w => BigFrame.run_move (.tmp 14) rfl w⟩) ?_
  go_frame
  refine wpAny_ready (rs := [1, 3]) (by kernel_rfl) (by simp) ?_
  refine step_loadR (o := { dst := some 32, op := Op.load 107 (Operand.tmp 13), type := 107, pos := "law.go:91", after := #[{ on := 13, ground := Ground.gcOnly Departure.lateStores }], guard := none }) rfl rfl 107 (.tmp 13) rfl y 0 rfl cs _ RG Tryz.underlying107 rfl (by rw [hl]; exact i107) ?_ ?_
  · go_frame
    refine wpAny_ready (rs := [3]) (by kernel_rfl) (by simp) ?_
    refine step_callR (o := { dst := some 34, op := Op.call { callee := Callee.value (Operand.func 28), args := #[Operand.tmp 33], argTypes := #[47] }, type := 3, pos := "law.go:91", after := #[{ on := 2, ground := Ground.data }], guard := none }) rfl rfl 28 #[.int .i64 0] (by go_simp; first | done | (with_reducible rfl)) (.int .i64 0) (NM _) ?_ AllReady.nil
    go_frame
    refine wpAny_take (i := 5) (oi := { dst := some 36, op := Op.binOp BinOp.eql 3 (Operand.tmp 34) (Operand.tmp 35) 3, type := 4, pos := "law.go:91", after := #[{ on := 3, ground := Ground.data }, { on := 4, ground := Ground.data }], guard := none }) (v := .bool true) rfl (by kernel_rfl) (by kernel_rfl) (by kernel_rfl) (fun _ _ _ h => hQ _ _ _ _ _ h) (Or.inl ⟨rfl, fun w => (by go_simp; first | done | (with_reducible rfl))⟩) ?_
    go_frame
    refine wpAny_take (i := 6) (oi := { dst := some 37, op := Op.move (Operand.tmp 36), type := 4, pos := "law.go:91", after := #[{ on := 5, ground := Ground.data }, { on := 3, ground := Ground.chain }], guard := none }) (v := .bool true) rfl (by kernel_rfl) (by kernel_rfl) (by kernel_rfl) (fun _ _ _ h => hQ _ _ _ _ _ h) (Or.inl ⟨rfl, fun w => BigFrame.run_move (.tmp 36) rfl w⟩) ?_
    go_frame
    refine wpAny_take (i := 13) (oi := { dst := some 8, op := Op.assign (Operand.tmp 31), type := 29, pos := "law.go:91", after := #[{ on := 0, ground := Ground.data }, { on := 6, ground := Ground.chain }, { on := 0, ground := Ground.phase }, { on := 1, ground := Ground.textOnly Departure.lateStores }, { on := 2, ground := Ground.textOnly Departure.lateStores }, { on := 3, ground := Ground.textOnly Departure.lateStoresUnsure }, { on := 4, ground := Ground.textOnly Departure.lateStores }, { on := 5, ground := Ground.textOnly Departure.lateStores }, { on := 6, ground := Ground.textOnly Departure.lateStores }, { on := 7, ground := Ground.textOnly Departure.lateStores }, { on := 8, ground := Ground.textOnly Departure.lateStores }, { on := 9, ground := Ground.textOnly Departure.lateStores }, { on := 10, ground := Ground.textOnly Departure.lateStores }, { on := 11, ground := Ground.textOnly Departure.lateStores }, { on := 12, ground := Ground.textOnly Departure.lateStores }], guard := none }) (v := .pointer (some ⟨b, 0, none⟩)) rfl (by kernel_rfl) (by kernel_rfl) (by kernel_rfl) (fun _ _ _ h => hQ _ _ _ _ _ h) (Or.inl ⟨rfl, fun w => BigFrame.run_assign (.tmp 31) rfl w⟩) ?_
    go_frame
    refine wpAny_take (i := 7) (oi := { dst := some 38, op := Op.move (Operand.tmp 11), type := 29, pos := "law.go:91", after := #[{ on := 6, ground := Ground.guard }, { on := 14, ground := Ground.gcOnly Departure.lateStores }], guard := some (6, true) }) (v := .pointer (some ⟨b, 0, none⟩)) rfl (by kernel_rfl) (by kernel_rfl) (by kernel_rfl) (fun _ _ _ h => hQ _ _ _ _ _ h) (Or.inl ⟨rfl, fun w => BigFrame.run_move (.tmp 11) rfl w⟩) ?_
    go_frame
    refine wpAny_take (i := 8) (oi := { dst := some 39, op := Op.binOp BinOp.eql 29 (Operand.tmp 38) (Operand.const (Value.pointer none)) 29, type := 4, pos := "law.go:91", after := #[{ on := 7, ground := Ground.data }, { on := 6, ground := Ground.guard }, { on := 14, ground := Ground.gcOnly Departure.lateStores }], guard := some (6, true) }) (v := .bool false) rfl (by kernel_rfl) (by kernel_rfl) (by kernel_rfl) (fun _ _ _ h => hQ _ _ _ _ _ h) (Or.inl ⟨rfl, fun w => (by go_simp; first | done | (with_reducible rfl))⟩) ?_
    go_frame
    refine wpAny_take (i := 9) (oi := { dst := some 40, op := Op.move (Operand.tmp 14), type := 3, pos := "law.go:91", after := #[{ on := 6, ground := Ground.guard }, { on := 14, ground := Ground.gcOnly Departure.lateStores }], guard := some (6, true) }) (v := .int .i64 0) rfl (by kernel_rfl) (by kernel_rfl) (by kernel_rfl) (fun _ _ _ h => hQ _ _ _ _ _ h) (Or.inl ⟨rfl, fun w => BigFrame.run_move (.tmp 14) rfl w⟩) ?_
    go_frame
    refine wpAny_take (i := 10) (oi := { dst := some 41, op := Op.binOp BinOp.neq 3 (Operand.tmp 40) (Operand.const (Value.int IntKind.i64 0)) 3, type := 4, pos := "law.go:91", after := #[{ on := 9, ground := Ground.data }, { on := 6, ground := Ground.guard }, { on := 14, ground := Ground.gcOnly Departure.lateStores }], guard := some (6, true) }) (v := .bool false) rfl (by kernel_rfl) (by kernel_rfl) (by kernel_rfl) (fun _ _ _ h => hQ _ _ _ _ _ h) (Or.inl ⟨rfl, fun w => (by go_simp; first | done | (with_reducible rfl))⟩) ?_
    go_frame
    refine wpAny_take (i := 11) (oi := { dst := some 42, op := Op.binOp BinOp.eql 4 (Operand.tmp 39) (Operand.tmp 41) 4, type := 4, pos := "law.go:91", after := #[{ on := 8, ground := Ground.data }, { on := 10, ground := Ground.data }, { on := 6, ground := Ground.guard }, { on := 14, ground := Ground.gcOnly Departure.lateStores }], guard := some (6, true) }) (v := .bool true) rfl (by kernel_rfl) (by kernel_rfl) (by kernel_rfl) (fun _ _ _ h => hQ _ _ _ _ _ h) (Or.inl ⟨rfl, fun w => (by go_simp; first | done | (with_reducible rfl))⟩) ?_
    go_frame
    refine wpAny_take (i := 12) (oi := { dst := some 43, op := Op.pick (Operand.tmp 37) (Operand.tmp 42) (Operand.const (Value.bool false)), type := 4, pos := "law.go:91", after := #[{ on := 6, ground := Ground.data }, { on := 11, ground := Ground.data }, { on := 14, ground := Ground.gcOnly Departure.lateStores }], guard := none }) (v := .bool true) rfl (by kernel_rfl) (by kernel_rfl) (by kernel_rfl) (fun _ _ _ h => hQ _ _ _ _ _ h) (Or.inl ⟨rfl, fun w => (by go_simp; first | done | (with_reducible rfl))⟩) ?_
    go_frame
    refine wpAny_ready (rs := [14]) (by kernel_rfl) (by simp) ?_
    refine step_store (o := { dst := none, op := Op.store 107 (Operand.tmp 9) (Operand.tmp 32), type := 0, pos := "law.go:91", after := #[{ on := 1, ground := Ground.data }, { on := 13, ground := Ground.chain }, { on := 0, ground := Ground.phase }, { on := 1, ground := Ground.phase }, { on := 2, ground := Ground.textOnly Departure.lateStores }, { on := 3, ground := Ground.textOnly Departure.lateStoresUnsure }, { on := 4, ground := Ground.textOnly Departure.lateStores }, { on := 5, ground := Ground.textOnly Departure.lateStores }, { on := 6, ground := Ground.textOnly Departure.lateStores }, { on := 7, ground := Ground.textOnly Departure.lateStores }, { on := 8, ground := Ground.textOnly Departure.lateStores }, { on := 9, ground := Ground.textOnly Departure.lateStores }, { on := 10, ground := Ground.textOnly Departure.lateStores }, { on := 11, ground := Ground.textOnly Departure.lateStores }, { on := 12, ground := Ground.textOnly Departure.lateStores }, { on := 13, ground := Ground.phase }], guard := none }) rfl rfl 107 (.tmp 9) (.tmp 32) rfl z 0 cs.toArray rfl rfl (by simpa [hl] using TZ) (by simpa [hl] using i107) ONE ?_
    go_frame
    refine wpAny_take (i := 15) (oi := { dst := some 10, op := Op.assign (Operand.tmp 43), type := 4, pos := "law.go:91", after := #[{ on := 12, ground := Ground.data }, { on := 14, ground := Ground.chain }, { on := 0, ground := Ground.phase }, { on := 1, ground := Ground.phase }, { on := 2, ground := Ground.phase }, { on := 3, ground := Ground.phase }, { on := 4, ground := Ground.phase }, { on := 5, ground := Ground.phase }, { on := 6, ground := Ground.phase }, { on := 7, ground := Ground.phase }, { on := 8, ground := Ground.phase }, { on := 9, ground := Ground.phase }, { on := 10, ground := Ground.phase }, { on := 11, ground := Ground.phase }, { on := 12, ground := Ground.phase }, { on := 13, ground := Ground.phase }, { on := 14, ground := Ground.phase }], guard := none }) (v := .bool true) rfl (by kernel_rfl) (by kernel_rfl) (by kernel_rfl) (fun _ _ _ h => hQ _ _ _ _ _ h) (Or.inl ⟨rfl, fun w => BigFrame.run_assign (.tmp 43) rfl w⟩) ?_
    go_frame
    refine wpAny_done (by kernel_rfl) ?_ _
    exact h
  · refine step_callR (o := { dst := some 34, op := Op.call { callee := Callee.value (Operand.func 28), args := #[Operand.tmp 33], argTypes := #[47] }, type := 3, pos := "law.go:91", after := #[{ on := 2, ground := Ground.data }], guard := none }) rfl rfl 28 #[.int .i64 0] (by go_simp; first | done | (with_reducible rfl)) (.int .i64 0) (NM _) ?_ AllReady.nil
    go_frame
    refine wpAny_take (i := 5) (oi := { dst := some 36, op := Op.binOp BinOp.eql 3 (Operand.tmp 34) (Operand.tmp 35) 3, type := 4, pos := "law.go:91", after := #[{ on := 3, ground := Ground.data }, { on := 4, ground := Ground.data }], guard := none }) (v := .bool true) rfl (by kernel_rfl) (by kernel_rfl) (by kernel_rfl) (fun _ _ _ h => hQ _ _ _ _ _ h) (Or.inl ⟨rfl, fun w => (by go_simp; first | done | (with_reducible rfl))⟩) ?_
    go_frame
    refine wpAny_take (i := 6) (oi := { dst := some 37, op := Op.move (Operand.tmp 36), type := 4, pos := "law.go:91", after := #[{ on := 5, ground := Ground.data }, { on := 3, ground := Ground.chain }], guard := none }) (v := .bool true) rfl (by kernel_rfl) (by kernel_rfl) (by kernel_rfl) (fun _ _ _ h => hQ _ _ _ _ _ h) (Or.inl ⟨rfl, fun w => BigFrame.run_move (.tmp 36) rfl w⟩) ?_
    go_frame
    refine wpAny_take (i := 13) (oi := { dst := some 8, op := Op.assign (Operand.tmp 31), type := 29, pos := "law.go:91", after := #[{ on := 0, ground := Ground.data }, { on := 6, ground := Ground.chain }, { on := 0, ground := Ground.phase }, { on := 1, ground := Ground.textOnly Departure.lateStores }, { on := 2, ground := Ground.textOnly Departure.lateStores }, { on := 3, ground := Ground.textOnly Departure.lateStoresUnsure }, { on := 4, ground := Ground.textOnly Departure.lateStores }, { on := 5, ground := Ground.textOnly Departure.lateStores }, { on := 6, ground := Ground.textOnly Departure.lateStores }, { on := 7, ground := Ground.textOnly Departure.lateStores }, { on := 8, ground := Ground.textOnly Departure.lateStores }, { on := 9, ground := Ground.textOnly Departure.lateStores }, { on := 10, ground := Ground.textOnly Departure.lateStores }, { on := 11, ground := Ground.textOnly Departure.lateStores }, { on := 12, ground := Ground.textOnly Departure.lateStores }], guard := none }) (v := .pointer (some ⟨b, 0, none⟩)) rfl (by kernel_rfl) (by kernel_rfl) (by kernel_rfl) (fun _ _ _ h => hQ _ _ _ _ _ h) (Or.inl ⟨rfl, fun w => BigFrame.run_assign (.tmp 31) rfl w⟩) ?_
    go_frame
    refine wpAny_take (i := 7) (oi := { dst := some 38, op := Op.move (Operand.tmp 11), type := 29, pos := "law.go:91", after := #[{ on := 6, ground := Ground.guard }, { on := 14, ground := Ground.gcOnly Departure.lateStores }], guard := some (6, true) }) (v := .pointer (some ⟨b, 0, none⟩)) rfl (by kernel_rfl) (by kernel_rfl) (by kernel_rfl) (fun _ _ _ h => hQ _ _ _ _ _ h) (Or.inl ⟨rfl, fun w => BigFrame.run_move (.tmp 11) rfl w⟩) ?_
    go_frame
    refine wpAny_take (i := 8) (oi := { dst := some 39, op := Op.binOp BinOp.eql 29 (Operand.tmp 38) (Operand.const (Value.pointer none)) 29, type := 4, pos := "law.go:91", after := #[{ on := 7, ground := Ground.data }, { on := 6, ground := Ground.guard }, { on := 14, ground := Ground.gcOnly Departure.lateStores }], guard := some (6, true) }) (v := .bool false) rfl (by kernel_rfl) (by kernel_rfl) (by kernel_rfl) (fun _ _ _ h => hQ _ _ _ _ _ h) (Or.inl ⟨rfl, fun w => (by go_simp; first | done | (with_reducible rfl))⟩) ?_
    go_frame
    refine wpAny_take (i := 9) (oi := { dst := some 40, op := Op.move (Operand.tmp 14), type := 3, pos := "law.go:91", after := #[{ on := 6, ground := Ground.guard }, { on := 14, ground := Ground.gcOnly Departure.lateStores }], guard := some (6, true) }) (v := .int .i64 0) rfl (by kernel_rfl) (by kernel_rfl) (by kernel_rfl) (fun _ _ _ h => hQ _ _ _ _ _ h) (Or.inl ⟨rfl, fun w => BigFrame.run_move (.tmp 14) rfl w⟩) ?_
    go_frame
    refine wpAny_take (i := 10) (oi := { dst := some 41, op := Op.binOp BinOp.neq 3 (Operand.tmp 40) (Operand.const (Value.int IntKind.i64 0)) 3, type := 4, pos := "law.go:91", after := #[{ on := 9, ground := Ground.data }, { on := 6, ground := Ground.guard }, { on := 14, ground := Ground.gcOnly Departure.lateStores }], guard := some (6, true) }) (v := .bool false) rfl (by kernel_rfl) (by kernel_rfl) (by kernel_rfl) (fun _ _ _ h => hQ _ _ _ _ _ h) (Or.inl ⟨rfl, fun w => (by go_simp; first | done | (with_reducible rfl))⟩) ?_
    go_frame
    refine wpAny_take (i := 11) (oi := { dst := some 42, op := Op.binOp BinOp.eql 4 (Operand.tmp 39) (Operand.tmp 41) 4, type := 4, pos := "law.go:91", after := #[{ on := 8, ground := Ground.data }, { on := 10, ground := Ground.data }, { on := 6, ground := Ground.guard }, { on := 14, ground := Ground.gcOnly Departure.lateStores }], guard := some (6, true) }) (v := .bool true) rfl (by kernel_rfl) (by kernel_rfl) (by kernel_rfl) (fun _ _ _ h => hQ _ _ _ _ _ h) (Or.inl ⟨rfl, fun w => (by go_simp; first | done | (with_reducible rfl))⟩) ?_
    go_frame
    refine wpAny_take (i := 12) (oi := { dst := some 43, op := Op.pick (Operand.tmp 37) (Operand.tmp 42) (Operand.const (Value.bool false)), type := 4, pos := "law.go:91", after := #[{ on := 6, ground := Ground.data }, { on := 11, ground := Ground.data }, { on := 14, ground := Ground.gcOnly Departure.lateStores }], guard := none }) (v := .bool true) rfl (by kernel_rfl) (by kernel_rfl) (by kernel_rfl) (fun _ _ _ h => hQ _ _ _ _ _ h) (Or.inl ⟨rfl, fun w => (by go_simp; first | done | (with_reducible rfl))⟩) ?_
    go_frame
    refine wpAny_ready (rs := [1]) (by kernel_rfl) (by simp) ?_
    refine step_loadR (o := { dst := some 32, op := Op.load 107 (Operand.tmp 13), type := 107, pos := "law.go:91", after := #[{ on := 13, ground := Ground.gcOnly Departure.lateStores }], guard := none }) rfl rfl 107 (.tmp 13) rfl y 0 rfl cs _ RG Tryz.underlying107 rfl (by rw [hl]; exact i107) ?_ AllReady.nil
    go_frame
    refine wpAny_ready (rs := [14]) (by kernel_rfl) (by simp) ?_
    refine step_store (o := { dst := none, op := Op.store 107 (Operand.tmp 9) (Operand.tmp 32), type := 0, pos := "law.go:91", after := #[{ on := 1, ground := Ground.data }, { on := 13, ground := Ground.chain }, { on := 0, ground := Ground.phase }, { on := 1, ground := Ground.phase }, { on := 2, ground := Ground.textOnly Departure.lateStores }, { on := 3, ground := Ground.textOnly Departure.lateStoresUnsure }, { on := 4, ground := Ground.textOnly Departure.lateStores }, { on := 5, ground := Ground.textOnly Departure.lateStores }, { on := 6, ground := Ground.textOnly Departure.lateStores }, { on := 7, ground := Ground.textOnly Departure.lateStores }, { on := 8, ground := Ground.textOnly Departure.lateStores }, { on := 9, ground := Ground.textOnly Departure.lateStores }, { on := 10, ground := Ground.textOnly Departure.lateStores }, { on := 11, ground := Ground.textOnly Departure.lateStores }, { on := 12, ground := Ground.textOnly Departure.lateStores }, { on := 13, ground := Ground.phase }], guard := none }) rfl rfl 107 (.tmp 9) (.tmp 32) rfl z 0 cs.toArray rfl rfl (by simpa [hl] using TZ) (by simpa [hl] using i107) ONE ?_
    go_frame
    refine wpAny_take (i := 15) (oi := { dst := some 10, op := Op.assign (Operand.tmp 43), type := 4, pos := "law.go:91", after := #[{ on := 12, ground := Ground.data }, { on := 14, ground := Ground.chain }, { on := 0, ground := Ground.phase }, { on := 1, ground := Ground.phase }, { on := 2, ground := Ground.phase }, { on := 3, ground := Ground.phase }, { on := 4, ground := Ground.phase }, { on := 5, ground := Ground.phase }, { on := 6, ground := Ground.phase }, { on := 7, ground := Ground.phase }, { on := 8, ground := Ground.phase }, { on := 9, ground := Ground.phase }, { on := 10, ground := Ground.phase }, { on := 11, ground := Ground.phase }, { on := 12, ground := Ground.phase }, { on := 13, ground := Ground.phase }, { on := 14, ground := Ground.phase }], guard := none }) (v := .bool true) rfl (by kernel_rfl) (by kernel_rfl) (by kernel_rfl) (fun _ _ _ h => hQ _ _ _ _ _ h) (Or.inl ⟨rfl, fun w => BigFrame.run_assign (.tmp 43) rfl w⟩) ?_
    go_frame
    refine wpAny_done (by kernel_rfl) ?_ _
    exact h
set_option maxRecDepth 100000 in
set_option maxHeartbeats 4000000 in
theorem ret43n {Q : Exit → Act → World → Prop} {W : World} {ds : List Deferred} (hQ : ∀ c a d v w, Q (.panic c) (a.put (some d) v) w → Q (.panic c) a w) (mixed : Tryz.prog.follows .mixedOrders = true) (b z y : Nat) (cs : List Value) (s0 s1 s2 s3 s4 s5 s6 s7 s8 s10 s15 s16 s17 s18 s19 s20 s21 s22 s23 s24 s25 s26 s27 s28 s29 s30 s31 s32 s33 s34 s35 s36 s37 s38 s39 s40 s41 s42 s43 : Value) (hl : cs.length = 35) (RG : W.drew.rangeAt y 0 cs) (TZ : W.drew.there z 0 35) (ONE : cs.toArray.all (·.oneCell') = true) (NM : ∀ w, Calls Tryz.prog 28 #[.int .i64 2] w fun e w' => e = .returned (.int .i64 2) ∧ w' = w) (i107 : (Tryz.prog.info? 107).map (·.size) = some 35)
    (h : Q .normal { tmps := #[s0, s1, s2, s3, s4, s5, s6, s7, .pointer none, .pointer (some ⟨z, 0, none⟩), .bool true, .pointer none, .int .i64 2, .pointer (some ⟨y, 0, none⟩), .int .i64 2, s15, s16, s17, s18, s19, s20, s21, s22, s23, s24, s25, s26, s27, s28, s29, s30, .pointer none, .agg cs.toArray, .int .i64 2, .int .i64 2, .int .i64 2, .bool true, .bool true, .pointer none, .bool true, .int .i64 2, .bool true, .bool true, .bool true], defers := ds } (W.drew.setCells z 0 cs)) :
    Code.wp Tryz.prog (Code.region 3 #[{ dst := some 31, op := Op.move (Operand.tmp 11), type := 29, pos := "law.go:91", after := #[], guard := none },
      { dst := some 32, op := Op.load 107 (Operand.tmp 13), type := 107, pos := "law.go:91", after := #[{ on := 13, ground := Ground.gcOnly Departure.lateStores }], guard := none },
      { dst := some 33, op := Op.move (Operand.tmp 12), type := 47, pos := "law.go:91", after := #[], guard := none },
      { dst := some 34, op := Op.call { callee := Callee.value (Operand.func 28), args := #[Operand.tmp 33], argTypes := #[47] }, type := 3, pos := "law.go:91", after := #[{ on := 2, ground := Ground.data }], guard := none },
      { dst := some 35, op := Op.move (Operand.tmp 14), type := 3, pos := "law.go:91", after := #[], guard := none },
      { dst := some 36, op := Op.binOp BinOp.eql 3 (Operand.tmp 34) (Operand.tmp 35) 3, type := 4, pos := "law.go:91", after := #[{ on := 3, ground := Ground.data }, { on := 4, ground := Ground.data }], guard := none },
      { dst := some 37, op := Op.move (Operand.tmp 36), type := 4, pos := "law.go:91", after := #[{ on := 5, ground := Ground.data }, { on := 3, ground := Ground.chain }], guard := none },
      { dst := some 38, op := Op.move (Operand.tmp 11), type := 29, pos := "law.go:91", after := #[{ on := 6, ground := Ground.guard }, { on := 14, ground := Ground.gcOnly Departure.lateStores }], guard := some (6, true) },
      { dst := some 39, op := Op.binOp BinOp.eql 29 (Operand.tmp 38) (Operand.const (Value.pointer none)) 29, type := 4, pos := "law.go:91", after := #[{ on := 7, ground := Ground.data }, { on := 6, ground := Ground.guard }, { on := 14, ground := Ground.gcOnly Departure.lateStores }], guard := some (6, true) },
      { dst := some 40, op := Op.move (Operand.tmp 14), type := 3, pos := "law.go:91", after := #[{ on := 6, ground := Ground.guard }, { on := 14, ground := Ground.gcOnly Departure.lateStores }], guard := some (6, true) },
      { dst := some 41, op := Op.binOp BinOp.neq 3 (Operand.tmp 40) (Operand.const (Value.int IntKind.i64 0)) 3, type := 4, pos := "law.go:91", after := #[{ on := 9, ground := Ground.data }, { on := 6, ground := Ground.guard }, { on := 14, ground := Ground.gcOnly Departure.lateStores }], guard := some (6, true) },
      { dst := some 42, op := Op.binOp BinOp.eql 4 (Operand.tmp 39) (Operand.tmp 41) 4, type := 4, pos := "law.go:91", after := #[{ on := 8, ground := Ground.data }, { on := 10, ground := Ground.data }, { on := 6, ground := Ground.guard }, { on := 14, ground := Ground.gcOnly Departure.lateStores }], guard := some (6, true) },
      { dst := some 43, op := Op.pick (Operand.tmp 37) (Operand.tmp 42) (Operand.const (Value.bool false)), type := 4, pos := "law.go:91", after := #[{ on := 6, ground := Ground.data }, { on := 11, ground := Ground.data }, { on := 14, ground := Ground.gcOnly Departure.lateStores }], guard := none },
      { dst := some 8, op := Op.assign (Operand.tmp 31), type := 29, pos := "law.go:91", after := #[{ on := 0, ground := Ground.data }, { on := 6, ground := Ground.chain }, { on := 0, ground := Ground.phase }, { on := 1, ground := Ground.textOnly Departure.lateStores }, { on := 2, ground := Ground.textOnly Departure.lateStores }, { on := 3, ground := Ground.textOnly Departure.lateStoresUnsure }, { on := 4, ground := Ground.textOnly Departure.lateStores }, { on := 5, ground := Ground.textOnly Departure.lateStores }, { on := 6, ground := Ground.textOnly Departure.lateStores }, { on := 7, ground := Ground.textOnly Departure.lateStores }, { on := 8, ground := Ground.textOnly Departure.lateStores }, { on := 9, ground := Ground.textOnly Departure.lateStores }, { on := 10, ground := Ground.textOnly Departure.lateStores }, { on := 11, ground := Ground.textOnly Departure.lateStores }, { on := 12, ground := Ground.textOnly Departure.lateStores }], guard := none },
      { dst := none, op := Op.store 107 (Operand.tmp 9) (Operand.tmp 32), type := 0, pos := "law.go:91", after := #[{ on := 1, ground := Ground.data }, { on := 13, ground := Ground.chain }, { on := 0, ground := Ground.phase }, { on := 1, ground := Ground.phase }, { on := 2, ground := Ground.textOnly Departure.lateStores }, { on := 3, ground := Ground.textOnly Departure.lateStoresUnsure }, { on := 4, ground := Ground.textOnly Departure.lateStores }, { on := 5, ground := Ground.textOnly Departure.lateStores }, { on := 6, ground := Ground.textOnly Departure.lateStores }, { on := 7, ground := Ground.textOnly Departure.lateStores }, { on := 8, ground := Ground.textOnly Departure.lateStores }, { on := 9, ground := Ground.textOnly Departure.lateStores }, { on := 10, ground := Ground.textOnly Departure.lateStores }, { on := 11, ground := Ground.textOnly Departure.lateStores }, { on := 12, ground := Ground.textOnly Departure.lateStores }, { on := 13, ground := Ground.phase }], guard := none },
      { dst := some 10, op := Op.assign (Operand.tmp 43), type := 4, pos := "law.go:91", after := #[{ on := 12, ground := Ground.data }, { on := 14, ground := Ground.chain }, { on := 0, ground := Ground.phase }, { on := 1, ground := Ground.phase }, { on := 2, ground := Ground.phase }, { on := 3, ground := Ground.phase }, { on := 4, ground := Ground.phase }, { on := 5, ground := Ground.phase }, { on := 6, ground := Ground.phase }, { on := 7, ground := Ground.phase }, { on := 8, ground := Ground.phase }, { on := 9, ground := Ground.phase }, { on := 10, ground := Ground.phase }, { on := 11, ground := Ground.phase }, { on := 12, ground := Ground.phase }, { on := 13, ground := Ground.phase }, { on := 14, ground := Ground.phase }], guard := none }] true) Q { tmps := #[s0, s1, s2, s3, s4, s5, s6, s7, s8, .pointer (some ⟨z, 0, none⟩), s10, .pointer none, .int .i64 2, .pointer (some ⟨y, 0, none⟩), .int .i64 2, s15, s16, s17, s18, s19, s20, s21, s22, s23, s24, s25, s26, s27, s28, s29, s30, s31, s32, s33, s34, s35, s36, s37, s38, s39, s40, s41, s42, s43], defers := ds } W := by
  refine wp_region_any mixed ?_
  change wpAny _ _ _ _ _ _ _ (World.drew _)
  refine wpAny_take (i := 0) (oi := { dst := some 31, op := Op.move (Operand.tmp 11), type := 29, pos := "law.go:91", after := #[], guard := none }) (v := .pointer none) rfl (by kernel_rfl) (by kernel_rfl) (by kernel_rfl) (fun _ _ _ h => hQ _ _ _ _ _ h) (Or.inl ⟨rfl, fun w => BigFrame.run_move (.tmp 11) rfl w⟩) ?_
  go_frame
  refine wpAny_take (i := 2) (oi := { dst := some 33, op := Op.move (Operand.tmp 12), type := 47, pos := "law.go:91", after := #[], guard := none }) (v := .int .i64 2) rfl (by kernel_rfl) (by kernel_rfl) (by kernel_rfl) (fun _ _ _ h => hQ _ _ _ _ _ h) (Or.inl ⟨rfl, fun w => BigFrame.run_move (.tmp 12) rfl w⟩) ?_
  go_frame
  refine wpAny_take (i := 4) (oi := { dst := some 35, op := Op.move (Operand.tmp 14), type := 3, pos := "law.go:91", after := #[], guard := none }) (v := .int .i64 2) rfl (by kernel_rfl) (by kernel_rfl) (by kernel_rfl) (fun _ _ _ h => hQ _ _ _ _ _ h) (Or.inl ⟨rfl, fun w => BigFrame.run_move (.tmp 14) rfl w⟩) ?_
  go_frame
  refine wpAny_ready (rs := [1, 3]) (by kernel_rfl) (by simp) ?_
  refine step_loadR (o := { dst := some 32, op := Op.load 107 (Operand.tmp 13), type := 107, pos := "law.go:91", after := #[{ on := 13, ground := Ground.gcOnly Departure.lateStores }], guard := none }) rfl rfl 107 (.tmp 13) rfl y 0 rfl cs _ RG Tryz.underlying107 rfl (by rw [hl]; exact i107) ?_ ?_
  · go_frame
    refine wpAny_ready (rs := [3]) (by kernel_rfl) (by simp) ?_
    refine step_callR (o := { dst := some 34, op := Op.call { callee := Callee.value (Operand.func 28), args := #[Operand.tmp 33], argTypes := #[47] }, type := 3, pos := "law.go:91", after := #[{ on := 2, ground := Ground.data }], guard := none }) rfl rfl 28 #[.int .i64 2] (by go_simp; first | done | (with_reducible rfl)) (.int .i64 2) (NM _) ?_ AllReady.nil
    go_frame
    refine wpAny_take (i := 5) (oi := { dst := some 36, op := Op.binOp BinOp.eql 3 (Operand.tmp 34) (Operand.tmp 35) 3, type := 4, pos := "law.go:91", after := #[{ on := 3, ground := Ground.data }, { on := 4, ground := Ground.data }], guard := none }) (v := .bool true) rfl (by kernel_rfl) (by kernel_rfl) (by kernel_rfl) (fun _ _ _ h => hQ _ _ _ _ _ h) (Or.inl ⟨rfl, fun w => (by go_simp; first | done | (with_reducible rfl))⟩) ?_
    go_frame
    refine wpAny_take (i := 6) (oi := { dst := some 37, op := Op.move (Operand.tmp 36), type := 4, pos := "law.go:91", after := #[{ on := 5, ground := Ground.data }, { on := 3, ground := Ground.chain }], guard := none }) (v := .bool true) rfl (by kernel_rfl) (by kernel_rfl) (by kernel_rfl) (fun _ _ _ h => hQ _ _ _ _ _ h) (Or.inl ⟨rfl, fun w => BigFrame.run_move (.tmp 36) rfl w⟩) ?_
    go_frame
    refine wpAny_take (i := 13) (oi := { dst := some 8, op := Op.assign (Operand.tmp 31), type := 29, pos := "law.go:91", after := #[{ on := 0, ground := Ground.data }, { on := 6, ground := Ground.chain }, { on := 0, ground := Ground.phase }, { on := 1, ground := Ground.textOnly Departure.lateStores }, { on := 2, ground := Ground.textOnly Departure.lateStores }, { on := 3, ground := Ground.textOnly Departure.lateStoresUnsure }, { on := 4, ground := Ground.textOnly Departure.lateStores }, { on := 5, ground := Ground.textOnly Departure.lateStores }, { on := 6, ground := Ground.textOnly Departure.lateStores }, { on := 7, ground := Ground.textOnly Departure.lateStores }, { on := 8, ground := Ground.textOnly Departure.lateStores }, { on := 9, ground := Ground.textOnly Departure.lateStores }, { on := 10, ground := Ground.textOnly Departure.lateStores }, { on := 11, ground := Ground.textOnly Departure.lateStores }, { on := 12, ground := Ground.textOnly Departure.lateStores }], guard := none }) (v := .pointer none) rfl (by kernel_rfl) (by kernel_rfl) (by kernel_rfl) (fun _ _ _ h => hQ _ _ _ _ _ h) (Or.inl ⟨rfl, fun w => BigFrame.run_assign (.tmp 31) rfl w⟩) ?_
    go_frame
    refine wpAny_take (i := 7) (oi := { dst := some 38, op := Op.move (Operand.tmp 11), type := 29, pos := "law.go:91", after := #[{ on := 6, ground := Ground.guard }, { on := 14, ground := Ground.gcOnly Departure.lateStores }], guard := some (6, true) }) (v := .pointer none) rfl (by kernel_rfl) (by kernel_rfl) (by kernel_rfl) (fun _ _ _ h => hQ _ _ _ _ _ h) (Or.inl ⟨rfl, fun w => BigFrame.run_move (.tmp 11) rfl w⟩) ?_
    go_frame
    refine wpAny_take (i := 8) (oi := { dst := some 39, op := Op.binOp BinOp.eql 29 (Operand.tmp 38) (Operand.const (Value.pointer none)) 29, type := 4, pos := "law.go:91", after := #[{ on := 7, ground := Ground.data }, { on := 6, ground := Ground.guard }, { on := 14, ground := Ground.gcOnly Departure.lateStores }], guard := some (6, true) }) (v := .bool true) rfl (by kernel_rfl) (by kernel_rfl) (by kernel_rfl) (fun _ _ _ h => hQ _ _ _ _ _ h) (Or.inl ⟨rfl, fun w => (by go_simp; first | done | (with_reducible rfl))⟩) ?_
    go_frame
    refine wpAny_take (i := 9) (oi := { dst := some 40, op := Op.move (Operand.tmp 14), type := 3, pos := "law.go:91", after := #[{ on := 6, ground := Ground.guard }, { on := 14, ground := Ground.gcOnly Departure.lateStores }], guard := some (6, true) }) (v := .int .i64 2) rfl (by kernel_rfl) (by kernel_rfl) (by kernel_rfl) (fun _ _ _ h => hQ _ _ _ _ _ h) (Or.inl ⟨rfl, fun w => BigFrame.run_move (.tmp 14) rfl w⟩) ?_
    go_frame
    refine wpAny_take (i := 10) (oi := { dst := some 41, op := Op.binOp BinOp.neq 3 (Operand.tmp 40) (Operand.const (Value.int IntKind.i64 0)) 3, type := 4, pos := "law.go:91", after := #[{ on := 9, ground := Ground.data }, { on := 6, ground := Ground.guard }, { on := 14, ground := Ground.gcOnly Departure.lateStores }], guard := some (6, true) }) (v := .bool true) rfl (by kernel_rfl) (by kernel_rfl) (by kernel_rfl) (fun _ _ _ h => hQ _ _ _ _ _ h) (Or.inl ⟨rfl, fun w => (by go_simp; first | done | (with_reducible rfl))⟩) ?_
    go_frame
    refine wpAny_take (i := 11) (oi := { dst := some 42, op := Op.binOp BinOp.eql 4 (Operand.tmp 39) (Operand.tmp 41) 4, type := 4, pos := "law.go:91", after := #[{ on := 8, ground := Ground.data }, { on := 10, ground := Ground.data }, { on := 6, ground := Ground.guard }, { on := 14, ground := Ground.gcOnly Departure.lateStores }], guard := some (6, true) }) (v := .bool true) rfl (by kernel_rfl) (by kernel_rfl) (by kernel_rfl) (fun _ _ _ h => hQ _ _ _ _ _ h) (Or.inl ⟨rfl, fun w => (by go_simp; first | done | (with_reducible rfl))⟩) ?_
    go_frame
    refine wpAny_take (i := 12) (oi := { dst := some 43, op := Op.pick (Operand.tmp 37) (Operand.tmp 42) (Operand.const (Value.bool false)), type := 4, pos := "law.go:91", after := #[{ on := 6, ground := Ground.data }, { on := 11, ground := Ground.data }, { on := 14, ground := Ground.gcOnly Departure.lateStores }], guard := none }) (v := .bool true) rfl (by kernel_rfl) (by kernel_rfl) (by kernel_rfl) (fun _ _ _ h => hQ _ _ _ _ _ h) (Or.inl ⟨rfl, fun w => (by go_simp; first | done | (with_reducible rfl))⟩) ?_
    go_frame
    refine wpAny_ready (rs := [14]) (by kernel_rfl) (by simp) ?_
    refine step_store (o := { dst := none, op := Op.store 107 (Operand.tmp 9) (Operand.tmp 32), type := 0, pos := "law.go:91", after := #[{ on := 1, ground := Ground.data }, { on := 13, ground := Ground.chain }, { on := 0, ground := Ground.phase }, { on := 1, ground := Ground.phase }, { on := 2, ground := Ground.textOnly Departure.lateStores }, { on := 3, ground := Ground.textOnly Departure.lateStoresUnsure }, { on := 4, ground := Ground.textOnly Departure.lateStores }, { on := 5, ground := Ground.textOnly Departure.lateStores }, { on := 6, ground := Ground.textOnly Departure.lateStores }, { on := 7, ground := Ground.textOnly Departure.lateStores }, { on := 8, ground := Ground.textOnly Departure.lateStores }, { on := 9, ground := Ground.textOnly Departure.lateStores }, { on := 10, ground := Ground.textOnly Departure.lateStores }, { on := 11, ground := Ground.textOnly Departure.lateStores }, { on := 12, ground := Ground.textOnly Departure.lateStores }, { on := 13, ground := Ground.phase }], guard := none }) rfl rfl 107 (.tmp 9) (.tmp 32) rfl z 0 cs.toArray rfl rfl (by simpa [hl] using TZ) (by simpa [hl] using i107) ONE ?_
    go_frame
    refine wpAny_take (i := 15) (oi := { dst := some 10, op := Op.assign (Operand.tmp 43), type := 4, pos := "law.go:91", after := #[{ on := 12, ground := Ground.data }, { on := 14, ground := Ground.chain }, { on := 0, ground := Ground.phase }, { on := 1, ground := Ground.phase }, { on := 2, ground := Ground.phase }, { on := 3, ground := Ground.phase }, { on := 4, ground := Ground.phase }, { on := 5, ground := Ground.phase }, { on := 6, ground := Ground.phase }, { on := 7, ground := Ground.phase }, { on := 8, ground := Ground.phase }, { on := 9, ground := Ground.phase }, { on := 10, ground := Ground.phase }, { on := 11, ground := Ground.phase }, { on := 12, ground := Ground.phase }, { on := 13, ground := Ground.phase }, { on := 14, ground := Ground.phase }], guard := none }) (v := .bool true) rfl (by kernel_rfl) (by kernel_rfl) (by kernel_rfl) (fun _ _ _ h => hQ _ _ _ _ _ h) (Or.inl ⟨rfl, fun w => BigFrame.run_assign (.tmp 43) rfl w⟩) ?_
    go_frame
    refine wpAny_done (by kernel_rfl) ?_ _
    exact h
  · refine step_callR (o := { dst := some 34, op := Op.call { callee := Callee.value (Operand.func 28), args := #[Operand.tmp 33], argTypes := #[47] }, type := 3, pos := "law.go:91", after := #[{ on := 2, ground := Ground.data }], guard := none }) rfl rfl 28 #[.int .i64 2] (by go_simp; first | done | (with_reducible rfl)) (.int .i64 2) (NM _) ?_ AllReady.nil
    go_frame
    refine wpAny_take (i := 5) (oi := { dst := some 36, op := Op.binOp BinOp.eql 3 (Operand.tmp 34) (Operand.tmp 35) 3, type := 4, pos := "law.go:91", after := #[{ on := 3, ground := Ground.data }, { on := 4, ground := Ground.data }], guard := none }) (v := .bool true) rfl (by kernel_rfl) (by kernel_rfl) (by kernel_rfl) (fun _ _ _ h => hQ _ _ _ _ _ h) (Or.inl ⟨rfl, fun w => (by go_simp; first | done | (with_reducible rfl))⟩) ?_
    go_frame
    refine wpAny_take (i := 6) (oi := { dst := some 37, op := Op.move (Operand.tmp 36), type := 4, pos := "law.go:91", after := #[{ on := 5, ground := Ground.data }, { on := 3, ground := Ground.chain }], guard := none }) (v := .bool true) rfl (by kernel_rfl) (by kernel_rfl) (by kernel_rfl) (fun _ _ _ h => hQ _ _ _ _ _ h) (Or.inl ⟨rfl, fun w => BigFrame.run_move (.tmp 36) rfl w⟩) ?_
    go_frame
    refine wpAny_take (i := 13) (oi := { dst := some 8, op := Op.assign (Operand.tmp 31), type := 29, pos := "law.go:91", after := #[{ on := 0, ground := Ground.data }, { on := 6, ground := Ground.chain }, { on := 0, ground := Ground.phase }, { on := 1, ground := Ground.textOnly Departure.lateStores }, { on := 2, ground := Ground.textOnly Departure.lateStores }, { on := 3, ground := Ground.textOnly Departure.lateStoresUnsure }, { on := 4, ground := Ground.textOnly Departure.lateStores }, { on := 5, ground := Ground.textOnly Departure.lateStores }, { on := 6, ground := Ground.textOnly Departure.lateStores }, { on := 7, ground := Ground.textOnly Departure.lateStores }, { on := 8, ground := Ground.textOnly Departure.lateStores }, { on := 9, ground := Ground.textOnly Departure.lateStores }, { on := 10, ground := Ground.textOnly Departure.lateStores }, { on := 11, ground := Ground.textOnly Departure.lateStores }, { on := 12, ground := Ground.textOnly Departure.lateStores }], guard := none }) (v := .pointer none) rfl (by kernel_rfl) (by kernel_rfl) (by kernel_rfl) (fun _ _ _ h => hQ _ _ _ _ _ h) (Or.inl ⟨rfl, fun w => BigFrame.run_assign (.tmp 31) rfl w⟩) ?_
    go_frame
    refine wpAny_take (i := 7) (oi := { dst := some 38, op := Op.move (Operand.tmp 11), type := 29, pos := "law.go:91", after := #[{ on := 6, ground := Ground.guard }, { on := 14, ground := Ground.gcOnly Departure.lateStores }], guard := some (6, true) }) (v := .pointer none) rfl (by kernel_rfl) (by kernel_rfl) (by kernel_rfl) (fun _ _ _ h => hQ _ _ _ _ _ h) (Or.inl ⟨rfl, fun w => BigFrame.run_move (.tmp 11) rfl w⟩) ?_
    go_frame
    refine wpAny_take (i := 8) (oi := { dst := some 39, op := Op.binOp BinOp.eql 29 (Operand.tmp 38) (Operand.const (Value.pointer none)) 29, type := 4, pos := "law.go:91", after := #[{ on := 7, ground := Ground.data }, { on := 6, ground := Ground.guard }, { on := 14, ground := Ground.gcOnly Departure.lateStores }], guard := some (6, true) }) (v := .bool true) rfl (by kernel_rfl) (by kernel_rfl) (by kernel_rfl) (fun _ _ _ h => hQ _ _ _ _ _ h) (Or.inl ⟨rfl, fun w => (by go_simp; first | done | (with_reducible rfl))⟩) ?_
    go_frame
    refine wpAny_take (i := 9) (oi := { dst := some 40, op := Op.move (Operand.tmp 14), type := 3, pos := "law.go:91", after := #[{ on := 6, ground := Ground.guard }, { on := 14, ground := Ground.gcOnly Departure.lateStores }], guard := some (6, true) }) (v := .int .i64 2) rfl (by kernel_rfl) (by kernel_rfl) (by kernel_rfl) (fun _ _ _ h => hQ _ _ _ _ _ h) (Or.inl ⟨rfl, fun w => BigFrame.run_move (.tmp 14) rfl w⟩) ?_
    go_frame
    refine wpAny_take (i := 10) (oi := { dst := some 41, op := Op.binOp BinOp.neq 3 (Operand.tmp 40) (Operand.const (Value.int IntKind.i64 0)) 3, type := 4, pos := "law.go:91", after := #[{ on := 9, ground := Ground.data }, { on := 6, ground := Ground.guard }, { on := 14, ground := Ground.gcOnly Departure.lateStores }], guard := some (6, true) }) (v := .bool true) rfl (by kernel_rfl) (by kernel_rfl) (by kernel_rfl) (fun _ _ _ h => hQ _ _ _ _ _ h) (Or.inl ⟨rfl, fun w => (by go_simp; first | done | (with_reducible rfl))⟩) ?_
    go_frame
    refine wpAny_take (i := 11) (oi := { dst := some 42, op := Op.binOp BinOp.eql 4 (Operand.tmp 39) (Operand.tmp 41) 4, type := 4, pos := "law.go:91", after := #[{ on := 8, ground := Ground.data }, { on := 10, ground := Ground.data }, { on := 6, ground := Ground.guard }, { on := 14, ground := Ground.gcOnly Departure.lateStores }], guard := some (6, true) }) (v := .bool true) rfl (by kernel_rfl) (by kernel_rfl) (by kernel_rfl) (fun _ _ _ h => hQ _ _ _ _ _ h) (Or.inl ⟨rfl, fun w => (by go_simp; first | done | (with_reducible rfl))⟩) ?_
    go_frame
    refine wpAny_take (i := 12) (oi := { dst := some 43, op := Op.pick (Operand.tmp 37) (Operand.tmp 42) (Operand.const (Value.bool false)), type := 4, pos := "law.go:91", after := #[{ on := 6, ground := Ground.data }, { on := 11, ground := Ground.data }, { on := 14, ground := Ground.gcOnly Departure.lateStores }], guard := none }) (v := .bool true) rfl (by kernel_rfl) (by kernel_rfl) (by kernel_rfl) (fun _ _ _ h => hQ _ _ _ _ _ h) (Or.inl ⟨rfl, fun w => (by go_simp; first | done | (with_reducible rfl))⟩) ?_
    go_frame
    refine wpAny_ready (rs := [1]) (by kernel_rfl) (by simp) ?_
    refine step_loadR (o := { dst := some 32, op := Op.load 107 (Operand.tmp 13), type := 107, pos := "law.go:91", after := #[{ on := 13, ground := Ground.gcOnly Departure.lateStores }], guard := none }) rfl rfl 107 (.tmp 13) rfl y 0 rfl cs _ RG Tryz.underlying107 rfl (by rw [hl]; exact i107) ?_ AllReady.nil
    go_frame
    refine wpAny_ready (rs := [14]) (by kernel_rfl) (by simp) ?_
    refine step_store (o := { dst := none, op := Op.store 107 (Operand.tmp 9) (Operand.tmp 32), type := 0, pos := "law.go:91", after := #[{ on := 1, ground := Ground.data }, { on := 13, ground := Ground.chain }, { on := 0, ground := Ground.phase }, { on := 1, ground := Ground.phase }, { on := 2, ground := Ground.textOnly Departure.lateStores }, { on := 3, ground := Ground.textOnly Departure.lateStoresUnsure }, { on := 4, ground := Ground.textOnly Departure.lateStores }, { on := 5, ground := Ground.textOnly Departure.lateStores }, { on := 6, ground := Ground.textOnly Departure.lateStores }, { on := 7, ground := Ground.textOnly Departure.lateStores }, { on := 8, ground := Ground.textOnly Departure.lateStores }, { on := 9, ground := Ground.textOnly Departure.lateStores }, { on := 10, ground := Ground.textOnly Departure.lateStores }, { on := 11, ground := Ground.textOnly Departure.lateStores }, { on := 12, ground := Ground.textOnly Departure.lateStores }, { on := 13, ground := Ground.phase }], guard := none }) rfl rfl 107 (.tmp 9) (.tmp 32) rfl z 0 cs.toArray rfl rfl (by simpa [hl] using TZ) (by simpa [hl] using i107) ONE ?_
    go_frame
    refine wpAny_take (i := 15) (oi := { dst := some 10, op := Op.assign (Operand.tmp 43), type := 4, pos := "law.go:91", after := #[{ on := 12, ground := Ground.data }, { on := 14, ground := Ground.chain }, { on := 0, ground := Ground.phase }, { on := 1, ground := Ground.phase }, { on := 2, ground := Ground.phase }, { on := 3, ground := Ground.phase }, { on := 4, ground := Ground.phase }, { on := 5, ground := Ground.phase }, { on := 6, ground := Ground.phase }, { on := 7, ground := Ground.phase }, { on := 8, ground := Ground.phase }, { on := 9, ground := Ground.phase }, { on := 10, ground := Ground.phase }, { on := 11, ground := Ground.phase }, { on := 12, ground := Ground.phase }, { on := 13, ground := Ground.phase }, { on := 14, ground := Ground.phase }], guard := none }) (v := .bool true) rfl (by kernel_rfl) (by kernel_rfl) (by kernel_rfl) (fun _ _ _ h => hQ _ _ _ _ _ h) (Or.inl ⟨rfl, fun w => BigFrame.run_assign (.tmp 43) rfl w⟩) ?_
    go_frame
    refine wpAny_done (by kernel_rfl) ?_ _
    exact h
end Go.Proofs.YtmlnglillgplfaaGreat.Cl
namespace Go.Proofs.YtmlnglillgplfaaGreat.Cl
open Go.RowKit Go.Maps
set_option linter.unusedVariables false
theorem rcl_size (a hosts pat tries lim : Int) (s : Value) : (rcl a hosts pat tries lim s).size = 35 := rfl
theorem rcl_one (a hosts pat tries lim : Int) (ad : Option Addr) (n c : Nat) : (rcl a hosts pat tries lim (.slice ad n c)).all (·.oneCell') = true := by
  simp [rcl, Value.oneCell']
set_option maxRecDepth 100000 in
set_option maxHeartbeats 4000000 in
theorem made_ok (w : World) (a hosts pat tries : Int) (hN : NwOk a hosts pat tries) :
    Calls Tryz.prog 43 #[.int .u8 a, .int .i64 hosts, .int .i64 pat, .int .i64 tries] w fun e w' => ∃ b hb mb tv r, e = .returned (.tuple #[.pointer (some ⟨b, 0, none⟩), .agg (rcl a hosts pat tries 64 (.slice (some ⟨r, 0, none⟩) 1 1)), .bool true]) ∧ CB w' b (Cs.new hosts pat tries hb mb) ∧ Am w' mb 0 (.map []) ∧ Rg.Tb w.heap.size w' hb 64 tv [⟨0, 18446744073709551615, 0⟩] ∧ w'.heap[r]? = some (.cells #[.int .u64 0, .int .u64 18446744073709551615, .int .u8 0] 76 (0, 0)) ∧ w.heap.size ≤ b ∧ w.heap.size ≤ mb ∧ w.heap.size ≤ r ∧ Kp Nu w w' := by
  have mixed : Tryz.prog.follows .mixedOrders = true := by kernel_rfl
  have NC := fun W => new_client W a hosts pat tries hN.1.1 hN.1.2 hN.2.1.1 hN.2.1.2 hN.2.2.1.1 hN.2.2.1.2 hN.2.2.2.1 hN.2.2.2.2
  have RN := fun W => refNew_ok W a hosts pat tries hN
  have NM := fun W => num_any W 0
  clear hN
  go_enter Tryz.func43, Tryz.ntmps43
  go_wp2_with fail
  refine (NC _).mono ?_; rintro e w1 ⟨b, hb, mb, tv, rfl, hc1, hm1, hT1, hbl, hml, hk1⟩
  have hZ1 := new_at w _ hk1
  have HF1 := hide (And.intro hc1 (And.intro hm1 (And.intro hT1 (And.intro hbl (And.intro hml (And.intro hk1 hZ1))))))
  clear NC hc1 hm1 hT1 hbl hml hk1 hZ1
  go_wp2_with fail
  refine (RN _).mono ?_; rintro e w2 ⟨r, rfl, hr, hrl, hk2⟩
  have HF2 := hide (And.intro hr (And.intro hrl hk2))
  clear RN hr hrl hk2
  go_wp2_with (guard_target =~ wpList _ _ _ ({ dst := none, op := Op.store 107 (Operand.tmp 13) (Operand.tmp 29), type := _, pos := _, after := _, guard := _ } :: _) _ _; refine wpList_store_new 107 35 (.tmp 13) (.tmp 29) rfl rfl info107 _ _ _ rfl rfl (by simp) rfl rfl (rcl_one _ _ _ _ _ _ _ _) ?_)
  obtain ⟨hc1, hm1, hT1, hbl, hml, hk1, hZ1⟩ := HF1.out
  obtain ⟨hr, hrl, hk2⟩ := HF2.out
  have kA : Kp Nu w2 (w2.alloc (.cells (rcl a hosts pat tries 64 (.slice (some ⟨r, 0, none⟩) 1 1)) 107)) := Kp.alloc _ _ _
  have hZ3 := box_k hZ1 (hk2.andNu kA)
  have RG := range_of (w := (w2.alloc (.cells (rcl a hosts pat tries 64 (.slice (some ⟨r, 0, none⟩) 1 1)) 107)).drew) (b := w2.heap.size) (heap_new w2 (.cells (rcl a hosts pat tries 64 (.slice (some ⟨r, 0, none⟩) 1 1)) 107))
  have TZ := there_of (w := (w2.alloc (.cells (rcl a hosts pat tries 64 (.slice (some ⟨r, 0, none⟩) 1 1)) 107)).drew) hZ3 0 35 (Nat.le_refl _)
  have hw6 := setCells_all (w2.alloc (.cells (rcl a hosts pat tries 64 (.slice (some ⟨r, 0, none⟩) 1 1)) 107)).drew _ (rcl a hosts pat tries 64 (.slice (some ⟨r, 0, none⟩) 1 1)).toList hZ3 rfl
  have kS := kp_setCells (b := w.heap.size) (rcl a hosts pat tries 64 (.slice (some ⟨r, 0, none⟩) 1 1)).toList 0 (w2.alloc (.cells (rcl a hosts pat tries 64 (.slice (some ⟨r, 0, none⟩) 1 1)) 107)).drew
  have kD : Kp Nu (w2.alloc (.cells (rcl a hosts pat tries 64 (.slice (some ⟨r, 0, none⟩) 1 1)) 107)) (w2.alloc (.cells (rcl a hosts pat tries 64 (.slice (some ⟨r, 0, none⟩) 1 1)) 107)).drew := (Kp.refl Nu _).drew
  have HW := hide (And.intro hw6 (And.intro kS (And.intro kD kA)))
  clear hc1 hm1 hT1 hbl hml hk1 hZ1 hr hrl hk2 kA hZ3 hw6 kS kD
  refine ret43 (fun _ _ _ _ _ h => h) mixed b w.heap.size w2.heap.size (rcl a hosts pat tries 64 (.slice (some ⟨r, 0, none⟩) 1 1)).toList _ _ _ _ _ _ _ _ _ _ _ _ _ _ _ _ _ _ _ _ _ _ _ _ _ _ _ _ _ _ _ _ _ _ _ _ _ _ _ rfl RG TZ (by simpa using rcl_one _ _ _ _ _ _ _ _) NM info107 ?_
  clear RG TZ NM
  generalize ((w2.alloc (.cells (rcl a hosts pat tries 64 (.slice (some ⟨r, 0, none⟩) 1 1)) 107)).drew.setCells w.heap.size 0 (rcl a hosts pat tries 64 (.slice (some ⟨r, 0, none⟩) 1 1)).toList) = w6 at HW ⊢
  have HW6 : w6.heap[w.heap.size]? = some (.cells (rcl a hosts pat tries 64 (.slice (some ⟨r, 0, none⟩) 1 1)) 107 (0, 0)) := by simpa using HW.out.1
  have H6 := hide HW6
  clear HW6
  go_wp2
  refine bodyPost_ret (results_tct rfl _ _ ⟨w.heap.size, 0, none⟩ _ rfl (run_loadVar_row w6 w.heap.size 107 107 _ (0, 0) _ H6.out Tryz.underlying107 rfl info107)) rfl ?_
  obtain ⟨_, kS, kD, kA⟩ := HW.out
  obtain ⟨hc1, hm1, hT1, hbl, hml, hk1, hZ1⟩ := HF1.out
  obtain ⟨hr, hrl, hk2⟩ := HF2.out
  have hbl' : w.heap.size + 1 ≤ b := by simpa using hbl
  have hml' : w.heap.size + 1 ≤ mb := by simpa using hml
  have hs1 : w.heap.size + 1 ≤ w1.heap.size := by have := hk1.size; simpa using this
  have k16 : Kp (fun i => i = w.heap.size) w1 w6 := (((hk2.andNu kA).andNu kD).mono (fun _ _ h => h.elim)).trans kS (fun _ _ e => e)
  have k26 : Kp (fun i => i = w.heap.size) w2 w6 := ((kA.andNu kD).mono (fun _ _ h => h.elim)).trans kS (fun _ _ e => e)
  refine ⟨b, hb, mb, tv, r, rfl, hc1.kp k16 (fun e => by have e' : b = w.heap.size := e; omega), hm1.keep (k16.block _ hm1.lt (fun e => by have e' : mb = w.heap.size := e; omega)), tb_base (tb_kp hT1 k16 (tb_ne hT1 hZ1 (by decide)) (fun i hi c hx => by have hi' : i = w.heap.size := hi; rw [hi', hZ1] at hx; simp at hx)) (by simp), (k26.block _ (blk_lt hr) (fun e => by have e' : r = w.heap.size := e; omega)).trans hr, by omega, by omega, by omega, ?_⟩
  exact ((Kp.alloc w _ Nu).andNu hk1).trans k16 (fun i hi e => by have e' : i = w.heap.size := e; omega)
set_option maxRecDepth 100000 in
set_option maxHeartbeats 4000000 in
theorem made_bad (w : World) (a hosts pat tries : Int) (a0 : 0 ≤ a) (a1 : a < 256) (hN : ¬ NwOk a hosts pat tries) :
    Calls Tryz.prog 43 #[.int .u8 a, .int .i64 hosts, .int .i64 pat, .int .i64 tries] w fun e w' => e = .returned (.tuple #[.pointer none, .agg (rcl 0 0 0 0 0 (.slice none 0 0)), .bool true]) ∧ Kp Nu w w' := by
  have mixed : Tryz.prog.follows .mixedOrders = true := by kernel_rfl
  have NC := fun W => new_bad W a hosts pat tries a0 a1 hN
  have RN := fun W => refNew_bad W a hosts pat tries hN
  have NM := fun W => num_any W 2
  clear hN
  go_enter Tryz.func43, Tryz.ntmps43
  go_wp2_with fail
  refine (NC _).mono ?_; rintro e w' ⟨rfl, hw⟩
  obtain rfl := hw.symm
  clear NC hw
  go_wp2_with fail
  refine (RN _).mono ?_; rintro e w2 ⟨rfl, hk2⟩
  have hZ1 := new_at w _ hk2
  have HF1 := hide (And.intro hk2 hZ1)
  clear RN hk2 hZ1
  go_wp2_with (guard_target =~ wpList _ _ _ ({ dst := none, op := Op.store 107 (Operand.tmp 13) (Operand.tmp 29), type := _, pos := _, after := _, guard := _ } :: _) _ _; refine wpList_store_new 107 35 (.tmp 13) (.tmp 29) rfl rfl info107 _ _ _ rfl rfl (by simp) rfl rfl (rcl_one _ _ _ _ _ _ _ _) ?_)
  obtain ⟨hk2, hZ1⟩ := HF1.out
  have kA : Kp Nu w2 (w2.alloc (.cells (rcl 0 0 0 0 0 (.slice none 0 0)) 107)) := Kp.alloc _ _ _
  have hZ3 := box_k hZ1 kA
  have RG := range_of (w := (w2.alloc (.cells (rcl 0 0 0 0 0 (.slice none 0 0)) 107)).drew) (b := w2.heap.size) (heap_new w2 (.cells (rcl 0 0 0 0 0 (.slice none 0 0)) 107))
  have TZ := there_of (w := (w2.alloc (.cells (rcl 0 0 0 0 0 (.slice none 0 0)) 107)).drew) hZ3 0 35 (Nat.le_refl _)
  have hw6 := setCells_all (w2.alloc (.cells (rcl 0 0 0 0 0 (.slice none 0 0)) 107)).drew _ (rcl 0 0 0 0 0 (.slice none 0 0)).toList hZ3 rfl
  have kS := kp_setCells (b := w.heap.size) (rcl 0 0 0 0 0 (.slice none 0 0)).toList 0 (w2.alloc (.cells (rcl 0 0 0 0 0 (.slice none 0 0)) 107)).drew
  have kD : Kp Nu (w2.alloc (.cells (rcl 0 0 0 0 0 (.slice none 0 0)) 107)) (w2.alloc (.cells (rcl 0 0 0 0 0 (.slice none 0 0)) 107)).drew := (Kp.refl Nu _).drew
  have HW := hide (And.intro hw6 (And.intro kS (And.intro kD kA)))
  clear hZ1 hk2 kA hZ3 hw6 kS kD
  refine ret43n (fun _ _ _ _ _ h => h) mixed 0 w.heap.size w2.heap.size (rcl 0 0 0 0 0 (.slice none 0 0)).toList _ _ _ _ _ _ _ _ _ _ _ _ _ _ _ _ _ _ _ _ _ _ _ _ _ _ _ _ _ _ _ _ _ _ _ _ _ _ _ rfl RG TZ (by simpa using rcl_one _ _ _ _ _ _ _ _) NM info107 ?_
  clear RG TZ NM
  generalize ((w2.alloc (.cells (rcl 0 0 0 0 0 (.slice none 0 0)) 107)).drew.setCells w.heap.size 0 (rcl 0 0 0 0 0 (.slice none 0 0)).toList) = w6 at HW ⊢
  have HW6 : w6.heap[w.heap.size]? = some (.cells (rcl 0 0 0 0 0 (.slice none 0 0)) 107 (0, 0)) := by simpa using HW.out.1
  have H6 := hide HW6
  clear HW6
  go_wp2
  refine bodyPost_ret (results_tct rfl _ _ ⟨w.heap.size, 0, none⟩ _ rfl (run_loadVar_row w6 w.heap.size 107 107 _ (0, 0) _ H6.out Tryz.underlying107 rfl info107)) rfl ?_
  obtain ⟨_, kS, kD, kA⟩ := HW.out
  obtain ⟨hk2, hZ1⟩ := HF1.out
  have k26 : Kp (fun i => i = w.heap.size) w2 w6 := ((kA.andNu kD).mono (fun _ _ h => h.elim)).trans kS (fun _ _ e => e)
  exact ⟨rfl, ((Kp.alloc w _ Nu).andNu hk2).trans k26 (fun i hi e => by have e' : i = w.heap.size := e; omega)⟩
end Go.Proofs.YtmlnglillgplfaaGreat.Cl
namespace Go.Proofs.YtmlnglillgplfaaGreat.Cl
open Go.RowKit Go.Maps
set_option linter.unusedVariables false
/-- the document's client in memory, with nothing under way yet -/
def Rk (w : World) (b : Nat) (a hosts pat tries : Int) (s : Value) : Prop := w.heap[b]? = some (.cells (rcl a hosts pat tries 64 s) 107 (0, 0))
theorem Rk.nu {w w' : World} {b : Nat} {a hosts pat tries : Int} {s : Value} (h : Rk w b a hosts pat tries s) (k : Kp Nu w w') : Rk w' b a hosts pat tries s := (k.block b (blk_lt h) (fun h => h)).trans h
theorem Rk.req {w : World} {b : Nat} {a hosts pat tries : Int} {s : Value} (h : Rk w b a hosts pat tries s) : w.rangeAt b 8 [.int .u8 0, .int .u64 0, .int .u64 0, .slice none 0 0, .slice none 0 0, .bool false, .int .u8 0] := by
  intro j v hv
  have hj : j < 7 := (List.getElem?_eq_some_iff.1 hv).1
  have hc : j = 0 ∨ j = 1 ∨ j = 2 ∨ j = 3 ∨ j = 4 ∨ j = 5 ∨ j = 6 := by omega
  rcases hc with rfl | rfl | rfl | rfl | rfl | rfl | rfl <;>
  · simp only [List.getElem?_cons_succ, List.getElem?_cons_zero, Option.some.injEq] at hv
    subst hv
    exact cellAt h _ rfl
theorem refOutcome_idle {w : World} {b : Nat} {a hosts pat tries : Int} {s : Value} (h : Rk w b a hosts pat tries s) : Calls Tryz.prog 81 #[.pointer (some ⟨b, 0, none⟩)] w fun e w' => e = .returned (.agg #[.int .u8 0, .int .u64 0, .int .u8 0, .slice none 0 0, .slice none 0 0, .int .u64 0, .int .u8 0, .int .i64 0, .int .i64 0]) ∧ Kp Nu w w' := by
  have c7 := cellAt (h.nu (Kp.alloc w (.cells #[.int .u8 0, .int .u64 0, .int .u8 0, .slice none 0 0, .slice none 0 0, .int .u64 0, .int .u8 0, .int .i64 0, .int .i64 0] 55) Nu)) 7 (v := .int .i64 0) rfl
  clear h
  go_enter Tryz.func81, Tryz.ntmps81
  go_wp2_with (guard_target =~ wpList _ _ _ ({ dst := none, op := Op.store 55 (Operand.tmp 2) (Operand.tmp 11), type := _, pos := _, after := _, guard := _ } :: _) _ _; refine wpList_store_new 55 9 (.tmp 2) (.tmp 11) rfl rfl info55 _ _ _ rfl rfl (by simp) rfl rfl (by simp [Value.oneCell']) ?_)
  refine bodyPost_ret (results_cell_row rfl _ _ w.heap.size 55 _ _ _ rfl (heap_new w _) Tryz.underlying55 rfl info55) rfl ?_
  exact ⟨rfl, Kp.alloc _ _ _⟩
set_option maxHeartbeats 1000000 in
theorem request_new {w : World} {b hb mb : Nat} {hosts pat tries : Int} (h : CB w b (Cs.new hosts pat tries hb mb)) : Calls Tryz.prog 24 #[.pointer (some ⟨b, 0, none⟩)] w fun e w' => ∃ v o : Sl, e = .returned (.agg #[.int .u8 0, .int .u64 0, .int .u64 0, .slice v.a v.n v.c, .slice o.a o.n o.c, .bool false, .int .u8 0]) ∧ Bt w' v [] ∧ Bt w' o [] ∧ Kp Nu w w' := by
  obtain ⟨wa, hwa⟩ : ∃ wa, w.alloc (.cells #[.int .u8 0, .int .u64 0, .int .u64 0, .slice none 0 0, .slice none 0 0, .bool false, .int .u8 0] 26) = wa := ⟨_, rfl⟩
  have ka : Kp Nu w wa := by rw [← hwa]; exact Kp.alloc _ _ _
  have hz : wa.heap[w.heap.size]? = some (.cells #[.int .u8 0, .int .u64 0, .int .u64 0, .slice none 0 0, .slice none 0 0, .bool false, .int .u8 0] 26 (0, 0)) := by rw [← hwa]; exact heap_new w _
  have ha := h.nu ka
  have MA := made_any ha
  have c4 : wa.cell? ⟨b, 4, none⟩ = some (.int .u8 0) := ha.c_rk
  have c5 : wa.cell? ⟨b, 5, none⟩ = some (.int .u64 0) := ha.c_rkey
  have c6 : wa.cell? ⟨b, 6, none⟩ = some (.int .u64 0) := ha.c_rhi
  have c7 : wa.cell? ⟨b, 7, none⟩ = some (.slice none 0 0) := ha.c_rv
  have c8 : wa.cell? ⟨b, 8, none⟩ = some (.slice none 0 0) := ha.c_ro
  have c9 : wa.cell? ⟨b, 9, none⟩ = some (.bool false) := ha.c_rhas
  have c10 : wa.cell? ⟨b, 10, none⟩ = some (.int .u8 0) := ha.c_rlim
  have CP := fun W => copy_any W 0 0 0 0 false Sl.nil Sl.nil [] [] (.inl ⟨rfl, rfl⟩) (.inl ⟨rfl, rfl⟩) (Nat.zero_le _) (Nat.zero_le _)
  simp only [Sl.val, Sl.nil] at CP
  have HZ := hide hz
  have HA := hide ka
  clear h ha hz ka
  go_enter Tryz.func24, Tryz.ntmps24
  go_wp2_with fail
  refine MA.mono ?_; rintro e w' ⟨rfl, hw⟩
  obtain rfl := hw.symm
  clear MA hw
  go_wp2_with fail
  refine (CP _).mono ?_; rintro e w2 ⟨v, o, rfl, hv, ho, hk2⟩
  have HZ2 := hide (box_k HZ.out hk2)
  have HV := hide (And.intro hv (And.intro ho hk2))
  clear CP hv ho hk2 c4 c5 c6 c7 c8 c9 c10
  go_wp2_with (guard_target =~ wpList _ _ _ ({ dst := none, op := Op.store 26 (Operand.tmp 2) (Operand.tmp 11), type := _, pos := _, after := _, guard := _ } :: _) _ _; refine wpList_store_all 26 7 (.tmp 2) (.tmp 11) rfl rfl info26 w.heap.size _ rfl rfl HZ2.out rfl rfl (by simp [Value.oneCell']) ?_; intro W hW kW sW)
  refine bodyPost_ret (results_cell_row rfl _ _ w.heap.size 26 _ _ _ rfl hW Tryz.underlying26 rfl info26) rfl ?_
  obtain ⟨hv, ho, hk2⟩ := HV.out
  have nb5 : ∀ i, i = w.heap.size → ∀ c, w2.heap[i]? ≠ some (.cells c 5 (0, 0)) := fun i hi c hx => by rw [hi, HZ2.out] at hx; simp at hx
  exact ⟨v, o, rfl, hv.kp kW nb5, ho.kp kW nb5, (HA.out.andNu hk2).trans kW (fun i hi e => by have e' : i = w.heap.size := e; omega)⟩
theorem hints_any {w : World} {b B : Nat} {s : Cs} {tv : Value} {L : List Rg.Sg} (h : CB w b s) (hT : Rg.Tb B w s.hb 64 tv L) : Calls Tryz.prog 25 #[.pointer (some ⟨b, 0, none⟩)] w fun e w' => ∃ u, e = .returned u ∧ Hid (w'.ownsRow w.heap.size 76 3 u L.length (Rg.cells L)) ∧ Kp Nu w w' := by
  have MA := made_any h
  have c3 := h.c_hb
  have LA := Rg.list_any hT
  clear h hT
  go_enter Tryz.func25, Tryz.ntmps25
  go_wp2_with fail
  refine MA.mono ?_; rintro e w' ⟨rfl, hw⟩
  obtain rfl := hw.symm
  clear MA hw
  go_wp2_with fail
  refine LA.mono ?_; rintro e w2 ⟨u, rfl, hu, hk⟩
  obtain ⟨ad, cp, eu⟩ := own_slice hu
  have HU := hide (And.intro hu hk)
  subst eu
  clear LA hu hk
  go_wp2
  go_ret
  exact ⟨_, rfl, hide HU.out.1, kpR HU.out.2⟩
set_option maxHeartbeats 1000000 in
theorem sameSeg_one {w : World} {g r cap : Nat} {x y z : Int} (g0 : w.cell? ⟨g, 0, none⟩ = some (.int .u64 x)) (g1 : w.cell? ⟨g, 1, none⟩ = some (.int .u64 y)) (g2 : w.cell? ⟨g, 2, none⟩ = some (.int .u8 z)) (r0 : w.cell? ⟨r, 0, none⟩ = some (.int .u64 x)) (r1 : w.cell? ⟨r, 1, none⟩ = some (.int .u64 y)) (r2 : w.cell? ⟨r, 2, none⟩ = some (.int .u8 z)) :
    Calls Tryz.prog 80 #[.slice (some ⟨g, 0, none⟩) 1 cap, .slice (some ⟨r, 0, none⟩) 1 1] w fun e w' => e = .returned (.bool true) ∧ Kp Nu w w' := by
  have mixed : Tryz.prog.follows .mixedOrders = true := by kernel_rfl
  go_enter Tryz.func80, Tryz.ntmps80
  go_wp2
  go_loopw [5] (fun iv wr => (iv = .int .i64 0 ∧ wr = w) ∨ (iv = .int .i64 1 ∧ Kp Nu w wr)) (fun iv _ => 1 - (intOf iv).toNat)
  case atStart => exact .inl ⟨rfl, rfl⟩
  case round =>
    rcases hrel with ⟨rfl, rfl⟩ | ⟨rfl, hk⟩
    · go_wp2_with fail
      go_quiet (fail)
      go_wp2
      exact ⟨.inr ⟨by go_num, kp_drewN _ _⟩, by simp [intOf]⟩
    · have HK := hide hk
      clear hk g0 g1 g2 r0 r1 r2
      go_wp2
      go_ret
      exact ⟨rfl, HK.out⟩
theorem own_three {w : World} {B n : Nat} {u a b c : Value} (h : w.ownsRow B 76 3 u n [a, b, c]) (hn : n = 1) : ∃ g cap, u = .slice (some ⟨g, 0, none⟩) 1 cap ∧ w.cell? ⟨g, 0, none⟩ = some a ∧ w.cell? ⟨g, 1, none⟩ = some b ∧ w.cell? ⟨g, 2, none⟩ = some c := by
  subst hn
  rcases h.2 with ⟨rfl, h0⟩ | ⟨g, cap, cur, rfl, hb', hg, h1, h2, h3, h4⟩
  · omega
  · refine ⟨g, cap, rfl, ?_, ?_, ?_⟩
    · exact cellAt hg 0 (by have e := congrArg (fun l => l[0]?) h4; simpa using e)
    · exact cellAt hg 1 (by have e := congrArg (fun l => l[1]?) h4; simpa using e)
    · exact cellAt hg 2 (by have e := congrArg (fun l => l[2]?) h4; simpa using e)
/-- asks, of the hints -/
theorem asks7_new {w : World} {b hb mb B rb r : Nat} {a hosts pat tries : Int} {tv : Value} (h : CB w b (Cs.new hosts pat tries hb mb)) (hT : Rg.Tb B w hb 64 tv [⟨0, 18446744073709551615, 0⟩]) (hR : Rk w rb a hosts pat tries (.slice (some ⟨r, 0, none⟩) 1 1)) (hr : w.heap[r]? = some (.cells #[.int .u64 0, .int .u64 18446744073709551615, .int .u8 0] 76 (0, 0))) :
    Calls Tryz.prog 45 #[.pointer (some ⟨b, 0, none⟩), .pointer (some ⟨rb, 0, none⟩), .int .i64 7] w fun e w' => e = .returned (.bool true) ∧ Kp Nu w w' := by
  have HI := hints_any h hT
  have HR := hide (And.intro hR hr)
  clear h hT hR hr
  go_enter Tryz.func45, Tryz.ntmps45
  go_wp2_with fail
  refine HI.mono ?_; rintro e w2 ⟨u, rfl, HU, hk⟩
  obtain ⟨g, cap, rfl, g0, g1, g2⟩ := own_three HU.out rfl
  have hr2 := box_k HR.out.2 hk
  have c5 := cellAt (HR.out.1.nu hk) 5 (v := .slice (some ⟨r, 0, none⟩) 1 1) rfl
  have SS := sameSeg_one (cap := cap) g0 g1 g2 (cellAt hr2 0 rfl) (cellAt hr2 1 rfl) (cellAt hr2 2 rfl)
  have HK := hide hk
  clear HI HU hk hr2 g0 g1 g2
  go_wp2_with fail
  refine SS.mono ?_; rintro e w3 ⟨rfl, hk3⟩
  have HK3 := hide (HK.out.andNu hk3)
  clear SS hk3
  go_wp2
  go_ret
  exact ⟨rfl, HK3.out⟩
set_option maxRecDepth 100000 in
set_option maxHeartbeats 2000000 in
/-- asks, of the outcome and the request -/
theorem asks6_new {w : World} {b hb mb rb : Nat} {a hosts pat tries : Int} {s : Value} (h : CB w b (Cs.new hosts pat tries hb mb)) (hR : Rk w rb a hosts pat tries s) :
    Calls Tryz.prog 45 #[.pointer (some ⟨b, 0, none⟩), .pointer (some ⟨rb, 0, none⟩), .int .i64 6] w fun e w' => e = .returned (.bool true) ∧ Kp Nu w w' := by
  have mixed : Tryz.prog.follows .mixedOrders = true := by kernel_rfl
  have OU := outcome_ok h rfl rfl
  have RO := fun W (k : Kp Nu w W) => refOutcome_idle (hR.nu k)
  have RQ := fun W (k : Kp Nu w W) => request_new (h.nu k)
  have SO := fun W => sameOutcome_true W 0 0 0 0 0 0 0 [] none none none none 0 0 0 0 (.inl ⟨rfl, rfl⟩) (.inl ⟨rfl, rfl⟩) (fun _ h => by cases h)
  simp only [Cs.outc, Cs.new] at OU
  simp only [List.length_nil] at SO
  have HR := hide hR
  clear h hR
  go_enter Tryz.func45, Tryz.ntmps45
  go_wp2_with fail
  refine OU.mono ?_; rintro e w1 ⟨rfl, hk1⟩
  have k2 : Kp Nu w (w1.alloc (.cells #[.int .u8 0, .int .u64 0, .int .u8 0, .slice none 0 0, .slice none 0 0, .int .u64 0, .int .u8 0, .int .i64 0, .int .i64 0] 55)) := hk1.andAlloc _
  have b1 := hide (heap_new w1 (.cells #[.int .u8 0, .int .u64 0, .int .u8 0, .slice none 0 0, .slice none 0 0, .int .u64 0, .int .u8 0, .int .i64 0, .int .i64 0] 55))
  have RO2 := RO _ k2
  have K2 := hide k2
  clear OU RO hk1 k2
  go_wp2_with (guard_target =~ wpList _ _ _ ({ dst := none, op := Op.store 55 (Operand.tmp 8) (Operand.tmp 25), type := _, pos := _, after := _, guard := _ } :: _) _ _; refine wpList_store_new 55 9 (.tmp 8) (.tmp 25) rfl rfl info55 _ _ _ rfl rfl (by simp) rfl rfl (by simp [Value.oneCell']) ?_)
  refine RO2.mono ?_; rintro e w3 ⟨rfl, hk3⟩
  have K3 := hide (K2.out.andNu hk3)
  have K34 := hide ((K2.out.andNu hk3).andAlloc (.cells #[.int .u8 0, .int .u64 0, .int .u8 0, .slice none 0 0, .slice none 0 0, .int .u64 0, .int .u8 0, .int .i64 0, .int .i64 0] 55))
  have b2 := hide (heap_new w3 (.cells #[.int .u8 0, .int .u64 0, .int .u8 0, .slice none 0 0, .slice none 0 0, .int .u64 0, .int .u8 0, .int .i64 0, .int .i64 0] 55))
  have b14 := hide (box_k b1.out (hk3.andAlloc (.cells #[.int .u8 0, .int .u64 0, .int .u8 0, .slice none 0 0, .slice none 0 0, .int .u64 0, .int .u8 0, .int .i64 0, .int .i64 0] 55)))
  have RQ4 := RQ _ K34.out
  clear RO2 RQ b1 hk3 K2
  go_wp2_with (guard_target =~ wpList _ _ _ ({ dst := none, op := Op.store 55 (Operand.tmp 9) (Operand.tmp 27), type := _, pos := _, after := _, guard := _ } :: _) _ _; refine wpList_store_new 55 9 (.tmp 9) (.tmp 27) rfl rfl info55 _ _ _ rfl rfl (by simp) rfl rfl (by simp [Value.oneCell']) ?_)
  refine RQ4.mono ?_; rintro e w5 ⟨v, o, rfl, hv, ho, hk5⟩
  have k56 : Kp Nu w5 (w5.alloc (.cells #[.int .u8 0, .int .u64 0, .int .u64 0, .slice v.a v.n v.c, .slice o.a o.n o.c, .bool false, .int .u8 0] 26)) := Kp.alloc _ _ _
  have b3 := heap_new w5 (.cells #[.int .u8 0, .int .u64 0, .int .u64 0, .slice v.a v.n v.c, .slice o.a o.n o.c, .bool false, .int .u8 0] 26)
  have b16 := box_k b14.out (hk5.andNu k56)
  have b26 := box_k b2.out (hk5.andNu k56)
  have HF := hide (And.intro (hv.nu k56) (And.intro (ho.nu k56) (And.intro b3 ((K34.out.andNu hk5).andNu k56))))
  have SO6 := SO (w5.alloc (.cells #[.int .u8 0, .int .u64 0, .int .u64 0, .slice v.a v.n v.c, .slice o.a o.n o.c, .bool false, .int .u8 0] 26))
  have B16 := hide b16
  have B26 := hide b26
  clear RQ4 SO b14 b2 hv ho hk5 k56 b3 K3 K34 b16 b26
  go_wp2_with (first | (guard_target =~ wpList _ _ _ ({ dst := none, op := Op.store 26 (Operand.tmp 10) (Operand.tmp 29), type := _, pos := _, after := _, guard := _ } :: _) _ _; refine wpList_store_new 26 7 (.tmp 10) (.tmp 29) rfl rfl info26 _ _ _ rfl rfl (by simp) rfl rfl (by simp [Value.oneCell']) ?_) | (guard_target =~ wpList _ _ _ ({ dst := _, op := Op.load 55 (Operand.tmp 8), type := _, pos := _, after := _, guard := _ } :: _) _ _; refine wpList_load_all 55 9 (.tmp 8) rfl rfl info55 _ Tryz.underlying55 rfl _ rfl B16.out rfl ?_) | (guard_target =~ wpList _ _ _ ({ dst := _, op := Op.load 55 (Operand.tmp 9), type := _, pos := _, after := _, guard := _ } :: _) _ _; refine wpList_load_all 55 9 (.tmp 9) rfl rfl info55 _ Tryz.underlying55 rfl _ rfl B26.out rfl ?_))
  refine SO6.mono ?_; rintro e w7 ⟨rfl, hk7⟩
  have HK7 := hide hk7
  clear SO6 hk7 B16 B26
  obtain ⟨hv, ho, b3, k6⟩ := HF.out
  have hvn : v.n = 0 := hv.n
  have hon : o.n = 0 := ho.n
  have hR7 := HR.out.nu (k6.andNu HK7.out)
  have b37 := box_k b3 HK7.out
  have dk : Kp Nu w7 { w7 with drawn := w7.drawn + 1 } := ⟨rfl, rfl, rfl, Nat.le_refl _, fun _ _ _ => rfl⟩
  have SR := sameRequest_true { w7 with drawn := w7.drawn + 1 } 0 0 0 0 false [] [] v.a none o.a none v.c 0 o.c 0 (by have := ((hv.nu HK7.out).nu dk).rd; simpa [Sl.val, hvn] using this) (.inl ⟨rfl, rfl⟩) (by have := ((ho.nu HK7.out).nu dk).rd; simpa [Sl.val, hon] using this) (.inl ⟨rfl, rfl⟩) (fun _ h => by cases h) (fun _ h => by cases h)
  simp only [List.length_nil] at SR
  rw [hvn, hon] at b37
  have HB := hide (And.intro b37 (And.intro hR7 (k6.andNu HK7.out)))
  have rbn := hR7
  clear hv ho b3 k6 hvn hon hR7 b37 HF
  go_wp2_with fail
  refine wp_region_still_tail 5 mixed (by kernel_rfl) ?_
  simp only [List.take_succ_cons, List.take_zero, List.drop_succ_cons, List.drop_zero]
  refine wpStill_load 26 7 (.tmp 10) rfl rfl info26 _ Tryz.underlying26 rfl w5.heap.size 0 rfl [.int .u8 0, .int .u64 0, .int .u64 0, .slice v.a 0 v.c, .slice o.a 0 o.c, .bool false, .int .u8 0] (range_drawn (range_of HB.out.1)) rfl ?_
  still_step
  still_step
  still_step
  refine wpStill_load 26 7 (.tmp 36) rfl rfl info26 _ Tryz.underlying26 rfl rb 8 rfl [.int .u8 0, .int .u64 0, .int .u64 0, .slice none 0 0, .slice none 0 0, .bool false, .int .u8 0] (range_drawn HB.out.2.1.req) rfl ?_
  refine wpStill_nil ?_
  clear rbn
  go_wp2_with fail
  refine SR.mono ?_; rintro e w8 ⟨rfl, hk8⟩
  have HK8 := hide ((HB.out.2.2.andNu dk).andNu hk8)
  clear SR hk8 dk
  go_wp2
  go_ret
  exact ⟨rfl, HK8.out⟩
end Go.Proofs.YtmlnglillgplfaaGreat.Cl
