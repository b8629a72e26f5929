import Derived.Test.YtmlnglillgplfaaGreatCtR
import Derived.Test.YtmlnglillgplfaaGreatCtI
import Derived.Test.YtmlnglillgplfaaGreatRgV
import Derived.BigRegion
namespace Go.Proofs.YtmlnglillgplfaaGreat.Cl
open Go.RowKit Go.Maps
set_option linter.unusedVariables false
theorem info107 : (Tryz.prog.info? 107).map (·.size) = some 35 := by kernel_rfl
theorem info73 : (Tryz.prog.info? 73).map (·.size) = some 2 := by kernel_rfl
/-- the document's client that has nothing under way yet -/
def rcl (a hosts pat tries lim : Int) (s : Value) : Array Value := #[.int .u8 a, .int .i64 hosts, .int .i64 pat, .int .i64 tries, .int .i64 lim, s, .int .u64 0, .int .i64 0, .int .u8 0, .int .u64 0, .int .u64 0, .slice none 0 0, .slice none 0 0, .bool false, .int .u8 0, .slice none 0 0, .int .i64 0, .int .u8 0, .int .u64 0, .int .u64 0, .int .u64 0, .slice none 0 0, .slice none 0 0, .bool false, .int .u8 0, .int .u8 0, .int .u8 0, .int .u32 0, .int .u32 0, .int .u64 0, .int .u8 0, .slice none 0 0, .slice none 0 0, .slice none 0 0, .int .u8 0]
/-- may New be asked so? -/
def NwOk (a hosts pat tries : Int) : Prop := (16 ≤ a ∧ a ≤ 31) ∧ (1 ≤ hosts ∧ hosts ≤ 16) ∧ (1 ≤ pat ∧ pat ≤ 64) ∧ (1 ≤ tries ∧ tries ≤ 64)
theorem role_any (w : World) (a : Int) (a0 : 0 ≤ a) (a1 : a < 256) : Calls Tryz.prog 67 #[.int .u8 a] w fun e w' => ∃ r, e = .returned (.int .u8 r) ∧ Hid ((r == 2) = decide (16 ≤ a ∧ a ≤ 31)) ∧ w' = w := by
  by_cases c0 : a < 16
  · go_enter Tryz.func67, Tryz.ntmps67
    go_wp2
    go_ret
    exact ⟨_, rfl, hide (by simp; omega), rfl⟩
  · by_cases c1 : a < 32
    · go_enter Tryz.func67, Tryz.ntmps67
      go_wp2
      go_ret
      exact ⟨_, rfl, hide (by simp; omega), rfl⟩
    · by_cases c2 : a < 33
      · go_enter Tryz.func67, Tryz.ntmps67
        go_wp2
        go_ret
        exact ⟨_, rfl, hide (by simp; omega), rfl⟩
      · go_enter Tryz.func67, Tryz.ntmps67
        go_wp2
        go_ret
        exact ⟨_, rfl, hide (by simp; omega), rfl⟩
set_option maxRecDepth 100000 in
set_option maxHeartbeats 2000000 in
theorem new_bad (w : World) (a hosts pat tries : Int) (a0 : 0 ≤ a) (a1 : a < 256) (hb : ¬ NwOk a hosts pat tries) :
    Calls Tryz.prog 32 #[.int .u8 a, .int .i64 hosts, .int .i64 pat, .int .i64 tries] w fun e w' => e = .returned (.tuple #[.pointer none, .int .i64 2]) ∧ w' = w := by
  have RO := fun W => role_any W a a0 a1
  have HB := hide hb
  clear hb
  go_enter Tryz.func32, Tryz.ntmps32
  go_wp2_with fail
  refine (RO _).mono ?_; rintro e w' ⟨r, rfl, HR, hw⟩
  obtain rfl := hw.symm
  clear RO hw
  by_cases c : 16 ≤ a ∧ a ≤ 31
  · have hr : (r == 2) = true := by rw [HR.out]; simpa using c
    have HC := hide c
    clear c
    by_cases g0 : hosts ≥ 1
    · skip
      by_cases g1 : hosts ≤ 16
      · skip
        by_cases g2 : pat ≥ 1
        · skip
          by_cases g3 : pat ≤ 64
          · skip
            by_cases g4 : tries ≥ 1
            · skip
              by_cases g5 : tries ≤ 64
              · exact absurd (⟨HC.out, by omega, by omega, by omega⟩ : NwOk a hosts pat tries) HB.out
              · have hd : decide (tries ≤ 64) = false := by simpa using g5
                go_wp2
                go_ret2
                exact ⟨rfl, rfl⟩
            · have hd : decide (tries ≥ 1) = false := by simpa using g4
              go_wp2
              go_ret2
              exact ⟨rfl, rfl⟩
          · have hd : decide (pat ≤ 64) = false := by simpa using g3
            go_wp2
            go_ret2
            exact ⟨rfl, rfl⟩
        · have hd : decide (pat ≥ 1) = false := by simpa using g2
          go_wp2
          go_ret2
          exact ⟨rfl, rfl⟩
      · have hd : decide (hosts ≤ 16) = false := by simpa using g1
        go_wp2
        go_ret2
        exact ⟨rfl, rfl⟩
    · have hd : decide (hosts ≥ 1) = false := by simpa using g0
      go_wp2
      go_ret2
      exact ⟨rfl, rfl⟩
  · have hr : (r == 2) = false := by rw [HR.out]; simpa using c
    go_wp2
    go_ret2
    exact ⟨rfl, rfl⟩
theorem refHost0 (w : World) : Calls Tryz.prog 100 #[.int .u8 0] w fun e w' => e = .returned (.bool true) ∧ w' = w := by
  go_enter Tryz.func100, Tryz.ntmps100
  go_wp2
  go_ret
  exact ⟨rfl, rfl⟩
/-- the document's table of one segment -/
structure Rt (w : World) (s : Value) (B : Nat) : Prop where
  out : ∃ r, s = .slice (some ⟨r, 0, none⟩) 1 1 ∧ w.heap[r]? = some (.cells #[.int .u64 0, .int .u64 18446744073709551615, .int .u8 0] 76 (0, 0)) ∧ B ≤ r
theorem Rt.nu {w w' : World} {s : Value} {B : Nat} (h : Rt w s B) (k : Kp Nu w w') : Rt w' s B := by
  obtain ⟨r, e, hb, hl⟩ := h.out
  exact ⟨r, e, (k.block _ (blk_lt hb) (fun h => h)).trans hb, hl⟩
set_option maxHeartbeats 1000000 in
theorem refTab (w : World) : Calls Tryz.prog 66 #[.int .u8 0, .int .i64 64] w fun e w' => ∃ r, e = .returned (.tuple #[.agg #[.int .i64 64, .slice (some ⟨r, 0, none⟩) 1 1], .int .i64 0]) ∧ w'.heap[r]? = some (.cells #[.int .u64 0, .int .u64 18446744073709551615, .int .u8 0] 76 (0, 0)) ∧ w.heap.size ≤ r ∧ Kp Nu w w' := by
  have IH := refHost0
  go_enter Tryz.func66, Tryz.ntmps66
  go_wp2_with fail
  refine (IH _).mono ?_; rintro e w' ⟨rfl, hw⟩
  obtain rfl := hw.symm
  clear IH hw
  go_wp2
  refine bodyPost_ret (results_two rfl _ _ ⟨w.heap.size, 0, none⟩ _ _ rfl rfl (run_loadVar_row _ w.heap.size 73 73 _ (0, 0) _ (new12 w _ _) Tryz.underlying73 rfl info73)) rfl ?_
  exact ⟨w.heap.size + 1, rfl, new2 w _ _, by omega, (Kp.alloc _ _ _).andAlloc _⟩
set_option maxRecDepth 100000 in
set_option maxHeartbeats 2000000 in
theorem refNew_ok (w : World) (a hosts pat tries : Int) (hb : NwOk a hosts pat tries) :
    Calls Tryz.prog 71 #[.int .u8 a, .int .i64 hosts, .int .i64 pat, .int .i64 tries] w fun e w' => ∃ r, e = .returned (.tuple #[.agg (rcl a hosts pat tries 64 (.slice (some ⟨r, 0, none⟩) 1 1)), .int .i64 0]) ∧ w'.heap[r]? = some (.cells #[.int .u64 0, .int .u64 18446744073709551615, .int .u8 0] 76 (0, 0)) ∧ w.heap.size ≤ r ∧ Kp Nu w w' := by
  have RT := refTab
  obtain ⟨⟨b0, b1⟩, ⟨b2, b3⟩, ⟨b4, b5⟩, b6, b7⟩ := hb
  have n0 : ¬ a < 16 := by omega
  have n1 : ¬ a > 31 := by omega
  have n2 : ¬ hosts < 1 := by omega
  have n3 : ¬ hosts > 16 := by omega
  have n4 : ¬ pat < 1 := by omega
  have n5 : ¬ pat > 64 := by omega
  have n6 : ¬ tries < 1 := by omega
  have n7 : ¬ tries > 64 := by omega
  clear b0 b1 b2 b3 b4 b5 b6 b7
  go_enter Tryz.func71, Tryz.ntmps71
  go_wp2_with fail
  refine (RT _).mono ?_; rintro e w2 ⟨r, rfl, hr, hrl, hk2⟩
  have hz := new_at w _ hk2
  have HZ := hide (box_k hz (Kp.alloc w2 (.cells #[.int .i64 64, .slice (some ⟨r, 0, none⟩) 1 1] 73) Nu))
  have HR := hide (And.intro hr (And.intro hrl hk2))
  clear RT hr hrl hk2 hz
  go_wp2_with (first | (guard_target =~ wpList _ _ _ ({ dst := none, op := Op.store 73 (Operand.tmp 10) (Operand.tmp 45), type := _, pos := _, after := _, guard := _ } :: _) _ _; refine wpList_store_new 73 2 (.tmp 10) (.tmp 45) rfl rfl info73 _ _ _ rfl rfl (by simp) rfl rfl (by simp [Value.oneCell']) ?_) | (guard_target =~ wpList _ _ _ ({ dst := none, op := Op.store 107 (Operand.tmp 8) (Operand.tmp 52), type := _, pos := _, after := _, guard := _ } :: _) _ _; refine wpList_store_all 107 35 (.tmp 8) (.tmp 52) rfl rfl info107 w.heap.size _ rfl rfl HZ.out rfl rfl (by simp [Value.oneCell']) ?_; intro W hW kW sW))
  refine bodyPost_ret (results_two rfl _ _ ⟨w.heap.size, 0, none⟩ _ _ rfl rfl (run_loadVar_row W w.heap.size 107 107 _ (0, 0) _ hW Tryz.underlying107 rfl info107)) rfl ?_
  obtain ⟨hr, hrl, hk2⟩ := HR.out
  have hrl' : w.heap.size + 1 ≤ r := by simpa using hrl
  have kA := Kp.alloc w2 (.cells #[.int .i64 64, .slice (some ⟨r, 0, none⟩) 1 1] 73) Nu
  refine ⟨r, rfl, (kW.block _ (Nat.lt_of_lt_of_le (blk_lt hr) kA.size) (fun e => by have e' : r = w.heap.size := e; omega)).trans ((kA.block _ (blk_lt hr) (fun h => h)).trans hr), by omega, ?_⟩
  exact (((Kp.alloc w _ Nu).andNu hk2).andNu kA).trans kW (fun i hi e => by have e' : i = w.heap.size := e; omega)
set_option maxRecDepth 100000 in
set_option maxHeartbeats 4000000 in
theorem refNew_bad (w : World) (a hosts pat tries : Int) (hb : ¬ NwOk a hosts pat tries) :
    Calls Tryz.prog 71 #[.int .u8 a, .int .i64 hosts, .int .i64 pat, .int .i64 tries] w fun e w' => e = .returned (.tuple #[.agg (rcl 0 0 0 0 0 (.slice none 0 0)), .int .i64 2]) ∧ Kp Nu w w' := by
  have HB := hide hb
  clear hb
  by_cases g0 : a < 16
  · have hd : decide (a < 16) = true := by simpa using g0
    go_enter Tryz.func71, Tryz.ntmps71
    go_wp2_with (guard_target =~ wpList _ _ _ ({ dst := none, op := Op.store 107 (Operand.tmp 8) (Operand.tmp 42), type := _, pos := _, after := _, guard := _ } :: _) _ _; refine wpList_store_new 107 35 (.tmp 8) (.tmp 42) rfl rfl info107 _ _ _ rfl rfl (by simp) rfl rfl (by simp [Value.oneCell']) ?_)
    refine bodyPost_ret (results_two rfl _ _ ⟨w.heap.size, 0, none⟩ _ _ rfl rfl (run_loadVar_row _ w.heap.size 107 107 _ (0, 0) _ (heap_new w _) Tryz.underlying107 rfl info107)) rfl ?_
    exact ⟨rfl, Kp.alloc _ _ _⟩
  by_cases g1 : a > 31
  · have hd : decide (a > 31) = true := by simpa using g1
    go_enter Tryz.func71, Tryz.ntmps71
    go_wp2_with (guard_target =~ wpList _ _ _ ({ dst := none, op := Op.store 107 (Operand.tmp 8) (Operand.tmp 42), type := _, pos := _, after := _, guard := _ } :: _) _ _; refine wpList_store_new 107 35 (.tmp 8) (.tmp 42) rfl rfl info107 _ _ _ rfl rfl (by simp) rfl rfl (by simp [Value.oneCell']) ?_)
    refine bodyPost_ret (results_two rfl _ _ ⟨w.heap.size, 0, none⟩ _ _ rfl rfl (run_loadVar_row _ w.heap.size 107 107 _ (0, 0) _ (heap_new w _) Tryz.underlying107 rfl info107)) rfl ?_
    exact ⟨rfl, Kp.alloc _ _ _⟩
  by_cases g2 : hosts < 1
  · have hd : decide (hosts < 1) = true := by simpa using g2
    go_enter Tryz.func71, Tryz.ntmps71
    go_wp2_with (guard_target =~ wpList _ _ _ ({ dst := none, op := Op.store 107 (Operand.tmp 8) (Operand.tmp 42), type := _, pos := _, after := _, guard := _ } :: _) _ _; refine wpList_store_new 107 35 (.tmp 8) (.tmp 42) rfl rfl info107 _ _ _ rfl rfl (by simp) rfl rfl (by simp [Value.oneCell']) ?_)
    refine bodyPost_ret (results_two rfl _ _ ⟨w.heap.size, 0, none⟩ _ _ rfl rfl (run_loadVar_row _ w.heap.size 107 107 _ (0, 0) _ (heap_new w _) Tryz.underlying107 rfl info107)) rfl ?_
    exact ⟨rfl, Kp.alloc _ _ _⟩
  by_cases g3 : hosts > 16
  · have hd : decide (hosts > 16) = true := by simpa using g3
    go_enter Tryz.func71, Tryz.ntmps71
    go_wp2_with (guard_target =~ wpList _ _ _ ({ dst := none, op := Op.store 107 (Operand.tmp 8) (Operand.tmp 42), type := _, pos := _, after := _, guard := _ } :: _) _ _; refine wpList_store_new 107 35 (.tmp 8) (.tmp 42) rfl rfl info107 _ _ _ rfl rfl (by simp) rfl rfl (by simp [Value.oneCell']) ?_)
    refine bodyPost_ret (results_two rfl _ _ ⟨w.heap.size, 0, none⟩ _ _ rfl rfl (run_loadVar_row _ w.heap.size 107 107 _ (0, 0) _ (heap_new w _) Tryz.underlying107 rfl info107)) rfl ?_
    exact ⟨rfl, Kp.alloc _ _ _⟩
  by_cases g4 : pat < 1
  · have hd : decide (pat < 1) = true := by simpa using g4
    go_enter Tryz.func71, Tryz.ntmps71
    go_wp2_with (guard_target =~ wpList _ _ _ ({ dst := none, op := Op.store 107 (Operand.tmp 8) (Operand.tmp 42), type := _, pos := _, after := _, guard := _ } :: _) _ _; refine wpList_store_new 107 35 (.tmp 8) (.tmp 42) rfl rfl info107 _ _ _ rfl rfl (by simp) rfl rfl (by simp [Value.oneCell']) ?_)
    refine bodyPost_ret (results_two rfl _ _ ⟨w.heap.size, 0, none⟩ _ _ rfl rfl (run_loadVar_row _ w.heap.size 107 107 _ (0, 0) _ (heap_new w _) Tryz.underlying107 rfl info107)) rfl ?_
    exact ⟨rfl, Kp.alloc _ _ _⟩
  by_cases g5 : pat > 64
  · have hd : decide (pat > 64) = true := by simpa using g5
    go_enter Tryz.func71, Tryz.ntmps71
    go_wp2_with (guard_target =~ wpList _ _ _ ({ dst := none, op := Op.store 107 (Operand.tmp 8) (Operand.tmp 42), type := _, pos := _, after := _, guard := _ } :: _) _ _; refine wpList_store_new 107 35 (.tmp 8) (.tmp 42) rfl rfl info107 _ _ _ rfl rfl (by simp) rfl rfl (by simp [Value.oneCell']) ?_)
    refine bodyPost_ret (results_two rfl _ _ ⟨w.heap.size, 0, none⟩ _ _ rfl rfl (run_loadVar_row _ w.heap.size 107 107 _ (0, 0) _ (heap_new w _) Tryz.underlying107 rfl info107)) rfl ?_
    exact ⟨rfl, Kp.alloc _ _ _⟩
  by_cases g6 : tries < 1
  · have hd : decide (tries < 1) = true := by simpa using g6
    go_enter Tryz.func71, Tryz.ntmps71
    go_wp2_with (guard_target =~ wpList _ _ _ ({ dst := none, op := Op.store 107 (Operand.tmp 8) (Operand.tmp 42), type := _, pos := _, after := _, guard := _ } :: _) _ _; refine wpList_store_new 107 35 (.tmp 8) (.tmp 42) rfl rfl info107 _ _ _ rfl rfl (by simp) rfl rfl (by simp [Value.oneCell']) ?_)
    refine bodyPost_ret (results_two rfl _ _ ⟨w.heap.size, 0, none⟩ _ _ rfl rfl (run_loadVar_row _ w.heap.size 107 107 _ (0, 0) _ (heap_new w _) Tryz.underlying107 rfl info107)) rfl ?_
    exact ⟨rfl, Kp.alloc _ _ _⟩
  by_cases g7 : tries > 64
  · have hd : decide (tries > 64) = true := by simpa using g7
    go_enter Tryz.func71, Tryz.ntmps71
    go_wp2_with (guard_target =~ wpList _ _ _ ({ dst := none, op := Op.store 107 (Operand.tmp 8) (Operand.tmp 42), type := _, pos := _, after := _, guard := _ } :: _) _ _; refine wpList_store_new 107 35 (.tmp 8) (.tmp 42) rfl rfl info107 _ _ _ rfl rfl (by simp) rfl rfl (by simp [Value.oneCell']) ?_)
    refine bodyPost_ret (results_two rfl _ _ ⟨w.heap.size, 0, none⟩ _ _ rfl rfl (run_loadVar_row _ w.heap.size 107 107 _ (0, 0) _ (heap_new w _) Tryz.underlying107 rfl info107)) rfl ?_
    exact ⟨rfl, Kp.alloc _ _ _⟩
  exact absurd (⟨⟨by omega, by omega⟩, ⟨by omega, by omega⟩, ⟨by omega, by omega⟩, by omega, by omega⟩ : NwOk a hosts pat tries) HB.out
end Go.Proofs.YtmlnglillgplfaaGreat.Cl
namespace Go.Proofs.YtmlnglillgplfaaGreat.Cl
open Go.RowKit Go.Maps
set_option linter.unusedVariables false
section
variable {P : Program} {md : Region.Mode} {ops : Array Oper} {Q : Exit → Act → World → Prop} {fuel : Nat} {listed : Array Bool} {a : Act} {w : World} {i : Nat} {o : Oper} {rs : List Nat}
theorem step_loadR (ho : ops[i]? = some o) (hg : o.guard = none) (ty : TypeId) (x : Operand) (hop : o.op = .load ty x) (b of : Nat) (hx : a.eval x = .pointer (some ⟨b, of, none⟩)) (cs : List Value) (d : TypeDesc) (hc : w.rangeAt b of cs) (hu : P.underlying ty = some d) (hd : d.isRow = true) (hi : (P.info? ty).map (·.size) = some cs.length)
    (h : wpAny P md ops Q fuel (listed.setIfInBounds i true) (a.put o.dst (.agg cs.toArray)) w) (hs : AllReady P md ops Q fuel listed a w rs) : AllReady P md ops Q fuel listed a w (i :: rs) :=
  AllReady.cons ho (fun K hK => step_plain hg (wp_load_mid ty x hop b of hx cs d hc hu hd hi (hK _ _ h))) hs
theorem step_callR (ho : ops[i]? = some o) (hg : o.guard = none) (f : FuncId) (args : Array Value) (hx : (execOp a.eval o).run P w = .ok (.enter f args) w) (v : Value) (hC : Calls P f args w fun e w' => e = .returned v ∧ w' = w)
    (h : wpAny P md ops Q fuel (listed.setIfInBounds i true) (a.put o.dst v) w) (hs : AllReady P md ops Q fuel listed a w rs) : AllReady P md ops Q fuel listed a w (i :: rs) :=
  AllReady.cons ho (fun K hK => step_plain hg (by
    unfold Oper.wp
    rw [hx, Oper.upon_enter]
    refine hC.mono ?_
    rintro e w' ⟨rfl, rfl⟩
    exact hK _ _ h)) hs
end
set_option maxRecDepth 100000 in
set_option maxHeartbeats 4000000 in
theorem ret43 {Q : Exit → Act → World → Prop} {W : World} {ds : List Deferred} (hQ : ∀ c a d v w, Q (.panic c) (a.put (some d) v) w → Q (.panic c) a w) (mixed : Tryz.prog.follows .mixedOrders = true) (b z y : Nat) (cs : List Value) (s0 s1 s2 s3 s4 s5 s6 s7 s8 s10 s15 s16 s17 s18 s19 s20 s21 s22 s23 s24 s25 s26 s27 s28 s29 s30 s31 s32 s33 s34 s35 s36 s37 s38 s39 s40 s41 s42 s43 : Value) (hl : cs.length = 35) (RG : W.drew.rangeAt y 0 cs) (TZ : W.drew.there z 0 35) (ONE : cs.toArray.all (·.oneCell') = true) (NM : ∀ w, Calls Tryz.prog 28 #[.int .i64 0] w fun e w' => e = .returned (.int .i64 0) ∧ w' = w) (i107 : (Tryz.prog.info? 107).map (·.size) = some 35)
    (h : Q .normal { tmps := #[s0, s1, s2, s3, s4, s5, s6, s7, .pointer (some ⟨b, 0, none⟩), .pointer (some ⟨z, 0, none⟩), .bool true, .pointer (some ⟨b, 0, none⟩), .int .i64 0, .pointer (some ⟨y, 0, none⟩), .int .i64 0, s15, s16, s17, s18, s19, s20, s21, s22, s23, s24, s25, s26, s27, s28, s29, s30, .pointer (some ⟨b, 0, none⟩), .agg cs.toArray, .int .i64 0, .int .i64 0, .int .i64 0, .bool true, .bool true, .pointer (some ⟨b, 0, none⟩), .bool false, .int .i64 0, .bool false, .bool true, .bool true], defers := ds } (W.drew.setCells z 0 cs)) :
    Code.wp Tryz.prog (Code.region 3 #[{ dst := some 31, op := Op.move (Operand.tmp 11), type := 29, pos := "law.go:91", after := #[], guard := none },
      { dst := some 32, op := Op.load 107 (Operand.tmp 13), type := 107, pos := "law.go:91", after := #[{ on := 13, ground := Ground.gcOnly Departure.lateStores }], guard := none },
      { dst := some 33, op := Op.move (Operand.tmp 12), type := 47, pos := "law.go:91", after := #[], guard := none },
      { dst := some 34, op := Op.call { callee := Callee.value (Operand.func 28), args := #[Operand.tmp 33], argTypes := #[47] }, type := 3, pos := "law.go:91", after := #[{ on := 2, ground := Ground.data }], guard := none },
      { dst := some 35, op := Op.move (Operand.tmp 14), type := 3, pos := "law.go:91", after := #[], guard := none },
      { dst := some 36, op := Op.binOp BinOp.eql 3 (Operand.tmp 34) (Operand.tmp 35) 3, type := 4, pos := "law.go:91", after := #[{ on := 3, ground := Ground.data }, { on := 4, ground := Ground.data }], guard := none },
      { dst := some 37, op := Op.move (Operand.tmp 36), type := 4, pos := "law.go:91", after := #[{ on := 5, ground := Ground.data }, { on := 3, ground := Ground.chain }], guard := none },
      { dst := some 38, op := Op.move (Operand.tmp 11), type := 29, pos := "law.go:91", after := #[{ on := 6, ground := Ground.guard }, { on := 14, ground := Ground.gcOnly Departure.lateStores }], guard := some (6, true) },
      { dst := some 39, op := Op.binOp BinOp.eql 29 (Operand.tmp 38) (Operand.const (Value.pointer none)) 29, type := 4, pos := "law.go:91", after := #[{ on := 7, ground := Ground.data }, { on := 6, ground := Ground.guard }, { on := 14, ground := Ground.gcOnly Departure.lateStores }], guard := some (6, true) },
      { dst := some 40, op := Op.move (Operand.tmp 14), type := 3, pos := "law.go:91", after := #[{ on := 6, ground := Ground.guard }, { on := 14, ground := Ground.gcOnly Departure.lateStores }], guard := some (6, true) },
      { dst := some 41, op := Op.binOp BinOp.neq 3 (Operand.tmp 40) (Operand.const (Value.int IntKind.i64 0)) 3, type := 4, pos := "law.go:91", after := #[{ on := 9, ground := Ground.data }, { on := 6, ground := Ground.guard }, { on := 14, ground := Ground.gcOnly Departure.lateStores }], guard := some (6, true) },
      { dst := some 42, op := Op.binOp BinOp.eql 4 (Operand.tmp 39) (Operand.tmp 41) 4, type := 4, pos := "law.go:91", after := #[{ on := 8, ground := Ground.data }, { on := 10, ground := Ground.data }, { on := 6, ground := Ground.guard }, { on := 14, ground := Ground.gcOnly Departure.lateStores }], guard := some (6, true) },
      { dst := some 43, op := Op.pick (Operand.tmp 37) (Operand.tmp 42) (Operand.const (Value.bool false)), type := 4, pos := "law.go:91", after := #[{ on := 6, ground := Ground.data }, { on := 11, ground := Ground.data }, { on := 14, ground := Ground.gcOnly Departure.lateStores }], guard := none },
      { dst := some 8, op := Op.assign (Operand.tmp 31), type := 29, pos := "law.go:91", after := #[{ on := 0, ground := Ground.data }, { on := 6, ground := Ground.chain }, { on := 0, ground := Ground.phase }, { on := 1, ground := Ground.textOnly Departure.lateStores }, { on := 2, ground := Ground.textOnly Departure.lateStores }, { on := 3, ground := Ground.textOnly Departure.lateStoresUnsure }, { on := 4, ground := Ground.textOnly Departure.lateStores }, { on := 5, ground := Ground.textOnly Departure.lateStores }, { on := 6, ground := Ground.textOnly Departure.lateStores }, { on := 7, ground := Ground.textOnly Departure.lateStores }, { on := 8, ground := Ground.textOnly Departure.lateStores }, { on := 9, ground := Ground.textOnly Departure.lateStores }, { on := 10, ground := Ground.textOnly Departure.lateStores }, { on := 11, ground := Ground.textOnly Departure.lateStores }, { on := 12, ground := Ground.textOnly Departure.lateStores }], guard := none },
      { dst := none, op := Op.store 107 (Operand.tmp 9) (Operand.tmp 32), type := 0, pos := "law.go:91", after := #[{ on := 1, ground := Ground.data }, { on := 13, ground := Ground.chain }, { on := 0, ground := Ground.phase }, { on := 1, ground := Ground.phase }, { on := 2, ground := Ground.textOnly Departure.lateStores }, { on := 3, ground := Ground.textOnly Departure.lateStoresUnsure }, { on := 4, ground := Ground.textOnly Departure.lateStores }, { on := 5, ground := Ground.textOnly Departure.lateStores }, { on := 6, ground := Ground.textOnly Departure.lateStores }, { on := 7, ground := Ground.textOnly Departure.lateStores }, { on := 8, ground := Ground.textOnly Departure.lateStores }, { on := 9, ground := Ground.textOnly Departure.lateStores }, { on := 10, ground := Ground.textOnly Departure.lateStores }, { on := 11, ground := Ground.textOnly Departure.lateStores }, { on := 12, ground := Ground.textOnly Departure.lateStores }, { on := 13, ground := Ground.phase }], guard := none },
      { dst := some 10, op := Op.assign (Operand.tmp 43), type := 4, pos := "law.go:91", after := #[{ on := 12, ground := Ground.data }, { on := 14, ground := Ground.chain }, { on := 0, ground := Ground.phase }, { on := 1, ground := Ground.phase }, { on := 2, ground := Ground.phase }, { on := 3, ground := Ground.phase }, { on := 4, ground := Ground.phase }, { on := 5, ground := Ground.phase }, { on := 6, ground := Ground.phase }, { on := 7, ground := Ground.phase }, { on := 8, ground := Ground.phase }, { on := 9, ground := Ground.phase }, { on := 10, ground := Ground.phase }, { on := 11, ground := Ground.phase }, { on := 12, ground := Ground.phase }, { on := 13, ground := Ground.phase }, { on := 14, ground := Ground.phase }], guard := none }] true) Q { tmps := #[s0, s1, s2, s3, s4, s5, s6, s7, s8, .pointer (some ⟨z, 0, none⟩), s10, .pointer (some ⟨b, 0, none⟩), .int .i64 0, .pointer (some ⟨y, 0, none⟩), .int .i64 0, s15, s16, s17, s18, s19, s20, s21, s22, s23, s24, s25, s26, s27, s28, s29, s30, s31, s32, s33, s34, s35, s36, s37, s38, s39, s40, s41, s42, s43], defers := ds } W := by
  refine wp_region_any mixed ?_
  change wpAny _ _ _ _ _ _ _ (World.drew _)
  refine wpAny_take (i := 0) (oi := { dst := some 31, op := Op.move (Operand.tmp 11), type := 29, pos := "law.go:91", after := #[], guard := none }) (v := .pointer (some ⟨b, 0, none⟩)) rfl (by kernel_rfl) (by kernel_rfl) (by kernel_rfl) (fun _ _ _ h => hQ _ _ _ _ _ h) (Or.inl ⟨rfl, fun w => BigFrame.run_move (.tmp 11) rfl w⟩) ?_
  go_frame
  refine wpAny_take (i := 2) (oi := { dst := some 33, op := Op.move (Operand.tmp 12), type := 47, pos := "law.go:91", after := #[], guard := none }) (v := .int .i64 0) rfl (by kernel_rfl) (by kernel_rfl) (by kernel_rfl) (fun _ _ _ h => hQ _ _ _ _ _ h) (Or.inl ⟨rfl, fun w => BigFrame.run_move (.tmp 12) rfl w⟩) ?_
  go_frame
  refine wpAny_take (i := 4) (oi := { dst := some 35, op := Op.move (Operand.tmp 14), type := 3, pos := "law.go:91", after := #[], guard := none }) (v := .int .i64 0) rfl (by kernel_rfl) (by kernel_rfl) (by kernel_rfl) (fun _ _ _ h => hQ _ _ _ _ _ h) (Or.inl ⟨rfl, fun w => BigFrame.run_move (.tmp 14) rfl w⟩) ?_
  go_frame
  refine wpAny_ready (rs := [1, 3]) (by kernel_rfl) (by simp) ?_
  refine step_loadR (o := { dst := some 32, op := Op.load 107 (Operand.tmp 13), type := 107, pos := "law.go:91", after := #[{ on := 13, ground := Ground.gcOnly Departure.lateStores }], guard := none }) rfl rfl 107 (.tmp 13) rfl y 0 rfl cs _ RG Tryz.underlying107 rfl (by rw [hl]; exact i107) ?_ ?_
  · go_frame
    refine wpAny_ready (rs := [3]) (by kernel_rfl) (by simp) ?_
    refine step_callR (o := { dst := some 34, op := Op.call { callee := Callee.value (Operand.func 28), args := #[Operand.tmp 33], argTypes := #[47] }, type := 3, pos := "law.go:91", after := #[{ on := 2, ground := Ground.data }], guard := none }) rfl rfl 28 #[.int .i64 0] (by go_simp; first | done | (with_reducible rfl)) (.int .i64 0) (NM _) ?_ AllReady.nil
    go_frame
    refine wpAny_take (i := 5) (oi := { dst := some 36, op := Op.binOp BinOp.eql 3 (Operand.tmp 34) (Operand.tmp 35) 3, type := 4, pos := "law.go:91", after := #[{ on := 3, ground := Ground.data }, { on := 4, ground := Ground.data }], guard := none }) (v := .bool true) rfl (by kernel_rfl) (by kernel_rfl) (by kernel_rfl) (fun _ _ _ h => hQ _ _ _ _ _ h) (Or.inl ⟨rfl, fun w => (by go_simp; first | done | (with_reducible rfl))⟩) ?_
    go_frame
    refine wpAny_take (i := 6) (oi := { dst := some 37, op := Op.move (Operand.tmp 36), type := 4, pos := "law.go:91", after := #[{ on := 5, ground := Ground.data }, { on := 3, ground := Ground.chain }], guard := none }) (v := .bool true) rfl (by kernel_rfl) (by kernel_rfl) (by kernel_rfl) (fun _ _ _ h => hQ _ _ _ _ _ h) (Or.inl ⟨rfl, fun w => BigFrame.run_move (.tmp 36) rfl w⟩) ?_
    go_frame
    refine wpAny_take (i := 13) (oi := { dst := some 8, op := Op.assign (Operand.tmp 31), type := 29, pos := "law.go:91", after := #[{ on := 0, ground := Ground.data }, { on := 6, ground := Ground.chain }, { on := 0, ground := Ground.phase }, { on := 1, ground := Ground.textOnly Departure.lateStores }, { on := 2, ground := Ground.textOnly Departure.lateStores }, { on := 3, ground := Ground.textOnly Departure.lateStoresUnsure }, { on := 4, ground := Ground.textOnly Departure.lateStores }, { on := 5, ground := Ground.textOnly Departure.lateStores }, { on := 6, ground := Ground.textOnly Departure.lateStores }, { on := 7, ground := Ground.textOnly Departure.lateStores }, { on := 8, ground := Ground.textOnly Departure.lateStores }, { on := 9, ground := Ground.textOnly Departure.lateStores }, { on := 10, ground := Ground.textOnly Departure.lateStores }, { on := 11, ground := Ground.textOnly Departure.lateStores }, { on := 12, ground := Ground.textOnly Departure.lateStores }], guard := none }) (v := .pointer (some ⟨b, 0, none⟩)) rfl (by kernel_rfl) (by kernel_rfl) (by kernel_rfl) (fun _ _ _ h => hQ _ _ _ _ _ h) (Or.inl ⟨rfl, fun w => BigFrame.run_assign (.tmp 31) rfl w⟩) ?_
    go_frame
    refine wpAny_take (i := 7) (oi := { dst := some 38, op := Op.move (Operand.tmp 11), type := 29, pos := "law.go:91", after := #[{ on := 6, ground := Ground.guard }, { on := 14, ground := Ground.gcOnly Departure.lateStores }], guard := some (6, true) }) (v := .pointer (some ⟨b, 0, none⟩)) rfl (by kernel_rfl) (by kernel_rfl) (by kernel_rfl) (fun _ _ _ h => hQ _ _ _ _ _ h) (Or.inl ⟨rfl, fun w => BigFrame.run_move (.tmp 11) rfl w⟩) ?_
    go_frame
    refine wpAny_take (i := 8) (oi := { dst := some 39, op := Op.binOp BinOp.eql 29 (Operand.tmp 38) (Operand.const (Value.pointer none)) 29, type := 4, pos := "law.go:91", after := #[{ on := 7, ground := Ground.data }, { on := 6, ground := Ground.guard }, { on := 14, ground := Ground.gcOnly Departure.lateStores }], guard := some (6, true) }) (v := .bool false) rfl (by kernel_rfl) (by kernel_rfl) (by kernel_rfl) (fun _ _ _ h => hQ _ _ _ _ _ h) (Or.inl ⟨rfl, fun w => (by go_simp; first | done | (with_reducible rfl))⟩) ?_
    go_frame
    refine wpAny_take (i := 9) (oi := { dst := some 40, op := Op.move (Operand.tmp 14), type := 3, pos := "law.go:91", after := #[{ on := 6, ground := Ground.guard }, { on := 14, ground := Ground.gcOnly Departure.lateStores }], guard := some (6, true) }) (v := .int .i64 0) rfl (by kernel_rfl) (by kernel_rfl) (by kernel_rfl) (fun _ _ _ h => hQ _ _ _ _ _ h) (Or.inl ⟨rfl, fun w => BigFrame.run_move (.tmp 14) rfl w⟩) ?_
    go_frame
    refine wpAny_take (i := 10) (oi := { dst := some 41, op := Op.binOp BinOp.neq 3 (Operand.tmp 40) (Operand.const (Value.int IntKind.i64 0)) 3, type := 4, pos := "law.go:91", after := #[{ on := 9, ground := Ground.data }, { on := 6, ground := Ground.guard }, { on := 14, ground := Ground.gcOnly Departure.lateStores }], guard := some (6, true) }) (v := .bool false) rfl (by kernel_rfl) (by kernel_rfl) (by kernel_rfl) (fun _ _ _ h => hQ _ _ _ _ _ h) (Or.inl ⟨rfl, fun w => (by go_simp; first | done | (with_reducible rfl))⟩) ?_
    go_frame
    refine wpAny_take (i := 11) (oi := { dst := some 42, op := Op.binOp BinOp.eql 4 (Operand.tmp 39) (Operand.tmp 41) 4, type := 4, pos := "law.go:91", after := #[{ on := 8, ground := Ground.data }, { on := 10, ground := Ground.data }, { on := 6, ground := Ground.guard }, { on := 14, ground := Ground.gcOnly Departure.lateStores }], guard := some (6, true) }) (v := .bool true) rfl (by kernel_rfl) (by kernel_rfl) (by kernel_rfl) (fun _ _ _ h => hQ _ _ _ _ _ h) (Or.inl ⟨rfl, fun w => (by go_simp; first | done | (with_reducible rfl))⟩) ?_
    go_frame
    refine wpAny_take (i := 12) (oi := { dst := some 43, op := Op.pick (Operand.tmp 37) (Operand.tmp 42) (Operand.const (Value.bool false)), type := 4, pos := "law.go:91", after := #[{ on := 6, ground := Ground.data }, { on := 11, ground := Ground.data }, { on := 14, ground := Ground.gcOnly Departure.lateStores }], guard := none }) (v := .bool true) rfl (by kernel_rfl) (by kernel_rfl) (by kernel_rfl) (fun _ _ _ h => hQ _ _ _ _ _ h) (Or.inl ⟨rfl, fun w => (by go_simp; first | done | (with_reducible rfl))⟩) ?_
    go_frame
    refine wpAny_ready (rs := [14]) (by kernel_rfl) (by simp) ?_
    refine step_store (o := { dst := none, op := Op.store 107 (Operand.tmp 9) (Operand.tmp 32), type := 0, pos := "law.go:91", after := #[{ on := 1, ground := Ground.data }, { on := 13, ground := Ground.chain }, { on := 0, ground := Ground.phase }, { on := 1, ground := Ground.phase }, { on := 2, ground := Ground.textOnly Departure.lateStores }, { on := 3, ground := Ground.textOnly Departure.lateStoresUnsure }, { on := 4, ground := Ground.textOnly Departure.lateStores }, { on := 5, ground := Ground.textOnly Departure.lateStores }, { on := 6, ground := Ground.textOnly Departure.lateStores }, { on := 7, ground := Ground.textOnly Departure.lateStores }, { on := 8, ground := Ground.textOnly Departure.lateStores }, { on := 9, ground := Ground.textOnly Departure.lateStores }, { on := 10, ground := Ground.textOnly Departure.lateStores }, { on := 11, ground := Ground.textOnly Departure.lateStores }, { on := 12, ground := Ground.textOnly Departure.lateStores }, { on := 13, ground := Ground.phase }], guard := none }) rfl rfl 107 (.tmp 9) (.tmp 32) rfl z 0 cs.toArray rfl rfl (by simpa [hl] using TZ) (by simpa [hl] using i107) ONE ?_
    go_frame
    refine wpAny_take (i := 15) (oi := { dst := some 10, op := Op.assign (Operand.tmp 43), type := 4, pos := "law.go:91", after := #[{ on := 12, ground := Ground.data }, { on := 14, ground := Ground.chain }, { on := 0, ground := Ground.phase }, { on := 1, ground := Ground.phase }, { on := 2, ground := Ground.phase }, { on := 3, ground := Ground.phase }, { on := 4, ground := Ground.phase }, { on := 5, ground := Ground.phase }, { on := 6, ground := Ground.phase }, { on := 7, ground := Ground.phase }, { on := 8, ground := Ground.phase }, { on := 9, ground := Ground.phase }, { on := 10, ground := Ground.phase }, { on := 11, ground := Ground.phase }, { on := 12, ground := Ground.phase }, { on := 13, ground := Ground.phase }, { on := 14, ground := Ground.phase }], guard := none }) (v := .bool true) rfl (by kernel_rfl) (by kernel_rfl) (by kernel_rfl) (fun _ _ _ h => hQ _ _ _ _ _ h) (Or.inl ⟨rfl, fun w => BigFrame.run_assign (.tmp 43) rfl w⟩) ?_
    go_frame
    refine wpAny_done (by kernel_rfl) ?_ _
    exact h
  · refine step_callR (o := { dst := some 34, op := Op.call { callee := Callee.value (Operand.func 28), args := #[Operand.tmp 33], argTypes := #[47] }, type := 3, pos := "law.go:91", after := #[{ on := 2, ground := Ground.data }], guard := none }) rfl rfl 28 #[.int .i64 0] (by go_simp; first | done | (with_reducible rfl)) (.int .i64 0) (NM _) ?_ AllReady.nil
    go_frame
    refine wpAny_take (i := 5) (oi := { dst := some 36, op := Op.binOp BinOp.eql 3 (Operand.tmp 34) (Operand.tmp 35) 3, type := 4, pos := "law.go:91", after := #[{ on := 3, ground := Ground.data }, { on := 4, ground := Ground.data }], guard := none }) (v := .bool true) rfl (by kernel_rfl) (by kernel_rfl) (by kernel_rfl) (fun _ _ _ h => hQ _ _ _ _ _ h) (Or.inl ⟨rfl, fun w => (by go_simp; first | done | (with_reducible rfl))⟩) ?_
    go_frame
    refine wpAny_take (i := 6) (oi := { dst := some 37, op := Op.move (Operand.tmp 36), type := 4, pos := "law.go:91", after := #[{ on := 5, ground := Ground.data }, { on := 3, ground := Ground.chain }], guard := none }) (v := .bool true) rfl (by kernel_rfl) (by kernel_rfl) (by kernel_rfl) (fun _ _ _ h => hQ _ _ _ _ _ h) (Or.inl ⟨rfl, fun w => BigFrame.run_move (.tmp 36) rfl w⟩) ?_
    go_frame
    refine wpAny_take (i := 13) (oi := { dst := some 8, op := Op.assign (Operand.tmp 31), type := 29, pos := "law.go:91", after := #[{ on := 0, ground := Ground.data }, { on := 6, ground := Ground.chain }, { on := 0, ground := Ground.phase }, { on := 1, ground := Ground.textOnly Departure.lateStores }, { on := 2, ground := Ground.textOnly Departure.lateStores }, { on := 3, ground := Ground.textOnly Departure.lateStoresUnsure }, { on := 4, ground := Ground.textOnly Departure.lateStores }, { on := 5, ground := Ground.textOnly Departure.lateStores }, { on := 6, ground := Ground.textOnly Departure.lateStores }, { on := 7, ground := Ground.textOnly Departure.lateStores }, { on := 8, ground := Ground.textOnly Departure.lateStores }, { on := 9, ground := Ground.textOnly Departure.lateStores }, { on := 10, ground := Ground.textOnly Departure.lateStores }, { on := 11, ground := Ground.textOnly Departure.lateStores }, { on := 12, ground := Ground.textOnly Departure.lateStores }], guard := none }) (v := .pointer (some ⟨b, 0, none⟩)) rfl (by kernel_rfl) (by kernel_rfl) (by kernel_rfl) (fun _ _ _ h => hQ _ _ _ _ _ h) (Or.inl ⟨rfl, fun w => BigFrame.run_assign (.tmp 31) rfl w⟩) ?_
    go_frame
    refine wpAny_take (i := 7) (oi := { dst := some 38, op := Op.move (Operand.tmp 11), type := 29, pos := "law.go:91", after := #[{ on := 6, ground := Ground.guard }, { on := 14, ground := Ground.gcOnly Departure.lateStores }], guard := some (6, true) }) (v := .pointer (some ⟨b, 0, none⟩)) rfl (by kernel_rfl) (by kernel_rfl) (by kernel_rfl) (fun _ _ _ h => hQ _ _ _ _ _ h) (Or.inl ⟨rfl, fun w => BigFrame.run_move (.tmp 11) rfl w⟩) ?_
    go_frame
    refine wpAny_take (i := 8) (oi := { dst := some 39, op := Op.binOp BinOp.eql 29 (Operand.tmp 38) (Operand.const (Value.pointer none)) 29, type := 4, pos := "law.go:91", after := #[{ on := 7, ground := Ground.data }, { on := 6, ground := Ground.guard }, { on := 14, ground := Ground.gcOnly Departure.lateStores }], guard := some (6, true) }) (v := .bool false) rfl (by kernel_rfl) (by kernel_rfl) (by kernel_rfl) (fun _ _ _ h => hQ _ _ _ _ _ h) (Or.inl ⟨rfl, fun w => (by go_simp; first | done | (with_reducible rfl))⟩) ?_
    go_frame
    refine wpAny_take (i := 9) (oi := { dst := some 40, op := Op.move (Operand.tmp 14), type := 3, pos := "law.go:91", after := #[{ on := 6, ground := Ground.guard }, { on := 14, ground := Ground.gcOnly Departure.lateStores }], guard := some (6, true) }) (v := .int .i64 0) rfl (by kernel_rfl) (by kernel_rfl) (by kernel_rfl) (fun _ _ _ h => hQ _ _ _ _ _ h) (Or.inl ⟨rfl, fun w => BigFrame.run_move (.tmp 14) rfl w⟩) ?_
    go_frame
    refine wpAny_take (i := 10) (oi := { dst := some 41, op := Op.binOp BinOp.neq 3 (Operand.tmp 40) (Operand.const (Value.int IntKind.i64 0)) 3, type := 4, pos := "law.go:91", after := #[{ on := 9, ground := Ground.data }, { on := 6, ground := Ground.guard }, { on := 14, ground := Ground.gcOnly Departure.lateStores }], guard := some (6, true) }) (v := .bool false) rfl (by kernel_rfl) (by kernel_rfl) (by kernel_rfl) (fun _ _ _ h => hQ _ _ _ _ _ h) (Or.inl ⟨rfl, fun w => (by go_simp; first | done | (with_reducible rfl))⟩) ?_
    go_frame
    refine wpAny_take (i := 11) (oi := { dst := some 42, op := Op.binOp BinOp.eql 4 (Operand.tmp 39) (Operand.tmp 41) 4, type := 4, pos := "law.go:91", after := #[{ on := 8, ground := Ground.data }, { on := 10, ground := Ground.data }, { on := 6, ground := Ground.guard }, { on := 14, ground := Ground.gcOnly Departure.lateStores }], guard := some (6, true) }) (v := .bool true) rfl (by kernel_rfl) (by kernel_rfl) (by kernel_rfl) (fun _ _ _ h => hQ _ _ _ _ _ h) (Or.inl ⟨rfl, fun w => (by go_simp; first | done | (with_reducible rfl))⟩) ?_
    go_frame
    refine wpAny_take (i := 12) (oi := { dst := some 43, op := Op.pick (Operand.tmp 37) (Operand.tmp 42) (Operand.const (Value.bool false)), type := 4, pos := "law.go:91", after := #[{ on := 6, ground := Ground.data }, { on := 11, ground := Ground.data }, { on := 14, ground := Ground.gcOnly Departure.lateStores }], guard := none }) (v := .bool true) rfl (by kernel_rfl) (by kernel_rfl) (by kernel_rfl) (fun _ _ _ h => hQ _ _ _ _ _ h) (Or.inl ⟨rfl, fun w => (by go_simp; first | done | (with_reducible rfl))⟩) ?_
    go_frame
    refine wpAny_ready (rs := [1]) (by kernel_rfl) (by simp) ?_
    refine step_loadR (o := { dst := some 32, op := Op.load 107 (Operand.tmp 13), type := 107, pos := "law.go:91", after := #[{ on := 13, ground := Ground.gcOnly Departure.lateStores }], guard := none }) rfl rfl 107 (.tmp 13) rfl y 0 rfl cs _ RG Tryz.underlying107 rfl (by rw [hl]; exact i107) ?_ AllReady.nil
    go_frame
    refine wpAny_ready (rs := [14]) (by kernel_rfl) (by simp) ?_
    refine step_store (o := { dst := none, op := Op.store 107 (Operand.tmp 9) (Operand.tmp 32), type := 0, pos := "law.go:91", after := #[{ on := 1, ground := Ground.data }, { on := 13, ground := Ground.chain }, { on := 0, ground := Ground.phase }, { on := 1, ground := Ground.phase }, { on := 2, ground := Ground.textOnly Departure.lateStores }, { on := 3, ground := Ground.textOnly Departure.lateStoresUnsure }, { on := 4, ground := Ground.textOnly Departure.lateStores }, { on := 5, ground := Ground.textOnly Departure.lateStores }, { on := 6, ground := Ground.textOnly Departure.lateStores }, { on := 7, ground := Ground.textOnly Departure.lateStores }, { on := 8, ground := Ground.textOnly Departure.lateStores }, { on := 9, ground := Ground.textOnly Departure.lateStores }, { on := 10, ground := Ground.textOnly Departure.lateStores }, { on := 11, ground := Ground.textOnly Departure.lateStores }, { on := 12, ground := Ground.textOnly Departure.lateStores }, { on := 13, ground := Ground.phase }], guard := none }) rfl rfl 107 (.tmp 9) (.tmp 32) rfl z 0 cs.toArray rfl rfl (by simpa [hl] using TZ) (by simpa [hl] using i107) ONE ?_
    go_frame
    refine wpAny_take (i := 15) (oi := { dst := some 10, op := Op.assign (Operand.tmp 43), type := 4, pos := "law.go:91", after := #[{ on := 12, ground := Ground.data }, { on := 14, ground := Ground.chain }, { on := 0, ground := Ground.phase }, { on := 1, ground := Ground.phase }, { on := 2, ground := Ground.phase }, { on := 3, ground := Ground.phase }, { on := 4, ground := Ground.phase }, { on := 5, ground := Ground.phase }, { on := 6, ground := Ground.phase }, { on := 7, ground := Ground.phase }, { on := 8, ground := Ground.phase }, { on := 9, ground := Ground.phase }, { on := 10, ground := Ground.phase }, { on := 11, ground := Ground.phase }, { on := 12, ground := Ground.phase }, { on := 13, ground := Ground.phase }, { on := 14, ground := Ground.phase }], guard := none }) (v := .bool true) rfl (by kernel_rfl) (by kernel_rfl) (by kernel_rfl) (fun _ _ _ h => hQ _ _ _ _ _ h) (Or.inl ⟨rfl, fun w => BigFrame.run_assign (.tmp 43) rfl w⟩) ?_
    go_frame
    refine wpAny_done (by kernel_rfl) ?_ _
    exact h
set_option maxRecDepth 100000 in
set_option maxHeartbeats 4000000 in
theorem ret43n {Q : Exit → Act → World → Prop} {W : World} {ds : List Deferred} (hQ : ∀ c a d v w, Q (.panic c) (a.put (some d) v) w → Q (.panic c) a w) (mixed : Tryz.prog.follows .mixedOrders = true) (b z y : Nat) (cs : List Value) (s0 s1 s2 s3 s4 s5 s6 s7 s8 s10 s15 s16 s17 s18 s19 s20 s21 s22 s23 s24 s25 s26 s27 s28 s29 s30 s31 s32 s33 s34 s35 s36 s37 s38 s39 s40 s41 s42 s43 : Value) (hl : cs.length = 35) (RG : W.drew.rangeAt y 0 cs) (TZ : W.drew.there z 0 35) (ONE : cs.toArray.all (·.oneCell') = true) (NM : ∀ w, Calls Tryz.prog 28 #[.int .i64 2] w fun e w' => e = .returned (.int .i64 2) ∧ w' = w) (i107 : (Tryz.prog.info? 107).map (·.size) = some 35)
    (h : Q .normal { tmps := #[s0, s1, s2, s3, s4, s5, s6, s7, .pointer none, .pointer (some ⟨z, 0, none⟩), .bool true, .pointer none, .int .i64 2, .pointer (some ⟨y, 0, none⟩), .int .i64 2, s15, s16, s17, s18, s19, s20, s21, s22, s23, s24, s25, s26, s27, s28, s29, s30, .pointer none, .agg cs.toArray, .int .i64 2, .int .i64 2, .int .i64 2, .bool true, .bool true, .pointer none, .bool true, .int .i64 2, .bool true, .bool true, .bool true], defers := ds } (W.drew.setCells z 0 cs)) :
    Code.wp Tryz.prog (Code.region 3 #[{ dst := some 31, op := Op.move (Operand.tmp 11), type := 29, pos := "law.go:91", after := #[], guard := none },
      { dst := some 32, op := Op.load 107 (Operand.tmp 13), type := 107, pos := "law.go:91", after := #[{ on := 13, ground := Ground.gcOnly Departure.lateStores }], guard := none },
      { dst := some 33, op := Op.move (Operand.tmp 12), type := 47, pos := "law.go:91", after := #[], guard := none },
      { dst := some 34, op := Op.call { callee := Callee.value (Operand.func 28), args := #[Operand.tmp 33], argTypes := #[47] }, type := 3, pos := "law.go:91", after := #[{ on := 2, ground := Ground.data }], guard := none },
      { dst := some 35, op := Op.move (Operand.tmp 14), type := 3, pos := "law.go:91", after := #[], guard := none },
      { dst := some 36, op := Op.binOp BinOp.eql 3 (Operand.tmp 34) (Operand.tmp 35) 3, type := 4, pos := "law.go:91", after := #[{ on := 3, ground := Ground.data }, { on := 4, ground := Ground.data }], guard := none },
      { dst := some 37, op := Op.move (Operand.tmp 36), type := 4, pos := "law.go:91", after := #[{ on := 5, ground := Ground.data }, { on := 3, ground := Ground.chain }], guard := none },
      { dst := some 38, op := Op.move (Operand.tmp 11), type := 29, pos := "law.go:91", after := #[{ on := 6, ground := Ground.guard }, { on := 14, ground := Ground.gcOnly Departure.lateStores }], guard := some (6, true) },
      { dst := some 39, op := Op.binOp BinOp.eql 29 (Operand.tmp 38) (Operand.const (Value.pointer none)) 29, type := 4, pos := "law.go:91", after := #[{ on := 7, ground := Ground.data }, { on := 6, ground := Ground.guard }, { on := 14, ground := Ground.gcOnly Departure.lateStores }], guard := some (6, true) },
      { dst := some 40, op := Op.move (Operand.tmp 14), type := 3, pos := "law.go:91", after := #[{ on := 6, ground := Ground.guard }, { on := 14, ground := Ground.gcOnly Departure.lateStores }], guard := some (6, true) },
      { dst := some 41, op := Op.binOp BinOp.neq 3 (Operand.tmp 40) (Operand.const (Value.int IntKind.i64 0)) 3, type := 4, pos := "law.go:91", after := #[{ on := 9, ground := Ground.data }, { on := 6, ground := Ground.guard }, { on := 14, ground := Ground.gcOnly Departure.lateStores }], guard := some (6, true) },
      { dst := some 42, op := Op.binOp BinOp.eql 4 (Operand.tmp 39) (Operand.tmp 41) 4, type := 4, pos := "law.go:91", after := #[{ on := 8, ground := Ground.data }, { on := 10, ground := Ground.data }, { on := 6, ground := Ground.guard }, { on := 14, ground := Ground.gcOnly Departure.lateStores }], guard := some (6, true) },
      { dst := some 43, op := Op.pick (Operand.tmp 37) (Operand.tmp 42) (Operand.const (Value.bool false)), type := 4, pos := "law.go:91", after := #[{ on := 6, ground := Ground.data }, { on := 11, ground := Ground.data }, { on := 14, ground := Ground.gcOnly Departure.lateStores }], guard := none },
      { dst := some 8, op := Op.assign (Operand.tmp 31), type := 29, pos := "law.go:91", after := #[{ on := 0, ground := Ground.data }, { on := 6, ground := Ground.chain }, { on := 0, ground := Ground.phase }, { on := 1, ground := Ground.textOnly Departure.lateStores }, { on := 2, ground := Ground.textOnly Departure.lateStores }, { on := 3, ground := Ground.textOnly Departure.lateStoresUnsure }, { on := 4, ground := Ground.textOnly Departure.lateStores }, { on := 5, ground := Ground.textOnly Departure.lateStores }, { on := 6, ground := Ground.textOnly Departure.lateStores }, { on := 7, ground := Ground.textOnly Departure.lateStores }, { on := 8, ground := Ground.textOnly Departure.lateStores }, { on := 9, ground := Ground.textOnly Departure.lateStores }, { on := 10, ground := Ground.textOnly Departure.lateStores }, { on := 11, ground := Ground.textOnly Departure.lateStores }, { on := 12, ground := Ground.textOnly Departure.lateStores }], guard := none },
      { dst := none, op := Op.store 107 (Operand.tmp 9) (Operand.tmp 32), type := 0, pos := "law.go:91", after := #[{ on := 1, ground := Ground.data }, { on := 13, ground := Ground.chain }, { on := 0, ground := Ground.phase }, { on := 1, ground := Ground.phase }, { on := 2, ground := Ground.textOnly Departure.lateStores }, { on := 3, ground := Ground.textOnly Departure.lateStoresUnsure }, { on := 4, ground := Ground.textOnly Departure.lateStores }, { on := 5, ground := Ground.textOnly Departure.lateStores }, { on := 6, ground := Ground.textOnly Departure.lateStores }, { on := 7, ground := Ground.textOnly Departure.lateStores }, { on := 8, ground := Ground.textOnly Departure.lateStores }, { on := 9, ground := Ground.textOnly Departure.lateStores }, { on := 10, ground := Ground.textOnly Departure.lateStores }, { on := 11, ground := Ground.textOnly Departure.lateStores }, { on := 12, ground := Ground.textOnly Departure.lateStores }, { on := 13, ground := Ground.phase }], guard := none },
      { dst := some 10, op := Op.assign (Operand.tmp 43), type := 4, pos := "law.go:91", after := #[{ on := 12, ground := Ground.data }, { on := 14, ground := Ground.chain }, { on := 0, ground := Ground.phase }, { on := 1, ground := Ground.phase }, { on := 2, ground := Ground.phase }, { on := 3, ground := Ground.phase }, { on := 4, ground := Ground.phase }, { on := 5, ground := Ground.phase }, { on := 6, ground := Ground.phase }, { on := 7, ground := Ground.phase }, { on := 8, ground := Ground.phase }, { on := 9, ground := Ground.phase }, { on := 10, ground := Ground.phase }, { on := 11, ground := Ground.phase }, { on := 12, ground := Ground.phase }, { on := 13, ground := Ground.phase }, { on := 14, ground := Ground.phase }], guard := none }] true) Q { tmps := #[s0, s1, s2, s3, s4, s5, s6, s7, s8, .pointer (some ⟨z, 0, none⟩), s10, .pointer none, .int .i64 2, .pointer (some ⟨y, 0, none⟩), .int .i64 2, s15, s16, s17, s18, s19, s20, s21, s22, s23, s24, s25, s26, s27, s28, s29, s30, s31, s32, s33, s34, s35, s36, s37, s38, s39, s40, s41, s42, s43], defers := ds } W := by
  refine wp_region_any mixed ?_
  change wpAny _ _ _ _ _ _ _ (World.drew _)
  refine wpAny_take (i := 0) (oi := { dst := some 31, op := Op.move (Operand.tmp 11), type := 29, pos := "law.go:91", after := #[], guard := none }) (v := .pointer none) rfl (by kernel_rfl) (by kernel_rfl) (by kernel_rfl) (fun _ _ _ h => hQ _ _ _ _ _ h) (Or.inl ⟨rfl, fun w => BigFrame.run_move (.tmp 11) rfl w⟩) ?_
  go_frame
  refine wpAny_take (i := 2) (oi := { dst := some 33, op := Op.move (Operand.tmp 12), type := 47, pos := "law.go:91", after := #[], guard := none }) (v := .int .i64 2) rfl (by kernel_rfl) (by kernel_rfl) (by kernel_rfl) (fun _ _ _ h => hQ _ _ _ _ _ h) (Or.inl ⟨rfl, fun w => BigFrame.run_move (.tmp 12) rfl w⟩) ?_
  go_frame
  refine wpAny_take (i := 4) (oi := { dst := some 35, op := Op.move (Operand.tmp 14), type := 3, pos := "law.go:91", after := #[], guard := none }) (v := .int .i64 2) rfl (by kernel_rfl) (by kernel_rfl) (by kernel_rfl) (fun _ _ _ h => hQ _ _ _ _ _ h) (Or.inl ⟨rfl, fun w => BigFrame.run_move (.tmp 14) rfl w⟩) ?_
  go_frame
  refine wpAny_ready (rs := [1, 3]) (by kernel_rfl) (by simp) ?_
  refine step_loadR (o := { dst := some 32, op := Op.load 107 (Operand.tmp 13), type := 107, pos := "law.go:91", after := #[{ on := 13, ground := Ground.gcOnly Departure.lateStores }], guard := none }) rfl rfl 107 (.tmp 13) rfl y 0 rfl cs _ RG Tryz.underlying107 rfl (by rw [hl]; exact i107) ?_ ?_
  · go_frame
    refine wpAny_ready (rs := [3]) (by kernel_rfl) (by simp) ?_
    refine step_callR (o := { dst := some 34, op := Op.call { callee := Callee.value (Operand.func 28), args := #[Operand.tmp 33], argTypes := #[47] }, type := 3, pos := "law.go:91", after := #[{ on := 2, ground := Ground.data }], guard := none }) rfl rfl 28 #[.int .i64 2] (by go_simp; first | done | (with_reducible rfl)) (.int .i64 2) (NM _) ?_ AllReady.nil
    go_frame
    refine wpAny_take (i := 5) (oi := { dst := some 36, op := Op.binOp BinOp.eql 3 (Operand.tmp 34) (Operand.tmp 35) 3, type := 4, pos := "law.go:91", after := #[{ on := 3, ground := Ground.data }, { on := 4, ground := Ground.data }], guard := none }) (v := .bool true) rfl (by kernel_rfl) (by kernel_rfl) (by kernel_rfl) (fun _ _ _ h => hQ _ _ _ _ _ h) (Or.inl ⟨rfl, fun w => (by go_simp; first | done | (with_reducible rfl))⟩) ?_
    go_frame
    refine wpAny_take (i := 6) (oi := { dst := some 37, op := Op.move (Operand.tmp 36), type := 4, pos := "law.go:91", after := #[{ on := 5, ground := Ground.data }, { on := 3, ground := Ground.chain }], guard := none }) (v := .bool true) rfl (by kernel_rfl) (by kernel_rfl) (by kernel_rfl) (fun _ _ _ h => hQ _ _ _ _ _ h) (Or.inl ⟨rfl, fun w => BigFrame.run_move (.tmp 36) rfl w⟩) ?_
    go_frame
    refine wpAny_take (i := 13) (oi := { dst := some 8, op := Op.assign (Operand.tmp 31), type := 29, pos := "law.go:91", after := #[{ on := 0, ground := Ground.data }, { on := 6, ground := Ground.chain }, { on := 0, ground := Ground.phase }, { on := 1, ground := Ground.textOnly Departure.lateStores }, { on := 2, ground := Ground.textOnly Departure.lateStores }, { on := 3, ground := Ground.textOnly Departure.lateStoresUnsure }, { on := 4, ground := Ground.textOnly Departure.lateStores }, { on := 5, ground := Ground.textOnly Departure.lateStores }, { on := 6, ground := Ground.textOnly Departure.lateStores }, { on := 7, ground := Ground.textOnly Departure.lateStores }, { on := 8, ground := Ground.textOnly Departure.lateStores }, { on := 9, ground := Ground.textOnly Departure.lateStores }, { on := 10, ground := Ground.textOnly Departure.lateStores }, { on := 11, ground := Ground.textOnly Departure.lateStores }, { on := 12, ground := Ground.textOnly Departure.lateStores }], guard := none }) (v := .pointer none) rfl (by kernel_rfl) (by kernel_rfl) (by kernel_rfl) (fun _ _ _ h => hQ _ _ _ _ _ h) (Or.inl ⟨rfl, fun w => BigFrame.run_assign (.tmp 31) rfl w⟩) ?_
    go_frame
    refine wpAny_take (i := 7) (oi := { dst := some 38, op := Op.move (Operand.tmp 11), type := 29, pos := "law.go:91", after := #[{ on := 6, ground := Ground.guard }, { on := 14, ground := Ground.gcOnly Departure.lateStores }], guard := some (6, true) }) (v := .pointer none) rfl (by kernel_rfl) (by kernel_rfl) (by kernel_rfl) (fun _ _ _ h => hQ _ _ _ _ _ h) (Or.inl ⟨rfl, fun w => BigFrame.run_move (.tmp 11) rfl w⟩) ?_
    go_frame
    refine wpAny_take (i := 8) (oi := { dst := some 39, op := Op.binOp BinOp.eql 29 (Operand.tmp 38) (Operand.const (Value.pointer none)) 29, type := 4, pos := "law.go:91", after := #[{ on := 7, ground := Ground.data }, { on := 6, ground := Ground.guard }, { on := 14, ground := Ground.gcOnly Departure.lateStores }], guard := some (6, true) }) (v := .bool true) rfl (by kernel_rfl) (by kernel_rfl) (by kernel_rfl) (fun _ _ _ h => hQ _ _ _ _ _ h) (Or.inl ⟨rfl, fun w => (by go_simp; first | done | (with_reducible rfl))⟩) ?_
    go_frame
    refine wpAny_take (i := 9) (oi := { dst := some 40, op := Op.move (Operand.tmp 14), type := 3, pos := "law.go:91", after := #[{ on := 6, ground := Ground.guard }, { on := 14, ground := Ground.gcOnly Departure.lateStores }], guard := some (6, true) }) (v := .int .i64 2) rfl (by kernel_rfl) (by kernel_rfl) (by kernel_rfl) (fun _ _ _ h => hQ _ _ _ _ _ h) (Or.inl ⟨rfl, fun w => BigFrame.run_move (.tmp 14) rfl w⟩) ?_
    go_frame
    refine wpAny_take (i := 10) (oi := { dst := some 41, op := Op.binOp BinOp.neq 3 (Operand.tmp 40) (Operand.const (Value.int IntKind.i64 0)) 3, type := 4, pos := "law.go:91", after := #[{ on := 9, ground := Ground.data }, { on := 6, ground := Ground.guard }, { on := 14, ground := Ground.gcOnly Departure.lateStores }], guard := some (6, true) }) (v := .bool true) rfl (by kernel_rfl) (by kernel_rfl) (by kernel_rfl) (fun _ _ _ h => hQ _ _ _ _ _ h) (Or.inl ⟨rfl, fun w => (by go_simp; first | done | (with_reducible rfl))⟩) ?_
    go_frame
    refine wpAny_take (i := 11) (oi := { dst := some 42, op := Op.binOp BinOp.eql 4 (Operand.tmp 39) (Operand.tmp 41) 4, type := 4, pos := "law.go:91", after := #[{ on := 8, ground := Ground.data }, { on := 10, ground := Ground.data }, { on := 6, ground := Ground.guard }, { on := 14, ground := Ground.gcOnly Departure.lateStores }], guard := some (6, true) }) (v := .bool true) rfl (by kernel_rfl) (by kernel_rfl) (by kernel_rfl) (fun _ _ _ h => hQ _ _ _ _ _ h) (Or.inl ⟨rfl, fun w => (by go_simp; first | done | (with_reducible rfl))⟩) ?_
    go_frame
    refine wpAny_take (i := 12) (oi := { dst := some 43, op := Op.pick (Operand.tmp 37) (Operand.tmp 42) (Operand.const (Value.bool false)), type := 4, pos := "law.go:91", after := #[{ on := 6, ground := Ground.data }, { on := 11, ground := Ground.data }, { on := 14, ground := Ground.gcOnly Departure.lateStores }], guard := none }) (v := .bool true) rfl (by kernel_rfl) (by kernel_rfl) (by kernel_rfl) (fun _ _ _ h => hQ _ _ _ _ _ h) (Or.inl ⟨rfl, fun w => (by go_simp; first | done | (with_reducible rfl))⟩) ?_
    go_frame
    refine wpAny_ready (rs := [14]) (by kernel_rfl) (by simp) ?_
    refine step_store (o := { dst := none, op := Op.store 107 (Operand.tmp 9) (Operand.tmp 32), type := 0, pos := "law.go:91", after := #[{ on := 1, ground := Ground.data }, { on := 13, ground := Ground.chain }, { on := 0, ground := Ground.phase }, { on := 1, ground := Ground.phase }, { on := 2, ground := Ground.textOnly Departure.lateStores }, { on := 3, ground := Ground.textOnly Departure.lateStoresUnsure }, { on := 4, ground := Ground.textOnly Departure.lateStores }, { on := 5, ground := Ground.textOnly Departure.lateStores }, { on := 6, ground := Ground.textOnly Departure.lateStores }, { on := 7, ground := Ground.textOnly Departure.lateStores }, { on := 8, ground := Ground.textOnly Departure.lateStores }, { on := 9, ground := Ground.textOnly Departure.lateStores }, { on := 10, ground := Ground.textOnly Departure.lateStores }, { on := 11, ground := Ground.textOnly Departure.lateStores }, { on := 12, ground := Ground.textOnly Departure.lateStores }, { on := 13, ground := Ground.phase }], guard := none }) rfl rfl 107 (.tmp 9) (.tmp 32) rfl z 0 cs.toArray rfl rfl (by simpa [hl] using TZ) (by simpa [hl] using i107) ONE ?_
    go_frame
    refine wpAny_take (i := 15) (oi := { dst := some 10, op := Op.assign (Operand.tmp 43), type := 4, pos := "law.go:91", after := #[{ on := 12, ground := Ground.data }, { on := 14, ground := Ground.chain }, { on := 0, ground := Ground.phase }, { on := 1, ground := Ground.phase }, { on := 2, ground := Ground.phase }, { on := 3, ground := Ground.phase }, { on := 4, ground := Ground.phase }, { on := 5, ground := Ground.phase }, { on := 6, ground := Ground.phase }, { on := 7, ground := Ground.phase }, { on := 8, ground := Ground.phase }, { on := 9, ground := Ground.phase }, { on := 10, ground := Ground.phase }, { on := 11, ground := Ground.phase }, { on := 12, ground := Ground.phase }, { on := 13, ground := Ground.phase }, { on := 14, ground := Ground.phase }], guard := none }) (v := .bool true) rfl (by kernel_rfl) (by kernel_rfl) (by kernel_rfl) (fun _ _ _ h => hQ _ _ _ _ _ h) (Or.inl ⟨rfl, fun w => BigFrame.run_assign (.tmp 43) rfl w⟩) ?_
    go_frame
    refine wpAny_done (by kernel_rfl) ?_ _
    exact h
  · refine step_callR (o := { dst := some 34, op := Op.call { callee := Callee.value (Operand.func 28), args := #[Operand.tmp 33], argTypes := #[47] }, type := 3, pos := "law.go:91", after := #[{ on := 2, ground := Ground.data }], guard := none }) rfl rfl 28 #[.int .i64 2] (by go_simp; first | done | (with_reducible rfl)) (.int .i64 2) (NM _) ?_ AllReady.nil
    go_frame
    refine wpAny_take (i := 5) (oi := { dst := some 36, op := Op.binOp BinOp.eql 3 (Operand.tmp 34) (Operand.tmp 35) 3, type := 4, pos := "law.go:91", after := #[{ on := 3, ground := Ground.data }, { on := 4, ground := Ground.data }], guard := none }) (v := .bool true) rfl (by kernel_rfl) (by kernel_rfl) (by kernel_rfl) (fun _ _ _ h => hQ _ _ _ _ _ h) (Or.inl ⟨rfl, fun w => (by go_simp; first | done | (with_reducible rfl))⟩) ?_
    go_frame
    refine wpAny_take (i := 6) (oi := { dst := some 37, op := Op.move (Operand.tmp 36), type := 4, pos := "law.go:91", after := #[{ on := 5, ground := Ground.data }, { on := 3, ground := Ground.chain }], guard := none }) (v := .bool true) rfl (by kernel_rfl) (by kernel_rfl) (by kernel_rfl) (fun _ _ _ h => hQ _ _ _ _ _ h) (Or.inl ⟨rfl, fun w => BigFrame.run_move (.tmp 36) rfl w⟩) ?_
    go_frame
    refine wpAny_take (i := 13) (oi := { dst := some 8, op := Op.assign (Operand.tmp 31), type := 29, pos := "law.go:91", after := #[{ on := 0, ground := Ground.data }, { on := 6, ground := Ground.chain }, { on := 0, ground := Ground.phase }, { on := 1, ground := Ground.textOnly Departure.lateStores }, { on := 2, ground := Ground.textOnly Departure.lateStores }, { on := 3, ground := Ground.textOnly Departure.lateStoresUnsure }, { on := 4, ground := Ground.textOnly Departure.lateStores }, { on := 5, ground := Ground.textOnly Departure.lateStores }, { on := 6, ground := Ground.textOnly Departure.lateStores }, { on := 7, ground := Ground.textOnly Departure.lateStores }, { on := 8, ground := Ground.textOnly Departure.lateStores }, { on := 9, ground := Ground.textOnly Departure.lateStores }, { on := 10, ground := Ground.textOnly Departure.lateStores }, { on := 11, ground := Ground.textOnly Departure.lateStores }, { on := 12, ground := Ground.textOnly Departure.lateStores }], guard := none }) (v := .pointer none) rfl (by kernel_rfl) (by kernel_rfl) (by kernel_rfl) (fun _ _ _ h => hQ _ _ _ _ _ h) (Or.inl ⟨rfl, fun w => BigFrame.run_assign (.tmp 31) rfl w⟩) ?_
    go_frame
    refine wpAny_take (i := 7) (oi := { dst := some 38, op := Op.move (Operand.tmp 11), type := 29, pos := "law.go:91", after := #[{ on := 6, ground := Ground.guard }, { on := 14, ground := Ground.gcOnly Departure.lateStores }], guard := some (6, true) }) (v := .pointer none) rfl (by kernel_rfl) (by kernel_rfl) (by kernel_rfl) (fun _ _ _ h => hQ _ _ _ _ _ h) (Or.inl ⟨rfl, fun w => BigFrame.run_move (.tmp 11) rfl w⟩) ?_
    go_frame
    refine wpAny_take (i := 8) (oi := { dst := some 39, op := Op.binOp BinOp.eql 29 (Operand.tmp 38) (Operand.const (Value.pointer none)) 29, type := 4, pos := "law.go:91", after := #[{ on := 7, ground := Ground.data }, { on := 6, ground := Ground.guard }, { on := 14, ground := Ground.gcOnly Departure.lateStores }], guard := some (6, true) }) (v := .bool true) rfl (by kernel_rfl) (by kernel_rfl) (by kernel_rfl) (fun _ _ _ h => hQ _ _ _ _ _ h) (Or.inl ⟨rfl, fun w => (by go_simp; first | done | (with_reducible rfl))⟩) ?_
    go_frame
    refine wpAny_take (i := 9) (oi := { dst := some 40, op := Op.move (Operand.tmp 14), type := 3, pos := "law.go:91", after := #[{ on := 6, ground := Ground.guard }, { on := 14, ground := Ground.gcOnly Departure.lateStores }], guard := some (6, true) }) (v := .int .i64 2) rfl (by kernel_rfl) (by kernel_rfl) (by kernel_rfl) (fun _ _ _ h => hQ _ _ _ _ _ h) (Or.inl ⟨rfl, fun w => BigFrame.run_move (.tmp 14) rfl w⟩) ?_
    go_frame
    refine wpAny_take (i := 10) (oi := { dst := some 41, op := Op.binOp BinOp.neq 3 (Operand.tmp 40) (Operand.const (Value.int IntKind.i64 0)) 3, type := 4, pos := "law.go:91", after := #[{ on := 9, ground := Ground.data }, { on := 6, ground := Ground.guard }, { on := 14, ground := Ground.gcOnly Departure.lateStores }], guard := some (6, true) }) (v := .bool true) rfl (by kernel_rfl) (by kernel_rfl) (by kernel_rfl) (fun _ _ _ h => hQ _ _ _ _ _ h) (Or.inl ⟨rfl, fun w => (by go_simp; first | done | (with_reducible rfl))⟩) ?_
    go_frame
    refine wpAny_take (i := 11) (oi := { dst := some 42, op := Op.binOp BinOp.eql 4 (Operand.tmp 39) (Operand.tmp 41) 4, type := 4, pos := "law.go:91", after := #[{ on := 8, ground := Ground.data }, { on := 10, ground := Ground.data }, { on := 6, ground := Ground.guard }, { on := 14, ground := Ground.gcOnly Departure.lateStores }], guard := some (6, true) }) (v := .bool true) rfl (by kernel_rfl) (by kernel_rfl) (by kernel_rfl) (fun _ _ _ h => hQ _ _ _ _ _ h) (Or.inl ⟨rfl, fun w => (by go_simp; first | done | (with_reducible rfl))⟩) ?_
    go_frame
    refine wpAny_take (i := 12) (oi := { dst := some 43, op := Op.pick (Operand.tmp 37) (Operand.tmp 42) (Operand.const (Value.bool false)), type := 4, pos := "law.go:91", after := #[{ on := 6, ground := Ground.data }, { on := 11, ground := Ground.data }, { on := 14, ground := Ground.gcOnly Departure.lateStores }], guard := none }) (v := .bool true) rfl (by kernel_rfl) (by kernel_rfl) (by kernel_rfl) (fun _ _ _ h => hQ _ _ _ _ _ h) (Or.inl ⟨rfl, fun w => (by go_simp; first | done | (with_reducible rfl))⟩) ?_
    go_frame
    refine wpAny_ready (rs := [1]) (by kernel_rfl) (by simp) ?_
    refine step_loadR (o := { dst := some 32, op := Op.load 107 (Operand.tmp 13), type := 107, pos := "law.go:91", after := #[{ on := 13, ground := Ground.gcOnly Departure.lateStores }], guard := none }) rfl rfl 107 (.tmp 13) rfl y 0 rfl cs _ RG Tryz.underlying107 rfl (by rw [hl]; exact i107) ?_ AllReady.nil
    go_frame
    refine wpAny_ready (rs := [14]) (by kernel_rfl) (by simp) ?_
    refine step_store (o := { dst := none, op := Op.store 107 (Operand.tmp 9) (Operand.tmp 32), type := 0, pos := "law.go:91", after := #[{ on := 1, ground := Ground.data }, { on := 13, ground := Ground.chain }, { on := 0, ground := Ground.phase }, { on := 1, ground := Ground.phase }, { on := 2, ground := Ground.textOnly Departure.lateStores }, { on := 3, ground := Ground.textOnly Departure.lateStoresUnsure }, { on := 4, ground := Ground.textOnly Departure.lateStores }, { on := 5, ground := Ground.textOnly Departure.lateStores }, { on := 6, ground := Ground.textOnly Departure.lateStores }, { on := 7, ground := Ground.textOnly Departure.lateStores }, { on := 8, ground := Ground.textOnly Departure.lateStores }, { on := 9, ground := Ground.textOnly Departure.lateStores }, { on := 10, ground := Ground.textOnly Departure.lateStores }, { on := 11, ground := Ground.textOnly Departure.lateStores }, { on := 12, ground := Ground.textOnly Departure.lateStores }, { on := 13, ground := Ground.phase }], guard := none }) rfl rfl 107 (.tmp 9) (.tmp 32) rfl z 0 cs.toArray rfl rfl (by simpa [hl] using TZ) (by simpa [hl] using i107) ONE ?_
    go_frame
    refine wpAny_take (i := 15) (oi := { dst := some 10, op := Op.assign (Operand.tmp 43), type := 4, pos := "law.go:91", after := #[{ on := 12, ground := Ground.data }, { on := 14, ground := Ground.chain }, { on := 0, ground := Ground.phase }, { on := 1, ground := Ground.phase }, { on := 2, ground := Ground.phase }, { on := 3, ground := Ground.phase }, { on := 4, ground := Ground.phase }, { on := 5, ground := Ground.phase }, { on := 6, ground := Ground.phase }, { on := 7, ground := Ground.phase }, { on := 8, ground := Ground.phase }, { on := 9, ground := Ground.phase }, { on := 10, ground := Ground.phase }, { on := 11, ground := Ground.phase }, { on := 12, ground := Ground.phase }, { on := 13, ground := Ground.phase }, { on := 14, ground := Ground.phase }], guard := none }) (v := .bool true) rfl (by kernel_rfl) (by kernel_rfl) (by kernel_rfl) (fun _ _ _ h => hQ _ _ _ _ _ h) (Or.inl ⟨rfl, fun w => BigFrame.run_assign (.tmp 43) rfl w⟩) ?_
    go_frame
    refine wpAny_done (by kernel_rfl) ?_ _
    exact h
end Go.Proofs.YtmlnglillgplfaaGreat.Cl
