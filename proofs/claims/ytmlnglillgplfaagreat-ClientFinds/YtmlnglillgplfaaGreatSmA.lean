import Derived.Test.YtmlnglillgplfaaGreatSt
import Derived.Laws.IdiomStrings
namespace Go.Proofs.YtmlnglillgplfaaGreat.Cl
open Go.RowKit
set_option linter.unusedVariables false
/-- they are bytes -/
def Byt (ys : List Int) : Prop := ∀ y ∈ ys, 0 ≤ y ∧ y ≤ 255
/-- as a string -/
def bstr (ys : List Int) : ByteArray := ⟨(ys.map fun y => UInt8.ofNat y.toNat).toArray⟩
theorem u8_back {y : Int} (h : 0 ≤ y ∧ y ≤ 255) : ((UInt8.ofNat y.toNat).toNat : Int) = y := by
  rw [UInt8.toNat_ofNat']
  have : y.toNat % 2 ^ 8 = y.toNat := Nat.mod_eq_of_lt (by omega)
  rw [this]; omega
theorem bstr_back {ys : List Int} (h : Byt ys) : (bstr ys).data.toList.map (fun b => (b.toNat : Int)) = ys := by
  simp only [bstr, List.map_map]
  refine (List.map_congr_left (g := id) fun y hy => ?_).trans (List.map_id ys)
  simpa using u8_back (h y hy)
theorem bstr_inj {xs ys : List Int} (hx : Byt xs) (hy : Byt ys) (h : bstr xs = bstr ys) : xs = ys := by
  rw [← bstr_back hx, ← bstr_back hy, h]
/-- string(b) -/
theorem conv_rd {w : World} {u : Value} {ys : List Int} (h : Rd w u ys) (hb : Byt ys) : (convert 24 9 u).run Tryz.prog w = .ok (.string (bstr ys)) w := by
  rcases h with ⟨rfl, rfl⟩ | ⟨a, cap, rfl, hc⟩
  · kernel_rfl
  · have := run_convert_bytes_back (P := Tryz.prog) w 24 9 5 a cap (ys.map fun y => UInt8.ofNat y.toNat) Tryz.underlying24 Tryz.underlying5 Tryz.underlying9 (fun j hj => by
      have hj' : j < ys.length := by simpa using hj
      rw [List.getElem_map, u8_back (hb _ (List.getElem_mem hj'))]
      exact hc j _ (by simp [cs, hj']))
    simpa [bstr] using this
set_option maxHeartbeats 400000 in
theorem sameBytes_any (w : World) (u v : Value) (X Y : List Int) (hu : Rd w u X) (hv : Rd w v Y) (bx : Byt X) (bY : Byt Y) : Calls Tryz.prog 40 #[u, v] w fun e w' => e = .returned (.bool (decide (X = Y))) ∧ w' = w := by
  have c1 := conv_rd hu bx
  have c2 := conv_rd hv bY
  obtain ⟨a1, n1, rfl⟩ := hu.slice
  obtain ⟨a2, n2, rfl⟩ := hv.slice
  have HD : Hid (((bstr X).toList == (bstr Y).toList) = decide (X = Y)) := by
    show ((bstr X).toList == (bstr Y).toList) = decide (X = Y)
    rw [ByteArray.toList_eq, ByteArray.toList_eq]
    by_cases e : X = Y
    · subst e; simp
    · rw [decide_eq_false e]
      exact beq_eq_false_iff_ne.2 (fun h => e (by rw [← bstr_back bx, ← bstr_back bY, h]))
  clear hu hv bx bY
  generalize bstr X = sx at *
  generalize bstr Y = sy at *
  go_enter Tryz.func40, Tryz.ntmps40
  go_wp2
  go_ret
  rw [← HD.out]
  exact ⟨rfl, rfl⟩
theorem samePairs_none (w : World) (a b : Option Addr) (c d : Nat) : Calls Tryz.prog 63 #[.slice a 0 c, .slice b 0 d] w fun e w' => e = .returned (.bool true) ∧ w' = w := by
  go_enter Tryz.func63, Tryz.ntmps63
  go_wp2
  go_loopw [5] (fun i wr => i = .int .i64 0 ∧ wr = w) (fun _ _ => 0)
  case atStart => exact ⟨rfl, rfl⟩
  case round =>
    obtain ⟨rfl, rfl⟩ := hrel
    go_wp2
    go_ret
    exact ⟨rfl, rfl⟩
theorem sameSessions_none (w : World) (a b : Option Addr) (c d : Nat) : Calls Tryz.prog 64 #[.slice a 0 c, .slice b 0 d] w fun e w' => e = .returned (.bool true) ∧ w' = w := by
  go_enter Tryz.func64, Tryz.ntmps64
  go_wp2
  go_loopw [5] (fun i wr => i = .int .i64 0 ∧ wr = w) (fun _ _ => 0)
  case atStart => exact ⟨rfl, rfl⟩
  case round =>
    obtain ⟨rfl, rfl⟩ := hrel
    go_wp2
    go_ret
    exact ⟨rfl, rfl⟩
theorem num_any (w : World) (a : Int) : Calls Tryz.prog 28 #[.int .i64 a] w fun e w' => e = .returned (.int .i64 a) ∧ w' = w := by
  go_enter Tryz.func28, Tryz.ntmps28
  go_wp2
  go_ret
  exact ⟨rfl, rfl⟩
set_option maxHeartbeats 400000 in
theorem message_any (w : World) (k key hi lim seq : Int) (va oa : Option Addr) (vn vc on oc : Nat) (has : Bool) : Calls Tryz.prog 38 #[.agg #[.int .u8 k, .int .u64 key, .int .u64 hi, .slice va vn vc, .slice oa on oc, .bool has, .int .u8 lim], .int .u64 seq] w fun e w' => e = .returned (.agg #[.int .u8 k, .int .u64 seq, .int .u64 key, .int .u64 hi, .slice va vn vc, .slice oa on oc, .bool has, .int .u8 0, .int .u8 0, .int .u8 0, .int .u32 0, .int .u32 0, .int .u64 0, .int .u8 lim, .slice none 0 0, .slice none 0 0, .slice none 0 0]) ∧ Kp Nu w w' := by
  go_enter Tryz.func38, Tryz.ntmps38
  go_wp2_with (guard_target =~ wpList _ _ _ ({ dst := none, op := Op.store 36 (Operand.tmp 4) (Operand.tmp 20), type := _, pos := _, after := _, guard := _ } :: _) _ _; refine wpList_store_new 36 17 (.tmp 4) (.tmp 20) rfl rfl info36 _ _ _ rfl rfl (by simp) rfl rfl (by simp [Value.oneCell']) ?_)
  have hb := heap_new (w.alloc (.cells #[.int .u8 k, .int .u64 key, .int .u64 hi, .slice va vn vc, .slice oa on oc, .bool has, .int .u8 lim] 26)) (.cells #[.int .u8 k, .int .u64 seq, .int .u64 key, .int .u64 hi, .slice va vn vc, .slice oa on oc, .bool has, .int .u8 0, .int .u8 0, .int .u8 0, .int .u32 0, .int .u32 0, .int .u64 0, .int .u8 lim, .slice none 0 0, .slice none 0 0, .slice none 0 0] 36)
  simp only [World.size_alloc] at hb
  refine bodyPost_ret (results_cell_row rfl _ _ (w.heap.size + 1) 36 _ _ _ rfl hb Tryz.underlying36 rfl info36) rfl ?_
  exact ⟨rfl, (Kp.alloc _ _ _).andAlloc _⟩
set_option maxHeartbeats 400000 in
theorem messageOf_any (w : World) (k key hi lim seq : Int) (va oa : Option Addr) (vn vc on oc : Nat) (has : Bool) : Calls Tryz.prog 53 #[.agg #[.int .u8 k, .int .u64 key, .int .u64 hi, .slice va vn vc, .slice oa on oc, .bool has, .int .u8 lim], .int .u64 seq] w fun e w' => e = .returned (.agg #[.int .u8 k, .int .u64 seq, .int .u64 key, .int .u64 hi, .slice va vn vc, .slice oa on oc, .bool has, .int .u8 0, .int .u8 0, .int .u8 0, .int .u32 0, .int .u32 0, .int .u64 0, .int .u8 lim, .slice none 0 0, .slice none 0 0, .slice none 0 0]) ∧ Kp Nu w w' := by
  go_enter Tryz.func53, Tryz.ntmps53
  go_wp2_with (guard_target =~ wpList _ _ _ ({ dst := none, op := Op.store 36 (Operand.tmp 4) (Operand.tmp 20), type := _, pos := _, after := _, guard := _ } :: _) _ _; refine wpList_store_new 36 17 (.tmp 4) (.tmp 20) rfl rfl info36 _ _ _ rfl rfl (by simp) rfl rfl (by simp [Value.oneCell']) ?_)
  have hb := heap_new (w.alloc (.cells #[.int .u8 k, .int .u64 key, .int .u64 hi, .slice va vn vc, .slice oa on oc, .bool has, .int .u8 lim] 26)) (.cells #[.int .u8 k, .int .u64 seq, .int .u64 key, .int .u64 hi, .slice va vn vc, .slice oa on oc, .bool has, .int .u8 0, .int .u8 0, .int .u8 0, .int .u32 0, .int .u32 0, .int .u64 0, .int .u8 lim, .slice none 0 0, .slice none 0 0, .slice none 0 0] 36)
  simp only [World.size_alloc] at hb
  refine bodyPost_ret (results_cell_row rfl _ _ (w.heap.size + 1) 36 _ _ _ rfl hb Tryz.underlying36 rfl info36) rfl ?_
  exact ⟨rfl, (Kp.alloc _ _ _).andAlloc _⟩
end Go.Proofs.YtmlnglillgplfaaGreat.Cl
