import Derived.Test.YtmlnglillgplfaaGreatStC
import Derived.Test.YtmlnglillgplfaaGreatRcF
import Derived.Deep.RegionHeld3
namespace Go.Proofs.YtmlnglillgplfaaGreat.Cl
open Go.RowKit Go.Maps
set_option linter.unusedVariables false
theorem stOk_one {of : Int} (o1 : 1 ≤ of) (o5 : of ≤ 5) : stOk of 1 := by
  unfold stOk
  omega
/-- the reply's Hi -/
def yhi (k hi : Int) : Int := if k = 5 then hi else 0
set_option maxRecDepth 100000 in
set_option maxHeartbeats 2000000 in
theorem answer_ok (w : World) (k key hi lim seq st : Int) (va oa : Option Addr) (vn vc on oc : Nat) (has : Bool) (k1 : 1 ≤ k) (k5 : k ≤ 5) (i0 : 0 ≤ hi) (i1 : hi < 18446744073709551616) (q0 : 1 ≤ seq) (q1 : seq < 18446744073709551616) (s0 : 0 ≤ st) (s1 : st < 256) :
    Calls Tryz.prog 30 #[.agg #[.int .u8 k, .int .u64 key, .int .u64 hi, .slice va vn vc, .slice oa on oc, .bool has, .int .u8 lim], .int .u64 seq, .int .u8 st] w fun e w' => ∃ st', e = .returned (.agg #[.int .u8 6, .int .u64 seq, .int .u64 0, .int .u64 (yhi k hi), .slice none 0 0, .slice none 0 0, .bool false, .int .u8 k, .int .u8 st', .int .u8 0, .int .u32 0, .int .u32 0, .int .u64 0, .int .u8 0, .slice none 0 0, .slice none 0 0, .slice none 0 0]) ∧ Hid (stOk k st' ∧ 0 ≤ st' ∧ st' < 256) ∧ Kp Nu w w' := by
  have h50 : 0 ≤ yhi k hi ∧ yhi k hi < 18446744073709551616 := by unfold yhi; split <;> omega
  have RC := fun W => refCheck W ⟨6, seq, 0, yhi k hi, Sl.nil, Sl.nil, false, k, st, 0, 0, 0, 0, 0, Sl.nil, Sl.nil, Sl.nil⟩ ⟨by simp, ⟨by simp; omega, by simp; omega⟩, by simp, h50, ⟨by simp; omega, by simp; omega⟩, ⟨by simp; omega, by simp; omega⟩, by simp, by simp, by simp, by simp, by simp⟩ ⟨⟨[], Ct.nil W⟩, ⟨[], Ct.nil W⟩, ⟨[], Ct.nil W⟩, rfl, rfl⟩
  have ew : IntKind.i64.wrap k = k := by
    simp only [IntKind.wrap, IntKind.signed, IntKind.bits]
    first | omega | (simp; omega)
  have rul8 : ∀ n : Int, (n = 0 → 1 ≤ (6 : Int) ∧ (6 : Int) ≤ 12 ∧ (∀ f ∈ ul ⟨6, seq, 0, yhi k hi, Sl.nil, Sl.nil, false, k, st, 0, 0, 0, 0, 0, Sl.nil, Sl.nil, Sl.nil⟩, (⟨6, seq, 0, yhi k hi, Sl.nil, Sl.nil, false, k, st, 0, 0, 0, 0, 0, Sl.nil, Sl.nil, Sl.nil⟩ : Mg).rul f) ∧ Alike (⟨6, seq, 0, yhi k hi, Sl.nil, Sl.nil, false, k, st, 0, 0, 0, 0, 0, Sl.nil, Sl.nil, Sl.nil⟩ : Mg) ((Mg.bare 6).lays ⟨6, seq, 0, yhi k hi, Sl.nil, Sl.nil, false, k, st, 0, 0, 0, 0, 0, Sl.nil, Sl.nil, Sl.nil⟩ (ul ⟨6, seq, 0, yhi k hi, Sl.nil, Sl.nil, false, k, st, 0, 0, 0, 0, 0, Sl.nil, Sl.nil, Sl.nil⟩))) → n = 0 → stOk k st := fun n hn h0 => by
    obtain ⟨_, _, hu, _⟩ := hn h0
    have h8 := hu 8 (by unfold ul; simp only [show ¬ (6 : Int) = 1 by omega, show ¬ (6 : Int) = 2 by omega, show ¬ (6 : Int) = 3 by omega, show ¬ (6 : Int) = 4 by omega, show ¬ (6 : Int) = 5 by omega, if_false, if_true]; split <;> (try split) <;> simp)
    exact h8 (by simp) k1 k5
  obtain ⟨w2, e2⟩ : ∃ w2, (w.alloc (.cells #[.int .u8 k, .int .u64 key, .int .u64 hi, .slice va vn vc, .slice oa on oc, .bool has, .int .u8 lim] 26)).alloc (.cells #[.int .u8 0, .int .u64 0, .int .u64 0, .int .u64 0, .slice none 0 0, .slice none 0 0, .bool false, .int .u8 0, .int .u8 0, .int .u8 0, .int .u32 0, .int .u32 0, .int .u64 0, .int .u8 0, .slice none 0 0, .slice none 0 0, .slice none 0 0] 36) = w2 := ⟨_, rfl⟩
  have k2 : Kp Nu w w2 := by rw [← e2]; exact (Kp.alloc _ _ _).andAlloc _
  have hz : w2.heap[w.heap.size + 1]? = some (.cells #[.int .u8 0, .int .u64 0, .int .u64 0, .int .u64 0, .slice none 0 0, .slice none 0 0, .bool false, .int .u8 0, .int .u8 0, .int .u8 0, .int .u32 0, .int .u32 0, .int .u64 0, .int .u8 0, .slice none 0 0, .slice none 0 0, .slice none 0 0] 36 (0, 0)) := by rw [← e2]; exact new2 w _ _
  have hr : w2.heap[w.heap.size]? = some (.cells #[.int .u8 k, .int .u64 key, .int .u64 hi, .slice va vn vc, .slice oa on oc, .bool has, .int .u8 lim] 26 (0, 0)) := by rw [← e2]; exact new12 w _ _
  have hs2 : w2.heap.size = w.heap.size + 2 := by rw [← e2]; simp
  have u0 := cellAt hr 0 (v := .int .u8 k) rfl
  have u2 := cellAt hr 2 (v := .int .u64 hi) rfl
  have hlt : w.heap.size < w2.heap.size := by omega
  have v0 : (w2.alloc (.cells #[.int .u8 6, .int .u64 seq, .int .u64 0, .int .u64 0, .slice none 0 0, .slice none 0 0, .bool false, .int .u8 k, .int .u8 st, .int .u8 0, .int .u32 0, .int .u32 0, .int .u64 0, .int .u8 0, .slice none 0 0, .slice none 0 0, .slice none 0 0] 36)).cell? ⟨w.heap.size, 0, none⟩ = some (.int .u8 k) := cellAt (box_k hr (Kp.alloc w2 _ Nu)) 0 rfl
  have v2 : (w2.alloc (.cells #[.int .u8 6, .int .u64 seq, .int .u64 0, .int .u64 0, .slice none 0 0, .slice none 0 0, .bool false, .int .u8 k, .int .u8 st, .int .u8 0, .int .u32 0, .int .u32 0, .int .u64 0, .int .u8 0, .slice none 0 0, .slice none 0 0, .slice none 0 0] 36)).cell? ⟨w.heap.size, 2, none⟩ = some (.int .u64 hi) := cellAt (box_k hr (Kp.alloc w2 _ Nu)) 2 rfl
  have HZ := hide (And.intro k2 (And.intro hz hs2))
  have HKK := hide (And.intro (And.intro k1 k5) (And.intro (And.intro i0 i1) (And.intro s0 s1)))
  clear k2 hz hr hs2 hlt h50 k1 k5 i0 i1 s0 s1 q0 q1
  by_cases c5 : k = 5
  · subst c5
    have ey : yhi 5 hi = hi := by unfold yhi; rw [if_pos rfl]
    rw [ey] at RC rul8 ⊢
    clear ey
    simp only [Mg.cells, Sl.val, Sl.nil] at RC
    go_enter Tryz.func30, Tryz.ntmps30
    go_wp2_with (first | (guard_target =~ wpList _ _ _ ({ dst := none, op := Op.store 36 (Operand.tmp 7) (Operand.tmp 13), type := _, pos := _, after := _, guard := _ } :: _) _ _; refine wpList_store_new 36 17 (.tmp 7) (.tmp 13) rfl rfl info36 _ _ _ rfl rfl (by simp) rfl rfl (by simp [Value.oneCell']) ?_) | (guard_target =~ wpList _ _ _ ({ dst := _, op := Op.load 36 (Operand.tmp 7), type := _, pos := _, after := _, guard := _ } :: _) _ _; refine wpList_load_all 36 17 (.tmp 7) rfl rfl info36 _ Tryz.underlying36 rfl _ rfl (heap_new w2 _) rfl ?_))
    refine (RC _).mono ?_; rintro e w4 ⟨⟨n, rfl, hn⟩, hk4⟩
    have R8 := hide (rul8 n hn)
    have k24 : Kp (fun i => i = w2.heap.size) w2 w4 := ((Kp.alloc w2 (.cells #[.int .u8 6, .int .u64 seq, .int .u64 0, .int .u64 hi, .slice none 0 0, .slice none 0 0, .bool false, .int .u8 5, .int .u8 st, .int .u8 0, .int .u32 0, .int .u32 0, .int .u64 0, .int .u8 0, .slice none 0 0, .slice none 0 0, .slice none 0 0] 36) Nu).andNu hk4).mono (fun _ _ h => h.elim)
    have h7 : w4.heap[w2.heap.size]? = some (.cells #[.int .u8 6, .int .u64 seq, .int .u64 0, .int .u64 hi, .slice none 0 0, .slice none 0 0, .bool false, .int .u8 5, .int .u8 st, .int .u8 0, .int .u32 0, .int .u32 0, .int .u64 0, .int .u8 0, .slice none 0 0, .slice none 0 0, .slice none 0 0] 36 (0, 0)) := new_at w2 _ hk4
    obtain ⟨k2, hz, hs2⟩ := HZ.out
    have h6 : w4.heap[w.heap.size + 1]? = some (.cells #[.int .u8 0, .int .u64 0, .int .u64 0, .int .u64 0, .slice none 0 0, .slice none 0 0, .bool false, .int .u8 0, .int .u8 0, .int .u8 0, .int .u32 0, .int .u32 0, .int .u64 0, .int .u8 0, .slice none 0 0, .slice none 0 0, .slice none 0 0] 36 (0, 0)) := (k24.block _ (blk_lt hz) (fun e => by have e' : w.heap.size + 1 = w2.heap.size := e; omega)).trans hz
    have kw4 : Kp Nu w w4 := k2.trans k24 (fun i hi e => by have e' : i = w2.heap.size := e; omega)
    have K4 := hide kw4
    have HS2 := hide hs2
    clear RC rul8 hn hk4 k24 k2 hz v0 v2 u0 u2
    by_cases hn0 : n = 0
    · subst hn0
      have H7 := hide h7
      have H6 := hide h6
      clear h7 h6 kw4 hs2
      go_wp2_with (first | (guard_target =~ wpList _ _ _ ({ dst := _, op := Op.load 36 (Operand.tmp 7), type := _, pos := _, after := _, guard := _ } :: _) _ _; refine wpList_load_all 36 17 (.tmp 7) rfl rfl info36 _ Tryz.underlying36 rfl _ rfl H7.out rfl ?_) | (guard_target =~ wpList _ _ _ ({ dst := none, op := Op.store 36 (Operand.tmp 6) (Operand.tmp 26), type := _, pos := _, after := _, guard := _ } :: _) _ _; refine wpList_store_all 36 17 (.tmp 6) (.tmp 26) rfl rfl info36 (w.heap.size + 1) _ rfl rfl H6.out rfl rfl (by simp [Value.oneCell']) ?_; intro W hW kW sW))
      refine bodyPost_ret (results_cell_row rfl _ _ (w.heap.size + 1) 36 _ _ _ rfl hW Tryz.underlying36 rfl info36) rfl ?_
      refine ⟨st, rfl, hide ⟨R8.out (by simp), HKK.out.2.2⟩, K4.out.trans kW (fun i hi e => by have e' : i = w.heap.size + 1 := e; omega)⟩
    · have hqn : (n == 0) = false := by simpa using hn0
      have hdn : decide (n = 0) = false := by simpa using hn0
      have y8 := cellAt h7 8 (v := .int .u8 st) rfl
      have f8 := free3 h7 8
      have hS8 : (w4.setCell ⟨w2.heap.size, 8, none⟩ (.int .u8 1)).heap[w2.heap.size]? = some (.cells #[.int .u8 6, .int .u64 seq, .int .u64 0, .int .u64 hi, .slice none 0 0, .slice none 0 0, .bool false, .int .u8 5, .int .u8 1, .int .u8 0, .int .u32 0, .int .u32 0, .int .u64 0, .int .u8 0, .slice none 0 0, .slice none 0 0, .slice none 0 0] 36 (0, 0)) := (set3 h7 8 (.int .u8 1)).trans rfl
      have k8 := Kp.setCell w4 ⟨w2.heap.size, 8, none⟩ (.int .u8 1)
      have H7 : Hid ((w4.setCell ⟨w2.heap.size, 8, none⟩ (.int .u8 1)).heap[w2.heap.size]? = some (.cells #[.int .u8 6, .int .u64 seq, .int .u64 0, .int .u64 hi, .slice none 0 0, .slice none 0 0, .bool false, .int .u8 5, .int .u8 1, .int .u8 0, .int .u32 0, .int .u32 0, .int .u64 0, .int .u8 0, .slice none 0 0, .slice none 0 0, .slice none 0 0] 36 (0, 0))) := hide hS8
      have H6 := hide ((k8.block _ (blk_lt h6) (fun e => by have e' : w.heap.size + 1 = w2.heap.size := e; omega)).trans h6)
      have K8 := hide (kw4.trans k8 (fun i hi e => by have e' : i = w2.heap.size := e; omega))
      clear h7 h6 kw4 hs2 hS8 k8
      go_wp2_with (first | (guard_target =~ wpList _ _ _ ({ dst := _, op := Op.load 36 (Operand.tmp 7), type := _, pos := _, after := _, guard := _ } :: _) _ _; refine wpList_load_all 36 17 (.tmp 7) rfl rfl info36 _ Tryz.underlying36 rfl _ rfl H7.out rfl ?_) | (guard_target =~ wpList _ _ _ ({ dst := none, op := Op.store 36 (Operand.tmp 6) (Operand.tmp 26), type := _, pos := _, after := _, guard := _ } :: _) _ _; refine wpList_store_all 36 17 (.tmp 6) (.tmp 26) rfl rfl info36 (w.heap.size + 1) _ rfl rfl H6.out rfl rfl (by simp [Value.oneCell']) ?_; intro W hW kW sW))
      refine bodyPost_ret (results_cell_row rfl _ _ (w.heap.size + 1) 36 _ _ _ rfl hW Tryz.underlying36 rfl info36) rfl ?_
      refine ⟨1, rfl, hide ⟨stOk_one HKK.out.1.1 HKK.out.1.2, by omega, by omega⟩, K8.out.trans kW (fun i hi e => by have e' : i = w.heap.size + 1 := e; omega)⟩
  · skip
    have ey : yhi k hi = 0 := by unfold yhi; rw [if_neg c5]
    rw [ey] at RC rul8 ⊢
    clear ey
    simp only [Mg.cells, Sl.val, Sl.nil] at RC
    have hq : (k == 5) = false := by simpa using c5
    have hd : decide (k = 5) = false := by simpa using c5
    go_enter Tryz.func30, Tryz.ntmps30
    go_wp2_with (first | (guard_target =~ wpList _ _ _ ({ dst := none, op := Op.store 36 (Operand.tmp 7) (Operand.tmp 13), type := _, pos := _, after := _, guard := _ } :: _) _ _; refine wpList_store_new 36 17 (.tmp 7) (.tmp 13) rfl rfl info36 _ _ _ rfl rfl (by simp) rfl rfl (by simp [Value.oneCell']) ?_) | (guard_target =~ wpList _ _ _ ({ dst := _, op := Op.load 36 (Operand.tmp 7), type := _, pos := _, after := _, guard := _ } :: _) _ _; refine wpList_load_all 36 17 (.tmp 7) rfl rfl info36 _ Tryz.underlying36 rfl _ rfl (heap_new w2 _) rfl ?_))
    refine (RC _).mono ?_; rintro e w4 ⟨⟨n, rfl, hn⟩, hk4⟩
    have R8 := hide (rul8 n hn)
    have k24 : Kp (fun i => i = w2.heap.size) w2 w4 := ((Kp.alloc w2 (.cells #[.int .u8 6, .int .u64 seq, .int .u64 0, .int .u64 0, .slice none 0 0, .slice none 0 0, .bool false, .int .u8 k, .int .u8 st, .int .u8 0, .int .u32 0, .int .u32 0, .int .u64 0, .int .u8 0, .slice none 0 0, .slice none 0 0, .slice none 0 0] 36) Nu).andNu hk4).mono (fun _ _ h => h.elim)
    have h7 : w4.heap[w2.heap.size]? = some (.cells #[.int .u8 6, .int .u64 seq, .int .u64 0, .int .u64 0, .slice none 0 0, .slice none 0 0, .bool false, .int .u8 k, .int .u8 st, .int .u8 0, .int .u32 0, .int .u32 0, .int .u64 0, .int .u8 0, .slice none 0 0, .slice none 0 0, .slice none 0 0] 36 (0, 0)) := new_at w2 _ hk4
    obtain ⟨k2, hz, hs2⟩ := HZ.out
    have h6 : w4.heap[w.heap.size + 1]? = some (.cells #[.int .u8 0, .int .u64 0, .int .u64 0, .int .u64 0, .slice none 0 0, .slice none 0 0, .bool false, .int .u8 0, .int .u8 0, .int .u8 0, .int .u32 0, .int .u32 0, .int .u64 0, .int .u8 0, .slice none 0 0, .slice none 0 0, .slice none 0 0] 36 (0, 0)) := (k24.block _ (blk_lt hz) (fun e => by have e' : w.heap.size + 1 = w2.heap.size := e; omega)).trans hz
    have kw4 : Kp Nu w w4 := k2.trans k24 (fun i hi e => by have e' : i = w2.heap.size := e; omega)
    have K4 := hide kw4
    have HS2 := hide hs2
    clear RC rul8 hn hk4 k24 k2 hz v0 v2 u0 u2
    by_cases hn0 : n = 0
    · subst hn0
      have H7 := hide h7
      have H6 := hide h6
      clear h7 h6 kw4 hs2
      go_wp2_with (first | (guard_target =~ wpList _ _ _ ({ dst := _, op := Op.load 36 (Operand.tmp 7), type := _, pos := _, after := _, guard := _ } :: _) _ _; refine wpList_load_all 36 17 (.tmp 7) rfl rfl info36 _ Tryz.underlying36 rfl _ rfl H7.out rfl ?_) | (guard_target =~ wpList _ _ _ ({ dst := none, op := Op.store 36 (Operand.tmp 6) (Operand.tmp 26), type := _, pos := _, after := _, guard := _ } :: _) _ _; refine wpList_store_all 36 17 (.tmp 6) (.tmp 26) rfl rfl info36 (w.heap.size + 1) _ rfl rfl H6.out rfl rfl (by simp [Value.oneCell']) ?_; intro W hW kW sW))
      refine bodyPost_ret (results_cell_row rfl _ _ (w.heap.size + 1) 36 _ _ _ rfl hW Tryz.underlying36 rfl info36) rfl ?_
      refine ⟨st, rfl, hide ⟨R8.out (by simp), HKK.out.2.2⟩, K4.out.trans kW (fun i hi e => by have e' : i = w.heap.size + 1 := e; omega)⟩
    · have hqn : (n == 0) = false := by simpa using hn0
      have hdn : decide (n = 0) = false := by simpa using hn0
      have y8 := cellAt h7 8 (v := .int .u8 st) rfl
      have f8 := free3 h7 8
      have hS8 : (w4.setCell ⟨w2.heap.size, 8, none⟩ (.int .u8 1)).heap[w2.heap.size]? = some (.cells #[.int .u8 6, .int .u64 seq, .int .u64 0, .int .u64 0, .slice none 0 0, .slice none 0 0, .bool false, .int .u8 k, .int .u8 1, .int .u8 0, .int .u32 0, .int .u32 0, .int .u64 0, .int .u8 0, .slice none 0 0, .slice none 0 0, .slice none 0 0] 36 (0, 0)) := (set3 h7 8 (.int .u8 1)).trans rfl
      have k8 := Kp.setCell w4 ⟨w2.heap.size, 8, none⟩ (.int .u8 1)
      have H7 : Hid ((w4.setCell ⟨w2.heap.size, 8, none⟩ (.int .u8 1)).heap[w2.heap.size]? = some (.cells #[.int .u8 6, .int .u64 seq, .int .u64 0, .int .u64 0, .slice none 0 0, .slice none 0 0, .bool false, .int .u8 k, .int .u8 1, .int .u8 0, .int .u32 0, .int .u32 0, .int .u64 0, .int .u8 0, .slice none 0 0, .slice none 0 0, .slice none 0 0] 36 (0, 0))) := hide hS8
      have H6 := hide ((k8.block _ (blk_lt h6) (fun e => by have e' : w.heap.size + 1 = w2.heap.size := e; omega)).trans h6)
      have K8 := hide (kw4.trans k8 (fun i hi e => by have e' : i = w2.heap.size := e; omega))
      clear h7 h6 kw4 hs2 hS8 k8
      go_wp2_with (first | (guard_target =~ wpList _ _ _ ({ dst := _, op := Op.load 36 (Operand.tmp 7), type := _, pos := _, after := _, guard := _ } :: _) _ _; refine wpList_load_all 36 17 (.tmp 7) rfl rfl info36 _ Tryz.underlying36 rfl _ rfl H7.out rfl ?_) | (guard_target =~ wpList _ _ _ ({ dst := none, op := Op.store 36 (Operand.tmp 6) (Operand.tmp 26), type := _, pos := _, after := _, guard := _ } :: _) _ _; refine wpList_store_all 36 17 (.tmp 6) (.tmp 26) rfl rfl info36 (w.heap.size + 1) _ rfl rfl H6.out rfl rfl (by simp [Value.oneCell']) ?_; intro W hW kW sW))
      refine bodyPost_ret (results_cell_row rfl _ _ (w.heap.size + 1) 36 _ _ _ rfl hW Tryz.underlying36 rfl info36) rfl ?_
      refine ⟨1, rfl, hide ⟨stOk_one HKK.out.1.1 HKK.out.1.2, by omega, by omega⟩, K8.out.trans kW (fun i hi e => by have e' : i = w.heap.size + 1 := e; omega)⟩
end Go.Proofs.YtmlnglillgplfaaGreat.Cl
namespace Go.Proofs.YtmlnglillgplfaaGreat.Cl
open Go.RowKit Go.Maps
set_option linter.unusedVariables false
theorem check_rep (w : World) (seq of st yh : Int) (q1 : 1 ≤ seq) (q2 : seq < 18446744073709551616) (o1 : 1 ≤ of) (o5 : of ≤ 5) (s0 : 0 ≤ st) (s1 : st < 256) (hst : stOk of st) (y0 : 0 ≤ yh) (y1 : yh < 18446744073709551616) (hy : ¬ of = 5 → yh = 0) :
    Calls Tryz.prog 52 #[.agg #[.int .u8 6, .int .u64 seq, .int .u64 0, .int .u64 yh, .slice none 0 0, .slice none 0 0, .bool false, .int .u8 of, .int .u8 st, .int .u8 0, .int .u32 0, .int .u32 0, .int .u64 0, .int .u8 0, .slice none 0 0, .slice none 0 0, .slice none 0 0]] w fun e w' => e = .returned (.int .i64 0) ∧ Kp Nu w w' := by
  have CK := check_ok w ⟨6, seq, 0, yh, Sl.nil, Sl.nil, false, of, st, 0, 0, 0, 0, 0, Sl.nil, Sl.nil, Sl.nil⟩ ⟨by simp, ⟨by simp; omega, by simp; omega⟩, by simp, ⟨by simp; omega, by simp; omega⟩, ⟨by simp; omega, by simp; omega⟩, ⟨by simp; omega, by simp; omega⟩, by simp, by simp, by simp, by simp, by simp⟩ (by simp) (by simp)
    (fun f hf => by
      have hf' : f ∈ [0, 4, 5] := hf
      simp only [List.mem_cons, List.not_mem_nil, or_false] at hf'
      rcases hf' with rfl | rfl | rfl
      · exact q1
      · exact ⟨o1, o5⟩
      · exact ⟨by simp, hst⟩)
    (fun f hf => by
      unfold Mg.ans at hf
      simp only [ne_eq, not_true_eq_false, if_false] at hf
      split at hf
      · simp only [List.mem_cons, List.not_mem_nil, or_false] at hf
        subst hf
        show ((0 : Nat) : Int) ≤ 64
        omega
      · split at hf
        · simp only [List.mem_cons, List.not_mem_nil, or_false] at hf
          rcases hf with rfl | rfl
          · exact y0
          · rfl
        · cases hf)
    (by
      unfold Mg.ans
      simp only [ne_eq, not_true_eq_false, if_false]
      split
      · rename_i h
        have hy0 : yh = 0 := hy (by omega)
        subst hy0
        refine ⟨fun n hn => ?_, rfl, rfl, rfl, rfl, rfl, rfl⟩
        have hc : n = 0 ∨ n = 1 ∨ n = 2 ∨ n = 3 ∨ n = 4 ∨ n = 5 ∨ n = 6 ∨ n = 7 ∨ n = 8 ∨ n = 9 := by omega
        rcases hc with rfl | rfl | rfl | rfl | rfl | rfl | rfl | rfl | rfl | rfl <;> rfl
      · split
        · refine ⟨fun n hn => ?_, rfl, rfl, rfl, rfl, rfl, rfl⟩
          have hc : n = 0 ∨ n = 1 ∨ n = 2 ∨ n = 3 ∨ n = 4 ∨ n = 5 ∨ n = 6 ∨ n = 7 ∨ n = 8 ∨ n = 9 := by omega
          rcases hc with rfl | rfl | rfl | rfl | rfl | rfl | rfl | rfl | rfl | rfl <;> rfl
        · rename_i h
          have hy0 : yh = 0 := hy h
          subst hy0
          refine ⟨fun n hn => ?_, rfl, rfl, rfl, rfl, rfl, rfl⟩
          have hc : n = 0 ∨ n = 1 ∨ n = 2 ∨ n = 3 ∨ n = 4 ∨ n = 5 ∨ n = 6 ∨ n = 7 ∨ n = 8 ∨ n = 9 := by omega
          rcases hc with rfl | rfl | rfl | rfl | rfl | rfl | rfl | rfl | rfl | rfl <;> rfl)
  exact CK
set_option maxRecDepth 100000 in
set_option maxHeartbeats 4000000 in
theorem take_reply {w : World} {b : Nat} {s : Cs} (h : CB w b s) (fr of st yh : Int) (hof : s.rk = of) (o1 : 1 ≤ of) (o5 : of ≤ 5) (hy5 : of = 5 → s.rkey ≤ yh ∧ yh ≤ s.rhi) (hy : ¬ of = 5 → yh = 0) (l0 : 0 ≤ s.rlim) (l1 : s.rlim < 256) (s0 : 0 ≤ st) (s1 : st < 256) (hst : stOk of st) (y0 : 0 ≤ yh) (y1 : yh < 18446744073709551616) (hp : s.ph = 1) (q0 : 1 ≤ s.seq) (q1 : s.seq < 18446744073709551616) (a0 : 0 ≤ fr) (a1 : fr < s.hosts) (h16 : s.hosts ≤ 16) :
    Calls Tryz.prog 20 #[.pointer (some ⟨b, 0, none⟩), .int .u8 fr, .agg #[.int .u8 6, .int .u64 s.seq, .int .u64 0, .int .u64 yh, .slice none 0 0, .slice none 0 0, .bool false, .int .u8 of, .int .u8 st, .int .u8 0, .int .u32 0, .int .u32 0, .int .u64 0, .int .u8 0, .slice none 0 0, .slice none 0 0, .slice none 0 0]] w fun e w' => e = .returned (.tuple #[.slice none 0 0, .int .i64 0]) ∧ CB w' b (s.don fr st yh) ∧ Kp (fun i => i = b) w w' := by
  have mixed : Tryz.prog.follows .mixedOrders = true := by kernel_rfl
  have fne := fneq93
  obtain ⟨wa, hwa⟩ : ∃ wa, w.alloc (.cells #[.int .u8 6, .int .u64 s.seq, .int .u64 0, .int .u64 yh, .slice none 0 0, .slice none 0 0, .bool false, .int .u8 of, .int .u8 st, .int .u8 0, .int .u32 0, .int .u32 0, .int .u64 0, .int .u8 0, .slice none 0 0, .slice none 0 0, .slice none 0 0] 36) = wa := ⟨_, rfl⟩
  have ka : Kp Nu w wa := by rw [← hwa]; exact Kp.alloc _ _ _
  have hbx : wa.heap[w.heap.size]? = some (.cells #[.int .u8 6, .int .u64 s.seq, .int .u64 0, .int .u64 yh, .slice none 0 0, .slice none 0 0, .bool false, .int .u8 of, .int .u8 st, .int .u8 0, .int .u32 0, .int .u32 0, .int .u64 0, .int .u8 0, .slice none 0 0, .slice none 0 0, .slice none 0 0] 36 (0, 0)) := by rw [← hwa]; exact heap_new w _
  have MA := made_any (h.nu ka)
  have TK := fun W => taker_any W 6 (by omega) (by omega)
  rw [show tkr 6 = .func (.func 93) #[] #[] from rfl] at TK
  have x0 := cellAt hbx 0 (v := .int .u8 6) rfl
  have WY := fun X (k : Kp Nu wa X) => waits_yes ((h.nu ka).nu k) hp
  have IH := fun X (k : Kp Nu wa X) => isHost_any ((h.nu ka).nu k) fr a0 (by omega)
  have hd : decide (fr < s.hosts) = true := by simpa using a1
  rw [hd] at IH
  have CKX := fun X => check_rep X s.seq of st yh q0 q1 o1 o5 s0 s1 hst y0 y1 hy
  have RD : ∀ X, Kp Nu wa X → Calls Tryz.prog 93 #[.pointer (some ⟨b, 0, none⟩), .int .u8 fr, .agg #[.int .u8 6, .int .u64 s.seq, .int .u64 0, .int .u64 yh, .slice none 0 0, .slice none 0 0, .bool false, .int .u8 of, .int .u8 st, .int .u8 0, .int .u32 0, .int .u32 0, .int .u64 0, .int .u8 0, .slice none 0 0, .slice none 0 0, .slice none 0 0]] X fun e w' => e = .returned (.tuple #[.slice none 0 0, .int .i64 0]) ∧ CB w' b (s.don fr st yh) ∧ Kp (fun i => i = b) X w' := fun X k => by
    by_cases n5 : of = 5
    · exact takeReply_scan ((h.nu ka).nu k) fr s.seq of st yh hof n5 (hy5 n5).1 (hy5 n5).2 l0 l1
    · exact takeReply_other ((h.nu ka).nu k) fr s.seq of st yh hof n5
  have HS : ∀ X, Kp Nu wa X → (X.cell? ⟨b, 12, none⟩ = some (.int .u64 s.seq) ∧ X.cell? ⟨w.heap.size, 0, none⟩ = some (.int .u8 6) ∧ X.cell? ⟨w.heap.size, 1, none⟩ = some (.int .u64 s.seq) ∧ X.cell? ⟨w.heap.size, 2, none⟩ = some (.int .u64 0) ∧ X.cell? ⟨w.heap.size, 3, none⟩ = some (.int .u64 yh) ∧ X.cell? ⟨w.heap.size, 4, none⟩ = some (.slice none 0 0) ∧ X.cell? ⟨w.heap.size, 5, none⟩ = some (.slice none 0 0) ∧ X.cell? ⟨w.heap.size, 6, none⟩ = some (.bool false) ∧ X.cell? ⟨w.heap.size, 7, none⟩ = some (.int .u8 of) ∧ X.cell? ⟨w.heap.size, 8, none⟩ = some (.int .u8 st) ∧ X.cell? ⟨w.heap.size, 9, none⟩ = some (.int .u8 0) ∧ X.cell? ⟨w.heap.size, 10, none⟩ = some (.int .u32 0) ∧ X.cell? ⟨w.heap.size, 11, none⟩ = some (.int .u32 0) ∧ X.cell? ⟨w.heap.size, 12, none⟩ = some (.int .u64 0) ∧ X.cell? ⟨w.heap.size, 13, none⟩ = some (.int .u8 0) ∧ X.cell? ⟨w.heap.size, 14, none⟩ = some (.slice none 0 0) ∧ X.cell? ⟨w.heap.size, 15, none⟩ = some (.slice none 0 0) ∧ X.cell? ⟨w.heap.size, 16, none⟩ = some (.slice none 0 0)) := fun X hX => by
    have hc := (h.nu ka).nu hX
    have hb := (hX.block _ (blk_lt hbx) (fun h => h)).trans hbx
    exact ⟨hc.c_seq, cellAt hb 0 rfl, cellAt hb 1 rfl, cellAt hb 2 rfl, cellAt hb 3 rfl, cellAt hb 4 rfl, cellAt hb 5 rfl, cellAt hb 6 rfl, cellAt hb 7 rfl, cellAt hb 8 rfl, cellAt hb 9 rfl, cellAt hb 10 rfl, cellAt hb 11 rfl, cellAt hb 12 rfl, cellAt hb 13 rfl, cellAt hb 14 rfl, cellAt hb 15 rfl, cellAt hb 16 rfl⟩
  have HB := hide hbx
  have HA := hide ka
  clear h hof o1 o5 hy5 hy l0 l1 s0 s1 hst y0 y1 hp q0 q1 a0 a1 h16 hd ka hbx
  go_enter Tryz.func20, Tryz.ntmps20
  go_wp2_with fail
  refine MA.mono ?_; rintro e w' ⟨rfl, hw⟩
  obtain rfl := hw.symm
  clear MA hw
  go_wp2_with fail
  refine (TK _).mono ?_; rintro e wb ⟨rfl, kb⟩
  have HS' : ∀ X, Kp Nu wb X → (X.cell? ⟨b, 12, none⟩ = some (.int .u64 s.seq) ∧ X.cell? ⟨w.heap.size, 0, none⟩ = some (.int .u8 6) ∧ X.cell? ⟨w.heap.size, 1, none⟩ = some (.int .u64 s.seq) ∧ X.cell? ⟨w.heap.size, 2, none⟩ = some (.int .u64 0) ∧ X.cell? ⟨w.heap.size, 3, none⟩ = some (.int .u64 yh) ∧ X.cell? ⟨w.heap.size, 4, none⟩ = some (.slice none 0 0) ∧ X.cell? ⟨w.heap.size, 5, none⟩ = some (.slice none 0 0) ∧ X.cell? ⟨w.heap.size, 6, none⟩ = some (.bool false) ∧ X.cell? ⟨w.heap.size, 7, none⟩ = some (.int .u8 of) ∧ X.cell? ⟨w.heap.size, 8, none⟩ = some (.int .u8 st) ∧ X.cell? ⟨w.heap.size, 9, none⟩ = some (.int .u8 0) ∧ X.cell? ⟨w.heap.size, 10, none⟩ = some (.int .u32 0) ∧ X.cell? ⟨w.heap.size, 11, none⟩ = some (.int .u32 0) ∧ X.cell? ⟨w.heap.size, 12, none⟩ = some (.int .u64 0) ∧ X.cell? ⟨w.heap.size, 13, none⟩ = some (.int .u8 0) ∧ X.cell? ⟨w.heap.size, 14, none⟩ = some (.slice none 0 0) ∧ X.cell? ⟨w.heap.size, 15, none⟩ = some (.slice none 0 0) ∧ X.cell? ⟨w.heap.size, 16, none⟩ = some (.slice none 0 0)) := fun X hX => HS X (kb.andNu hX)
  have WY' := fun X (k : Kp Nu wb X) => WY X (kb.andNu k)
  have IH' := fun X (k : Kp Nu wb X) => IH X (kb.andNu k)
  have CK' := fun X (hX : Kp Nu wb X) => (CKX X).mono (fun e w' h => (⟨h.1, hX.andNu h.2⟩ : e = .returned (.int .i64 0) ∧ Kp Nu wb w'))
  clear x0 TK HS WY IH
  go_wp2_with fail
  go_region_held3 (fun X => X.cell? ⟨b, 12, none⟩ = some (.int .u64 s.seq) ∧ X.cell? ⟨w.heap.size, 0, none⟩ = some (.int .u8 6) ∧ X.cell? ⟨w.heap.size, 1, none⟩ = some (.int .u64 s.seq) ∧ X.cell? ⟨w.heap.size, 2, none⟩ = some (.int .u64 0) ∧ X.cell? ⟨w.heap.size, 3, none⟩ = some (.int .u64 yh) ∧ X.cell? ⟨w.heap.size, 4, none⟩ = some (.slice none 0 0) ∧ X.cell? ⟨w.heap.size, 5, none⟩ = some (.slice none 0 0) ∧ X.cell? ⟨w.heap.size, 6, none⟩ = some (.bool false) ∧ X.cell? ⟨w.heap.size, 7, none⟩ = some (.int .u8 of) ∧ X.cell? ⟨w.heap.size, 8, none⟩ = some (.int .u8 st) ∧ X.cell? ⟨w.heap.size, 9, none⟩ = some (.int .u8 0) ∧ X.cell? ⟨w.heap.size, 10, none⟩ = some (.int .u32 0) ∧ X.cell? ⟨w.heap.size, 11, none⟩ = some (.int .u32 0) ∧ X.cell? ⟨w.heap.size, 12, none⟩ = some (.int .u64 0) ∧ X.cell? ⟨w.heap.size, 13, none⟩ = some (.int .u8 0) ∧ X.cell? ⟨w.heap.size, 14, none⟩ = some (.slice none 0 0) ∧ X.cell? ⟨w.heap.size, 15, none⟩ = some (.slice none 0 0) ∧ X.cell? ⟨w.heap.size, 16, none⟩ = some (.slice none 0 0)) (first | (refine HS' _ ?_; (repeat (first | assumption | exact Kp.refl _ _ | apply Kp.drew)); done)) (first | (go_at_call 48; refine (WY' _ ?_).mono ?_; (repeat (first | assumption | exact Kp.refl _ _ | apply Kp.drew)); rintro e w3 ⟨rfl, hw3⟩; obtain rfl := hw3.symm; clear hw3) | (go_at_call 58; refine (IH' _ ?_).mono ?_; (repeat (first | assumption | exact Kp.refl _ _ | apply Kp.drew)); rintro e w3 ⟨rfl, hw3⟩; obtain rfl := hw3.symm; clear hw3) | (go_at_call 52; refine (CK' _ ?_).mono ?_; (repeat (first | assumption | exact Kp.refl _ _ | apply Kp.drew)); rintro e w4 ⟨rfl, hk4⟩))
  clear HS' WY' IH' CK' CKX
  have R4 := RD w4 (kb.andNu hk4)
  have H4 := hide ((HA.out.andNu kb).andNu hk4)
  have hb4 := ((kb.andNu hk4).block _ (blk_lt HB.out) (fun h => h)).trans HB.out
  clear RD kb hk4 HB
  go_wp2_with (guard_target =~ wpList _ _ _ ({ dst := _, op := Op.load 36 (Operand.tmp 5), type := _, pos := _, after := _, guard := _ } :: _) _ _; refine wpList_load_all 36 17 (.tmp 5) rfl rfl info36 _ Tryz.underlying36 rfl _ rfl hb4 rfl ?_)
  refine R4.mono ?_; rintro e w5 ⟨rfl, hc5, hk5⟩
  have HQ := hide (And.intro hc5 hk5)
  clear R4 HA hc5 hk5 hb4 fne
  go_wp2
  go_ret2
  exact ⟨rfl, HQ.out.1, (H4.out.mono (fun _ _ h => h.elim)).trans HQ.out.2 (fun _ _ e => e)⟩
end Go.Proofs.YtmlnglillgplfaaGreat.Cl
