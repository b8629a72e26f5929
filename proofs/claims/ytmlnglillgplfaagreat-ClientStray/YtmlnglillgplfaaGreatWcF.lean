import Derived.Test.YtmlnglillgplfaaGreatWcE
namespace Go.Proofs.YtmlnglillgplfaaGreat.Cl
open Go.RowKit
set_option linter.unusedVariables false
theorem info47 : (Tryz.prog.info? 47).map (·.size) = some 1 := by kernel_rfl
theorem isKind_any (w : World) (k : Int) (h1 : 1 ≤ k) (h7 : k ≤ 7) : Calls Tryz.prog 87 #[.int .u8 k] w fun e w' => e = .returned (.bool true) ∧ w' = w := by
  have h12 : k ≤ 12 := by omega
  go_enter Tryz.func87, Tryz.ntmps87
  go_wp2
  go_ret
  exact ⟨rfl, rfl⟩
theorem clf_k (m : Mg) (f : Nat) : (m.clf f).k = m.k := by
  unfold Mg.clf
  split <;> (first | rfl | (unfold Mg.clr; split <;> rfl))
theorem clfs_k : ∀ (fs : List Nat) (m : Mg), (m.clfs fs).k = m.k
  | [], m => rfl
  | f :: fs, m => by
    show ((m.clf f).clfs fs).k = m.k
    rw [clfs_k fs, clf_k]
set_option maxRecDepth 100000 in
set_option maxHeartbeats 2000000 in
/-- wire's Check of a message that may be -/
theorem check_ok (w : World) (m : Mg) (ok : m.Ok) (k1 : 1 ≤ m.k) (k7 : m.k ≤ 7) (hf : ∀ f ∈ flds m.k, m.okf f) (ha : ∀ f ∈ m.ans, m.okf f) (hb : ((m.clfs (flds m.k)).clfs m.ans).Blank) :
    Calls Tryz.prog 52 #[.agg m.cells] w fun e w' => e = .returned (.int .i64 0) ∧ Kp Nu w w' := by
  have EA := fun W ub mb fb (hu : Blk W ub m) (hm : Blk W mb m) (hne : ub ≠ mb) => each_ok (fb := fb) hu hm ok hne k1 k7 hf ha
  have IB := fun W ub (h : Blk W ub ((m.clfs (flds m.k)).clfs m.ans)) => isBlank_true h hb (by rw [clfs_k, clfs_k]; exact ok.k)
  have IK := fun W => isKind_any W m.k k1 k7
  clear ok k1 k7 hf ha hb
  generalize hB : (m.clfs (flds m.k)).clfs m.ans = mB at *
  have HB := hide hB
  clear hB HB
  obtain ⟨wa, hwa⟩ : ∃ wa, (w.alloc (.cells m.cells 36)).alloc (.cells #[.int .i64 0] 47) = wa := ⟨_, rfl⟩
  have hm1 : Blk wa w.heap.size m := by rw [← hwa]; exact (Below.heap_alloc _ _ _ (by simp)).trans (heap_new w _)
  have hf1 : wa.heap[w.heap.size + 1]? = some (.cells #[.int .i64 0] 47 (0, 0)) := by
    have := heap_new (w.alloc (.cells m.cells 36)) (.cells #[.int .i64 0] 47)
    rw [World.size_alloc] at this
    rw [← hwa]; exact this
  have hs1 : wa.heap.size = w.heap.size + 2 := by rw [← hwa]; simp
  have kw1 : Kp Nu w wa := by rw [← hwa]; exact (Kp.alloc _ _ _).andAlloc _
  have E1 := EA (wa.alloc (.cells m.cells 36)) wa.heap.size w.heap.size (w.heap.size + 1) (heap_new wa _) (hm1.nu (Kp.alloc _ _ _)) (by omega)
  have HM1 := hide hm1
  have HF1 := hide hf1
  have HS1 := hide hs1
  have HW1 := hide kw1
  have HI := hide IB
  clear EA IB hm1 hf1 kw1 hs1
  obtain ⟨k, seq, key, hi, ⟨va, vn, vc⟩, ⟨oa, on, oc⟩, has, of, st, host, gr, bo, ma, li, ⟨paa, pan, pac⟩, ⟨sea, sen, sec⟩, ⟨pya, pyn, pyc⟩⟩ := m
  simp only [Mg.cells, Sl.val] at E1 IK hwa HM1 ⊢
  have HB0 : Hid (wa.heap[w.heap.size]? = some (.cells #[.int .u8 k, .int .u64 seq, .int .u64 key, .int .u64 hi, .slice va vn vc, .slice oa on oc, .bool has, .int .u8 of, .int .u8 st, .int .u8 host, .int .u32 gr, .int .u32 bo, .int .u64 ma, .int .u8 li, .slice paa pan pac, .slice sea sen sec, .slice pya pyn pyc] 36 (0, 0))) := HM1.out
  rw [HS1.out] at E1
  subst hwa
  go_enter Tryz.func52, Tryz.ntmps52
  go_wp2_with fail
  refine (IK _).mono ?_; rintro e w' ⟨rfl, rfl⟩
  clear IK
  go_wp2_with (guard_target =~ wpList _ _ _ ({ dst := none, op := Op.store 36 (Operand.tmp 4) (Operand.tmp 9), type := _, pos := _, after := _, guard := _ } :: _) _ _; refine wpList_store_new 36 17 (.tmp 4) (.tmp 9) rfl rfl info36 _ _ _ rfl rfl (by simp) rfl rfl (by simp [Value.oneCell']) ?_)
  refine E1.mono ?_; rintro e w2 ⟨rfl, hb2, hk2⟩
  have IB2 := HI.out _ _ hb2
  have hf2 : w2.heap[w.heap.size + 1]? = some (.cells #[.int .i64 0] 47 (0, 0)) := (hk2.block _ (by simp) (fun e => by omega)).trans ((Below.heap_alloc _ _ _ (by simp)).trans HF1.out)
  have y0 := cellAt hf2 0 (by rfl)
  have HK2 := hide (((HW1.out.andAlloc (.cells #[.int .u8 k, .int .u64 seq, .int .u64 key, .int .u64 hi, .slice va vn vc, .slice oa on oc, .bool has, .int .u8 of, .int .u8 st, .int .u8 host, .int .u32 gr, .int .u32 bo, .int .u64 ma, .int .u8 li, .slice paa pan pac, .slice sea sen sec, .slice pya pyn pyc] 36)).trans hk2 (fun i hi e => by have e : i = w.heap.size + 2 := e; omega) : Kp Nu w w2))
  clear E1 hb2 hk2 HI hf2
  go_wp2_with fail
  refine IB2.mono ?_; rintro e w' ⟨rfl, rfl⟩
  clear IB2
  go_wp2
  go_ret
  exact ⟨rfl, HK2.out⟩
end Go.Proofs.YtmlnglillgplfaaGreat.Cl
