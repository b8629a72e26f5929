import Derived.Test.YtffcnonhhfhlhaaDoorNlK
namespace Go.Proofs.YtffcnonhhfhlhaaDoor.Rg
open Go.RowKit Go.Shelf Go.Sort Go.Maps
open Go.Proofs.YtffcnonhhfhlhaaDoor.It
attribute [local go_sem] Oper.semAt_some
set_option linter.unusedVariables false

/-! a table that is nil -/
set_option maxHeartbeats 400000 in
theorem made_nil (w : World) : Calls Tryd.prog 50 #[.pointer none] w fun e w' => e = .returned (.bool false) ∧ w' = w := by
  go_enter Tryd.func50, Tryd.ntmps50
  go_wp2
  go_ret
  exact ⟨rfl, rfl⟩
set_option maxHeartbeats 400000 in
theorem len_nil (w : World) : Calls Tryd.prog 22 #[.pointer none] w fun e w' => e = .returned (.int .i64 0) ∧ w' = w := by
  have MA := made_nil w
  go_enter Tryd.func22, Tryd.ntmps22
  go_wp2_with (go_at_call 50; refine MA.mono ?_; rintro e w' ⟨rfl, rfl⟩)
  go_ret
  exact ⟨rfl, rfl⟩
set_option maxHeartbeats 400000 in
theorem cost_nil (w : World) (lo hi o : Int) : Calls Tryd.prog 18 #[.pointer none, .int .u64 lo, .int .u64 hi, .int .u8 o] w fun e w' => e = .returned (.tuple #[.int .i64 0, .int .i64 1]) ∧ w' = w := by
  have MA := made_nil w
  go_enter Tryd.func18, Tryd.ntmps18
  go_wp2_with (go_at_call 50; refine MA.mono ?_; rintro e w' ⟨rfl, rfl⟩)
  go_ret2
  exact ⟨rfl, rfl⟩
set_option maxHeartbeats 400000 in
theorem assign_nil (w : World) (lo hi o : Int) : Calls Tryd.prog 16 #[.pointer none, .int .u64 lo, .int .u64 hi, .int .u8 o] w fun e w' => e = .returned (.int .i64 1) ∧ w' = w := by
  have CO := cost_nil w lo hi o
  go_enter Tryd.func16, Tryd.ntmps16
  go_wp2_with (go_at_call 18; refine CO.mono ?_; rintro e w' ⟨rfl, rfl⟩)
  go_ret
  exact ⟨rfl, rfl⟩
set_option maxHeartbeats 400000 in
theorem owns_nil (w : World) (lo hi o : Int) : Calls Tryd.prog 21 #[.pointer none, .int .u64 lo, .int .u64 hi, .int .u8 o] w fun e w' => e = .returned (.bool false) ∧ Kp Nu w w' := by
  have MA := fun W => made_nil W
  go_enter Tryd.func21, Tryd.ntmps21
  go_wp2_with fail
  refine (MA _).mono ?_; rintro e w2 ⟨rfl, hw2⟩
  obtain rfl := hw2.symm
  clear MA hw2
  go_wp2
  exact bodyPost_ret (v := .bool false) (by simp [results, Tryd.results21, go_sem]) rfl ⟨rfl, (Kp.alloc w _ Nu).andAlloc _⟩
set_option maxHeartbeats 400000 in
theorem from_nil (w : World) (key : Int) : Calls Tryd.prog 44 #[.pointer none, .int .u64 key] w fun e w' => ∃ Bn, e = .returned (.func (.func 73) #[] #[.pointer (some ⟨Bn, 0, none⟩)]) ∧ w'.heap[Bn]? = some (.cells #[.slice none 0 0] 22 (0, 0)) ∧ Kp Nu w w' := by
  have MA := fun W => made_nil W
  go_enter Tryd.func44, Tryd.ntmps44
  go_wp2_with fail
  refine (MA _).mono ?_; rintro e w2 ⟨rfl, hw2⟩
  obtain rfl := hw2.symm
  clear MA hw2
  go_wp2
  go_ret
  exact ⟨_, rfl, heap_alloc_new w _, Kp.alloc w _ Nu⟩
set_option maxHeartbeats 400000 in
theorem all_nil (w : World) : Calls Tryd.prog 15 #[.pointer none] w fun e w' => ∃ Bn, e = .returned (.func (.func 73) #[] #[.pointer (some ⟨Bn, 0, none⟩)]) ∧ w'.heap[Bn]? = some (.cells #[.slice none 0 0] 22 (0, 0)) ∧ Kp Nu w w' := by
  have FR := from_nil w 0
  go_enter Tryd.func15, Tryd.ntmps15
  go_wp2_with (go_at_call 44; refine FR.mono ?_; rintro e w' ⟨Bn, rfl, h1, h2⟩)
  go_ret
  exact ⟨Bn, rfl, h1, h2⟩
set_option maxHeartbeats 400000 in
theorem diff_nil (w : World) (p : Value) (hp : ∃ a, p = .pointer a) : Calls Tryd.prog 28 #[.pointer none, p] w fun e w' => e = .returned (.tuple #[.slice none 0 0, .int .i64 1]) ∧ Kp Nu w w' := by
  obtain ⟨a, rfl⟩ := hp
  have MA := fun W => made_nil W
  refine (callsIn_wide (n := 4)).1 ?_
  refine callsIn_of_wp_marks Tryd.func28 rfl trivial ?_ rfl
  simp only [Tryd.ntmps28, List.size_toArray, List.length_cons, List.length_nil, Nat.reduceAdd, Nat.reduceSub, Array.replicate_succ, Array.replicate_zero, List.push_toArray, List.append_toArray, List.nil_append, List.cons_append]
  gi_wp2_with fail
  refine wp_scope ?_
  gi_wp2_with fail
  refine ⟨trivial, (callsIn_wide.2 (MA _)).mono ?_⟩
  rintro e w1 ⟨rfl, hw1⟩
  obtain rfl := hw1.symm
  clear hw1 MA
  gi_wp2
  refine ⟨trivial, ?_⟩
  gi_wp2
  refine ⟨.tuple #[.slice none 0 0, .int .i64 1], ?_, rfl, Kp.alloc w _ Nu⟩
  simp [results, Tryd.results28, go_sem]
/-- the sequence of no segment -/
theorem from0_in (n : Nat) (l Bn : Nat) (J Jx : List Sg → World → Prop) (W : World) (hc : W.heap[Bn]? = some (.cells #[.slice none 0 0] 22 (0, 0))) (hJ : AbidesFrom W.heap.size J) (h0 : J [] W) :
    CallsIn Fence.wide n Tryd.prog 73 #[.func (.yield l) #[] #[], .pointer (some ⟨Bn, 0, none⟩)] W fun e W' => (∃ v, e = .returned v) ∧ ((∃ ys, ys = [] ∧ J ys W') ∨ (∃ pre, pre <+: [] ∧ Jx pre W')) := by
  refine callsIn_of_wp Tryd.func73 rfl trivial ?_ rfl
  simp only [Tryd.ntmps73, List.size_toArray, List.length_cons, List.length_nil, Nat.reduceAdd, Nat.reduceSub, Array.replicate_succ, Array.replicate_zero, List.push_toArray, List.append_toArray, List.nil_append, List.cons_append]
  have hcc := cell1 hc
  have H0 := hide h0
  clear hJ h0
  gi_wp2
  gi_loopw [7] (fun i wr => i = .int .i64 0 ∧ wr = W) (fun _ _ => 0)
  case atStart => exact ⟨rfl, rfl⟩
  case round =>
    obtain ⟨rfl, rfl⟩ := hrel
    gi_wp2
    go_end0
    first | exact ⟨⟨_, rfl⟩, .inl ⟨_, rfl, H0.out⟩⟩ | exact ⟨⟨_, rfl⟩, .inl H0.out⟩
theorem from0_stops (n Bn : Nat) (w : World) (hc : w.heap[Bn]? = some (.cells #[.slice none 0 0] 22 (0, 0))) :
    SeqStopsK Fence.wide n Tryd.prog 73 #[.pointer (some ⟨Bn, 0, none⟩)] (fun x : Sg => #[enc x]) (Kc (fun _ _ => False)) (fun ys => ys = []) (fun pre => pre <+: []) 0 w := fun l J Jx W hW hJ _ hY h0 =>
  from0_in n l Bn J Jx W ((hW.block Bn (blk_lt hc)).trans hc) hJ h0
end Go.Proofs.YtffcnonhhfhlhaaDoor.Rg
