import Derived.Test.YtchealdgncgjoaaMpBI
import Derived.Test.YtchealdgncgjoaaMpCI
import Derived.Test.YtchealdgncgjoaaPq
namespace Go.Proofs.Ytchealdgncgjoaa.StI
open Go.RowKit Go.Proofs.Ytchealdgncgjoaa.St Go.Shelf Go.Sort Go.Proofs.Ytchealdgncgjoaa.It
attribute [local go_sem] Oper.semAt_some
set_option linter.unusedVariables false

section
variable (w : World)
set_option maxRecDepth 100000 in
set_option maxHeartbeats 400000 in
theorem newMap_nil : Calls Try.prog 55 #[.nilFunc] w fun e w' => e = .returned (.tuple #[.pointer none, .int .i64 75]) ∧ w' = w := by
  have nf : (binOp .eql 109 .nilFunc .nilFunc).run Try.prog w = .ok (.bool true) w := by rfl
  go_enter Try.func55, Try.ntmps55
  go_wp2
  go_ret2
  exact ⟨rfl, rfl⟩
set_option maxHeartbeats 400000 in
theorem find_nil (m : Option Addr) (k : Int) : Calls Try.prog 78 #[.pointer m, .pointer none, .int .i64 k] w fun e w' => e = .returned (.tuple #[.int .i64 0, .bool false]) ∧ w' = w := by
  go_enter Try.func78, Try.ntmps78
  go_wp2_with fail
  go_loopg [8, 9] 0 (fun n s8 s9 wr => s8 = .int .i64 0 ∧ s9 = .pointer none ∧ wr = w)
  case atStart => exact ⟨rfl, rfl, rfl⟩
  case round =>
    obtain ⟨rfl, rfl, hw⟩ := hrel
    subst hw
    go_wp2_with fail
    go_ret2
    exact ⟨rfl, rfl⟩
set_option maxHeartbeats 400000 in
theorem put_nil (k v : Int) : Calls Try.prog 17 #[.pointer none, .int .i64 k, .int .i64 v] w fun e w' => e = .returned (.tuple #[.int .i64 0, .bool false]) ∧ w' = w := by
  have MA := made_nil w
  go_enter Try.func17, Try.ntmps17
  go_wp2_with (go_at_call 77; refine MA.mono ?_; rintro e w' ⟨rfl, hw⟩; obtain rfl := hw.symm)
  go_ret2
  exact ⟨rfl, rfl⟩
set_option maxHeartbeats 400000 in
theorem get_nil (k : Int) : Calls Try.prog 56 #[.pointer none, .int .i64 k] w fun e w' => e = .returned (.tuple #[.int .i64 0, .bool false]) ∧ w' = w := by
  have TA := tree_nil w
  have FA := find_nil w none k
  go_enter Try.func56, Try.ntmps56
  go_wp2_with (first
    | (go_at_call 83; refine TA.mono ?_; rintro e w' ⟨rfl, hw⟩; obtain rfl := hw.symm)
    | (go_at_call 78; refine FA.mono ?_; rintro e w' ⟨rfl, hw⟩; obtain rfl := hw.symm))
  go_ret2
  exact ⟨rfl, rfl⟩
set_option maxHeartbeats 400000 in
theorem del_nil (k : Int) : Calls Try.prog 24 #[.pointer none, .int .i64 k] w fun e w' => e = .returned (.tuple #[.int .i64 0, .bool false]) ∧ w' = w := by
  have TA := tree_nil w
  have FA := find_nil w none k
  go_enter Try.func24, Try.ntmps24
  go_wp2_with (first
    | (go_at_call 83; refine TA.mono ?_; rintro e w' ⟨rfl, hw⟩; obtain rfl := hw.symm)
    | (go_at_call 78; refine FA.mono ?_; rintro e w' ⟨rfl, hw⟩; obtain rfl := hw.symm))
  go_ret2
  exact ⟨rfl, rfl⟩
theorem atn (i : Int) (hi : i ≤ 9223372036854775807) : Calls Try.prog 81 #[.pointer none, .int .i64 i] w fun e w' => e = .returned (.pointer none) ∧ w' = w :=
  (at_any (w := w) (t := .nil) (a := none) rfl i hi (by simp [T.sz])).mono fun e w' ⟨a', e1, e2, e3⟩ => by
    cases (show a' = none from e2); exact ⟨e1, e3⟩
set_option maxHeartbeats 400000 in
theorem pairn : Calls Try.prog 89 #[.pointer none] w fun e w' => e = .returned (.tuple #[.int .i64 0, .int .i64 0, .bool false]) ∧ w' = w := by
  go_enter Try.func89, Try.ntmps89
  go_wp2_with fail
  go_ret3
  exact ⟨rfl, rfl⟩
set_option maxHeartbeats 400000 in
theorem At_nil : Calls Try.prog 23 #[.pointer none, .int .i64 0] w fun e w' => e = .returned (.tuple #[.int .i64 0, .int .i64 0, .bool false]) ∧ w' = w := by
  have TA := tree_nil w
  have AA := atn w 0 (by omega)
  have PA := pairn w
  go_enter Try.func23, Try.ntmps23
  go_wp2_with (first
    | (go_at_call 83; refine TA.mono ?_; rintro e w' ⟨rfl, hw⟩; obtain rfl := hw.symm)
    | (go_at_call 81; refine AA.mono ?_; rintro e w' ⟨rfl, hw⟩; obtain rfl := hw.symm)
    | (go_at_call 89; refine PA.mono ?_; rintro e w' ⟨rfl, hw⟩; obtain rfl := hw.symm))
  go_ret3
  exact ⟨rfl, rfl⟩
set_option maxHeartbeats 400000 in
theorem floor_nil (k : Int) : Calls Try.prog 57 #[.pointer none, .int .i64 k] w fun e w' => e = .returned (.tuple #[.int .i64 0, .int .i64 0, .bool false]) ∧ w' = w := by
  have TA := tree_nil w
  have FA := find_nil w none k
  have AA := atn w (-1) (by omega)
  have PA := pairn w
  go_enter Try.func57, Try.ntmps57
  go_wp2_with (first
    | (go_at_call 83; refine TA.mono ?_; rintro e w' ⟨rfl, hw⟩; obtain rfl := hw.symm)
    | (go_at_call 78; refine FA.mono ?_; rintro e w' ⟨rfl, hw⟩; obtain rfl := hw.symm)
    | (go_at_call 81; refine AA.mono ?_; rintro e w' ⟨rfl, hw⟩; obtain rfl := hw.symm)
    | (go_at_call 89; refine PA.mono ?_; rintro e w' ⟨rfl, hw⟩; obtain rfl := hw.symm))
  go_ret3
  exact ⟨rfl, rfl⟩
set_option maxHeartbeats 400000 in
theorem ceil_nil (k : Int) : Calls Try.prog 58 #[.pointer none, .int .i64 k] w fun e w' => e = .returned (.tuple #[.int .i64 0, .int .i64 0, .bool false]) ∧ w' = w := by
  have TA := tree_nil w
  have FA := find_nil w none k
  have AA := atn w 0 (by omega)
  have PA := pairn w
  go_enter Try.func58, Try.ntmps58
  go_wp2_with (first
    | (go_at_call 83; refine TA.mono ?_; rintro e w' ⟨rfl, hw⟩; obtain rfl := hw.symm)
    | (go_at_call 78; refine FA.mono ?_; rintro e w' ⟨rfl, hw⟩; obtain rfl := hw.symm)
    | (go_at_call 81; refine AA.mono ?_; rintro e w' ⟨rfl, hw⟩; obtain rfl := hw.symm)
    | (go_at_call 89; refine PA.mono ?_; rintro e w' ⟨rfl, hw⟩; obtain rfl := hw.symm))
  go_ret3
  exact ⟨rfl, rfl⟩
theorem countn : Calls Try.prog 85 #[.pointer none] w fun e w' => e = .returned (.int .i64 0) ∧ w' = w := count_any (w := w) (t := .nil) (a := none) rfl
theorem highn : Calls Try.prog 88 #[.pointer none] w fun e w' => e = .returned (.int .i64 0) ∧ w' = w := high_any (w := w) (t := .nil) (a := none) rfl
set_option maxHeartbeats 400000 in
theorem len_nil : Calls Try.prog 21 #[.pointer none] w fun e w' => e = .returned (.int .i64 0) ∧ w' = w := by
  have TA := tree_nil w
  have CO := countn w
  go_enter Try.func21, Try.ntmps21
  go_wp2_with (first
    | (go_at_call 83; refine TA.mono ?_; rintro e w' ⟨rfl, hw⟩; obtain rfl := hw.symm)
    | (go_at_call 85; refine CO.mono ?_; rintro e w' ⟨rfl, hw⟩; obtain rfl := hw.symm))
  go_ret
  exact ⟨rfl, rfl⟩
set_option maxHeartbeats 400000 in
theorem height_nil : Calls Try.prog 22 #[.pointer none] w fun e w' => e = .returned (.int .i64 0) ∧ w' = w := by
  have TA := tree_nil w
  have CO := highn w
  go_enter Try.func22, Try.ntmps22
  go_wp2_with (first
    | (go_at_call 83; refine TA.mono ?_; rintro e w' ⟨rfl, hw⟩; obtain rfl := hw.symm)
    | (go_at_call 88; refine CO.mono ?_; rintro e w' ⟨rfl, hw⟩; obtain rfl := hw.symm))
  go_ret
  exact ⟨rfl, rfl⟩
set_option maxHeartbeats 400000 in
theorem rank_nil (k : Int) : Calls Try.prog 61 #[.pointer none, .int .i64 k] w fun e w' => e = .returned (.int .i64 0) ∧ w' = w := by
  have TA := tree_nil w
  have FA := find_nil w none k
  go_enter Try.func61, Try.ntmps61
  go_wp2_with (first
    | (go_at_call 83; refine TA.mono ?_; rintro e w' ⟨rfl, hw⟩; obtain rfl := hw.symm)
    | (go_at_call 78; refine FA.mono ?_; rintro e w' ⟨rfl, hw⟩; obtain rfl := hw.symm))
  go_ret
  exact ⟨rfl, rfl⟩
set_option maxHeartbeats 400000 in
theorem clone_nil : Calls Try.prog 60 #[.pointer none] w fun e w' => e = .returned (.pointer none) ∧ w' = w := by
  have MA := made_nil w
  go_enter Try.func60, Try.ntmps60
  go_wp2_with (go_at_call 77; refine MA.mono ?_; rintro e w' ⟨rfl, hw⟩; obtain rfl := hw.symm)
  go_ret
  exact ⟨rfl, rfl⟩
set_option maxHeartbeats 400000 in
theorem all_nil : Calls Try.prog 18 #[.pointer none] w fun e w' => e = .returned (.func (.func 82) #[] #[.pointer (some ⟨w.heap.size, 0, none⟩)]) ∧ w'.heap[w.heap.size]? = some (.cells #[.pointer none] 22 (0, 0)) ∧ Kp Nu w w' := by
  have HF := hide (And.intro (heap_alloc_new w (.cells #[.pointer none] 22)) (Kp.alloc w (.cells #[.pointer none] 22) Nu))
  go_enter Try.func18, Try.ntmps18
  go_wp2
  go_ret
  exact ⟨rfl, HF.out.1, HF.out.2⟩
set_option maxHeartbeats 400000 in
theorem walk_nil (i j : Int) (f : Value) : Calls Try.prog 153 #[.pointer none, .int .i64 i, .int .i64 j, f] w fun e w' => e = .returned (.bool true) ∧ w' = w := by
  go_enter Try.func153, Try.ntmps153
  go_wp2_with fail
  go_ret
  exact ⟨rfl, rfl⟩
set_option maxRecDepth 100000 in
set_option maxHeartbeats 400000 in
theorem tell_nil (l : Nat) : Calls Try.prog 84 #[.pointer none, .pointer none, .int .i64 0, .int .i64 0, .func (.yield l) #[] #[]] w fun e w' => (∃ v, e = .returned v) ∧ Kp Nu w w' := by
  have WN := fun W f => walk_nil W 0 0 f
  have HK := hide (((Kp.alloc w (.cells #[.pointer none] 22) Nu).andAlloc (.cells #[.pointer none] 128)).andAlloc (.cells #[.func (.yield l) #[] #[]] 31))
  go_enter Try.func84, Try.ntmps84
  go_wp2_with (go_at_call 153; refine (WN _ _).mono ?_; rintro e w' ⟨rfl, hw⟩; obtain rfl := hw.symm)
  go_end0
  exact ⟨⟨_, rfl⟩, HK.out⟩
set_option maxRecDepth 100000 in
set_option maxHeartbeats 800000 in
theorem all1_nil (l bx : Nat) (hb : w.heap[bx]? = some (.cells #[.pointer none] 22 (0, 0))) : Calls Try.prog 82 #[.func (.yield l) #[] #[], .pointer (some ⟨bx, 0, none⟩)] w fun e w' => (∃ v, e = .returned v) ∧ Kp Nu w w' := by
  have TA := tree_nil w
  have CN := countn
  have TN := fun W => tell_nil W l
  have c0 := cell1 hb
  have HS : ∀ W, Kp Nu w W → W.cell? ⟨bx, 0, none⟩ = some (.pointer none) := fun W k => cell1 ((k.block _ (blk_lt hb) (fun h => h)).trans hb)
  clear hb
  go_enter Try.func82, Try.ntmps82
  go_wp2_with (go_at_call 83; refine TA.mono ?_; rintro e w' ⟨rfl, hw⟩; obtain rfl := hw.symm)
  go_region_held (fun W => W.cell? ⟨bx, 0, none⟩ = some (.pointer none)) (first | (refine HS _ ?_; repeat (first | assumption | exact Kp.refl _ _ | apply Kp.drew)))
    (first
      | (go_at_call 85; refine (CN _).mono ?_; rintro e w' ⟨rfl, hw⟩; obtain rfl := hw.symm)
      | (go_at_call 84; refine (TN _).mono ?_; rintro e w2 ⟨⟨v2, rfl⟩, k2⟩; have k3 := ((Kp.refl Nu w).drew).andNu k2))
  go_wp2
  go_end0
  exact ⟨⟨_, rfl⟩, k3⟩
end
end Go.Proofs.Ytchealdgncgjoaa.StI
