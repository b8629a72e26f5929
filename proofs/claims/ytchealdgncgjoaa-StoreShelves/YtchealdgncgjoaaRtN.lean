import Derived.Test.YtchealdgncgjoaaRtE
import Derived.Test.YtchealdgncgjoaaDgC
import Derived.Test.YtchealdgncgjoaaShI
namespace Go.Proofs.Ytchealdgncgjoaa.StU
open Go.RowKit Go.Proofs.Ytchealdgncgjoaa.St Go.Shelf Go.Sort Go.Proofs.Ytchealdgncgjoaa.It
attribute [local go_sem] Oper.semAt_some
set_option linter.unusedVariables false
set_option linter.unusedSimpArgs false
section
variable (w : World)
set_option maxHeartbeats 400000 in
theorem nfind165 (m : Option Addr) (k : Int) : Calls Try.prog 165 #[.pointer m, .pointer none, .int .u64 k] w fun e w' => e = .returned (.tuple #[.int .i64 0, .bool false]) ∧ w' = w := by
  go_enter Try.func165, Try.ntmps165
  go_wp2_with fail
  go_loopg [8, 9] 0 (fun n s8 s9 wr => s8 = .int .i64 0 ∧ s9 = .pointer none ∧ wr = w)
  case atStart => exact ⟨rfl, rfl, rfl⟩
  case round =>
    obtain ⟨rfl, rfl, hw⟩ := hrel
    subst hw
    go_wp2_with fail
    go_ret2
    exact ⟨rfl, rfl⟩
set_option maxHeartbeats 400000 in
theorem nget115 (k : Int) : Calls Try.prog 115 #[.pointer none, .int .u64 k] w fun e w' => e = .returned (.tuple #[.slice none 0 0, .bool false]) ∧ w' = w := by
  have TA := tree_nil w
  have FA := nfind165 w none k
  go_enter Try.func115, Try.ntmps115
  go_wp2_with (first
    | (go_at_call 129; refine TA.mono ?_; rintro e w' ⟨rfl, hw⟩; obtain rfl := hw.symm)
    | (go_at_call 165; refine FA.mono ?_; rintro e w' ⟨rfl, hw⟩; obtain rfl := hw.symm))
  go_ret2
  exact ⟨rfl, rfl⟩
set_option maxHeartbeats 400000 in
theorem ndel179 (k : Int) : Calls Try.prog 179 #[.pointer none, .int .u64 k] w fun e w' => e = .returned (.tuple #[.slice none 0 0, .bool false]) ∧ w' = w := by
  have TA := tree_nil w
  have FA := nfind165 w none k
  go_enter Try.func179, Try.ntmps179
  go_wp2_with (first
    | (go_at_call 129; refine TA.mono ?_; rintro e w' ⟨rfl, hw⟩; obtain rfl := hw.symm)
    | (go_at_call 165; refine FA.mono ?_; rintro e w' ⟨rfl, hw⟩; obtain rfl := hw.symm))
  go_ret2
  exact ⟨rfl, rfl⟩
theorem ncount177 : Calls Try.prog 177 #[.pointer none] w fun e w' => e = .returned (.int .i64 0) ∧ w' = w := count_any (w := w) (t := .nil) (a := none) rfl
set_option maxHeartbeats 400000 in
theorem nlen125 : Calls Try.prog 125 #[.pointer none] w fun e w' => e = .returned (.int .i64 0) ∧ w' = w := by
  have TA := tree_nil w
  have CO := ncount177 w
  go_enter Try.func125, Try.ntmps125
  go_wp2_with (first
    | (go_at_call 129; refine TA.mono ?_; rintro e w' ⟨rfl, hw⟩; obtain rfl := hw.symm)
    | (go_at_call 177; refine CO.mono ?_; rintro e w' ⟨rfl, hw⟩; obtain rfl := hw.symm))
  go_ret
  exact ⟨rfl, rfl⟩
set_option maxHeartbeats 400000 in
theorem nspan128 (lo hi : Int) : Calls Try.prog 128 #[.pointer none, .pointer none, .int .u64 lo, .int .u64 hi] w fun e w' => e = .returned (.tuple #[.int .i64 0, .int .i64 0]) ∧ w' = w := by
  have FA := nfind165 w none lo
  have FB := nfind165 w none hi
  go_enter Try.func128, Try.ntmps128
  go_wp2_with (first
    | (go_at_call 165; refine FA.mono ?_; rintro e w' ⟨rfl, hw⟩; obtain rfl := hw.symm; clear FA)
    | (go_at_call 165; refine FB.mono ?_; rintro e w' ⟨rfl, hw⟩; obtain rfl := hw.symm))
  go_ret2
  exact ⟨rfl, rfl⟩
set_option maxRecDepth 100000 in
set_option maxHeartbeats 800000 in
theorem nbetween170 (l bx B1 B2 : Nat) (lo hi : Int) (hb : w.heap[bx]? = some (.cells #[.pointer none] 169 (0, 0))) (hb1 : w.heap[B1]? = some (.cells #[.int .u64 lo] 69 (0, 0))) (hb2 : w.heap[B2]? = some (.cells #[.int .u64 hi] 69 (0, 0))) :
    Calls Try.prog 170 #[.func (.yield l) #[] #[], .pointer (some ⟨bx, 0, none⟩), .pointer (some ⟨B1, 0, none⟩), .pointer (some ⟨B2, 0, none⟩)] w fun e w' => (∃ v, e = .returned v) ∧ Kp Nu w w' := by
  have TA := tree_nil w
  have SN := nspan128 w lo hi
  have TN := tell_empty w none 0 0 l
  have c0 := cell1 hb
  have c1 := cell1 hb1
  have c2 := cell1 hb2
  clear hb hb1 hb2
  go_enter Try.func170, Try.ntmps170
  go_wp2_with (first
    | (go_at_call 129; refine TA.mono ?_; rintro e w' ⟨rfl, hw⟩; obtain rfl := hw.symm)
    | (go_at_call 128; refine SN.mono ?_; rintro e w' ⟨rfl, hw⟩; obtain rfl := hw.symm)
    | (go_at_call 171; refine TN.mono ?_; rintro e w2 ⟨⟨v2, rfl⟩, k2⟩))
  go_end0
  exact ⟨⟨_, rfl⟩, k2⟩
theorem nbetween_q (mb bx B1 B2 : Nat) (lo hi : Int) (hb : w.heap[bx]? = some (.cells #[.pointer none] 169 (0, 0))) (hb1 : w.heap[B1]? = some (.cells #[.int .u64 lo] 69 (0, 0))) (hb2 : w.heap[B2]? = some (.cells #[.int .u64 hi] 69 (0, 0))) :
    SeqQ Try.prog 170 #[.pointer (some ⟨bx, 0, none⟩), .pointer (some ⟨B1, 0, none⟩), .pointer (some ⟨B2, 0, none⟩)] (fun x : Int × Sv => #[.int .u64 x.1, .slice x.2.a x.2.n x.2.c]) (KM mb) (fun ys => ys = []) (fun pre => pre <+: []) 0 w := fun n l J Jx W hW hJ hJx hY h0 => by
  refine (callsIn_wide (n := n)).2 ?_
  refine (nbetween170 W l bx B1 B2 lo hi ((hW.block bx (blk_lt hb)).trans hb) ((hW.block B1 (blk_lt hb1)).trans hb1) ((hW.block B2 (blk_lt hb2)).trans hb2)).mono ?_
  rintro e W' ⟨hv, hk⟩
  exact ⟨hv, .inl ⟨[], rfl, own_nu hJ h0 hk⟩⟩
set_option maxHeartbeats 400000 in
theorem nheld114 : Calls Try.prog 114 #[.pointer none] w fun e w' => e = .returned (.pointer none) ∧ w' = w := by
  go_enter Try.func114, Try.ntmps114
  go_wp2
  go_ret
  exact ⟨rfl, rfl⟩
set_option maxHeartbeats 400000 in
theorem nmade117 : Calls Try.prog 117 #[.pointer none] w fun e w' => e = .returned (.bool false) ∧ w' = w := by
  go_enter Try.func117, Try.ntmps117
  go_wp2
  go_ret
  exact ⟨rfl, rfl⟩
set_option maxHeartbeats 400000 in
theorem nset47 (k : Int) (u : Value) : Calls Try.prog 47 #[.pointer none, .int .u64 k, u] w fun e w' => e = .returned (.tuple #[.bool false, .int .i64 1]) ∧ w' = w := by
  have MA := nmade117 w
  go_enter Try.func47, Try.ntmps47
  go_wp2_with (go_at_call 117; refine MA.mono ?_; rintro e w' ⟨rfl, hw⟩; obtain rfl := hw.symm)
  go_ret2
  exact ⟨rfl, rfl⟩
set_option maxHeartbeats 400000 in
theorem nget46 (k : Int) : Calls Try.prog 46 #[.pointer none, .int .u64 k] w fun e w' => ∃ v : Sv, e = .returned (.tuple #[.slice v.a v.n v.c, .bool false]) ∧ w'.ownsRow w.heap.size 5 1 (.slice v.a v.n v.c) 0 [] ∧ Kp Nu w w' := by
  have HA := nheld114 w
  have GA := nget115 w k
  have CA := clone_any w (.slice none 0 0) [] (.inl ⟨rfl, rfl⟩) (by simp)
  go_enter Try.func46, Try.ntmps46
  go_wp2_with (first
    | (go_at_call 114; refine HA.mono ?_; rintro e w' ⟨rfl, hw⟩; obtain rfl := hw.symm)
    | (go_at_call 115; refine GA.mono ?_; rintro e w' ⟨rfl, hw⟩; obtain rfl := hw.symm)
    | (go_at_call 116; refine CA.mono ?_; rintro e w2 ⟨v, rfl, o2, k2⟩))
  go_ret2
  exact ⟨v, rfl, o2, k2⟩
set_option maxHeartbeats 400000 in
theorem ndel130 (k : Int) : Calls Try.prog 130 #[.pointer none, .int .u64 k] w fun e w' => e = .returned (.bool false) ∧ w' = w := by
  have HA := nheld114 w
  have DA := ndel179 w k
  go_enter Try.func130, Try.ntmps130
  go_wp2_with (first
    | (go_at_call 114; refine HA.mono ?_; rintro e w' ⟨rfl, hw⟩; obtain rfl := hw.symm)
    | (go_at_call 179; refine DA.mono ?_; rintro e w' ⟨rfl, hw⟩; obtain rfl := hw.symm))
  go_ret
  exact ⟨rfl, rfl⟩
set_option maxHeartbeats 400000 in
theorem nlen52 : Calls Try.prog 52 #[.pointer none] w fun e w' => e = .returned (.int .i64 0) ∧ w' = w := by
  have HA := nheld114 w
  have LA := nlen125 w
  go_enter Try.func52, Try.ntmps52
  go_wp2_with (first
    | (go_at_call 114; refine HA.mono ?_; rintro e w' ⟨rfl, hw⟩; obtain rfl := hw.symm)
    | (go_at_call 125; refine LA.mono ?_; rintro e w' ⟨rfl, hw⟩; obtain rfl := hw.symm))
  go_ret
  exact ⟨rfl, rfl⟩
set_option maxHeartbeats 400000 in
theorem nbytes65 : Calls Try.prog 65 #[.pointer none] w fun e w' => e = .returned (.int .i64 0) ∧ w' = w := by
  go_enter Try.func65, Try.ntmps65
  go_wp2
  go_ret
  exact ⟨rfl, rfl⟩
set_option maxHeartbeats 400000 in
theorem ncount54 (lo hi : Int) : Calls Try.prog 54 #[.pointer none, .int .u64 lo, .int .u64 hi] w fun e w' => e = .returned (.int .i64 0) ∧ w' = w := by
  have HA := nheld114 w
  have TA := tree_nil w
  have SA := nspan128 w lo hi
  by_cases hg : hi < lo
  · clear HA TA SA
    go_enter Try.func54, Try.ntmps54
    go_wp2
    go_ret
    exact ⟨rfl, rfl⟩
  · go_enter Try.func54, Try.ntmps54
    go_wp2_with (first
      | (go_at_call 114; refine HA.mono ?_; rintro e w' ⟨rfl, hw⟩; obtain rfl := hw.symm)
      | (go_at_call 129; refine TA.mono ?_; rintro e w' ⟨rfl, hw⟩; obtain rfl := hw.symm)
      | (go_at_call 128; refine SA.mono ?_; rintro e w' ⟨rfl, hw⟩; obtain rfl := hw.symm))
    go_ret
    exact ⟨rfl, rfl⟩
set_option maxHeartbeats 400000 in
theorem nnth53 (lo hi i : Int) : Calls Try.prog 53 #[.pointer none, .int .u64 lo, .int .u64 hi, .int .i64 i] w fun e w' => e = .returned (.tuple #[.int .u64 0, .bool false]) ∧ w' = w := by
  have CA := ncount54 w lo hi
  by_cases h0 : i < 0
  · clear CA
    go_enter Try.func53, Try.ntmps53
    go_wp2
    go_ret2
    exact ⟨rfl, rfl⟩
  · have h1 : (0 : Int) ≤ i := by omega
    go_enter Try.func53, Try.ntmps53
    go_wp2_with (go_at_call 54; refine CA.mono ?_; rintro e w' ⟨rfl, hw⟩; obtain rfl := hw.symm)
    go_ret2
    exact ⟨rfl, rfl⟩
set_option maxHeartbeats 400000 in
theorem ncut63 (lo hi : Int) : Calls Try.prog 63 #[.pointer none, .int .u64 lo, .int .u64 hi] w fun e w' => e = .returned (.tuple #[.slice none 0 0, .int .i64 1]) ∧ w' = w := by
  have MA := nmade117 w
  go_enter Try.func63, Try.ntmps63
  go_wp2_with (go_at_call 117; refine MA.mono ?_; rintro e w' ⟨rfl, hw⟩; obtain rfl := hw.symm)
  go_ret2
  exact ⟨rfl, rfl⟩
set_option maxHeartbeats 400000 in
theorem nbars131 (u : Value) : Calls Try.prog 131 #[.pointer none, u] w fun e w' => e = .returned (.int .i64 1) ∧ w' = w := by
  have MA := nmade117 w
  go_enter Try.func131, Try.ntmps131
  go_wp2_with (go_at_call 117; refine MA.mono ?_; rintro e w' ⟨rfl, hw⟩; obtain rfl := hw.symm)
  go_ret
  exact ⟨rfl, rfl⟩
set_option maxHeartbeats 400000 in
theorem nlay64 (u : Value) : Calls Try.prog 64 #[.pointer none, u] w fun e w' => e = .returned (.int .i64 1) ∧ w' = w := by
  have BA := nbars131 w u
  go_enter Try.func64, Try.ntmps64
  go_wp2_with (go_at_call 131; refine BA.mono ?_; rintro e w' ⟨rfl, hw⟩; obtain rfl := hw.symm)
  go_ret
  exact ⟨rfl, rfl⟩
set_option maxHeartbeats 400000 in
theorem nth_nil145 (lo hi i : Int) : Calls Try.prog 145 #[.pointer none, .int .u64 lo, .int .u64 hi, .int .i64 i] w fun e w' => e = .returned (.tuple #[.int .u64 0, .bool false]) ∧ w' = w := by
  have IN := in_nil149 w lo hi
  by_cases h0 : i < 0
  · go_enter Try.func145, Try.ntmps145
    go_wp2_with (go_at_call 149; refine IN.mono ?_; rintro e w1 ⟨rfl, hw⟩; obtain rfl := hw.symm)
    go_ret2
    exact ⟨rfl, rfl⟩
  · have h1 : (0 : Int) ≤ i := by omega
    go_enter Try.func145, Try.ntmps145
    go_wp2_with (go_at_call 149; refine IN.mono ?_; rintro e w1 ⟨rfl, hw⟩; obtain rfl := hw.symm)
    go_ret2
    exact ⟨rfl, rfl⟩
set_option maxHeartbeats 400000 in
theorem scan_nil74 (lo hi lim : Int) : Calls Try.prog 74 #[.pointer none, .int .u64 lo, .int .u64 hi, .int .i64 lim] w fun e w' => e = .returned (.tuple #[.slice none 0 0, .bool false]) ∧ w' = w := by
  have IN := in_nil149 w lo hi
  by_cases h0 : lim < 0
  · go_enter Try.func74, Try.ntmps74
    go_wp2_with (go_at_call 149; refine IN.mono ?_; rintro e w1 ⟨rfl, hw⟩; obtain rfl := hw.symm)
    go_ret2
    exact ⟨rfl, rfl⟩
  · have h1 : ¬ lim < 0 := h0
    have h2 : (0 : Int) ≤ lim := by omega
    go_enter Try.func74, Try.ntmps74
    go_wp2_with (go_at_call 149; refine IN.mono ?_; rintro e w1 ⟨rfl, hw⟩; obtain rfl := hw.symm)
    go_ret2
    exact ⟨rfl, rfl⟩
set_option maxHeartbeats 400000 in
theorem digest_nil147 (lo hi : Int) : Calls Try.prog 147 #[.pointer none, .int .u64 lo, .int .u64 hi] w fun e w' => e = .returned (.int .u64 14695981039346656037) ∧ w' = w := by
  have IN := in_nil149 w lo hi
  go_enter Try.func147, Try.ntmps147
  go_wp2_with (go_at_call 149; refine IN.mono ?_; rintro e w1 ⟨rfl, hw⟩; obtain rfl := hw.symm)
  go_loopw [8, 9] (fun hv it wr => it = .int .i64 0 ∧ hv = .int .u64 14695981039346656037 ∧ wr = w) (fun _ it _ => 0)
  case atStart => exact ⟨rfl, rfl, rfl⟩
  case round =>
    obtain ⟨rfl, rfl, rfl⟩ := hrel
    go_wp2
    go_ret
    exact ⟨rfl, rfl⟩
end
end Go.Proofs.Ytchealdgncgjoaa.StU
