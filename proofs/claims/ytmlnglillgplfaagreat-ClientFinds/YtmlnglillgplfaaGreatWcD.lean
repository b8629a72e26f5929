import Derived.Test.YtmlnglillgplfaaGreatWcB
import Derived.Test.YtmlnglillgplfaaGreatSt
import Derived.BigQuiet
import Derived.Deep.QuietTactic
namespace Go.Proofs.YtmlnglillgplfaaGreat.Cl
open Go.RowKit
set_option linter.unusedVariables false
theorem kp_drewN (w : World) (n : Nat) : Kp Nu w (w.drewN n) := ⟨rfl, rfl, rfl, Nat.le_refl _, fun _ _ _ => rfl⟩
theorem expClear {w : World} {ub : Nat} {U : Mg} (hu : Blk w ub U) : Calls Tryz.prog 187 #[.agg #[], .pointer (some ⟨ub, 0, none⟩)] w fun e w' => e = .returned (.tuple #[]) ∧ Blk w' ub (U.clf 8) ∧ Kp (fun i => i = ub) w w' := by
  obtain ⟨wa, hwa⟩ : ∃ wa, w.alloc (.cells #[] 206) = wa := ⟨_, rfl⟩
  have ka : Kp Nu w wa := by rw [← hwa]; exact Kp.alloc _ _ _
  have ha := hu.nu ka
  have c5 := ha.at 5 (.slice U.o.a U.o.n U.o.c) rfl
  have c6 := ha.at 6 (.bool U.has) rfl
  have f5 := ha.free 5
  have f6 := ha.free 6
  have HA := hide ha
  have HK := hide ka
  clear hu ha ka
  go_enter Tryz.func187, Tryz.ntmps187
  go_wp2
  go_end0
  exact ⟨rfl, (set3 (set3 HA.out 6 _) 5 _).trans rfl, (((HK.out.mono (T := fun i => i = ub) (fun _ _ h => h.elim)).andSet ⟨ub, 6, none⟩ (.bool false) (.inr rfl)).andSet ⟨ub, 5, none⟩ _ (.inr rfl))⟩
theorem expCheck {w : World} {mb : Nat} {M : Mg} (hm : Blk w mb M) (h1 : (M.o.n : Int) ≤ 64) (h2 : M.has = true ∨ M.o.n = 0) : Calls Tryz.prog 186 #[.agg #[], .pointer (some ⟨mb, 0, none⟩)] w fun e w' => e = .returned (.int .i64 0) ∧ Kp Nu w w' := by
  obtain ⟨wa, hwa⟩ : ∃ wa, w.alloc (.cells #[] 206) = wa := ⟨_, rfl⟩
  have ka : Kp Nu w wa := by rw [← hwa]; exact Kp.alloc _ _ _
  have ha := hm.nu ka
  have c5 := ha.at 5 (.slice M.o.a M.o.n M.o.c) rfl
  have c6 := ha.at 6 (.bool M.has) rfl
  have HK := hide ka
  have g1 : ¬ (M.o.n : Int) > 64 := by omega
  clear hm ha ka h1
  rcases h2 with h2 | h2
  · rw [h2] at c6
    clear h2
    generalize M.o.n = n at *
    go_enter Tryz.func186, Tryz.ntmps186
    go_wp2
    go_ret
    exact ⟨rfl, HK.out⟩
  · rw [h2] at c5
    clear h2 g1
    cases hh : M.has <;> rw [hh] at c6 <;>
    · go_enter Tryz.func186, Tryz.ntmps186
      go_wp2
      go_ret
      exact ⟨rfl, HK.out⟩
set_option maxRecDepth 100000 in
set_option maxHeartbeats 1000000 in
theorem cl8 {w : World} {ub mb fb : Nat} {U M : Mg} (hu : Blk w ub U) (hm : Blk w mb M) (hne : ub ≠ mb) (h1 : (M.o.n : Int) ≤ 64) (h2 : M.has = true ∨ M.o.n = 0) :
    Calls Tryz.prog 89 #[.iface 206 (.agg #[]), .pointer (some ⟨ub, 0, none⟩), .pointer (some ⟨mb, 0, none⟩), .pointer (some ⟨fb, 0, none⟩)] w fun e w' => e = .returned (.tuple #[]) ∧ Blk w' ub (U.clf 8) ∧ Kp (fun i => i = ub) w w' := by
  have q1 := mc206
  have q2 := mk206
  have E1 := expClear hu
  have E2 := fun W (k : Kp (fun i => i = ub) w W) => expCheck (hm.kp k (fun e => hne e.symm)) h1 h2
  clear hu hm h1 h2
  go_enter Tryz.func89, Tryz.ntmps89
  go_wp2_with fail
  refine E1.mono ?_; rintro e w1 ⟨rfl, hb1, hk1⟩
  have HB := hide hb1
  have E3 := E2 _ hk1
  have HK := hide hk1
  clear hb1 hk1 E1 E2
  go_wp2_with fail
  refine E3.mono ?_; rintro e w2 ⟨rfl, hk2⟩
  have HK2 := hide hk2
  clear E3 hk2
  go_wp2
  go_end0
  exact ⟨rfl, HB.out.nu HK2.out, HK.out.andNu HK2.out⟩
theorem pairsClear {w : World} {ub : Nat} {U : Mg} (hu : Blk w ub U) : Calls Tryz.prog 196 #[.agg #[], .pointer (some ⟨ub, 0, none⟩)] w fun e w' => e = .returned (.tuple #[]) ∧ Blk w' ub (U.clf 10) ∧ Kp (fun i => i = ub) w w' := by
  obtain ⟨wa, hwa⟩ : ∃ wa, w.alloc (.cells #[] 209) = wa := ⟨_, rfl⟩
  have ka : Kp Nu w wa := by rw [← hwa]; exact Kp.alloc _ _ _
  have ha := hu.nu ka
  have c5 := ha.at 14 (.slice U.pa.a U.pa.n U.pa.c) rfl
  have f5 := ha.free 14
  have HA := hide ha
  have HK := hide ka
  clear hu ha ka
  go_enter Tryz.func196, Tryz.ntmps196
  go_wp2
  go_end0
  exact ⟨rfl, (set3 HA.out 14 _).trans rfl, ((HK.out.mono (T := fun i => i = ub) (fun _ _ h => h.elim)).andSet ⟨ub, 14, none⟩ _ (.inr rfl))⟩
theorem inOrder_none {w : World} {mb : Nat} {M : Mg} (hm : Blk w mb M) (h0 : M.pa.n = 0) : Calls Tryz.prog 203 #[.pointer (some ⟨mb, 0, none⟩)] w fun e w' => e = .returned (.bool true) ∧ w' = w := by
  have c := hm.at 14 (.slice M.pa.a M.pa.n M.pa.c) rfl
  rw [h0] at c
  clear hm h0
  go_enter Tryz.func203, Tryz.ntmps203
  go_wp2
  go_loopw [10] (fun i wr => i = .int .i64 0 ∧ wr = w) (fun _ _ => 0)
  case atStart => exact ⟨rfl, rfl⟩
  case round =>
    obtain ⟨rfl, rfl⟩ := hrel
    go_wp2
    go_ret
    exact ⟨rfl, rfl⟩
theorem mostPairs_any (w : World) (k : Int) (hk : k ≠ 12) : Calls Tryz.prog 202 #[.int .u8 k] w fun e w' => e = .returned (.int .i64 16) ∧ w' = w := by
  go_enter Tryz.func202, Tryz.ntmps202
  go_wp2
  go_ret
  exact ⟨rfl, rfl⟩
set_option maxHeartbeats 1000000 in
theorem pairsCheck {w : World} {mb : Nat} {M : Mg} (hm : Blk w mb M) (h0 : M.pa.n = 0) (hk : M.k ≠ 12) : Calls Tryz.prog 195 #[.agg #[], .pointer (some ⟨mb, 0, none⟩)] w fun e w' => e = .returned (.int .i64 0) ∧ Kp Nu w w' := by
  have mixed : Tryz.prog.follows .mixedOrders = true := by kernel_rfl
  obtain ⟨wa, hwa⟩ : ∃ wa, w.alloc (.cells #[] 209) = wa := ⟨_, rfl⟩
  have ka : Kp Nu w wa := by rw [← hwa]; exact Kp.alloc _ _ _
  have ha := hm.nu ka
  have INO := fun W (k : Kp Nu wa W) => inOrder_none (ha.nu k) h0
  have MP := fun W => mostPairs_any W M.k hk
  have c := ha.at 14 (.slice M.pa.a M.pa.n M.pa.c) rfl
  have c0 := ha.at 0 (.int .u8 M.k) rfl
  rw [h0] at c
  have HK := hide ka
  clear hm ha ka h0
  go_enter Tryz.func195, Tryz.ntmps195
  go_wp2
  go_quiet (first | (go_at_call 202; exact Calls.quiet_of_same (MP _)))
  have kd : Kp Nu wa (wa.drewN nq) := kp_drewN wa nq
  have INO2 := INO _ kd
  have HD := hide kd
  clear INO kd
  go_wp2
  go_loopw [23] (fun i wr => i = .int .i64 0 ∧ wr = wa.drewN nq) (fun _ _ => 0)
  case atStart => exact ⟨rfl, rfl⟩
  case round =>
    obtain ⟨rfl, rfl⟩ := hrel
    go_wp2_with fail
    refine INO2.mono ?_; rintro e w2 ⟨rfl, rfl⟩
    clear INO2
    go_wp2
    go_ret
    exact ⟨rfl, HK.out.andNu HD.out⟩
end Go.Proofs.YtmlnglillgplfaaGreat.Cl
namespace Go.Proofs.YtmlnglillgplfaaGreat.Cl
open Go.RowKit
set_option linter.unusedVariables false
set_option maxRecDepth 100000 in
set_option maxHeartbeats 1000000 in
theorem cl10 {w : World} {ub mb fb : Nat} {U M : Mg} (hu : Blk w ub U) (hm : Blk w mb M) (hne : ub ≠ mb) (h1 : M.pa.n = 0) (h2 : M.k ≠ 12) :
    Calls Tryz.prog 89 #[.iface 209 (.agg #[]), .pointer (some ⟨ub, 0, none⟩), .pointer (some ⟨mb, 0, none⟩), .pointer (some ⟨fb, 0, none⟩)] w fun e w' => e = .returned (.tuple #[]) ∧ Blk w' ub (U.clf 10) ∧ Kp (fun i => i = ub) w w' := by
  have q1 := mc209
  have q2 := mk209
  have E1 := pairsClear hu
  have E2 := fun W (k : Kp (fun i => i = ub) w W) => pairsCheck (hm.kp k (fun e => hne e.symm)) h1 h2
  clear hu hm h1 h2
  go_enter Tryz.func89, Tryz.ntmps89
  go_wp2_with fail
  refine E1.mono ?_; rintro e w1 ⟨rfl, hb1, hk1⟩
  have HB := hide hb1
  have E3 := E2 _ hk1
  have HK := hide hk1
  clear hb1 hk1 E1 E2
  go_wp2_with fail
  refine E3.mono ?_; rintro e w2 ⟨rfl, hk2⟩
  have HK2 := hide hk2
  clear E3 hk2
  go_wp2
  go_end0
  exact ⟨rfl, HB.out.nu HK2.out, HK.out.andNu HK2.out⟩
/-- the closure of Check at a field that is as it may be -/
theorem cl_any {w : World} {ub mb fb : Nat} {U M : Mg} (hu : Blk w ub U) (hm : Blk w mb M) (ok : M.Ok) (hne : ub ≠ mb) (h12 : M.k ≠ 12) (f : Nat) (hf : M.okf f) :
    Calls Tryz.prog 89 #[fv f, .pointer (some ⟨ub, 0, none⟩), .pointer (some ⟨mb, 0, none⟩), .pointer (some ⟨fb, 0, none⟩)] w fun e w' => e = .returned (.tuple #[]) ∧ Blk w' ub (U.clf f) ∧ Kp (fun i => i = ub) w w' := by
  match f, hf with
  | 0, hf => exact cl0 hu hm ok hne hf
  | 1, hf => exact cl1 hu hm ok hne
  | 2, hf => exact cl2 hu hm ok hne hf
  | 3, hf => exact cl3 hu hm ok hne hf.1 hf.2
  | 4, hf => exact cl4 hu hm ok hne hf.1 hf.2
  | 5, hf => exact cl5 hu hm ok hne hf.1 hf.2
  | 6, hf => exact cl6 hu hm ok hne hf
  | 7, hf => exact cl7 hu hm ok hne hf
  | 8, hf => exact cl8 hu hm hne hf.1 hf.2
  | 9, hf => exact cl9 hu hm ok hne hf
  | 10, hf => exact cl10 hu hm hne hf h12
  | n + 11, hf => exact hf.elim
/-- the fields of a kind -/
def flds (k : Int) : List Nat :=
  if k = 1 then [0, 1] else if k = 2 then [0, 1, 7] else if k = 3 then [0, 1] else if k = 4 then [0, 1, 8, 7] else if k = 5 then [0, 1, 2, 3] else if k = 6 then [0, 4, 5] else [0, 1, 2, 6]
def Mg.ans (m : Mg) : List Nat := if m.k ≠ 6 then [] else if m.of = 1 ∧ m.st = 1 then [7] else if m.of = 5 then [9, 10] else []
/-- a list of fields in memory -/
def Fs (w : World) (v : Value) (fs : List Nat) : Prop := (v = .slice none 0 0 ∧ fs = []) ∨ ∃ r c, v = .slice (some ⟨r, 0, none⟩) fs.length c ∧ w.heap[r]? = some (.cells (fs.map fv).toArray 162 (0, 0))
set_option maxHeartbeats 1000000 in
theorem fieldsOf_any (w : World) (k : Int) (h1 : 1 ≤ k) (h2 : k ≤ 7) : Calls Tryz.prog 114 #[.int .u8 k] w fun e w' => ∃ v, e = .returned v ∧ Fs w' v (flds k) ∧ (∀ r n c, v = .slice (some ⟨r, 0, none⟩) n c → w.heap.size ≤ r) ∧ Kp Nu w w' := by
  have hc : k = 1 ∨ k = 2 ∨ k = 3 ∨ k = 4 ∨ k = 5 ∨ k = 6 ∨ k = 7 := by omega
  clear h1 h2
  rcases hc with rfl | rfl | rfl | rfl | rfl | rfl | rfl <;>
  · go_enter Tryz.func114, Tryz.ntmps114
    go_wp2
    go_ret
    exact ⟨_, rfl, .inr ⟨w.heap.size, _, rfl, heap_new w _⟩, fun r n c e => by simp at e; omega, Kp.alloc _ _ _⟩
set_option maxHeartbeats 1000000 in
theorem answerOf_any {w : World} {mb : Nat} {M : Mg} (hm : Blk w mb M) : Calls Tryz.prog 115 #[.pointer (some ⟨mb, 0, none⟩)] w fun e w' => ∃ v, e = .returned v ∧ Fs w' v M.ans ∧ (∀ r n c, v = .slice (some ⟨r, 0, none⟩) n c → w.heap.size ≤ r) ∧ Kp Nu w w' := by
  have c0 := hm.at 0 (.int .u8 M.k) rfl
  have c7 := hm.at 7 (.int .u8 M.of) rfl
  have c8 := hm.at 8 (.int .u8 M.st) rfl
  clear hm
  by_cases hk : M.k = 6
  · by_cases ho : M.of = 1
    · by_cases hs : M.st = 1
      · have HA : Hid (M.ans = [7]) := by show M.ans = [7]; simp [Mg.ans, hk, ho, hs]
        rw [hk] at c0; rw [ho] at c7; rw [hs] at c8
        clear hk ho hs
        go_enter Tryz.func115, Tryz.ntmps115
        go_wp2
        go_ret
        rw [HA.out]
        exact ⟨_, rfl, .inr ⟨w.heap.size, _, rfl, heap_new w _⟩, fun r n c e => by simp at e; omega, Kp.alloc _ _ _⟩
      · have HA : Hid (M.ans = []) := by show M.ans = []; simp [Mg.ans, hk, ho, hs]
        rw [hk] at c0; rw [ho] at c7
        clear hk ho
        go_enter Tryz.func115, Tryz.ntmps115
        go_wp2
        go_ret
        rw [HA.out]
        exact ⟨_, rfl, .inl ⟨rfl, rfl⟩, (fun r n c e => by simp at e), Kp.refl _ _⟩
    · by_cases ho5 : M.of = 5
      · have HA : Hid (M.ans = [9, 10]) := by show M.ans = [9, 10]; simp [Mg.ans, hk, ho5]
        rw [hk] at c0; rw [ho5] at c7
        clear hk ho ho5
        go_enter Tryz.func115, Tryz.ntmps115
        go_wp2
        go_ret
        rw [HA.out]
        exact ⟨_, rfl, .inr ⟨w.heap.size, _, rfl, heap_new w _⟩, fun r n c e => by simp at e; omega, Kp.alloc _ _ _⟩
      · have HA : Hid (M.ans = []) := by show M.ans = []; simp [Mg.ans, hk, ho, ho5]
        rw [hk] at c0
        clear hk
        go_enter Tryz.func115, Tryz.ntmps115
        go_wp2
        go_ret
        rw [HA.out]
        exact ⟨_, rfl, .inl ⟨rfl, rfl⟩, (fun r n c e => by simp at e), Kp.refl _ _⟩
  · have HA : Hid (M.ans = []) := by show M.ans = []; simp [Mg.ans, hk]
    go_enter Tryz.func115, Tryz.ntmps115
    go_wp2
    go_ret
    rw [HA.out]
    exact ⟨_, rfl, .inl ⟨rfl, rfl⟩, (fun r n c e => by simp at e), Kp.refl _ _⟩
end Go.Proofs.YtmlnglillgplfaaGreat.Cl
