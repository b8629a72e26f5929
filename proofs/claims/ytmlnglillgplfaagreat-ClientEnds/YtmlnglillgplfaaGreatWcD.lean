import Derived.Test.YtmlnglillgplfaaGreatWcC
namespace Go.Proofs.YtmlnglillgplfaaGreat.Cl
open Go.RowKit
set_option linter.unusedVariables false
set_option maxRecDepth 100000 in
set_option maxHeartbeats 1000000 in
theorem cl10 {w : World} {ub mb fb : Nat} {U M : Mg} (hu : Blk w ub U) (hm : Blk w mb M) (hne : ub ≠ mb) (h1 : M.pa.n = 0) (h2 : M.k ≠ 12) :
    Calls Tryz.prog 89 #[.iface 209 (.agg #[]), .pointer (some ⟨ub, 0, none⟩), .pointer (some ⟨mb, 0, none⟩), .pointer (some ⟨fb, 0, none⟩)] w fun e w' => e = .returned (.tuple #[]) ∧ Blk w' ub (U.clf 10) ∧ Kp (fun i => i = ub) w w' := by
  have q1 := mc209
  have q2 := mk209
  have E1 := pairsClear hu
  have E2 := fun W (k : Kp (fun i => i = ub) w W) => pairsCheck (hm.kp k (fun e => hne e.symm)) h1 h2
  clear hu hm h1 h2
  go_enter Tryz.func89, Tryz.ntmps89
  go_wp2_with fail
  refine E1.mono ?_; rintro e w1 ⟨rfl, hb1, hk1⟩
  have HB := hide hb1
  have E3 := E2 _ hk1
  have HK := hide hk1
  clear hb1 hk1 E1 E2
  go_wp2_with fail
  refine E3.mono ?_; rintro e w2 ⟨rfl, hk2⟩
  have HK2 := hide hk2
  clear E3 hk2
  go_wp2
  go_end0
  exact ⟨rfl, HB.out.nu HK2.out, HK.out.andNu HK2.out⟩
/-- the closure of Check at a field that is as it may be -/
theorem cl_any {w : World} {ub mb fb : Nat} {U M : Mg} (hu : Blk w ub U) (hm : Blk w mb M) (ok : M.Ok) (hne : ub ≠ mb) (h12 : M.k ≠ 12) (f : Nat) (hf : M.okf f) :
    Calls Tryz.prog 89 #[fv f, .pointer (some ⟨ub, 0, none⟩), .pointer (some ⟨mb, 0, none⟩), .pointer (some ⟨fb, 0, none⟩)] w fun e w' => e = .returned (.tuple #[]) ∧ Blk w' ub (U.clf f) ∧ Kp (fun i => i = ub) w w' := by
  match f, hf with
  | 0, hf => exact cl0 hu hm ok hne hf
  | 1, hf => exact cl1 hu hm ok hne
  | 2, hf => exact cl2 hu hm ok hne hf
  | 3, hf => exact cl3 hu hm ok hne hf.1 hf.2
  | 4, hf => exact cl4 hu hm ok hne hf.1 hf.2
  | 5, hf => exact cl5 hu hm ok hne hf.1 hf.2
  | 6, hf => exact cl6 hu hm ok hne hf
  | 7, hf => exact cl7 hu hm ok hne hf
  | 8, hf => exact cl8 hu hm hne hf.1 hf.2
  | 9, hf => exact cl9 hu hm ok hne hf
  | 10, hf => exact cl10 hu hm hne hf h12
  | n + 11, hf => exact hf.elim
/-- the fields of a kind -/
def flds (k : Int) : List Nat :=
  if k = 1 then [0, 1] else if k = 2 then [0, 1, 7] else if k = 3 then [0, 1] else if k = 4 then [0, 1, 8, 7] else if k = 5 then [0, 1, 2, 3] else if k = 6 then [0, 4, 5] else [0, 1, 2, 6]
def Mg.ans (m : Mg) : List Nat := if m.k ≠ 6 then [] else if m.of = 1 ∧ m.st = 1 then [7] else if m.of = 5 then [9, 10] else []
/-- a list of fields in memory -/
def Fs (w : World) (v : Value) (fs : List Nat) : Prop := (v = .slice none 0 0 ∧ fs = []) ∨ ∃ r c, v = .slice (some ⟨r, 0, none⟩) fs.length c ∧ w.heap[r]? = some (.cells (fs.map fv).toArray 162 (0, 0))
set_option maxHeartbeats 1000000 in
theorem fieldsOf_any (w : World) (k : Int) (h1 : 1 ≤ k) (h2 : k ≤ 7) : Calls Tryz.prog 114 #[.int .u8 k] w fun e w' => ∃ v, e = .returned v ∧ Fs w' v (flds k) ∧ (∀ r n c, v = .slice (some ⟨r, 0, none⟩) n c → w.heap.size ≤ r) ∧ Kp Nu w w' := by
  have hc : k = 1 ∨ k = 2 ∨ k = 3 ∨ k = 4 ∨ k = 5 ∨ k = 6 ∨ k = 7 := by omega
  clear h1 h2
  rcases hc with rfl | rfl | rfl | rfl | rfl | rfl | rfl <;>
  · go_enter Tryz.func114, Tryz.ntmps114
    go_wp2
    go_ret
    exact ⟨_, rfl, .inr ⟨w.heap.size, _, rfl, heap_new w _⟩, fun r n c e => by simp at e; omega, Kp.alloc _ _ _⟩
set_option maxHeartbeats 1000000 in
theorem answerOf_any {w : World} {mb : Nat} {M : Mg} (hm : Blk w mb M) : Calls Tryz.prog 115 #[.pointer (some ⟨mb, 0, none⟩)] w fun e w' => ∃ v, e = .returned v ∧ Fs w' v M.ans ∧ (∀ r n c, v = .slice (some ⟨r, 0, none⟩) n c → w.heap.size ≤ r) ∧ Kp Nu w w' := by
  have c0 := hm.at 0 (.int .u8 M.k) rfl
  have c7 := hm.at 7 (.int .u8 M.of) rfl
  have c8 := hm.at 8 (.int .u8 M.st) rfl
  clear hm
  by_cases hk : M.k = 6
  · by_cases ho : M.of = 1
    · by_cases hs : M.st = 1
      · have HA : Hid (M.ans = [7]) := by show M.ans = [7]; simp [Mg.ans, hk, ho, hs]
        rw [hk] at c0; rw [ho] at c7; rw [hs] at c8
        clear hk ho hs
        go_enter Tryz.func115, Tryz.ntmps115
        go_wp2
        go_ret
        rw [HA.out]
        exact ⟨_, rfl, .inr ⟨w.heap.size, _, rfl, heap_new w _⟩, fun r n c e => by simp at e; omega, Kp.alloc _ _ _⟩
      · have HA : Hid (M.ans = []) := by show M.ans = []; simp [Mg.ans, hk, ho, hs]
        rw [hk] at c0; rw [ho] at c7
        clear hk ho
        go_enter Tryz.func115, Tryz.ntmps115
        go_wp2
        go_ret
        rw [HA.out]
        exact ⟨_, rfl, .inl ⟨rfl, rfl⟩, (fun r n c e => by simp at e), Kp.refl _ _⟩
    · by_cases ho5 : M.of = 5
      · have HA : Hid (M.ans = [9, 10]) := by show M.ans = [9, 10]; simp [Mg.ans, hk, ho5]
        rw [hk] at c0; rw [ho5] at c7
        clear hk ho ho5
        go_enter Tryz.func115, Tryz.ntmps115
        go_wp2
        go_ret
        rw [HA.out]
        exact ⟨_, rfl, .inr ⟨w.heap.size, _, rfl, heap_new w _⟩, fun r n c e => by simp at e; omega, Kp.alloc _ _ _⟩
      · have HA : Hid (M.ans = []) := by show M.ans = []; simp [Mg.ans, hk, ho, ho5]
        rw [hk] at c0
        clear hk
        go_enter Tryz.func115, Tryz.ntmps115
        go_wp2
        go_ret
        rw [HA.out]
        exact ⟨_, rfl, .inl ⟨rfl, rfl⟩, (fun r n c e => by simp at e), Kp.refl _ _⟩
  · have HA : Hid (M.ans = []) := by show M.ans = []; simp [Mg.ans, hk]
    go_enter Tryz.func115, Tryz.ntmps115
    go_wp2
    go_ret
    rw [HA.out]
    exact ⟨_, rfl, .inl ⟨rfl, rfl⟩, (fun r n c e => by simp at e), Kp.refl _ _⟩
end Go.Proofs.YtmlnglillgplfaaGreat.Cl
