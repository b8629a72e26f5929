import Derived.Test.YtbhdhoeaogbfbaaEnJ

namespace Go.Proofs.Ytbhdhoeaogbfbaa.Xo
open Go.RowKit
set_option linter.unusedVariables false
section
variable {B eb pb : Nat} {w w' : World} {me qn wn : Int} {ps : List Pr}
theorem zero45 (W : World) : (zeroValue 45).run Try.prog W = .ok (.slice none 0 0) W := by kernel_rfl
theorem zeros_one45 (n : Nat) : ∀ u ∈ (Builtin.zeroCells #[Value.slice none 0 0] n).toList, u.oneCell' = true := by
  intro u hu
  simp only [Builtin.zeroCells, Array.toList_map, List.mem_map] at hu
  obtain ⟨i, _, rfl⟩ := hu
  have : i % (#[Value.slice none 0 0] : Array Value).size = 0 := Nat.mod_one i
  rw [this]
  rfl
theorem run_clear45 {W : World} {r cap n : Nat} {cu : List Value} (hr : W.heap[r]? = some (.cells cu.toArray 45 (0, 0))) (hl : cu.length = cap) (hj : n + 1 ≤ cap) :
    ∃ cu' : List Value, (∀ (cp : Nat) (ty : TypeId), (Builtin.clear_ #[41] ty #[.slice (some ⟨r, 0, none⟩) (n + 1) cp]).run Try.prog W = .ok (.tuple #[]) (W.setRow r cu'.toArray)) ∧ cu'.length = cap := by
  have hz : (Builtin.zeroCells #[Value.slice none 0 0] (n + 1)).toList.length = n + 1 := by
    rw [Array.length_toList, size_zeroCells]; simp
  have hst := run_storeCells_at Try.prog r 0 45 (Builtin.zeroCells #[Value.slice none 0 0] (n + 1)).toList 0 cu.toArray W hr (by rw [hz]; simp; omega) (zeros_one45 _)
  refine ⟨cu.take 0 ++ (Builtin.zeroCells #[Value.slice none 0 0] (n + 1)).toList ++ cu.drop (0 + (Builtin.zeroCells #[Value.slice none 0 0] (n + 1)).toList.length), fun cp ty => ?_, ?_⟩
  rotate_left
  · simp only [List.length_append, List.length_take, List.length_drop, hz]; omega
  · simp only [Nat.add_zero] at hst
    simp only [Builtin.clear_, Sem.run_bind, run_underlying Try.underlying41, Result.andThen_ok, List.getElem?_toArray, List.getElem?_cons_zero, zero45, Value.cells, hst, Sem.run_pure]
theorem Kp.setRow (w : World) (r : Nat) (c : Array Value) : Kp (fun k => k = r) w (w.setRow r c) :=
  ⟨rfl, rfl, rfl, by simp, fun k _ hn => setRow_other w r k c hn⟩
set_option maxRecDepth 100000 in
set_option maxHeartbeats 6000000 in
/-- all payloads of a queue go out -/
theorem delete_all (m : Nat) (hm : 0 < m) (hm16 : m ≤ 16) (q : Value) (xs : List Value) (own : w.ownsRow B 45 1 q m xs) : Calls Try.prog 93 #[q, .int .i64 0, .int .i64 (m : Int)] w fun e w' => ∃ q', e = .returned q' ∧ w'.ownsRow B 45 1 q' 0 [] ∧ q'.ownBlock = q.ownBlock ∧ Kp (fun i => some i = q.ownBlock) w w' := by
  rcases own.2 with ⟨_, h0⟩ | ⟨r, cap, cur, rfl, hB, hg, h1, h2, h3, h4⟩
  · omega
  have hmI : (0 : Int) ≤ (m : Int) := by omega
  have hne : ((0 : Int) == (m : Int)) = false := by simp; omega
  have hrow : w.drew.heap[r]? = some (.cells cur.toList.toArray 45 (0, 0)) := by rw [Array.toArray_toList]; exact hg
  have HRUN : ∀ (a : Addr) (c : Nat), (Builtin.append_ #[41, 41] 41 #[.slice (some ⟨r, 0, none⟩) 0 cap, .slice (some a) 0 c]).run Try.prog w.drew = .ok (.slice (some ⟨r, 0, none⟩) 0 cap) (w.drew.setRow r cur) := fun a c => by
    obtain ⟨i0, hii, hz0, hz1, hz2⟩ := info_parts info45
    have := run_append_room (P := Try.prog) w.drew 41 41 45 i0 Try.underlying41 hii r 0 cap cur hg a 0 c [] (by simp) (by intro j u hj; simp at hj) (by intro u hu; simp at hu) (by omega) (by simp)
    simpa using this
  have hrow2 : (w.drew.setRow r cur).heap[r]? = some (.cells cur.toList.toArray 45 (0, 0)) := by
    have := setRow_heap w.drew r _ cur 45 _ hrow
    simpa using this
  obtain ⟨cu', hcl, hl'⟩ : ∃ cu' : List Value, (∀ cp ty, (Builtin.clear_ #[41] ty #[.slice (some ⟨r, 0, none⟩) m cp]).run Try.prog (w.drew.setRow r cur) = .ok (.tuple #[]) ((w.drew.setRow r cur).setRow r cu'.toArray)) ∧ cu'.length = cap := by
    obtain ⟨n, rfl⟩ : ∃ n, m = n + 1 := ⟨m - 1, by omega⟩
    exact run_clear45 (W := w.drew.setRow r cur) (r := r) (cap := cap) (n := n) hrow2 (by rw [Array.length_toList]; omega) (by omega)
  have HFIN : Hid (((w.drew.setRow r cur).setRow r cu'.toArray).ownsRow B 45 1 (.slice (some ⟨r, 0, none⟩) 0 cap) 0 [] ∧ Kp (fun i => i = r) w ((w.drew.setRow r cur).setRow r cu'.toArray)) :=
    ⟨⟨rfl, .inr ⟨r, cap, cu'.toArray, rfl, hB, setRow_heap _ r _ _ 45 _ hrow2, Nat.zero_le _, h2, by simp [hl'], by simp⟩⟩, ((Kp.refl _ w).drew.trans (Kp.setRow _ r _) (fun _ _ e => e)).trans (Kp.setRow _ r _) (fun _ _ e => e)⟩
  clear hm own hrow hrow2 hg h3 h4 hl'
  generalize (w.drew.setRow r cur).setRow r cu'.toArray = W2 at *
  generalize w.drew.setRow r cur = W1 at *
  have HR2 := hide HRUN
  have hmc : m ≤ cap := h1
  clear HRUN
  rcases Nat.lt_or_ge m cap with hlt | hge
  · have hcn : ¬ cap = m := by omega
    go_enter Try.func93, Try.ntmps93
    go_wp2_with fail
    go_region_law (first | (refine step_append_row rfl (.tmp 22) (.tmp 25) 41 41 rfl _ _ rfl rfl _ _ (HR2.out _ _) ?_))
    all_goals go_wp2
    all_goals go_ret
    all_goals exact ⟨_, rfl, HFIN.out.1, rfl, HFIN.out.2.mono (fun _ _ e => by rw [e]; rfl)⟩
  · obtain rfl : m = cap := by omega
    clear h1 hmc hge
    go_enter Try.func93, Try.ntmps93
    go_wp2_with fail
    go_region_law (first | (refine step_append_row rfl (.tmp 22) (.tmp 25) 41 41 rfl _ _ rfl rfl _ _ (HR2.out _ _) ?_))
    all_goals go_wp2
    all_goals go_ret
    all_goals exact ⟨_, rfl, HFIN.out.1, rfl, HFIN.out.2.mono (fun _ _ e => by rw [e]; rfl)⟩
end
end Go.Proofs.Ytbhdhoeaogbfbaa.Xo
