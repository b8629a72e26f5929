import Derived.Test.YtahcdignedfanaaRpE
namespace Go.Proofs.Ytahcdignedfanaa.Rp
open Go.RowKit
open Go.Proofs.Ytahcdignedfanaa.Pc
set_option linter.unusedVariables false

theorem cellsR_at : ∀ (l : List P4) (k j : Nat) (x : P4), l[k]? = some x → j < 4 → (cellsR l)[k * 4 + j]? = (cellsR4 x)[j]?
  | [], k, j, x, h, _ => by simp at h
  | a :: l, 0, j, x, h, hj => by
    simp at h; subst h
    simp only [cellsR, List.flatMap_cons, Nat.zero_mul, Nat.zero_add]
    rw [List.getElem?_append_left (by simp [cellsR4]; omega)]
  | a :: l, k + 1, j, x, h, hj => by
    have ih := cellsR_at l k j x (by simpa using h) hj
    simp only [cellsR, List.flatMap_cons]
    rw [List.getElem?_append_right (by simp [cellsR4]; omega)]
    have : (k + 1) * 4 + j - (cellsR4 a).length = k * 4 + j := by simp [cellsR4]; omega
    rw [this]; exact ih
theorem row_cellsR {W : World} {g : Nat} {cur : Array Value} {l : List P4} (hg : W.heap[g]? = some (.cells cur 51 (0, 0))) (ht : cur.toList.take (l.length * 4) = cellsR l) (k : Nat) (x : P4) (hx : l[k]? = some x) :
    W.cell? ⟨g, k * 4, none⟩ = some (.int .i64 x.1) ∧ W.cell? ⟨g, k * 4 + 1, none⟩ = some (.int .i64 x.2.1) ∧ W.cell? ⟨g, k * 4 + 2, none⟩ = some (.int .i64 x.2.2.1) ∧ W.cell? ⟨g, k * 4 + 3, none⟩ = some (.bool x.2.2.2) := by
  have hk : k < l.length := (List.getElem?_eq_some_iff.1 hx).1
  have cell : ∀ j, j < 4 → W.cell? ⟨g, k * 4 + j, none⟩ = (cellsR4 x)[j]? := by
    intro j hj
    rw [← cellsR_at l k j x hx hj, ← ht, List.getElem?_take_of_lt (by omega)]
    simp [World.cell?, hg]
  exact ⟨cell 0 (by omega), cell 1 (by omega), cell 2 (by omega), cell 3 (by omega)⟩

set_option maxHeartbeats 400000 in
theorem same_nil (a0 b0 : Option Addr) (ca cb : Nat) (w : World) :
    Calls Try.prog 13 #[.slice a0 0 ca, .slice b0 0 cb] w fun e w' => e = .returned (.bool true) ∧ ∃ n, w' = w.drewN n := by
  go_enter Try.func13, Try.ntmps13
  go_wp2
  go_loop [5] (fun i => i = .int .i64 0) (fun _ => 0)
  case atStart => rfl
  case round =>
    subst hrel
    go_wp2
    go_ret
    exact ⟨rfl, 0, rfl⟩

set_option maxHeartbeats 1000000 in
theorem same_some (l : List P4) (n ga gb ca cb : Nat) (cua cub : Array Value) (w : World) (hn : (n : Int) ≤ 2097152) (hln : Hid (l.length = n)) (hbd : Hid (∀ x ∈ l, -2147483648 ≤ x.1 ∧ x.1 ≤ 2147483647))
    (ha : Hid (w.heap[ga]? = some (.cells cua 25 (0, 0)))) (hta : Hid (cua.toList.take (l.length * 4) = cellsL l)) (hb : Hid (w.heap[gb]? = some (.cells cub 51 (0, 0)))) (htb : Hid (cub.toList.take (l.length * 4) = cellsR l)) :
    Calls Try.prog 13 #[.slice (some ⟨ga, 0, none⟩) n ca, .slice (some ⟨gb, 0, none⟩) n cb] w fun e w' => e = .returned (.bool true) ∧ ∃ n, w' = w.drewN n := by
  go_enter Try.func13, Try.ntmps13
  go_wp2
  go_loopw [5] (fun i wr => ∃ k nq : Nat, k ≤ n ∧ i = .int .i64 k ∧ wr = w.drewN nq) (fun i _ => n - (intOf i).toNat)
  case atStart => exact ⟨0, 0, by omega, rfl, rfl⟩
  case round =>
    obtain ⟨k, nq, hk, rfl, rfl⟩ := hrel
    by_cases hlt : k < n
    · obtain ⟨x, hx⟩ : ∃ x, l[k]? = some x := ⟨_, List.getElem?_eq_getElem (by rw [hln.out]; exact hlt)⟩
      obtain ⟨a0, a1, a2, a3⟩ := Pc.row_cells (W := w) ha.out hta.out k x hx
      obtain ⟨b0, b1, b2, b3⟩ := row_cellsR (W := w) hb.out htb.out k x hx
      have hx1 := hbd.out x (List.mem_of_getElem? hx)
      obtain ⟨x0, x1, x2, x3⟩ := x
      simp only at a0 a1 a2 a3 b0 b1 b2 b3 hx1
      obtain ⟨l1, l2⟩ := hx1
      have hltI : (k : Int) < (n : Int) := by omega
      have hz : (0 : Int) ≤ (k : Int) := by omega
      clear hx
      go_wp2
      go_quiet (fail)
      go_wp2
      exact ⟨⟨k + 1, _, by omega, by go_num, rfl⟩, by simp [intOf]; omega⟩
    · go_wp2
      go_ret
      exact ⟨rfl, nq, rfl⟩

/-- samePieces of a row and of the document's row of one list: true -/
theorem same_own {l : List P4} {va vb : Value} {ba bb : Nat} (w : World) (hlen : l.length ≤ 2097152) (hbd : ∀ x ∈ l, -2147483648 ≤ x.1 ∧ x.1 ≤ 2147483647)
    (ha : w.ownsRow ba 25 4 va l.length (cellsL l)) (hb : w.ownsRow bb 51 4 vb l.length (cellsR l)) :
    Calls Try.prog 13 #[va, vb] w fun e w' => e = .returned (.bool true) ∧ ∃ n, w' = w.drewN n := by
  rcases ha.2 with ⟨rfl, h0⟩ | ⟨ga, ca, cua, rfl, _, hga, _, _, _, hta⟩
  · rcases hb.2 with ⟨rfl, _⟩ | ⟨gb, cb, cub, rfl, _, hgb, _, _, _, htb⟩
    · exact same_nil _ _ _ _ _
    · rw [h0]; exact same_nil _ _ _ _ _
  · rcases hb.2 with ⟨rfl, h0⟩ | ⟨gb, cb, cub, rfl, _, hgb, _, _, _, htb⟩
    · rw [h0]; exact same_nil _ _ _ _ _
    · exact same_some l l.length ga gb ca cb cua cub w (by omega) rfl hbd hga hta hgb htb

theorem pieces_mem (s : ByteArray) : ∀ (f pos : Nat) (x : P4), x ∈ piecesFrom s f pos → ∃ p, p < s.size ∧ x = pcF s p
  | 0, pos, x, h => by simp [piecesFrom] at h
  | f + 1, pos, x, h => by
    rw [piecesFrom] at h
    split at h
    · rename_i hp
      rcases List.mem_cons.1 h with rfl | h
      · exact ⟨pos, hp, rfl⟩
      · exact pieces_mem s f _ x h
    · simp at h
theorem pieces_bd (s : ByteArray) (x : P4) (h : x ∈ pieces s) : -2147483648 ≤ x.1 ∧ x.1 ≤ 2147483647 := by
  obtain ⟨p, hp, rfl⟩ := pieces_mem s _ _ _ h
  rcases pc_cases s p hp with ⟨_, hpc, _⟩ | ⟨r, k, hpc, _, he⟩
  · rw [hpc]; have := s[p].toNat_lt; simp only; omega
  · rw [hpc]; have := encAt_len he; simp only; omega

/-- a store into an owned row leaves it owned, with other contents -/
theorem own_set {w : World} {base e size g cap n off : Nat} {xs : List Value} (u : Value) (h : w.ownsRow base e size (.slice (some ⟨g, 0, none⟩) n cap) n xs) : ∃ xs', (w.setCell ⟨g, off, none⟩ u).ownsRow base e size (.slice (some ⟨g, 0, none⟩) n cap) n xs' := by
  obtain ⟨hl, h⟩ := h
  rcases h with ⟨h, _⟩ | ⟨g', cap', cur, hv, hb, hg, hn, hm, hs, ht⟩
  · cases h
  · cases hv
    refine ⟨(cur.setIfInBounds off u).toList.take (n * size), ?_, .inr ⟨g, cap, cur.setIfInBounds off u, rfl, hb, ?_, hn, hm, by simpa using hs, rfl⟩⟩
    · rw [List.length_take]
      have h1 : (cur.setIfInBounds off u).toList.length = cap * size := by simpa using hs
      have : n * size ≤ cap * size := Nat.mul_le_mul_right _ hn
      omega
    · obtain ⟨hlt, hk⟩ := Array.getElem?_eq_some_iff.1 hg
      show (w.heap.modify g _)[g]? = _
      rw [Array.getElem?_eq_getElem (by rw [Array.size_modify]; exact hlt), Array.getElem_modify_self, hk]
      rfl
theorem grown_set (W : World) (b off : Nat) (v : Value) : W.grownBy (W.setCell ⟨b, off, none⟩ v) (some b) :=
  ⟨rfl, rfl, rfl, (KeepsWalks.setCell W _ v).size, fun k _ hk => Below.heap_setCell _ _ _ k (fun e => hk (by rw [e]))⟩
end Go.Proofs.Ytahcdignedfanaa.Rp
