import Derived.Test.YtckjededijgjgaaDoorRpD
import Derived.OwnWalk
import Derived.Maps.AppendAt
namespace Go.Proofs.YtckjededijgjgaaDoor.Rp
open Go.RowKit
open Go.Proofs.YtckjededijgjgaaDoor.Pc
set_option linter.unusedVariables false

theorem info97 : (Tryd.prog.info? 97).map (fun i => (i.zero, i.size, i.bytes)) = some (some (.agg #[.int .i64 0, .int .i64 0, .int .i64 0, .bool false]), 4, 32) := by kernel_rfl

/-- the reference's piece: four cells -/
def cellsR4 (x : P4) : List Value := [.int .i64 x.1, .int .i64 x.2.1, .int .i64 x.2.2.1, .bool x.2.2.2]
def cellsR (l : List P4) : List Value := l.flatMap cellsR4
theorem newR (W : World) (x : P4) (j : Nat) (u : Value) (h : (cellsR4 x)[j]? = some u) : (W.alloc (.cells #[.int .i64 x.1, .int .i64 x.2.1, .int .i64 x.2.2.1, .bool x.2.2.2] 97)).cell? ((⟨W.heap.size, 0, none⟩ : Addr).add j) = some u := by
  rw [Pc.addP, World.cell?_alloc_new, Nat.zero_add]
  simpa [cellsR4] using h
theorem oneR (x : P4) : ∀ u ∈ cellsR4 x, u.oneCell' = true := by
  intro u hu
  simp [cellsR4] at hu
  rcases hu with rfl | rfl | rfl | rfl <;> rfl
theorem cellsR_snoc (pre : List P4) (x : P4) : cellsR (pre ++ [x]) = cellsR pre ++ cellsR4 x := by simp [cellsR]

set_option maxRecDepth 100000 in
set_option maxHeartbeats 1000000 in
theorem refPieces_any (s : ByteArray) (hs : s.size ≤ 1048576) (w : World) :
    Calls Tryd.prog 56 #[.string s] w fun e W' => ∃ v, e = .returned v ∧ W'.ownsRow w.heap.size 97 4 v (pieces s).length (cellsR (pieces s)) ∧ Below w.heap.size w W' := by
  obtain ⟨i0, hi, hz0, hz1, hz2⟩ := info_parts info97
  go_enter Tryd.func56, Tryd.ntmps56
  go_wp2
  go_loopw [3, 4] (fun v i wr => ∃ (pos f : Nat) (pre : List P4), i = .int .i64 pos ∧ wr.ownsRow w.heap.size 97 4 v pre.length (cellsR pre) ∧ pieces s = pre ++ piecesFrom s f pos ∧ s.size ≤ pos + f ∧ pre.length ≤ pos ∧ pos ≤ s.size ∧ Below w.heap.size w wr)
    (fun _ i _ => s.size - (intOf i).toNat)
  case atStart => exact ⟨0, s.size, [], rfl, World.ownsRow_nil _ _ _ _, rfl, by omega, Nat.le_refl _, by omega, Below.refl _ _⟩
  case round =>
    obtain ⟨pos, f, pre, rfl, hrow, hx, hf, hl, hps, hB⟩ := hrel
    by_cases hp : pos < s.size
    · have hw := width_le s pos hp
      obtain ⟨f, rfl⟩ : ∃ f', f = f' + 1 := ⟨f - 1, by omega⟩
      have hstep : pieces s = (pre ++ [pcF s pos]) ++ piecesFrom s f (pos + (Utf8.decode s pos).2) := by rw [hx, piecesFrom, if_pos hp]; simp
      have hpI : (pos : Int) < (s.size : Int) := by omega
      have hsI : (pos : Int) ≤ 1048576 := by omega
      have hs8 := hide hs
      rcases pc_cases s pos hp with ⟨hw1, hpc, h128⟩ | ⟨r, k', hpc, hw1, he⟩
      · have hsz : szF s pos = 0 := by
          rcases decode_cases s pos with ⟨hd, _, _⟩ | ⟨r, k, hd, he⟩
          · unfold szF; rw [if_pos hd]
          · exfalso
            have : pcF s pos = ((r : Int), (pos : Int), (k : Int), false) := by
              unfold pcF; rw [if_neg, hd]
              rw [hd]; intro e
              simp only [Prod.mk.injEq] at e
              obtain ⟨rfl, rfl⟩ := e
              rcases he with he | he | he | he <;> omega
            rw [hpc] at this
            simp at this
        rw [hpc, hw1] at hstep
        have HX := hide hstep
        have HZ := hide hsz
        have hb2 : (s[pos].toNat : Int) ≤ 255 := by have := s[pos].toNat_lt; omega
        clear hstep hx hsz hpc hw hw1 h128 hs
        go_wp2_with fail
        refine (size_any s pos _ hp hs8).mono ?_
        rw [HZ.out]
        rintro e wz ⟨rfl, rfl⟩
        go_wp2_with (at_builtin; refine wpList_append_own _ rfl _ _ 93 rfl w.heap.size 97 i0 _ 4 32 Tryd.underlying93 hi hz0 hz1 hz2 rfl (by decide) _ _ _ rfl (hrow.alloc _) ⟨wz.heap.size, 0, none⟩ 1 1 (cellsR4 ((s[pos].toNat : Int), (pos : Int), 1, true)) rfl rfl (newR _ ((s[pos].toNat : Int), (pos : Int), 1, true)) (oneR ((s[pos].toNat : Int), (pos : Int), 1, true)) ?q1 ?q2 ?q3 ?_; rotate_left 3; intro v' w1 hown' hgrow _; obtain ⟨g', cap', rfl⟩ := ownsRow_succ hown')
        · have hb2 : Below w.heap.size w w1 := (hB.alloc hB.size _).grown hgrow (by have := hB.size; simp; omega) (fun j ej => by
            rcases hrow.2 with ⟨rfl, _⟩ | ⟨g, cap, cur, rfl, hgb, _⟩
            · cases ej
            · cases ej; exact hgb)
          exact ⟨⟨pos + 1, f, pre ++ [((s[pos].toNat : Int), (pos : Int), 1, true)], by go_num, by rw [cellsR_snoc, List.length_append]; exact hown', HX.out, by omega, by simp; omega, by omega, hb2⟩, by simp [intOf]; omega⟩
        · unfold maxLen; have := hs8.out; omega
        · have := hs8.out; omega
        · have := hB.size; simp; omega
      · have hsz : szF s pos = (k' : Int) := by
          rcases decode_cases s pos with ⟨hd, _, hno⟩ | ⟨r2, k2, hd, he2⟩
          · exact absurd he (hno _ _)
          · unfold szF
            rw [if_neg]
            · rw [hw1]
            · rw [hd]; intro e
              simp only [Prod.mk.injEq] at e
              obtain ⟨rfl, rfl⟩ := e
              rcases he2 with he2 | he2 | he2 | he2 <;> omega
        have hE := encAt_len he
        rw [hpc, hw1] at hstep
        rw [hw1] at hw
        have HX := hide hstep
        have HZ := hide hsz
        have hk0 : ((k' : Int) == 0) = false := beq_eq_false_iff_ne.2 (by omega)
        have hk4 : (k' : Int) ≤ 4 := by omega
        have HW := hide hw
        clear hstep hx hsz hpc hw hw1 hE hs
        go_wp2_with fail
        refine (size_any s pos _ hp hs8).mono ?_
        rw [HZ.out]
        rintro e wz ⟨rfl, rfl⟩
        go_wp2_with fail
        refine (value_any s pos r k' _ hp hs8 he).mono ?_
        rintro e wq ⟨rfl, nq, rfl⟩
        have hrowq : (wz.drewN nq).ownsRow w.heap.size 97 4 _ pre.length (cellsR pre) := hrow
        have hBq : Below w.heap.size w (wz.drewN nq) := below_drewN hB nq
        clear hB hrow
        generalize wz.drewN nq = wd at hrowq hBq ⊢
        go_wp2_with (at_builtin; refine wpList_append_own _ rfl _ _ 93 rfl w.heap.size 97 i0 _ 4 32 Tryd.underlying93 hi hz0 hz1 hz2 rfl (by decide) _ _ _ rfl (hrowq.alloc _) ⟨wd.heap.size, 0, none⟩ 1 1 (cellsR4 ((r : Int), (pos : Int), (k' : Int), false)) rfl rfl (newR _ ((r : Int), (pos : Int), (k' : Int), false)) (oneR ((r : Int), (pos : Int), (k' : Int), false)) ?p1 ?p2 ?p3 ?_; rotate_left 3; intro v' w1 hown' hgrow _; obtain ⟨g', cap', rfl⟩ := ownsRow_succ hown')
        · have hb2 : Below w.heap.size w w1 := (hBq.alloc hBq.size _).grown hgrow (by have := hBq.size; simp; omega) (fun j ej => by
            rcases hrowq.2 with ⟨rfl, _⟩ | ⟨g, cap, cur, rfl, hgb, _⟩
            · cases ej
            · cases ej; exact hgb)
          have := HW.out
          exact ⟨⟨pos + k', f, pre ++ [((r : Int), (pos : Int), (k' : Int), false)], by go_num, by rw [cellsR_snoc, List.length_append]; exact hown', HX.out, by omega, by simp; omega, by omega, hb2⟩, by simp [intOf]; omega⟩
        · unfold maxLen; have := hs8.out; omega
        · have := hs8.out; omega
        · have := hBq.size; simp; omega
    · rw [piecesFrom_end s f pos hp, List.append_nil] at hx
      have HX := hide hx
      clear hx
      go_wp2
      go_ret
      rw [HX.out]
      exact ⟨_, rfl, hrow, hB⟩
end Go.Proofs.YtckjededijgjgaaDoor.Rp
