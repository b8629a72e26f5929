import Derived.Test.YtckjededijgjgaaDoorRpE
namespace Go.Proofs.YtckjededijgjgaaDoor.Rp
open Go.RowKit
open Go.Proofs.YtckjededijgjgaaDoor.Pc
set_option linter.unusedVariables false

theorem size_big (s : ByteArray) (i : Nat) (w : World) (hi : i < s.size) (hs : s.size ≤ 11000000) :
    Calls Tryd.prog 95 #[.string s, .int .i64 (i : Int)] w fun e0 w' => e0 = .returned (.int .i64 (szF s i)) ∧ w' = w := by
  have gen : 128 ≤ s[i].toNat → Calls Tryd.prog 95 #[.string s, .int .i64 (i : Int)] w fun e0 w' => e0 = .returned (.int .i64 (szR s i)) ∧ w' = w := fun h128 =>
    size_gen s i w _ _ _ _ _ _ _ _ hi (by omega) (by omega) (by omega) rfl rfl rfl rfl rfl rfl rfl rfl
  rcases decode_cases s i with ⟨hd, h128, hno⟩ | ⟨r, k, hd, he⟩
  · have e : szF s i = szR s i := by unfold szF; rw [if_pos hd, szR_none hno]
    rw [e]
    exact gen (by rw [← Pc.get_at s i hi]; exact h128)
  · have hne : ¬ (Utf8.decode s i = (65533, 1)) := by
      rw [hd]; intro e
      simp only [Prod.mk.injEq] at e
      obtain ⟨rfl, rfl⟩ := e
      rcases he with he | he | he | he <;> omega
    by_cases hk : k = 1
    · subst hk
      have e : szF s i = 1 := by unfold szF; rw [if_neg hne, hd]; rfl
      rw [e]
      refine size_one s i w hi ?_
      rw [← Pc.get_at s i hi]
      rcases he with he | he | he | he <;> omega
    · have hk2 : 2 ≤ k := by rcases he with he | he | he | he <;> omega
      have e : szF s i = szR s i := by unfold szF; rw [if_neg hne, hd, szR_enc he hk2]
      rw [e]
      refine gen ?_
      rw [← Pc.get_at s i hi]
      rcases he with he | he | he | he <;> omega

theorem value_big (s : ByteArray) (i r k : Nat) (w : World) (hi : i < s.size) (hs : s.size ≤ 11000000) (he : encAt s i r k) :
    Calls Tryd.prog 96 #[.string s, .int .i64 (i : Int), .int .i64 (k : Int)] w fun e w' => e = .returned (.int .i64 (r : Int)) ∧ ∃ n, w' = w.drewN n := by
  rcases he with h | h | h | h
  · obtain ⟨rfl, h1, h2⟩ := h
    refine (value_1 s i r w hi (by rw [← Pc.get_at s i hi]; exact h2)).mono ?_
    rintro e w' ⟨rfl, rfl⟩
    exact ⟨rfl, 0, rfl⟩
  · obtain ⟨rfl, h1, h2, h3, h4, h5⟩ := h
    exact value_2 s i r w (by omega) (by omega) (by rw [← Pc.get_at s i hi]; exact h4) (by rw [← Pc.get_at s (i + 1) (by omega)]; exact h5)
  · obtain ⟨rfl, h1, h2, h3, h4, h5, h6, h7⟩ := h
    exact value_3 s i r w (by omega) (by omega) (by rw [← Pc.get_at s i hi]; exact h5) (by rw [← Pc.get_at s (i + 1) (by omega)]; exact h6) (by rw [← Pc.get_at s (i + 2) (by omega)]; exact h7)
  · obtain ⟨rfl, h1, h2, h3, h4, h5, h6, h7⟩ := h
    exact value_4 s i r w (by omega) (by omega) (by rw [← Pc.get_at s i hi]; exact h4) (by rw [← Pc.get_at s (i + 1) (by omega)]; exact h5) (by rw [← Pc.get_at s (i + 2) (by omega)]; exact h6) (by rw [← Pc.get_at s (i + 3) (by omega)]; exact h7)
set_option maxRecDepth 100000 in
set_option maxHeartbeats 1000000 in
theorem refPieces_big (s : ByteArray) (hs : s.size ≤ 11000000) (w : World) :
    Calls Tryd.prog 56 #[.string s] w fun e W' => ∃ v, e = .returned v ∧ W'.ownsRow w.heap.size 97 4 v (pieces s).length (cellsR (pieces s)) ∧ Below w.heap.size w W' := by
  obtain ⟨i0, hi, hz0, hz1, hz2⟩ := info_parts info97
  go_enter Tryd.func56, Tryd.ntmps56
  go_wp2
  go_loopw [3, 4] (fun v i wr => ∃ (pos f : Nat) (pre : List P4), i = .int .i64 pos ∧ wr.ownsRow w.heap.size 97 4 v pre.length (cellsR pre) ∧ pieces s = pre ++ piecesFrom s f pos ∧ s.size ≤ pos + f ∧ pre.length ≤ pos ∧ pos ≤ s.size ∧ Below w.heap.size w wr)
    (fun _ i _ => s.size - (intOf i).toNat)
  case atStart => exact ⟨0, s.size, [], rfl, World.ownsRow_nil _ _ _ _, rfl, by omega, Nat.le_refl _, by omega, Below.refl _ _⟩
  case round =>
    obtain ⟨pos, f, pre, rfl, hrow, hx, hf, hl, hps, hB⟩ := hrel
    by_cases hp : pos < s.size
    · have hw := width_le s pos hp
      obtain ⟨f, rfl⟩ : ∃ f', f = f' + 1 := ⟨f - 1, by omega⟩
      have hstep : pieces s = (pre ++ [pcF s pos]) ++ piecesFrom s f (pos + (Utf8.decode s pos).2) := by rw [hx, piecesFrom, if_pos hp]; simp
      have hpI : (pos : Int) < (s.size : Int) := by omega
      have hsI : (pos : Int) ≤ 11000000 := by omega
      have hs8 := hide hs
      rcases pc_cases s pos hp with ⟨hw1, hpc, h128⟩ | ⟨r, k', hpc, hw1, he⟩
      · have hsz : szF s pos = 0 := by
          rcases decode_cases s pos with ⟨hd, _, _⟩ | ⟨r, k, hd, he⟩
          · unfold szF; rw [if_pos hd]
          · exfalso
            have : pcF s pos = ((r : Int), (pos : Int), (k : Int), false) := by
              unfold pcF; rw [if_neg, hd]
              rw [hd]; intro e
              simp only [Prod.mk.injEq] at e
              obtain ⟨rfl, rfl⟩ := e
              rcases he with he | he | he | he <;> omega
            rw [hpc] at this
            simp at this
        rw [hpc, hw1] at hstep
        have HX := hide hstep
        have HZ := hide hsz
        have hb2 : (s[pos].toNat : Int) ≤ 255 := by have := s[pos].toNat_lt; omega
        clear hstep hx hsz hpc hw hw1 h128 hs
        go_wp2_with fail
        refine (size_big s pos _ hp hs8).mono ?_
        rw [HZ.out]
        rintro e wz ⟨rfl, rfl⟩
        go_wp2_with (at_builtin; refine wpList_append_own _ rfl _ _ 93 rfl w.heap.size 97 i0 _ 4 32 Tryd.underlying93 hi hz0 hz1 hz2 rfl (by decide) _ _ _ rfl (hrow.alloc _) ⟨wz.heap.size, 0, none⟩ 1 1 (cellsR4 ((s[pos].toNat : Int), (pos : Int), 1, true)) rfl rfl (newR _ ((s[pos].toNat : Int), (pos : Int), 1, true)) (oneR ((s[pos].toNat : Int), (pos : Int), 1, true)) ?q1 ?q2 ?q3 ?_; rotate_left 3; intro v' w1 hown' hgrow _; obtain ⟨g', cap', rfl⟩ := ownsRow_succ hown')
        · have hb2 : Below w.heap.size w w1 := (hB.alloc hB.size _).grown hgrow (by have := hB.size; simp; omega) (fun j ej => by
            rcases hrow.2 with ⟨rfl, _⟩ | ⟨g, cap, cur, rfl, hgb, _⟩
            · cases ej
            · cases ej; exact hgb)
          exact ⟨⟨pos + 1, f, pre ++ [((s[pos].toNat : Int), (pos : Int), 1, true)], by go_num, by rw [cellsR_snoc, List.length_append]; exact hown', HX.out, by omega, by simp; omega, by omega, hb2⟩, by simp [intOf]; omega⟩
        · unfold maxLen; have := hs8.out; omega
        · have := hs8.out; omega
        · have := hB.size; simp; omega
      · have hsz : szF s pos = (k' : Int) := by
          rcases decode_cases s pos with ⟨hd, _, hno⟩ | ⟨r2, k2, hd, he2⟩
          · exact absurd he (hno _ _)
          · unfold szF
            rw [if_neg]
            · rw [hw1]
            · rw [hd]; intro e
              simp only [Prod.mk.injEq] at e
              obtain ⟨rfl, rfl⟩ := e
              rcases he2 with he2 | he2 | he2 | he2 <;> omega
        have hE := encAt_len he
        rw [hpc, hw1] at hstep
        rw [hw1] at hw
        have HX := hide hstep
        have HZ := hide hsz
        have hk0 : ((k' : Int) == 0) = false := beq_eq_false_iff_ne.2 (by omega)
        have hk4 : (k' : Int) ≤ 4 := by omega
        have HW := hide hw
        clear hstep hx hsz hpc hw hw1 hE hs
        go_wp2_with fail
        refine (size_big s pos _ hp hs8).mono ?_
        rw [HZ.out]
        rintro e wz ⟨rfl, rfl⟩
        go_wp2_with fail
        refine (value_big s pos r k' _ hp hs8 he).mono ?_
        rintro e wq ⟨rfl, nq, rfl⟩
        have hrowq : (wz.drewN nq).ownsRow w.heap.size 97 4 _ pre.length (cellsR pre) := hrow
        have hBq : Below w.heap.size w (wz.drewN nq) := below_drewN hB nq
        clear hB hrow
        generalize wz.drewN nq = wd at hrowq hBq ⊢
        go_wp2_with (at_builtin; refine wpList_append_own _ rfl _ _ 93 rfl w.heap.size 97 i0 _ 4 32 Tryd.underlying93 hi hz0 hz1 hz2 rfl (by decide) _ _ _ rfl (hrowq.alloc _) ⟨wd.heap.size, 0, none⟩ 1 1 (cellsR4 ((r : Int), (pos : Int), (k' : Int), false)) rfl rfl (newR _ ((r : Int), (pos : Int), (k' : Int), false)) (oneR ((r : Int), (pos : Int), (k' : Int), false)) ?p1 ?p2 ?p3 ?_; rotate_left 3; intro v' w1 hown' hgrow _; obtain ⟨g', cap', rfl⟩ := ownsRow_succ hown')
        · have hb2 : Below w.heap.size w w1 := (hBq.alloc hBq.size _).grown hgrow (by have := hBq.size; simp; omega) (fun j ej => by
            rcases hrowq.2 with ⟨rfl, _⟩ | ⟨g, cap, cur, rfl, hgb, _⟩
            · cases ej
            · cases ej; exact hgb)
          have := HW.out
          exact ⟨⟨pos + k', f, pre ++ [((r : Int), (pos : Int), (k' : Int), false)], by go_num, by rw [cellsR_snoc, List.length_append]; exact hown', HX.out, by omega, by simp; omega, by omega, hb2⟩, by simp [intOf]; omega⟩
        · unfold maxLen; have := hs8.out; omega
        · have := hs8.out; omega
        · have := hBq.size; simp; omega
    · rw [piecesFrom_end s f pos hp, List.append_nil] at hx
      have HX := hide hx
      clear hx
      go_wp2
      go_ret
      rw [HX.out]
      exact ⟨_, rfl, hrow, hB⟩
end Go.Proofs.YtckjededijgjgaaDoor.Rp
