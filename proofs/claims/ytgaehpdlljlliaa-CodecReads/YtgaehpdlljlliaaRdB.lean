import Derived.Test.YtgaehpdlljlliaaRdA
namespace Go.Proofs.Ytgaehpdlljlliaa.Cd
open Go.RowKit
set_option linter.unusedVariables false

theorem newReading_ok {w : World} {u : Value} {xs : List Int} (h : Rd w u xs) (hl : xs.length ≤ 16777216) : Calls Try.prog 19 #[u] w fun e w' => ∃ d, e = .returned (.tuple #[.agg #[.bool true, d, .int .i64 0, .int .i64 0], .int .i64 0]) ∧ News w.heap.size w w' d xs := by
  have J := fun o => join_any (rd_nil (w.alloc o)) (h.keeps (Kp.alloc w o Nu) (fun _ _ h => h)) (by simp; omega)
  have J0 := join_any (rd_nil w) h (by simp; omega)
  simp only [List.nil_append] at J J0
  obtain ⟨ad, cap, hu⟩ := h.slice
  subst hu
  have hlI : ¬ (xs.length : Int) > 16777216 := by omega
  have KA := fun o => Kp.alloc w o Nu
  generalize xs.length = L at *
  go_enter Try.func19, Try.ntmps19
  go_wp2_with fail
  refine (J _).mono ?_; rintro e w1 ⟨d, rfl, hd⟩
  have hbox : w1.heap[w.heap.size]? = some (.cells #[.bool false, .slice none 0 0, .int .i64 0, .int .i64 0] 52 (0, 0)) := (hd.2.2.block w.heap.size (by simp) (fun h => h)).trans (heap_alloc_new w _)
  have hat : at? d ≠ some w.heap.size := by
    intro e
    rcases hd.2.1 with e2 | ⟨G, hG, e2⟩
    · rw [e2] at e; cases e
    · rw [e2] at e; cases e; simp at hG; omega
  have hfr : fresh w.heap.size d := by
    rcases hd.2.1 with e2 | ⟨G, hG, e2⟩
    · exact .inl e2
    · refine .inr ⟨G, ?_, e2⟩
      simp at hG
      omega
  have hrd := hd.1
  have hk1 := (KA (Obj.cells #[.bool false, .slice none 0 0, .int .i64 0, .int .i64 0] 52 (0, 0))).trans hd.2.2 (fun _ _ h => h)
  obtain ⟨ad2, cap2, hd2⟩ := hrd.slice
  subst hd2
  generalize xs.length = L2 at *
  obtain ⟨c0, c1, c2, c3⟩ := cell4 hbox
  have f0 := free3 hbox 0
  have f1 := free3 hbox 1
  have f2 := free3 hbox 2
  have f3 := free3 hbox 3
  clear J J0 KA hd
  go_wp2
  have s0 := set3 hbox 0 (.bool true)
  have s1 := set3 s0 1 (.slice ad2 L2 cap2)
  have s2 := set3 s1 2 (.int .i64 0)
  have s3 := set3 s2 3 (.int .i64 0)
  simp only [Array.setIfInBounds] at s3
  have s4 := s3
  obtain ⟨e0, e1, e2, e3⟩ := cell4 (by simpa using s4)
  have hk4 := (((hk1.andSet ⟨w.heap.size, 0, none⟩ (.bool true) (Nat.le_refl _)).andSet ⟨w.heap.size, 1, none⟩ (.slice ad2 L2 cap2) (Nat.le_refl _)).andSet ⟨w.heap.size, 2, none⟩ (.int .i64 0) (Nat.le_refl _)).andSet ⟨w.heap.size, 3, none⟩ (.int .i64 0) (Nat.le_refl _)
  have hr4 := (((hrd.andSet ⟨w.heap.size, 0, none⟩ (.bool true) hat).andSet ⟨w.heap.size, 1, none⟩ (.slice ad2 L2 cap2) hat).andSet ⟨w.heap.size, 2, none⟩ (.int .i64 0) hat).andSet ⟨w.heap.size, 3, none⟩ (.int .i64 0) hat
  generalize (((w1.setCell ⟨w.heap.size, 0, none⟩ (.bool true)).setCell ⟨w.heap.size, 1, none⟩ (.slice ad2 L2 cap2)).setCell ⟨w.heap.size, 2, none⟩ (.int .i64 0)).setCell ⟨w.heap.size, 3, none⟩ (.int .i64 0) = w5 at *
  exact bodyPost_ret (v := .tuple #[.agg #[.bool true, .slice ad2 L2 cap2, .int .i64 0, .int .i64 0], .int .i64 0]) (by simp [results, Try.results19, go_sem, e0, e1, e2, e3]) rfl ⟨_, rfl, hr4, hfr, hk4⟩

theorem from_any {w : World} {u : Value} {D : List Int} (h : Rd w u D) (hB : Byt D) (hl : D.length ≤ 16777216) (A n : Nat) (hA : A + n ≤ D.length) (hn : n ≤ 8) :
    Calls Try.prog 80 #[u, .int .i64 (A : Int), .int .i64 (n : Int)] w fun e w' => e = .returned (.int .u64 (numF 0 ((D.drop A).take n))) ∧ w' = w := by
  rcases h with ⟨rfl, rfl⟩ | ⟨a, cap, rfl, hc⟩
  · simp at hA
    obtain ⟨rfl, rfl⟩ := hA
    go_enter Try.func80, Try.ntmps80
    go_wp2
    go_loop [7, 8] (fun x i => x = .int .u64 0 ∧ i = .int .i64 0) (fun _ _ => 0)
    case atStart => exact ⟨rfl, rfl⟩
    case round =>
      obtain ⟨rfl, rfl⟩ := hrel
      go_wp2
      go_ret
      exact ⟨rfl, rfl⟩
  · obtain ⟨xs, hxs⟩ : ∃ xs, (D.drop A).take n = xs := ⟨_, rfl⟩
    have hxl : xs.length = n := by rw [← hxs, List.length_take, List.length_drop]; omega
    have HC : Hid (∀ k (hk : k < n), ∃ ab ao, a = ⟨ab, ao, none⟩ ∧ w.cell? ⟨ab, ao + (A + k), none⟩ = some (.int .u8 (xs[k]'(by omega))) ∧ 0 ≤ xs[k]'(by omega) ∧ xs[k]'(by omega) ≤ 255) := by
      intro k hk
      have hk2 : A + k < D.length := by omega
      obtain ⟨ab, ao, e, _, h3⟩ := addr_of hc hk2
      have e2 : xs[k]'(by omega) = D[A + k] := by
        subst hxs
        simp
      rw [e2]
      exact ⟨ab, ao, e, h3, hB D[A + k] (List.getElem_mem hk2)⟩
    have HX := hide hxl
    have HDl : (D.length : Int) ≤ 16777216 := by omega
    have hAI : (A : Int) + (n : Int) ≤ (D.length : Int) := by omega
    rw [hxs]
    generalize D.length = L at *
    clear hc hB hxs hA hl
    go_enter Try.func80, Try.ntmps80
    go_wp2
    go_loop [7, 8] (fun x i => ∃ (k : Nat) (y : Int), k ≤ n ∧ x = .int .u64 y ∧ i = .int .i64 (k : Int) ∧ 0 ≤ y ∧ Hid (y < 256 ^ k ∧ numF y (xs.drop k) = numF 0 xs)) (fun _ i => n - (intOf i).toNat)
    case atStart => exact ⟨0, 0, Nat.zero_le _, rfl, rfl, by omega, by simp [Hid]⟩
    case round =>
      obtain ⟨k, y, hk, rfl, rfl, hy, hH⟩ := hrel
      by_cases hlt : k < n
      · obtain ⟨ab, ao, ea, hcell, z0, z1⟩ := HC.out k hlt
        subst ea
        have hkx : k < xs.length := by rw [HX.out]; exact hlt
        have hstep : numF (y * 256 + xs[k]) (xs.drop (k + 1)) = numF 0 xs := by
          rw [← hH.out.2, List.drop_eq_getElem_cons hkx]
          rfl
        have hp : y * 256 + xs[k] < 256 ^ (k + 1) := by
          have := hH.out.1
          rw [Int.pow_succ]
          omega
        have hy7 : y < 72057594037927936 := by
          have h7 : k ≤ 7 := by omega
          have h1 := hH.out.1
          have h2 : (256 : Nat) ^ k ≤ 256 ^ 7 := Nat.pow_le_pow_right (by omega) h7
          have h3 : (256 : Int) ^ k = ((256 ^ k : Nat) : Int) := by simp
          rw [h3] at h1
          have h4 : (256 : Nat) ^ 7 = 72057594037927936 := by decide
          omega
        have HS := hide hstep
        have HP := hide hp
        clear hstep hp hH
        generalize xs[k] = z at *
        have hltI : (k : Int) < (n : Int) := by omega
        have hlL : (A : Int) + (k : Int) < (L : Int) := by omega
        have hge : (0 : Int) ≤ (A : Int) + (k : Int) := by omega
        have etn : ((A : Int) + (k : Int)).toNat = A + k := by omega
        go_wp2
        exact ⟨⟨k + 1, y * 256 + z, by omega, rfl, by go_num, by omega, HP.out, HS.out⟩, by simp [intOf]; omega⟩
      · have hke : k = n := by omega
        subst hke
        have e := hH.out.2
        rw [List.drop_of_length_le (by rw [HX.out]; exact Nat.le_refl _)] at e
        have HE := hide e
        clear e hH
        go_wp2
        go_ret
        rw [← HE.out]
        exact ⟨rfl, rfl⟩

set_option maxHeartbeats 400000 in
theorem alike_any {w : World} {u u2 : Value} {ys : List Int} (k1 k2 N I : Int) (F : Bool) (h : Rd w u ys) (h2 : Rd w u2 ys) (hl : ys.length ≤ 16777216) :
    Calls Try.prog 53 #[.agg #[.int .i64 k1, .int .u64 N, .int .i64 I, .bool F, u], .agg #[.int .i64 k2, .int .u64 N, .int .i64 I, .bool F, u2]] w fun e w' => e = .returned (.bool true) ∧ Kp Nu w w' := by
  have S : ∀ w', Kp Nu w w' → Calls Try.prog 28 #[u, u2] w' fun e w'' => e = .returned (.bool true) ∧ Kp Nu w w'' := by
    intro w' k
    have := same_any (h.keeps k (fun _ _ h => h)) (h2.keeps k (fun _ _ h => h)) (by omega)
    rw [decide_self] at this
    refine this.mono ?_
    rintro e w'' ⟨rfl, k2⟩
    exact ⟨rfl, k.trans k2 (fun _ _ h => h)⟩
  have KA := fun o o2 => (Kp.alloc w o Nu).andAlloc o2
  obtain ⟨ad, cap, hu⟩ := h.slice
  obtain ⟨ad2, cap2, hu2⟩ := h2.slice
  subst hu hu2
  generalize ys.length = L at *
  have hN : (N == N) = true := by simp
  have hI : (I == I) = true := by simp
  have hF : (F == F) = true := by simp
  clear h h2 hl
  go_enter Try.func53, Try.ntmps53
  go_wp2_with fail
  refine (S _ (KA _ _)).mono ?_; rintro e w3 ⟨rfl, hk3⟩
  go_wp2
  go_ret
  exact ⟨rfl, hk3⟩
end Go.Proofs.Ytgaehpdlljlliaa.Cd
