import Derived.Test.YtgaehpdlljlliaaRdE
namespace Go.Proofs.Ytgaehpdlljlliaa.Cd
open Go.RowKit
set_option linter.unusedVariables false

theorem ru8_nil (w : World) : Calls Try.prog 55 #[.pointer none] w fun e w' => e = .returned (.int .u8 0) ∧ w' = w := by
  have N := fun w => getNumber_any w (.slice none 0 0) [] (.inl ⟨rfl, rfl⟩) (by intro z hz; simp at hz) (by simp)
  rw [show numF 0 [] = 0 from rfl] at N
  go_enter Try.func55, Try.ntmps55
  go_wp2_with fail
  refine (take_nil _ _).mono ?_; rintro e w' ⟨rfl, rfl⟩
  go_wp2_with fail
  refine (N _).mono ?_; rintro e w' ⟨rfl, rfl⟩
  go_wp2
  go_ret
  exact ⟨rfl, rfl⟩

theorem ru16_nil (w : World) : Calls Try.prog 56 #[.pointer none] w fun e w' => e = .returned (.int .u16 0) ∧ w' = w := by
  have N := fun w => getNumber_any w (.slice none 0 0) [] (.inl ⟨rfl, rfl⟩) (by intro z hz; simp at hz) (by simp)
  rw [show numF 0 [] = 0 from rfl] at N
  go_enter Try.func56, Try.ntmps56
  go_wp2_with fail
  refine (take_nil _ _).mono ?_; rintro e w' ⟨rfl, rfl⟩
  go_wp2_with fail
  refine (N _).mono ?_; rintro e w' ⟨rfl, rfl⟩
  go_wp2
  go_ret
  exact ⟨rfl, rfl⟩

theorem ru32_nil (w : World) : Calls Try.prog 57 #[.pointer none] w fun e w' => e = .returned (.int .u32 0) ∧ w' = w := by
  have N := fun w => getNumber_any w (.slice none 0 0) [] (.inl ⟨rfl, rfl⟩) (by intro z hz; simp at hz) (by simp)
  rw [show numF 0 [] = 0 from rfl] at N
  go_enter Try.func57, Try.ntmps57
  go_wp2_with fail
  refine (take_nil _ _).mono ?_; rintro e w' ⟨rfl, rfl⟩
  go_wp2_with fail
  refine (N _).mono ?_; rintro e w' ⟨rfl, rfl⟩
  go_wp2
  go_ret
  exact ⟨rfl, rfl⟩

theorem ru64_nil (w : World) : Calls Try.prog 58 #[.pointer none] w fun e w' => e = .returned (.int .u64 0) ∧ w' = w := by
  have N := fun w => getNumber_any w (.slice none 0 0) [] (.inl ⟨rfl, rfl⟩) (by intro z hz; simp at hz) (by simp)
  rw [show numF 0 [] = 0 from rfl] at N
  go_enter Try.func58, Try.ntmps58
  go_wp2_with fail
  refine (take_nil _ _).mono ?_; rintro e w' ⟨rfl, rfl⟩
  go_wp2_with fail
  refine (N _).mono ?_; rintro e w' ⟨rfl, rfl⟩
  go_wp2
  go_ret
  exact ⟨rfl, rfl⟩

theorem rvarint_nil (w : World) : Calls Try.prog 59 #[.pointer none] w fun e w' => e = .returned (.int .u64 0) ∧ w' = w := by
  go_enter Try.func59, Try.ntmps59
  go_wp2_with fail
  refine (reads_nil _).mono ?_; rintro e w' ⟨rfl, rfl⟩
  go_wp2
  go_ret
  exact ⟨rfl, rfl⟩
theorem rsigned_nil (w : World) : Calls Try.prog 60 #[.pointer none] w fun e w' => e = .returned (.int .i64 0) ∧ w' = w := by
  have hu := uz_is 0 (by omega) (by omega)
  have ha := Lib.u64_and1 0 (by omega) (by omega)
  have e0 : uz 0 = 0 := rfl
  rw [e0] at hu
  go_enter Try.func60, Try.ntmps60
  go_wp2_with fail
  refine (rvarint_nil _).mono ?_; rintro e w' ⟨rfl, rfl⟩
  go_wp2
  go_ret
  exact ⟨rfl, rfl⟩
theorem rflag_nil (w : World) : Calls Try.prog 61 #[.pointer none] w fun e w' => e = .returned (.bool false) ∧ w' = w := by
  go_enter Try.func61, Try.ntmps61
  go_wp2_with fail
  refine (left_nil _).mono ?_; rintro e w' ⟨rfl, rfl⟩
  go_wp2_with fail
  refine (ru8_nil _).mono ?_; rintro e w' ⟨rfl, rfl⟩
  go_wp2
  go_ret
  exact ⟨rfl, rfl⟩
theorem own_nil (w : World) : Calls Try.prog 46 #[.slice none 0 0] w fun e w' => ∃ u, e = .returned u ∧ Rd w' u [] ∧ fresh w.heap.size u ∧ Kp Nu w w' := by
  refine (own_any (xs := []) (.inl ⟨rfl, rfl⟩) (by simp)).mono ?_
  rintro e w' ⟨rfl, hh, hk2⟩
  exact ⟨_, rfl, rd_new hh, .inr ⟨_, Nat.le_refl _, rfl⟩, hk2⟩
theorem rraw_nil (w : World) (n : Int) : Calls Try.prog 62 #[.pointer none, .int .i64 n] w fun e w' => ∃ u, e = .returned u ∧ Rd w' u [] ∧ fresh w.heap.size u ∧ Kp Nu w w' := by
  by_cases hn : n < 0
  · go_enter Try.func62, Try.ntmps62
    go_wp2_with fail
    refine (fail_nil _ _).mono ?_; rintro e w1 ⟨rfl, rfl⟩
    go_wp2_with fail
    refine (take_nil _ _).mono ?_; rintro e w1 ⟨rfl, rfl⟩
    go_wp2_with fail
    refine (own_nil _).mono ?_; rintro e w2 ⟨u, rfl, h1, h2, h3⟩
    go_wp2
    go_ret
    exact ⟨_, rfl, h1, h2, h3⟩
  · go_enter Try.func62, Try.ntmps62
    go_wp2_with fail
    refine (take_nil _ _).mono ?_; rintro e w1 ⟨rfl, rfl⟩
    go_wp2_with fail
    refine (own_nil _).mono ?_; rintro e w2 ⟨u, rfl, h1, h2, h3⟩
    go_wp2
    go_ret
    exact ⟨_, rfl, h1, h2, h3⟩
theorem rblock_nil (w : World) (n : Int) : Calls Try.prog 63 #[.pointer none, .int .i64 n] w fun e w' => e = .returned (.slice none 0 0) ∧ w' = w := by
  go_enter Try.func63, Try.ntmps63
  go_wp2_with fail
  refine (reads_nil _).mono ?_; rintro e w' ⟨rfl, rfl⟩
  go_wp2
  go_ret
  exact ⟨rfl, rfl⟩
theorem done_nil (w : World) : Calls Try.prog 31 #[.pointer none] w fun e w' => e = .returned (.int .i64 1) ∧ w' = w := by
  go_enter Try.func31, Try.ntmps31
  go_wp2_with fail
  refine (reads_nil _).mono ?_; rintro e w' ⟨rfl, rfl⟩
  go_wp2_with fail
  refine (rerr_nil _).mono ?_; rintro e w' ⟨rfl, rfl⟩
  go_wp2
  go_ret
  exact ⟨rfl, rfl⟩

set_option maxHeartbeats 2000000 in
theorem took_nil (w : World) (kind n : Int) : Calls Try.prog 22 #[.pointer none, .int .i64 kind, .int .i64 n] w fun e w' => ∃ u, e = .returned (.agg #[.int .i64 kind, .int .u64 0, .int .i64 0, .bool false, u]) ∧ Rd w' u [] ∧ Kp Nu w w' := by
  have BX := fun (w1 : World) (kind : Int) => boxes (w := w) (w1 := w1) (S := Nu) (kind := kind) (fun k e => e.elim)

  by_cases h1 : kind = 1
  · subst h1
    go_enter Try.func22, Try.ntmps22
    go_wp2_with fail
    refine (ru8_nil _).mono ?_; rintro e w1 ⟨rfl, rfl⟩
    obtain ⟨hbox, hres, hkw⟩ := BX _ 1 (Kp.refl Nu _)
    obtain ⟨b0, b1, b2, b3, b4⟩ := cell5 hbox
    obtain ⟨r0, r1, r2, r3, r4⟩ := cell5 hres
    have f1 := free3 hbox 1
    have g0 := free3 hres 0
    have g1 := free3 hres 1
    have g2 := free3 hres 2
    have g3 := free3 hres 3
    have g4 := free3 hres 4
    clear BX hbox hres
    generalize (w.alloc (.cells #[.int .i64 0, .int .u64 0, .int .i64 0, .bool false, .slice none 0 0] 40)).alloc (.cells #[.int .i64 1, .int .u64 0, .int .i64 0, .bool false, .slice none 0 0] 40) = w1 at *
    go_wp2
    refine bodyPost_ret (v := .agg #[.int .i64 1, .int .u64 0, .int .i64 0, .bool false, .slice none 0 0]) (by simp [results, Try.results22, go_sem, *]) rfl ⟨_, rfl, rd_nil _, ?_⟩
    repeat (refine Kp.andSetS ?_ _ _ (by simp))
    exact hkw
  by_cases h2 : kind = 2
  · subst h2
    go_enter Try.func22, Try.ntmps22
    go_wp2_with fail
    refine (ru16_nil _).mono ?_; rintro e w1 ⟨rfl, rfl⟩
    obtain ⟨hbox, hres, hkw⟩ := BX _ 2 (Kp.refl Nu _)
    obtain ⟨b0, b1, b2, b3, b4⟩ := cell5 hbox
    obtain ⟨r0, r1, r2, r3, r4⟩ := cell5 hres
    have f1 := free3 hbox 1
    have g0 := free3 hres 0
    have g1 := free3 hres 1
    have g2 := free3 hres 2
    have g3 := free3 hres 3
    have g4 := free3 hres 4
    clear BX hbox hres
    generalize (w.alloc (.cells #[.int .i64 0, .int .u64 0, .int .i64 0, .bool false, .slice none 0 0] 40)).alloc (.cells #[.int .i64 2, .int .u64 0, .int .i64 0, .bool false, .slice none 0 0] 40) = w1 at *
    go_wp2
    refine bodyPost_ret (v := .agg #[.int .i64 2, .int .u64 0, .int .i64 0, .bool false, .slice none 0 0]) (by simp [results, Try.results22, go_sem, *]) rfl ⟨_, rfl, rd_nil _, ?_⟩
    repeat (refine Kp.andSetS ?_ _ _ (by simp))
    exact hkw
  by_cases h3 : kind = 3
  · subst h3
    go_enter Try.func22, Try.ntmps22
    go_wp2_with fail
    refine (ru32_nil _).mono ?_; rintro e w1 ⟨rfl, rfl⟩
    obtain ⟨hbox, hres, hkw⟩ := BX _ 3 (Kp.refl Nu _)
    obtain ⟨b0, b1, b2, b3, b4⟩ := cell5 hbox
    obtain ⟨r0, r1, r2, r3, r4⟩ := cell5 hres
    have f1 := free3 hbox 1
    have g0 := free3 hres 0
    have g1 := free3 hres 1
    have g2 := free3 hres 2
    have g3 := free3 hres 3
    have g4 := free3 hres 4
    clear BX hbox hres
    generalize (w.alloc (.cells #[.int .i64 0, .int .u64 0, .int .i64 0, .bool false, .slice none 0 0] 40)).alloc (.cells #[.int .i64 3, .int .u64 0, .int .i64 0, .bool false, .slice none 0 0] 40) = w1 at *
    go_wp2
    refine bodyPost_ret (v := .agg #[.int .i64 3, .int .u64 0, .int .i64 0, .bool false, .slice none 0 0]) (by simp [results, Try.results22, go_sem, *]) rfl ⟨_, rfl, rd_nil _, ?_⟩
    repeat (refine Kp.andSetS ?_ _ _ (by simp))
    exact hkw
  by_cases h4 : kind = 4
  · subst h4
    go_enter Try.func22, Try.ntmps22
    go_wp2_with fail
    refine (ru64_nil _).mono ?_; rintro e w1 ⟨rfl, rfl⟩
    obtain ⟨hbox, hres, hkw⟩ := BX _ 4 (Kp.refl Nu _)
    obtain ⟨b0, b1, b2, b3, b4⟩ := cell5 hbox
    obtain ⟨r0, r1, r2, r3, r4⟩ := cell5 hres
    have f1 := free3 hbox 1
    have g0 := free3 hres 0
    have g1 := free3 hres 1
    have g2 := free3 hres 2
    have g3 := free3 hres 3
    have g4 := free3 hres 4
    clear BX hbox hres
    generalize (w.alloc (.cells #[.int .i64 0, .int .u64 0, .int .i64 0, .bool false, .slice none 0 0] 40)).alloc (.cells #[.int .i64 4, .int .u64 0, .int .i64 0, .bool false, .slice none 0 0] 40) = w1 at *
    go_wp2
    refine bodyPost_ret (v := .agg #[.int .i64 4, .int .u64 0, .int .i64 0, .bool false, .slice none 0 0]) (by simp [results, Try.results22, go_sem, *]) rfl ⟨_, rfl, rd_nil _, ?_⟩
    repeat (refine Kp.andSetS ?_ _ _ (by simp))
    exact hkw
  by_cases h5 : kind = 5
  · subst h5
    go_enter Try.func22, Try.ntmps22
    go_wp2_with fail
    refine (rvarint_nil _).mono ?_; rintro e w1 ⟨rfl, rfl⟩
    obtain ⟨hbox, hres, hkw⟩ := BX _ 5 (Kp.refl Nu _)
    obtain ⟨b0, b1, b2, b3, b4⟩ := cell5 hbox
    obtain ⟨r0, r1, r2, r3, r4⟩ := cell5 hres
    have f1 := free3 hbox 1
    have g0 := free3 hres 0
    have g1 := free3 hres 1
    have g2 := free3 hres 2
    have g3 := free3 hres 3
    have g4 := free3 hres 4
    clear BX hbox hres
    generalize (w.alloc (.cells #[.int .i64 0, .int .u64 0, .int .i64 0, .bool false, .slice none 0 0] 40)).alloc (.cells #[.int .i64 5, .int .u64 0, .int .i64 0, .bool false, .slice none 0 0] 40) = w1 at *
    go_wp2
    refine bodyPost_ret (v := .agg #[.int .i64 5, .int .u64 0, .int .i64 0, .bool false, .slice none 0 0]) (by simp [results, Try.results22, go_sem, *]) rfl ⟨_, rfl, rd_nil _, ?_⟩
    repeat (refine Kp.andSetS ?_ _ _ (by simp))
    exact hkw
  by_cases h6 : kind = 6
  · subst h6
    go_enter Try.func22, Try.ntmps22
    go_wp2_with fail
    refine (rsigned_nil _).mono ?_; rintro e w1 ⟨rfl, rfl⟩
    obtain ⟨hbox, hres, hkw⟩ := BX _ 6 (Kp.refl Nu _)
    obtain ⟨b0, b1, b2, b3, b4⟩ := cell5 hbox
    obtain ⟨r0, r1, r2, r3, r4⟩ := cell5 hres
    have f1 := free3 hbox 2
    have g0 := free3 hres 0
    have g1 := free3 hres 1
    have g2 := free3 hres 2
    have g3 := free3 hres 3
    have g4 := free3 hres 4
    clear BX hbox hres
    generalize (w.alloc (.cells #[.int .i64 0, .int .u64 0, .int .i64 0, .bool false, .slice none 0 0] 40)).alloc (.cells #[.int .i64 6, .int .u64 0, .int .i64 0, .bool false, .slice none 0 0] 40) = w1 at *
    go_wp2
    refine bodyPost_ret (v := .agg #[.int .i64 6, .int .u64 0, .int .i64 0, .bool false, .slice none 0 0]) (by simp [results, Try.results22, go_sem, *]) rfl ⟨_, rfl, rd_nil _, ?_⟩
    repeat (refine Kp.andSetS ?_ _ _ (by simp))
    exact hkw
  by_cases h7 : kind = 7
  · subst h7
    go_enter Try.func22, Try.ntmps22
    go_wp2_with fail
    refine (rflag_nil _).mono ?_; rintro e w1 ⟨rfl, rfl⟩
    obtain ⟨hbox, hres, hkw⟩ := BX _ 7 (Kp.refl Nu _)
    obtain ⟨b0, b1, b2, b3, b4⟩ := cell5 hbox
    obtain ⟨r0, r1, r2, r3, r4⟩ := cell5 hres
    have f1 := free3 hbox 3
    have g0 := free3 hres 0
    have g1 := free3 hres 1
    have g2 := free3 hres 2
    have g3 := free3 hres 3
    have g4 := free3 hres 4
    clear BX hbox hres
    generalize (w.alloc (.cells #[.int .i64 0, .int .u64 0, .int .i64 0, .bool false, .slice none 0 0] 40)).alloc (.cells #[.int .i64 7, .int .u64 0, .int .i64 0, .bool false, .slice none 0 0] 40) = w1 at *
    go_wp2
    refine bodyPost_ret (v := .agg #[.int .i64 7, .int .u64 0, .int .i64 0, .bool false, .slice none 0 0]) (by simp [results, Try.results22, go_sem, *]) rfl ⟨_, rfl, rd_nil _, ?_⟩
    repeat (refine Kp.andSetS ?_ _ _ (by simp))
    exact hkw
  by_cases h8 : kind = 8
  · subst h8
    go_enter Try.func22, Try.ntmps22
    go_wp2_with fail
    refine (rraw_nil _ _).mono ?_; rintro e w1 ⟨u, rfl, hu, hfr, hk⟩
    have hfu : ∀ G, at? u = some G → w.heap.size + 2 ≤ G := by
      intro G hG
      rcases hfr with e | ⟨G', hG', e⟩
      · rw [e] at hG; cases hG
      · rw [e] at hG; cases hG; simpa using hG'
    obtain ⟨ad', cap', hu'⟩ := hu.slice
    rw [List.length_nil] at hu'
    subst hu'
    have HFU := hide hfu
    clear hfr hfu
    obtain ⟨hbox, hres, hkw⟩ := BX _ _ hk
    obtain ⟨b0, b1, b2, b3, b4⟩ := cell5 hbox
    obtain ⟨r0, r1, r2, r3, r4⟩ := cell5 hres
    have f1 := free3 hbox 4
    have g0 := free3 hres 0
    have g1 := free3 hres 1
    have g2 := free3 hres 2
    have g3 := free3 hres 3
    have g4 := free3 hres 4
    clear BX hbox hres hk
    go_wp2
    refine bodyPost_ret (v := .agg #[.int .i64 8, .int .u64 0, .int .i64 0, .bool false, .slice ad' 0 cap']) (by simp [results, Try.results22, go_sem, *]) rfl ⟨_, rfl, ?_, ?_⟩
    · have hfu := HFU.out
      repeat (refine Rd.andSet ?_ _ _ (fun e => by have := hfu _ e; simp only at this; omega))
      exact hu
    · repeat (refine Kp.andSetS ?_ _ _ (by simp))
      exact hkw
  by_cases h9 : kind = 9
  · subst h9
    go_enter Try.func22, Try.ntmps22
    go_wp2_with fail
    refine (rblock_nil _ _).mono ?_; rintro e w1 ⟨rfl, rfl⟩
    obtain ⟨hbox, hres, hkw⟩ := BX _ 9 (Kp.refl Nu _)
    obtain ⟨b0, b1, b2, b3, b4⟩ := cell5 hbox
    obtain ⟨r0, r1, r2, r3, r4⟩ := cell5 hres
    have f1 := free3 hbox 4
    have g0 := free3 hres 0
    have g1 := free3 hres 1
    have g2 := free3 hres 2
    have g3 := free3 hres 3
    have g4 := free3 hres 4
    clear BX hbox hres
    generalize (w.alloc (.cells #[.int .i64 0, .int .u64 0, .int .i64 0, .bool false, .slice none 0 0] 40)).alloc (.cells #[.int .i64 9, .int .u64 0, .int .i64 0, .bool false, .slice none 0 0] 40) = w1 at *
    go_wp2
    refine bodyPost_ret (v := .agg #[.int .i64 9, .int .u64 0, .int .i64 0, .bool false, .slice none 0 0]) (by simp [results, Try.results22, go_sem, *]) rfl ⟨_, rfl, rd_nil _, ?_⟩
    repeat (refine Kp.andSetS ?_ _ _ (by simp))
    exact hkw
  clear BX
  go_enter Try.func22, Try.ntmps22
  go_wp2
  refine bodyPost_ret (v := .agg #[.int .i64 kind, .int .u64 0, .int .i64 0, .bool false, .slice none 0 0]) (by simp [results, Try.results22, go_sem]) rfl ⟨_, rfl, rd_nil _, ?_⟩
  exact ((Kp.refl Nu w).andAlloc _).andAlloc _
end Go.Proofs.Ytgaehpdlljlliaa.Cd
