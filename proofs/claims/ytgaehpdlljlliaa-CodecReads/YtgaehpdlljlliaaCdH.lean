import Derived.Test.YtgaehpdlljlliaaCdG
namespace Go.Proofs.Ytgaehpdlljlliaa.Cd
open Go.RowKit
set_option linter.unusedVariables false

theorem numF_bound (xs : List Int) (h : Byt xs) : ∀ (a : Int) (n : Nat), 0 ≤ a → a < 256 ^ n → 0 ≤ numF a xs ∧ numF a xs < 256 ^ (n + xs.length) := by
  induction xs with
  | nil => intro a n h0 h1; exact ⟨h0, by simpa [numF] using h1⟩
  | cons c r ih =>
    intro a n h0 h1
    obtain ⟨c0, c1⟩ := h c (by simp)
    have := ih (fun z hz => h z (by simp [hz])) (a * 256 + c) (n + 1) (by omega) (by rw [Int.pow_succ]; omega)
    rw [List.length_cons, show n + (r.length + 1) = n + 1 + r.length by omega]
    exact this
theorem numF_lt {xs : List Int} (h : Byt xs) : 0 ≤ numF 0 xs ∧ numF 0 xs < 256 ^ xs.length := by
  have := numF_bound xs h 0 0 (by omega) (by simp)
  simpa using this

/-- what a read of n bytes gives: number, error, the rest -/
def rdN (n : Nat) (err : Int) (xs : List Int) : Int × Int × List Int :=
  if err = 0 then (if xs.length < n then (0, 21, xs) else (numF 0 (xs.take n), 0, xs.drop n)) else (0, err, xs)

/-- what a reading call leaves -/
def Reads (f b g : Nat) (w : World) (val : Value) (err : Int) (xs : List Int) : Prop :=
  Calls Try.prog f #[.pointer (some ⟨b, 0, none⟩)] w fun e w' => e = .returned val ∧ (∃ v', Rr w' b g err v' xs) ∧ Kp (iS b) w w'

section
variable {w : World} {b g : Nat} {err : Int} {v : Value} {xs : List Int}

theorem ru8_any (h : Rr w b g err v xs) (hB : Byt xs) : Reads 55 b g w (.int .u8 (rdN 1 err xs).1) (rdN 1 err xs).2.1 (rdN 1 err xs).2.2 := by
  show Calls _ _ _ _ _
  by_cases he : err = 0
  · subst he
    by_cases hl : xs.length < 1
    · have T := take_short h 1 (by omega)
      have N := fun w => getNumber_any w (.slice none 0 0) [] (.inl ⟨rfl, rfl⟩) (by intro z hz; simp at hz) (by simp)
      rw [show numF 0 [] = 0 from rfl] at N
      rw [show rdN 1 0 xs = (0, 21, xs) by simp [rdN, hl]]
      clear hl hB
      go_enter Try.func55, Try.ntmps55
      go_wp2_with fail
      refine T.mono ?_; rintro e w' ⟨rfl, hr, hk⟩
      go_wp2_with fail
      refine (N _).mono ?_; rintro e w' ⟨rfl, rfl⟩
      go_wp2
      go_ret
      exact ⟨rfl, ⟨_, hr⟩, hk⟩
    · have T := take_ok h 1 (by omega)
      have N := fun w u (hu : Rd w u (xs.take 1)) => getNumber_any w u (xs.take 1) hu (hB.take 1) (by rw [List.length_take]; omega)
      have hv : 0 ≤ numF 0 (xs.take 1) ∧ numF 0 (xs.take 1) < 256 := by
        have := numF_lt (hB.take 1)
        rw [List.length_take, Nat.min_eq_left (by omega)] at this
        simpa using this
      rw [show rdN 1 0 xs = (numF 0 (xs.take 1), 0, xs.drop 1) by simp [rdN, hl]]
      obtain ⟨hv0, hv1⟩ := hv
      generalize numF 0 (xs.take 1) = z at *
      generalize xs.drop 1 = ys at *
      generalize xs.take 1 = zs at *
      clear hl hB
      go_enter Try.func55, Try.ntmps55
      go_wp2_with fail
      refine T.mono ?_; rintro e w' ⟨u, rfl, hu, hr, hk⟩
      go_wp2_with fail
      refine (N _ u hu.rd).mono ?_; rintro e w' ⟨rfl, rfl⟩
      go_wp2
      go_ret
      exact ⟨rfl, hr, hk⟩
  · have T := take_err h (by simpa using he) 1
    have N := fun w => getNumber_any w (.slice none 0 0) [] (.inl ⟨rfl, rfl⟩) (by intro z hz; simp at hz) (by simp)
    rw [show numF 0 [] = 0 from rfl] at N
    rw [show rdN 1 err xs = (0, err, xs) by simp [rdN, he]]
    clear hB
    go_enter Try.func55, Try.ntmps55
    go_wp2_with fail
    refine T.mono ?_; rintro e w' ⟨rfl, rfl⟩
    go_wp2_with fail
    refine (N _).mono ?_; rintro e w' ⟨rfl, rfl⟩
    go_wp2
    go_ret
    exact ⟨rfl, ⟨_, h⟩, Kp.refl _ _⟩

theorem ru16_any (h : Rr w b g err v xs) (hB : Byt xs) : Reads 56 b g w (.int .u16 (rdN 2 err xs).1) (rdN 2 err xs).2.1 (rdN 2 err xs).2.2 := by
  show Calls _ _ _ _ _
  by_cases he : err = 0
  · subst he
    by_cases hl : xs.length < 2
    · have T := take_short h 2 (by omega)
      have N := fun w => getNumber_any w (.slice none 0 0) [] (.inl ⟨rfl, rfl⟩) (by intro z hz; simp at hz) (by simp)
      rw [show numF 0 [] = 0 from rfl] at N
      rw [show rdN 2 0 xs = (0, 21, xs) by simp [rdN, hl]]
      clear hl hB
      go_enter Try.func56, Try.ntmps56
      go_wp2_with fail
      refine T.mono ?_; rintro e w' ⟨rfl, hr, hk⟩
      go_wp2_with fail
      refine (N _).mono ?_; rintro e w' ⟨rfl, rfl⟩
      go_wp2
      go_ret
      exact ⟨rfl, ⟨_, hr⟩, hk⟩
    · have T := take_ok h 2 (by omega)
      have N := fun w u (hu : Rd w u (xs.take 2)) => getNumber_any w u (xs.take 2) hu (hB.take 2) (by rw [List.length_take]; omega)
      have hv : 0 ≤ numF 0 (xs.take 2) ∧ numF 0 (xs.take 2) < 65536 := by
        have := numF_lt (hB.take 2)
        rw [List.length_take, Nat.min_eq_left (by omega)] at this
        simpa using this
      rw [show rdN 2 0 xs = (numF 0 (xs.take 2), 0, xs.drop 2) by simp [rdN, hl]]
      obtain ⟨hv0, hv1⟩ := hv
      generalize numF 0 (xs.take 2) = z at *
      generalize xs.drop 2 = ys at *
      generalize xs.take 2 = zs at *
      clear hl hB
      go_enter Try.func56, Try.ntmps56
      go_wp2_with fail
      refine T.mono ?_; rintro e w' ⟨u, rfl, hu, hr, hk⟩
      go_wp2_with fail
      refine (N _ u hu.rd).mono ?_; rintro e w' ⟨rfl, rfl⟩
      go_wp2
      go_ret
      exact ⟨rfl, hr, hk⟩
  · have T := take_err h (by simpa using he) 2
    have N := fun w => getNumber_any w (.slice none 0 0) [] (.inl ⟨rfl, rfl⟩) (by intro z hz; simp at hz) (by simp)
    rw [show numF 0 [] = 0 from rfl] at N
    rw [show rdN 2 err xs = (0, err, xs) by simp [rdN, he]]
    clear hB
    go_enter Try.func56, Try.ntmps56
    go_wp2_with fail
    refine T.mono ?_; rintro e w' ⟨rfl, rfl⟩
    go_wp2_with fail
    refine (N _).mono ?_; rintro e w' ⟨rfl, rfl⟩
    go_wp2
    go_ret
    exact ⟨rfl, ⟨_, h⟩, Kp.refl _ _⟩

theorem ru32_any (h : Rr w b g err v xs) (hB : Byt xs) : Reads 57 b g w (.int .u32 (rdN 4 err xs).1) (rdN 4 err xs).2.1 (rdN 4 err xs).2.2 := by
  show Calls _ _ _ _ _
  by_cases he : err = 0
  · subst he
    by_cases hl : xs.length < 4
    · have T := take_short h 4 (by omega)
      have N := fun w => getNumber_any w (.slice none 0 0) [] (.inl ⟨rfl, rfl⟩) (by intro z hz; simp at hz) (by simp)
      rw [show numF 0 [] = 0 from rfl] at N
      rw [show rdN 4 0 xs = (0, 21, xs) by simp [rdN, hl]]
      clear hl hB
      go_enter Try.func57, Try.ntmps57
      go_wp2_with fail
      refine T.mono ?_; rintro e w' ⟨rfl, hr, hk⟩
      go_wp2_with fail
      refine (N _).mono ?_; rintro e w' ⟨rfl, rfl⟩
      go_wp2
      go_ret
      exact ⟨rfl, ⟨_, hr⟩, hk⟩
    · have T := take_ok h 4 (by omega)
      have N := fun w u (hu : Rd w u (xs.take 4)) => getNumber_any w u (xs.take 4) hu (hB.take 4) (by rw [List.length_take]; omega)
      have hv : 0 ≤ numF 0 (xs.take 4) ∧ numF 0 (xs.take 4) < 4294967296 := by
        have := numF_lt (hB.take 4)
        rw [List.length_take, Nat.min_eq_left (by omega)] at this
        simpa using this
      rw [show rdN 4 0 xs = (numF 0 (xs.take 4), 0, xs.drop 4) by simp [rdN, hl]]
      obtain ⟨hv0, hv1⟩ := hv
      generalize numF 0 (xs.take 4) = z at *
      generalize xs.drop 4 = ys at *
      generalize xs.take 4 = zs at *
      clear hl hB
      go_enter Try.func57, Try.ntmps57
      go_wp2_with fail
      refine T.mono ?_; rintro e w' ⟨u, rfl, hu, hr, hk⟩
      go_wp2_with fail
      refine (N _ u hu.rd).mono ?_; rintro e w' ⟨rfl, rfl⟩
      go_wp2
      go_ret
      exact ⟨rfl, hr, hk⟩
  · have T := take_err h (by simpa using he) 4
    have N := fun w => getNumber_any w (.slice none 0 0) [] (.inl ⟨rfl, rfl⟩) (by intro z hz; simp at hz) (by simp)
    rw [show numF 0 [] = 0 from rfl] at N
    rw [show rdN 4 err xs = (0, err, xs) by simp [rdN, he]]
    clear hB
    go_enter Try.func57, Try.ntmps57
    go_wp2_with fail
    refine T.mono ?_; rintro e w' ⟨rfl, rfl⟩
    go_wp2_with fail
    refine (N _).mono ?_; rintro e w' ⟨rfl, rfl⟩
    go_wp2
    go_ret
    exact ⟨rfl, ⟨_, h⟩, Kp.refl _ _⟩

theorem ru64_any (h : Rr w b g err v xs) (hB : Byt xs) : Reads 58 b g w (.int .u64 (rdN 8 err xs).1) (rdN 8 err xs).2.1 (rdN 8 err xs).2.2 := by
  show Calls _ _ _ _ _
  by_cases he : err = 0
  · subst he
    by_cases hl : xs.length < 8
    · have T := take_short h 8 (by omega)
      have N := fun w => getNumber_any w (.slice none 0 0) [] (.inl ⟨rfl, rfl⟩) (by intro z hz; simp at hz) (by simp)
      rw [show numF 0 [] = 0 from rfl] at N
      rw [show rdN 8 0 xs = (0, 21, xs) by simp [rdN, hl]]
      clear hl hB
      go_enter Try.func58, Try.ntmps58
      go_wp2_with fail
      refine T.mono ?_; rintro e w' ⟨rfl, hr, hk⟩
      go_wp2_with fail
      refine (N _).mono ?_; rintro e w' ⟨rfl, rfl⟩
      go_wp2
      go_ret
      exact ⟨rfl, ⟨_, hr⟩, hk⟩
    · have T := take_ok h 8 (by omega)
      have N := fun w u (hu : Rd w u (xs.take 8)) => getNumber_any w u (xs.take 8) hu (hB.take 8) (by rw [List.length_take]; omega)
      have hv : 0 ≤ numF 0 (xs.take 8) ∧ numF 0 (xs.take 8) < 18446744073709551616 := by
        have := numF_lt (hB.take 8)
        rw [List.length_take, Nat.min_eq_left (by omega)] at this
        simpa using this
      rw [show rdN 8 0 xs = (numF 0 (xs.take 8), 0, xs.drop 8) by simp [rdN, hl]]
      obtain ⟨hv0, hv1⟩ := hv
      generalize numF 0 (xs.take 8) = z at *
      generalize xs.drop 8 = ys at *
      generalize xs.take 8 = zs at *
      clear hl hB
      go_enter Try.func58, Try.ntmps58
      go_wp2_with fail
      refine T.mono ?_; rintro e w' ⟨u, rfl, hu, hr, hk⟩
      go_wp2_with fail
      refine (N _ u hu.rd).mono ?_; rintro e w' ⟨rfl, rfl⟩
      go_wp2
      go_ret
      exact ⟨rfl, hr, hk⟩
  · have T := take_err h (by simpa using he) 8
    have N := fun w => getNumber_any w (.slice none 0 0) [] (.inl ⟨rfl, rfl⟩) (by intro z hz; simp at hz) (by simp)
    rw [show numF 0 [] = 0 from rfl] at N
    rw [show rdN 8 err xs = (0, err, xs) by simp [rdN, he]]
    clear hB
    go_enter Try.func58, Try.ntmps58
    go_wp2_with fail
    refine T.mono ?_; rintro e w' ⟨rfl, rfl⟩
    go_wp2_with fail
    refine (N _).mono ?_; rintro e w' ⟨rfl, rfl⟩
    go_wp2
    go_ret
    exact ⟨rfl, ⟨_, h⟩, Kp.refl _ _⟩

theorem gv_len (xs : List Int) : ∀ (i : Nat) (x : Int), (gv i x xs).2.2 = 0 → 0 ≤ (gv i x xs).2.1 ∧ (gv i x xs).2.1 ≤ (i : Int) + (xs.length : Int) := by
  induction xs with
  | nil => intro i x h; simp [gv] at h
  | cons c r ih =>
    intro i x h
    rw [gv] at h ⊢
    split at h
    · simp at h
    · rename_i h1
      rw [if_neg h1]
      split at h
      · rename_i h2
        rw [if_pos h2]
        have := ih _ _ h
        rw [List.length_cons]
        omega
      · rename_i h2
        rw [if_neg h2]
        split at h
        · simp at h
        · rename_i h3
          rw [if_neg h3, List.length_cons]
          simp only
          omega
theorem gv_bad (xs : List Int) : ∀ (i : Nat) (x : Int), (gv i x xs).2.2 ≠ 0 → gv i x xs = (0, 0, (gv i x xs).2.2) := by
  induction xs with
  | nil => intro i x h; rfl
  | cons c r ih =>
    intro i x h
    rw [gv] at h ⊢
    split
    · rfl
    · split
      · rename_i h1 h2
        rw [if_neg h1, if_pos h2] at h
        exact ih _ _ h
      · split
        · rfl
        · rename_i h1 h2 h3
          rw [if_neg h1, if_neg h2, if_neg h3] at h
          simp at h

/-- what Varint gives -/
def rdV (err : Int) (xs : List Int) : Int × Int × List Int :=
  if err = 0 then (if (gv 0 0 xs).2.2 = 0 then ((gv 0 0 xs).1, 0, xs.drop (gv 0 0 xs).2.1.toNat) else (0, (gv 0 0 xs).2.2, xs)) else (0, err, xs)

set_option maxHeartbeats 400000 in
theorem rvarint_any (h : Rr w b g err v xs) (hB : Byt xs) : Reads 59 b g w (.int .u64 (rdV err xs).1) (rdV err xs).2.1 (rdV err xs).2.2 := by
  obtain ⟨c0, c1⟩ := cell2 h.blk
  have R := reads_any h
  show Calls _ _ _ _ _
  by_cases he : err = 0
  · subst he
    have G := getVarint_any w v xs g h.win hB
    by_cases hg : (gv 0 0 xs).2.2 = 0
    · have hl := gv_len xs 0 0 hg
      have F := fail_any h 0
      rw [show failed 0 0 = 0 from rfl] at F
      rw [show rdV 0 xs = ((gv 0 0 xs).1, 0, xs.drop (gv 0 0 xs).2.1.toNat) by simp [rdV, hg]]
      generalize (gv 0 0 xs).1 = x at *
      obtain ⟨k, hk⟩ : ∃ k : Nat, (gv 0 0 xs).2.1 = (k : Int) := ⟨(gv 0 0 xs).2.1.toNat, by omega⟩
      rw [hk] at hl G ⊢
      rw [hg] at G
      rw [Int.toNat_natCast]
      have T := fun w v (hr : Rr w b g 0 v xs) => take_ok hr k (by omega)
      clear hg hk hl hB
      go_enter Try.func59, Try.ntmps59
      go_wp2_with fail
      refine R.mono ?_; rintro e w' ⟨rfl, rfl⟩
      go_wp2_with fail
      refine G.mono ?_; rintro e w' ⟨rfl, rfl⟩
      go_wp2_with fail
      refine F.mono ?_; rintro e w1 ⟨rfl, hr1, hk1⟩
      go_wp2_with fail
      refine (T _ _ hr1).mono ?_; rintro e w2 ⟨u, rfl, hu, hr2, hk2⟩
      go_wp2
      go_ret
      exact ⟨rfl, hr2, hk1.trans hk2 (fun _ _ e => e)⟩
    · have hbad := gv_bad xs 0 0 hg
      have hg' : ((gv 0 0 xs).2.2 == 0) = false := by simpa using hg
      have F := fail_any h (gv 0 0 xs).2.2
      rw [show failed 0 (gv 0 0 xs).2.2 = (gv 0 0 xs).2.2 from rfl] at F
      rw [show rdV 0 xs = (0, (gv 0 0 xs).2.2, xs) by simp [rdV, hg]]
      rw [hbad] at G
      generalize (gv 0 0 xs).2.2 = q at *
      simp only at G
      have T := fun w v (hr : Rr w b g q v xs) => take_err hr hg' 0
      clear hg hB hbad
      go_enter Try.func59, Try.ntmps59
      go_wp2_with fail
      refine R.mono ?_; rintro e w' ⟨rfl, rfl⟩
      go_wp2_with fail
      refine G.mono ?_; rintro e w' ⟨rfl, rfl⟩
      go_wp2_with fail
      refine F.mono ?_; rintro e w1 ⟨rfl, hr1, hk1⟩
      go_wp2_with fail
      refine (T _ _ hr1).mono ?_; rintro e w2 ⟨rfl, rfl⟩
      go_wp2
      go_ret
      exact ⟨rfl, ⟨_, hr1⟩, hk1⟩
  · have h0 : (err == 0) = false := by simpa using he
    rw [show rdV err xs = (0, err, xs) by simp [rdV, he]]
    clear hB
    go_enter Try.func59, Try.ntmps59
    go_wp2_with fail
    refine R.mono ?_; rintro e w' ⟨rfl, rfl⟩
    go_wp2
    go_ret
    exact ⟨rfl, ⟨_, h⟩, Kp.refl _ _⟩
end
end Go.Proofs.Ytgaehpdlljlliaa.Cd
