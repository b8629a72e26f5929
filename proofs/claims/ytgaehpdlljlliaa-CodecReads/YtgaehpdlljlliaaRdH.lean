import Derived.Test.YtgaehpdlljlliaaRdG
namespace Go.Proofs.Ytgaehpdlljlliaa.Cd
open Go.RowKit
set_option linter.unusedVariables false

/-- what is known of the reader's bytes -/
structure Src (w : World) (u : Value) (D : List Int) (A : Nat) : Prop where
  rd : Rd w u D
  cap : Cap u D
  byt : Byt D
  len : D.length ≤ 16777216
  at_ : A ≤ D.length

theorem bx (w : World) (kind : Int) {w1 : World} (hk : Kp Nu ((w.alloc (.cells #[.int .i64 0, .int .u64 0, .int .i64 0, .bool false, .slice none 0 0] 40)).alloc (.cells #[.int .i64 kind, .int .u64 0, .int .i64 0, .bool false, .slice none 0 0] 40)) w1) :
    w1.heap[w.heap.size + 1]? = some (.cells #[.int .i64 kind, .int .u64 0, .int .i64 0, .bool false, .slice none 0 0] 40 (0, 0)) ∧
    w1.heap[w.heap.size]? = some (.cells #[.int .i64 0, .int .u64 0, .int .i64 0, .bool false, .slice none 0 0] 40 (0, 0)) ∧ Kp Nu w w1 :=
  boxes (fun k e => e.elim) hk

set_option maxHeartbeats 1000000 in
theorem gtake1 {w : World} {u : Value} {D : List Int} {A : Nat} (h : Src w u D A) (n : Int) : Calls Try.prog 73 #[u, .int .i64 (A : Int), .int .i64 1, .int .i64 n] w (Ans D A (tk 1 n 0 (D.drop A)) w) := by
  have hA := h.at_
  have hl := h.len
  have ht : tk 1 n 0 (D.drop A) = tkN (rdN 1 0 (D.drop A)) := by simp [tk]
  rw [ht]
  clear ht
  have WI := fun w => width_any 1 w
  rw [show wid 1 = 1 from rfl] at WI
  by_cases hs : D.length - A < 1
  · rw [show tkN (rdN 1 0 (D.drop A)) = ⟨0, 0, false, [], 21, D.drop A⟩ by simp only [rdN, if_true, tkN]; rw [if_pos (by rw [List.length_drop]; exact hs)]]
    have F := fun w' (k : Kp Nu w w') => ans_bad (q := 21) hA k
    obtain ⟨ad, cap, hu⟩ := h.rd.slice
    subst hu
    have hsI : (D.length : Int) - (A : Int) < 1 := by omega
    have hlI : (D.length : Int) ≤ 16777216 := by omega
    have hAI : (A : Int) ≤ (D.length : Int) := by omega
    clear h hs
    generalize D.length = L at *
    go_enter Try.func73, Try.ntmps73
    go_wp2_with fail
    refine (WI _).mono ?_; rintro e w1 ⟨rfl, rfl⟩
    obtain ⟨hbox, hres, hkw⟩ := bx w 1 (Kp.refl Nu _)
    obtain ⟨b0, b1, b2, b3, b4⟩ := cell5 hbox
    obtain ⟨r0, r1, r2, r3, r4⟩ := cell5 hres
    have g0 := free3 hres 0
    have g1 := free3 hres 1
    have g2 := free3 hres 2
    have g3 := free3 hres 3
    have g4 := free3 hres 4
    clear hbox hres WI
    generalize (w.alloc (.cells #[.int .i64 0, .int .u64 0, .int .i64 0, .bool false, .slice none 0 0] 40)).alloc (.cells #[.int .i64 1, .int .u64 0, .int .i64 0, .bool false, .slice none 0 0] 40) = w1 at *
    go_wp2
    refine bodyPost_ret (v := .tuple #[.agg #[.int .i64 0, .int .u64 0, .int .i64 0, .bool false, .slice none 0 0], .int .i64 0, .int .i64 21]) (by simp [results, Try.results73, go_sem, *]) rfl (F _ ?_)
    repeat (refine Kp.andSetS ?_ _ _ (by simp))
    exact hkw
  · have hW : A + 1 ≤ D.length := by omega
    rw [show tkN (rdN 1 0 (D.drop A)) = ⟨numF 0 ((D.drop A).take 1), 0, false, [], 0, D.drop (A + 1)⟩ by simp only [rdN, if_true, tkN]; rw [if_neg (by rw [List.length_drop]; exact hs), List.drop_drop]]
    have FR := fun w' (k : Kp Nu w w') => from_any (h.rd.keeps k (fun _ _ h => h)) h.byt hl A 1 hW (by omega)
    have hz := numF_lt ((h.byt.drop A).take 1)
    rw [List.length_take, List.length_drop, Nat.min_eq_left (by omega)] at hz
    have HF : Hid (A + 1 ≤ D.length) := hW
    obtain ⟨z0, z1⟩ := hz
    have z2 : numF 0 ((D.drop A).take 1) < 18446744073709551616 := Int.lt_of_lt_of_le z1 (by decide)
    obtain ⟨ad, cap, hu⟩ := h.rd.slice
    subst hu
    have hsI : ¬ (D.length : Int) - (A : Int) < 1 := by omega
    have hlI : (D.length : Int) ≤ 16777216 := by omega
    have hAI : (A : Int) ≤ (D.length : Int) := by omega
    clear h hs z1 hW
    generalize numF 0 ((D.drop A).take 1) = z at *
    obtain ⟨L, hL⟩ : ∃ L, D.length = L := ⟨_, rfl⟩
    rw [hL] at FR hsI hlI hAI hl hA ⊢
    clear hL
    go_enter Try.func73, Try.ntmps73
    go_wp2_with fail
    refine (WI _).mono ?_; rintro e w1 ⟨rfl, rfl⟩
    obtain ⟨hbox, hres, hkw⟩ := bx w 1 (Kp.refl Nu _)
    obtain ⟨b0, b1, b2, b3, b4⟩ := cell5 hbox
    obtain ⟨r0, r1, r2, r3, r4⟩ := cell5 hres
    have f1 := free3 hbox 1
    have g0 := free3 hres 0
    have g1 := free3 hres 1
    have g2 := free3 hres 2
    have g3 := free3 hres 3
    have g4 := free3 hres 4
    clear hbox hres WI
    generalize (w.alloc (.cells #[.int .i64 0, .int .u64 0, .int .i64 0, .bool false, .slice none 0 0] 40)).alloc (.cells #[.int .i64 1, .int .u64 0, .int .i64 0, .bool false, .slice none 0 0] 40) = w1 at *
    go_wp2_with fail
    refine Calls.mono (FR _ hkw) ?_; rintro e w2 ⟨rfl, rfl⟩
    clear FR
    go_wp2
    refine bodyPost_ret (v := .tuple #[.agg #[.int .i64 1, .int .u64 z, .int .i64 0, .bool false, .slice none 0 0], .int .i64 1, .int .i64 0]) (by simp [results, Try.results73, go_sem, *]) rfl ⟨1, _, 1, rfl, rd_nil _, fresh_nil _, ?_, HF.out, rfl⟩
    repeat (refine Kp.andSetS ?_ _ _ (by simp))
    exact hkw

set_option maxHeartbeats 1000000 in
theorem gtake2 {w : World} {u : Value} {D : List Int} {A : Nat} (h : Src w u D A) (n : Int) : Calls Try.prog 73 #[u, .int .i64 (A : Int), .int .i64 2, .int .i64 n] w (Ans D A (tk 2 n 0 (D.drop A)) w) := by
  have hA := h.at_
  have hl := h.len
  have ht : tk 2 n 0 (D.drop A) = tkN (rdN 2 0 (D.drop A)) := by simp [tk]
  rw [ht]
  clear ht
  have WI := fun w => width_any 2 w
  rw [show wid 2 = 2 from rfl] at WI
  by_cases hs : D.length - A < 2
  · rw [show tkN (rdN 2 0 (D.drop A)) = ⟨0, 0, false, [], 21, D.drop A⟩ by simp only [rdN, if_true, tkN]; rw [if_pos (by rw [List.length_drop]; exact hs)]]
    have F := fun w' (k : Kp Nu w w') => ans_bad (q := 21) hA k
    obtain ⟨ad, cap, hu⟩ := h.rd.slice
    subst hu
    have hsI : (D.length : Int) - (A : Int) < 2 := by omega
    have hlI : (D.length : Int) ≤ 16777216 := by omega
    have hAI : (A : Int) ≤ (D.length : Int) := by omega
    clear h hs
    generalize D.length = L at *
    go_enter Try.func73, Try.ntmps73
    go_wp2_with fail
    refine (WI _).mono ?_; rintro e w1 ⟨rfl, rfl⟩
    obtain ⟨hbox, hres, hkw⟩ := bx w 2 (Kp.refl Nu _)
    obtain ⟨b0, b1, b2, b3, b4⟩ := cell5 hbox
    obtain ⟨r0, r1, r2, r3, r4⟩ := cell5 hres
    have g0 := free3 hres 0
    have g1 := free3 hres 1
    have g2 := free3 hres 2
    have g3 := free3 hres 3
    have g4 := free3 hres 4
    clear hbox hres WI
    generalize (w.alloc (.cells #[.int .i64 0, .int .u64 0, .int .i64 0, .bool false, .slice none 0 0] 40)).alloc (.cells #[.int .i64 2, .int .u64 0, .int .i64 0, .bool false, .slice none 0 0] 40) = w1 at *
    go_wp2
    refine bodyPost_ret (v := .tuple #[.agg #[.int .i64 0, .int .u64 0, .int .i64 0, .bool false, .slice none 0 0], .int .i64 0, .int .i64 21]) (by simp [results, Try.results73, go_sem, *]) rfl (F _ ?_)
    repeat (refine Kp.andSetS ?_ _ _ (by simp))
    exact hkw
  · have hW : A + 2 ≤ D.length := by omega
    rw [show tkN (rdN 2 0 (D.drop A)) = ⟨numF 0 ((D.drop A).take 2), 0, false, [], 0, D.drop (A + 2)⟩ by simp only [rdN, if_true, tkN]; rw [if_neg (by rw [List.length_drop]; exact hs), List.drop_drop]]
    have FR := fun w' (k : Kp Nu w w') => from_any (h.rd.keeps k (fun _ _ h => h)) h.byt hl A 2 hW (by omega)
    have hz := numF_lt ((h.byt.drop A).take 2)
    rw [List.length_take, List.length_drop, Nat.min_eq_left (by omega)] at hz
    have HF : Hid (A + 2 ≤ D.length) := hW
    obtain ⟨z0, z1⟩ := hz
    have z2 : numF 0 ((D.drop A).take 2) < 18446744073709551616 := Int.lt_of_lt_of_le z1 (by decide)
    obtain ⟨ad, cap, hu⟩ := h.rd.slice
    subst hu
    have hsI : ¬ (D.length : Int) - (A : Int) < 2 := by omega
    have hlI : (D.length : Int) ≤ 16777216 := by omega
    have hAI : (A : Int) ≤ (D.length : Int) := by omega
    clear h hs z1 hW
    generalize numF 0 ((D.drop A).take 2) = z at *
    obtain ⟨L, hL⟩ : ∃ L, D.length = L := ⟨_, rfl⟩
    rw [hL] at FR hsI hlI hAI hl hA ⊢
    clear hL
    go_enter Try.func73, Try.ntmps73
    go_wp2_with fail
    refine (WI _).mono ?_; rintro e w1 ⟨rfl, rfl⟩
    obtain ⟨hbox, hres, hkw⟩ := bx w 2 (Kp.refl Nu _)
    obtain ⟨b0, b1, b2, b3, b4⟩ := cell5 hbox
    obtain ⟨r0, r1, r2, r3, r4⟩ := cell5 hres
    have f1 := free3 hbox 1
    have g0 := free3 hres 0
    have g1 := free3 hres 1
    have g2 := free3 hres 2
    have g3 := free3 hres 3
    have g4 := free3 hres 4
    clear hbox hres WI
    generalize (w.alloc (.cells #[.int .i64 0, .int .u64 0, .int .i64 0, .bool false, .slice none 0 0] 40)).alloc (.cells #[.int .i64 2, .int .u64 0, .int .i64 0, .bool false, .slice none 0 0] 40) = w1 at *
    go_wp2_with fail
    refine Calls.mono (FR _ hkw) ?_; rintro e w2 ⟨rfl, rfl⟩
    clear FR
    go_wp2
    refine bodyPost_ret (v := .tuple #[.agg #[.int .i64 2, .int .u64 z, .int .i64 0, .bool false, .slice none 0 0], .int .i64 2, .int .i64 0]) (by simp [results, Try.results73, go_sem, *]) rfl ⟨2, _, 2, rfl, rd_nil _, fresh_nil _, ?_, HF.out, rfl⟩
    repeat (refine Kp.andSetS ?_ _ _ (by simp))
    exact hkw

set_option maxHeartbeats 1000000 in
theorem gtake3 {w : World} {u : Value} {D : List Int} {A : Nat} (h : Src w u D A) (n : Int) : Calls Try.prog 73 #[u, .int .i64 (A : Int), .int .i64 3, .int .i64 n] w (Ans D A (tk 3 n 0 (D.drop A)) w) := by
  have hA := h.at_
  have hl := h.len
  have ht : tk 3 n 0 (D.drop A) = tkN (rdN 4 0 (D.drop A)) := by simp [tk]
  rw [ht]
  clear ht
  have WI := fun w => width_any 3 w
  rw [show wid 3 = 4 from rfl] at WI
  by_cases hs : D.length - A < 4
  · rw [show tkN (rdN 4 0 (D.drop A)) = ⟨0, 0, false, [], 21, D.drop A⟩ by simp only [rdN, if_true, tkN]; rw [if_pos (by rw [List.length_drop]; exact hs)]]
    have F := fun w' (k : Kp Nu w w') => ans_bad (q := 21) hA k
    obtain ⟨ad, cap, hu⟩ := h.rd.slice
    subst hu
    have hsI : (D.length : Int) - (A : Int) < 4 := by omega
    have hlI : (D.length : Int) ≤ 16777216 := by omega
    have hAI : (A : Int) ≤ (D.length : Int) := by omega
    clear h hs
    generalize D.length = L at *
    go_enter Try.func73, Try.ntmps73
    go_wp2_with fail
    refine (WI _).mono ?_; rintro e w1 ⟨rfl, rfl⟩
    obtain ⟨hbox, hres, hkw⟩ := bx w 3 (Kp.refl Nu _)
    obtain ⟨b0, b1, b2, b3, b4⟩ := cell5 hbox
    obtain ⟨r0, r1, r2, r3, r4⟩ := cell5 hres
    have g0 := free3 hres 0
    have g1 := free3 hres 1
    have g2 := free3 hres 2
    have g3 := free3 hres 3
    have g4 := free3 hres 4
    clear hbox hres WI
    generalize (w.alloc (.cells #[.int .i64 0, .int .u64 0, .int .i64 0, .bool false, .slice none 0 0] 40)).alloc (.cells #[.int .i64 3, .int .u64 0, .int .i64 0, .bool false, .slice none 0 0] 40) = w1 at *
    go_wp2
    refine bodyPost_ret (v := .tuple #[.agg #[.int .i64 0, .int .u64 0, .int .i64 0, .bool false, .slice none 0 0], .int .i64 0, .int .i64 21]) (by simp [results, Try.results73, go_sem, *]) rfl (F _ ?_)
    repeat (refine Kp.andSetS ?_ _ _ (by simp))
    exact hkw
  · have hW : A + 4 ≤ D.length := by omega
    rw [show tkN (rdN 4 0 (D.drop A)) = ⟨numF 0 ((D.drop A).take 4), 0, false, [], 0, D.drop (A + 4)⟩ by simp only [rdN, if_true, tkN]; rw [if_neg (by rw [List.length_drop]; exact hs), List.drop_drop]]
    have FR := fun w' (k : Kp Nu w w') => from_any (h.rd.keeps k (fun _ _ h => h)) h.byt hl A 4 hW (by omega)
    have hz := numF_lt ((h.byt.drop A).take 4)
    rw [List.length_take, List.length_drop, Nat.min_eq_left (by omega)] at hz
    have HF : Hid (A + 4 ≤ D.length) := hW
    obtain ⟨z0, z1⟩ := hz
    have z2 : numF 0 ((D.drop A).take 4) < 18446744073709551616 := Int.lt_of_lt_of_le z1 (by decide)
    obtain ⟨ad, cap, hu⟩ := h.rd.slice
    subst hu
    have hsI : ¬ (D.length : Int) - (A : Int) < 4 := by omega
    have hlI : (D.length : Int) ≤ 16777216 := by omega
    have hAI : (A : Int) ≤ (D.length : Int) := by omega
    clear h hs z1 hW
    generalize numF 0 ((D.drop A).take 4) = z at *
    obtain ⟨L, hL⟩ : ∃ L, D.length = L := ⟨_, rfl⟩
    rw [hL] at FR hsI hlI hAI hl hA ⊢
    clear hL
    go_enter Try.func73, Try.ntmps73
    go_wp2_with fail
    refine (WI _).mono ?_; rintro e w1 ⟨rfl, rfl⟩
    obtain ⟨hbox, hres, hkw⟩ := bx w 3 (Kp.refl Nu _)
    obtain ⟨b0, b1, b2, b3, b4⟩ := cell5 hbox
    obtain ⟨r0, r1, r2, r3, r4⟩ := cell5 hres
    have f1 := free3 hbox 1
    have g0 := free3 hres 0
    have g1 := free3 hres 1
    have g2 := free3 hres 2
    have g3 := free3 hres 3
    have g4 := free3 hres 4
    clear hbox hres WI
    generalize (w.alloc (.cells #[.int .i64 0, .int .u64 0, .int .i64 0, .bool false, .slice none 0 0] 40)).alloc (.cells #[.int .i64 3, .int .u64 0, .int .i64 0, .bool false, .slice none 0 0] 40) = w1 at *
    go_wp2_with fail
    refine Calls.mono (FR _ hkw) ?_; rintro e w2 ⟨rfl, rfl⟩
    clear FR
    go_wp2
    refine bodyPost_ret (v := .tuple #[.agg #[.int .i64 3, .int .u64 z, .int .i64 0, .bool false, .slice none 0 0], .int .i64 4, .int .i64 0]) (by simp [results, Try.results73, go_sem, *]) rfl ⟨3, _, 4, rfl, rd_nil _, fresh_nil _, ?_, HF.out, rfl⟩
    repeat (refine Kp.andSetS ?_ _ _ (by simp))
    exact hkw

set_option maxHeartbeats 1000000 in
theorem gtake4 {w : World} {u : Value} {D : List Int} {A : Nat} (h : Src w u D A) (n : Int) : Calls Try.prog 73 #[u, .int .i64 (A : Int), .int .i64 4, .int .i64 n] w (Ans D A (tk 4 n 0 (D.drop A)) w) := by
  have hA := h.at_
  have hl := h.len
  have ht : tk 4 n 0 (D.drop A) = tkN (rdN 8 0 (D.drop A)) := by simp [tk]
  rw [ht]
  clear ht
  have WI := fun w => width_any 4 w
  rw [show wid 4 = 8 from rfl] at WI
  by_cases hs : D.length - A < 8
  · rw [show tkN (rdN 8 0 (D.drop A)) = ⟨0, 0, false, [], 21, D.drop A⟩ by simp only [rdN, if_true, tkN]; rw [if_pos (by rw [List.length_drop]; exact hs)]]
    have F := fun w' (k : Kp Nu w w') => ans_bad (q := 21) hA k
    obtain ⟨ad, cap, hu⟩ := h.rd.slice
    subst hu
    have hsI : (D.length : Int) - (A : Int) < 8 := by omega
    have hlI : (D.length : Int) ≤ 16777216 := by omega
    have hAI : (A : Int) ≤ (D.length : Int) := by omega
    clear h hs
    generalize D.length = L at *
    go_enter Try.func73, Try.ntmps73
    go_wp2_with fail
    refine (WI _).mono ?_; rintro e w1 ⟨rfl, rfl⟩
    obtain ⟨hbox, hres, hkw⟩ := bx w 4 (Kp.refl Nu _)
    obtain ⟨b0, b1, b2, b3, b4⟩ := cell5 hbox
    obtain ⟨r0, r1, r2, r3, r4⟩ := cell5 hres
    have g0 := free3 hres 0
    have g1 := free3 hres 1
    have g2 := free3 hres 2
    have g3 := free3 hres 3
    have g4 := free3 hres 4
    clear hbox hres WI
    generalize (w.alloc (.cells #[.int .i64 0, .int .u64 0, .int .i64 0, .bool false, .slice none 0 0] 40)).alloc (.cells #[.int .i64 4, .int .u64 0, .int .i64 0, .bool false, .slice none 0 0] 40) = w1 at *
    go_wp2
    refine bodyPost_ret (v := .tuple #[.agg #[.int .i64 0, .int .u64 0, .int .i64 0, .bool false, .slice none 0 0], .int .i64 0, .int .i64 21]) (by simp [results, Try.results73, go_sem, *]) rfl (F _ ?_)
    repeat (refine Kp.andSetS ?_ _ _ (by simp))
    exact hkw
  · have hW : A + 8 ≤ D.length := by omega
    rw [show tkN (rdN 8 0 (D.drop A)) = ⟨numF 0 ((D.drop A).take 8), 0, false, [], 0, D.drop (A + 8)⟩ by simp only [rdN, if_true, tkN]; rw [if_neg (by rw [List.length_drop]; exact hs), List.drop_drop]]
    have FR := fun w' (k : Kp Nu w w') => from_any (h.rd.keeps k (fun _ _ h => h)) h.byt hl A 8 hW (by omega)
    have hz := numF_lt ((h.byt.drop A).take 8)
    rw [List.length_take, List.length_drop, Nat.min_eq_left (by omega)] at hz
    have HF : Hid (A + 8 ≤ D.length) := hW
    obtain ⟨z0, z1⟩ := hz
    have z2 : numF 0 ((D.drop A).take 8) < 18446744073709551616 := Int.lt_of_lt_of_le z1 (by decide)
    obtain ⟨ad, cap, hu⟩ := h.rd.slice
    subst hu
    have hsI : ¬ (D.length : Int) - (A : Int) < 8 := by omega
    have hlI : (D.length : Int) ≤ 16777216 := by omega
    have hAI : (A : Int) ≤ (D.length : Int) := by omega
    clear h hs z1 hW
    generalize numF 0 ((D.drop A).take 8) = z at *
    obtain ⟨L, hL⟩ : ∃ L, D.length = L := ⟨_, rfl⟩
    rw [hL] at FR hsI hlI hAI hl hA ⊢
    clear hL
    go_enter Try.func73, Try.ntmps73
    go_wp2_with fail
    refine (WI _).mono ?_; rintro e w1 ⟨rfl, rfl⟩
    obtain ⟨hbox, hres, hkw⟩ := bx w 4 (Kp.refl Nu _)
    obtain ⟨b0, b1, b2, b3, b4⟩ := cell5 hbox
    obtain ⟨r0, r1, r2, r3, r4⟩ := cell5 hres
    have f1 := free3 hbox 1
    have g0 := free3 hres 0
    have g1 := free3 hres 1
    have g2 := free3 hres 2
    have g3 := free3 hres 3
    have g4 := free3 hres 4
    clear hbox hres WI
    generalize (w.alloc (.cells #[.int .i64 0, .int .u64 0, .int .i64 0, .bool false, .slice none 0 0] 40)).alloc (.cells #[.int .i64 4, .int .u64 0, .int .i64 0, .bool false, .slice none 0 0] 40) = w1 at *
    go_wp2_with fail
    refine Calls.mono (FR _ hkw) ?_; rintro e w2 ⟨rfl, rfl⟩
    clear FR
    go_wp2
    refine bodyPost_ret (v := .tuple #[.agg #[.int .i64 4, .int .u64 z, .int .i64 0, .bool false, .slice none 0 0], .int .i64 8, .int .i64 0]) (by simp [results, Try.results73, go_sem, *]) rfl ⟨4, _, 8, rfl, rd_nil _, fresh_nil _, ?_, HF.out, rfl⟩
    repeat (refine Kp.andSetS ?_ _ _ (by simp))
    exact hkw

set_option maxHeartbeats 1000000 in
theorem gtake5 {w : World} {u : Value} {D : List Int} {A : Nat} (h : Src w u D A) (n : Int) : Calls Try.prog 73 #[u, .int .i64 (A : Int), .int .i64 5, .int .i64 n] w (Ans D A (tk 5 n 0 (D.drop A)) w) := by
  have hA := h.at_
  have hl := h.len
  have G := fun w' (k : Kp Nu w w') => grouped_any (h.rd.keeps k (fun _ _ h => h)) h.byt hl A hA
  have K2 : ∀ (o1 o2 : Obj), Kp Nu w ((w.alloc o1).alloc o2) := fun o1 o2 => ((Kp.refl Nu w).andAlloc o1).andAlloc o2
  by_cases hg : (gv 0 0 (D.drop A)).2.2 = 0
  · rw [show tk 5 n 0 (D.drop A) = ⟨(gv 0 0 (D.drop A)).1, 0, false, [], 0, D.drop (A + (gv 0 0 (D.drop A)).2.1.toNat)⟩ by simp [tk, tkN, rdV, hg, List.drop_drop]]
    obtain ⟨x0, x1⟩ := gv_range (D.drop A) (h.byt.drop A) 0 0 (by omega) (by omega) (by simp)
    have hgl := gv_len (D.drop A) 0 0 hg
    obtain ⟨k, hk⟩ : ∃ k : Nat, (gv 0 0 (D.drop A)).2.1 = (k : Int) := ⟨(gv 0 0 (D.drop A)).2.1.toNat, by omega⟩
    rw [hk, List.length_drop] at hgl
    have HF : Hid (A + k ≤ D.length) := by
      show _ ≤ _
      omega
    rw [hg, hk] at G
    rw [hk, Int.toNat_natCast]
    generalize (gv 0 0 (D.drop A)).1 = x at *
    obtain ⟨ad, cap, hu⟩ := h.rd.slice
    subst hu
    have hlI : (D.length : Int) ≤ 16777216 := by omega
    have hAI : (A : Int) ≤ (D.length : Int) := by omega
    clear h hg hk hgl
    obtain ⟨L, hL⟩ : ∃ L, D.length = L := ⟨_, rfl⟩
    rw [hL] at G hlI hAI hl hA ⊢
    clear hL
    go_enter Try.func73, Try.ntmps73
    go_wp2_with fail
    refine Calls.mono (G _ (K2 _ _)) ?_; rintro e w1 ⟨rfl, hk1⟩
    obtain ⟨hbox, hres, hkw⟩ := bx w 5 hk1
    obtain ⟨b0, b1, b2, b3, b4⟩ := cell5 hbox
    obtain ⟨r0, r1, r2, r3, r4⟩ := cell5 hres
    have f1 := free3 hbox 1
    have g0 := free3 hres 0
    have g1 := free3 hres 1
    have g2 := free3 hres 2
    have g3 := free3 hres 3
    have g4 := free3 hres 4
    clear hbox hres G K2 hk1
    go_wp2
    refine bodyPost_ret (v := .tuple #[.agg #[.int .i64 5, .int .u64 x, .int .i64 0, .bool false, .slice none 0 0], .int .i64 (k : Int), .int .i64 0]) (by simp [results, Try.results73, go_sem, *]) rfl ⟨5, _, k, rfl, rd_nil _, fresh_nil _, ?_, HF.out, rfl⟩
    repeat (refine Kp.andSetS ?_ _ _ (by simp))
    exact hkw
  · have hbad := gv_bad (D.drop A) 0 0 hg
    rw [show tk 5 n 0 (D.drop A) = ⟨0, 0, false, [], (gv 0 0 (D.drop A)).2.2, D.drop A⟩ by simp [tk, tkN, rdV, hg]]
    have F := fun w' (k : Kp Nu w w') => ans_bad (q := (gv 0 0 (D.drop A)).2.2) hA k
    rw [hbad] at G
    have hg' : ((gv 0 0 (D.drop A)).2.2 != 0) = true := by simpa using hg
    generalize (gv 0 0 (D.drop A)).2.2 = q at *
    simp only at G
    obtain ⟨ad, cap, hu⟩ := h.rd.slice
    subst hu
    have hlI : (D.length : Int) ≤ 16777216 := by omega
    have hAI : (A : Int) ≤ (D.length : Int) := by omega
    clear h hg hbad
    obtain ⟨L, hL⟩ : ∃ L, D.length = L := ⟨_, rfl⟩
    rw [hL] at G hlI hAI hl hA ⊢
    clear hL
    go_enter Try.func73, Try.ntmps73
    go_wp2_with fail
    refine Calls.mono (G _ (K2 _ _)) ?_; rintro e w1 ⟨rfl, hk1⟩
    obtain ⟨hbox, hres, hkw⟩ := bx w 5 hk1
    obtain ⟨b0, b1, b2, b3, b4⟩ := cell5 hbox
    obtain ⟨r0, r1, r2, r3, r4⟩ := cell5 hres
    have g0 := free3 hres 0
    have g1 := free3 hres 1
    have g2 := free3 hres 2
    have g3 := free3 hres 3
    have g4 := free3 hres 4
    clear hbox hres G K2 hk1
    go_wp2
    refine bodyPost_ret (v := .tuple #[.agg #[.int .i64 0, .int .u64 0, .int .i64 0, .bool false, .slice none 0 0], .int .i64 0, .int .i64 q]) (by simp [results, Try.results73, go_sem, *]) rfl (F _ ?_)
    repeat (refine Kp.andSetS ?_ _ _ (by simp))
    exact hkw

set_option maxHeartbeats 1000000 in
theorem gtake6 {w : World} {u : Value} {D : List Int} {A : Nat} (h : Src w u D A) (n : Int) : Calls Try.prog 73 #[u, .int .i64 (A : Int), .int .i64 6, .int .i64 n] w (Ans D A (tk 6 n 0 (D.drop A)) w) := by
  have hA := h.at_
  have hl := h.len
  have G := fun w' (k : Kp Nu w w') => grouped_any (h.rd.keeps k (fun _ _ h => h)) h.byt hl A hA
  have K2 : ∀ (o1 o2 : Obj), Kp Nu w ((w.alloc o1).alloc o2) := fun o1 o2 => ((Kp.refl Nu w).andAlloc o1).andAlloc o2
  by_cases hg : (gv 0 0 (D.drop A)).2.2 = 0
  · rw [show tk 6 n 0 (D.drop A) = ⟨0, uz (gv 0 0 (D.drop A)).1, false, [], 0, D.drop (A + (gv 0 0 (D.drop A)).2.1.toNat)⟩ by simp [tk, rdV, hg, List.drop_drop]]
    obtain ⟨x0, x1⟩ := gv_range (D.drop A) (h.byt.drop A) 0 0 (by omega) (by omega) (by simp)
    have hgl := gv_len (D.drop A) 0 0 hg
    obtain ⟨k, hk⟩ : ∃ k : Nat, (gv 0 0 (D.drop A)).2.1 = (k : Int) := ⟨(gv 0 0 (D.drop A)).2.1.toNat, by omega⟩
    rw [hk, List.length_drop] at hgl
    have HF : Hid (A + k ≤ D.length) := by
      show _ ≤ _
      omega
    rw [hg, hk] at G
    rw [hk, Int.toNat_natCast]
    generalize (gv 0 0 (D.drop A)).1 = x at *
    obtain ⟨ad, cap, hu⟩ := h.rd.slice
    subst hu
    have hlI : (D.length : Int) ≤ 16777216 := by omega
    have hAI : (A : Int) ≤ (D.length : Int) := by omega
    clear h hg hk hgl
    obtain ⟨L, hL⟩ : ∃ L, D.length = L := ⟨_, rfl⟩
    rw [hL] at G hlI hAI hl hA ⊢
    clear hL
    go_enter Try.func73, Try.ntmps73
    go_wp2_with fail
    refine Calls.mono (G _ (K2 _ _)) ?_; rintro e w1 ⟨rfl, hk1⟩
    obtain ⟨hbox, hres, hkw⟩ := bx w 6 hk1
    obtain ⟨b0, b1, b2, b3, b4⟩ := cell5 hbox
    obtain ⟨r0, r1, r2, r3, r4⟩ := cell5 hres
    have f1 := free3 hbox 2
    have g0 := free3 hres 0
    have g1 := free3 hres 1
    have g2 := free3 hres 2
    have g3 := free3 hres 3
    have g4 := free3 hres 4
    clear hbox hres G K2 hk1
    go_wp2_with fail
    refine (unfold_any x x0 x1 _).mono ?_; rintro e w2 ⟨rfl, rfl⟩
    go_wp2
    refine bodyPost_ret (v := .tuple #[.agg #[.int .i64 6, .int .u64 0, .int .i64 (uz x), .bool false, .slice none 0 0], .int .i64 (k : Int), .int .i64 0]) (by simp [results, Try.results73, go_sem, *]) rfl ⟨6, _, k, rfl, rd_nil _, fresh_nil _, ?_, HF.out, rfl⟩
    repeat (refine Kp.andSetS ?_ _ _ (by simp))
    exact hkw
  · have hbad := gv_bad (D.drop A) 0 0 hg
    rw [show tk 6 n 0 (D.drop A) = ⟨0, 0, false, [], (gv 0 0 (D.drop A)).2.2, D.drop A⟩ by simp [tk, rdV, hg, uz]]
    have F := fun w' (k : Kp Nu w w') => ans_bad (q := (gv 0 0 (D.drop A)).2.2) hA k
    rw [hbad] at G
    have hg' : ((gv 0 0 (D.drop A)).2.2 != 0) = true := by simpa using hg
    generalize (gv 0 0 (D.drop A)).2.2 = q at *
    simp only at G
    obtain ⟨ad, cap, hu⟩ := h.rd.slice
    subst hu
    have hlI : (D.length : Int) ≤ 16777216 := by omega
    have hAI : (A : Int) ≤ (D.length : Int) := by omega
    clear h hg hbad
    obtain ⟨L, hL⟩ : ∃ L, D.length = L := ⟨_, rfl⟩
    rw [hL] at G hlI hAI hl hA ⊢
    clear hL
    go_enter Try.func73, Try.ntmps73
    go_wp2_with fail
    refine Calls.mono (G _ (K2 _ _)) ?_; rintro e w1 ⟨rfl, hk1⟩
    obtain ⟨hbox, hres, hkw⟩ := bx w 6 hk1
    obtain ⟨b0, b1, b2, b3, b4⟩ := cell5 hbox
    obtain ⟨r0, r1, r2, r3, r4⟩ := cell5 hres
    have g0 := free3 hres 0
    have g1 := free3 hres 1
    have g2 := free3 hres 2
    have g3 := free3 hres 3
    have g4 := free3 hres 4
    clear hbox hres G K2 hk1
    go_wp2
    refine bodyPost_ret (v := .tuple #[.agg #[.int .i64 0, .int .u64 0, .int .i64 0, .bool false, .slice none 0 0], .int .i64 0, .int .i64 q]) (by simp [results, Try.results73, go_sem, *]) rfl (F _ ?_)
    repeat (refine Kp.andSetS ?_ _ _ (by simp))
    exact hkw

end Go.Proofs.Ytgaehpdlljlliaa.Cd
