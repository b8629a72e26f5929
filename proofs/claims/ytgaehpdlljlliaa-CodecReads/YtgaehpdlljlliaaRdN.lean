import Derived.Test.YtgaehpdlljlliaaRdM
namespace Go.Proofs.Ytgaehpdlljlliaa.Cd
open Go.RowKit
set_option linter.unusedVariables false
variable {W w w' : World} {pb : Nat}

/-- neither reader is there -/
structure Rnn (W w : World) (pb : Nat) : Prop where
  rg : Rg w pb false (.slice none 0 0) [] 0 0
  kp : Kp Nu W w
  hp : W.heap.size ≤ pb
theorem Rnn.keeps (h : Rnn W w pb) (k : Kp Nu w w') : Rnn W w' pb := ⟨h.rg.keeps k (fun h => h) (fun _ _ h => h), h.kp.trans k (fun _ _ h => h), h.hp⟩

theorem non_take (h : Rnn W w pb) (kind n : Int) :
    Calls Try.prog 22 #[.pointer none, .int .i64 kind, .int .i64 n] w fun e w1 => ∃ ad cap, e = .returned (.agg #[.int .i64 kind, .int .u64 0, .int .i64 0, .bool false, .slice ad 0 cap]) ∧ Kp Nu w w1 ∧
      Calls Try.prog 54 #[.pointer (some ⟨pb, 0, none⟩), .int .i64 kind, .int .i64 n] w1 fun e w2 => e = .returned (.agg #[.int .i64 0, .int .u64 0, .int .i64 0, .bool false, .slice none 0 0]) ∧ Kp Nu w1 w2 ∧
        Calls Try.prog 53 #[.agg #[.int .i64 kind, .int .u64 0, .int .i64 0, .bool false, .slice ad 0 cap], .agg #[.int .i64 0, .int .u64 0, .int .i64 0, .bool false, .slice none 0 0]] w2 fun e w3 => e = .returned (.bool true) ∧ Kp Nu w2 w3 ∧ Rnn W w3 pb := by
  refine (took_nil w kind n).mono ?_
  rintro e w1 ⟨u, rfl, hu, k1⟩
  obtain ⟨ad, cap, hu2⟩ := hu.slice
  rw [List.length_nil] at hu2
  have h1 := h.keeps k1
  refine ⟨ad, cap, by rw [hu2], k1, ?_⟩
  refine (gTake_off h1.rg (.inl rfl) kind n).mono ?_
  rintro e w2 ⟨rfl, k2⟩
  refine ⟨rfl, k2, ?_⟩
  rw [← hu2]
  refine (alike_any kind 0 0 0 false (hu.keeps k2 (fun _ _ h => h)) (rd_nil w2) (by simp)).mono ?_
  rintro e w3 ⟨rfl, k3⟩
  exact ⟨rfl, k3, (h1.keeps k2).keeps k3⟩

set_option maxHeartbeats 1000000 in
theorem reads_non (h : Rnn W w pb) (kind N I : Int) (F : Bool) (ad : Option Addr) (L cap : Nat) :
    Calls Try.prog 21 #[.pointer none, .pointer (some ⟨pb, 0, none⟩), .agg #[.int .i64 kind, .int .u64 N, .int .i64 I, .bool F, .slice ad L cap]] w fun e w' => e = .returned (.bool true) ∧ Rnn W w' pb := by
  have HA := h.keeps (Kp.alloc w (.cells #[.int .i64 kind, .int .u64 N, .int .i64 I, .bool F, .slice ad L cap] 38) Nu)
  have KA := Kp.alloc w (.cells #[.int .i64 kind, .int .u64 N, .int .i64 I, .bool F, .slice ad L cap] 38) Nu
  by_cases h10 : kind = 10
  · subst h10
    have L2 := gleft_any HA.rg
    rw [show (([] : List Int).length : Int) - 0 = 0 from rfl] at L2
    clear KA h
    go_enter Try.func21, Try.ntmps21
    go_wp2_with fail
    refine (left_nil _).mono ?_; rintro e w1 ⟨rfl, rfl⟩
    go_wp2_with fail
    refine L2.mono ?_; rintro e w1 ⟨rfl, k⟩
    go_wp2
    go_ret
    exact ⟨rfl, HA.keeps k⟩
  by_cases h11 : kind = 11
  · subst h11
    have E2 := gerror_any HA.rg
    rw [show errG false 0 = 1 from rfl] at E2
    have nm := fun w => num_any 1 w
    clear KA h
    go_enter Try.func21, Try.ntmps21
    go_wp2_with fail
    refine (rerr_nil _).mono ?_; rintro e w1 ⟨rfl, rfl⟩
    go_wp2_with fail
    refine (nm _).mono ?_; rintro e w1 ⟨rfl, rfl⟩
    go_wp2_with fail
    refine E2.mono ?_; rintro e w1 ⟨rfl, rfl⟩
    go_wp2
    go_ret
    exact ⟨rfl, HA⟩
  by_cases h12 : kind = 12
  · subst h12
    have E2 := gdone_any HA.rg
    rw [show errG false 0 = 1 from rfl, if_neg (by decide)] at E2
    have nm := fun w => num_any 1 w
    clear KA h
    go_enter Try.func21, Try.ntmps21
    go_wp2_with fail
    refine (done_nil _).mono ?_; rintro e w1 ⟨rfl, rfl⟩
    go_wp2_with fail
    refine (nm _).mono ?_; rintro e w1 ⟨rfl, rfl⟩
    go_wp2_with fail
    refine E2.mono ?_; rintro e w1 ⟨rfl, k⟩
    go_wp2
    go_ret
    exact ⟨rfl, HA.keeps k⟩
  by_cases h13 : kind = 13
  · subst h13
    have F2 := gfail_any HA.rg (wrap64 N)
    rw [show failG false 0 (wrap64 N) = 0 from rfl] at F2
    have hkp := HA.kp
    have hp := HA.hp
    have HP := hide hp
    clear KA h HA hp
    go_enter Try.func21, Try.ntmps21
    go_wp2_with fail
    refine (fail_nil _ _).mono ?_; rintro e w1 ⟨rfl, rfl⟩
    go_wp2_with fail
    refine F2.mono ?_; rintro e w1 ⟨rfl, HH, k⟩
    go_wp2
    go_ret
    exact ⟨rfl, HH, hkp.trans k (fun i hi e => by have : i = pb := e; have := HP.out; omega), HP.out⟩
  have IT := fun w => isThing_any kind w
  by_cases hT : isT kind = true
  · rw [hT] at IT
    have T : Calls Try.prog 22 #[.pointer none, .int .i64 kind, .int .i64 (wrap64 N)] (w.alloc (.cells #[.int .i64 kind, .int .u64 N, .int .i64 I, .bool F, .slice ad L cap] 38)).drew fun e w1 => ∃ ad1 cap1, e = .returned (.agg #[.int .i64 kind, .int .u64 0, .int .i64 0, .bool false, .slice ad1 0 cap1]) ∧ w1.cell? ⟨w.heap.size, 0, none⟩ = some (.int .i64 kind) ∧
      Calls Try.prog 54 #[.pointer (some ⟨pb, 0, none⟩), .int .i64 kind, .int .i64 (wrap64 N)] w1 fun e w2 => e = .returned (.agg #[.int .i64 0, .int .u64 0, .int .i64 0, .bool false, .slice none 0 0]) ∧ w2.cell? ⟨w.heap.size, 0, none⟩ = some (.int .i64 kind) ∧
        Calls Try.prog 53 #[.agg #[.int .i64 kind, .int .u64 0, .int .i64 0, .bool false, .slice ad1 0 cap1], .agg #[.int .i64 0, .int .u64 0, .int .i64 0, .bool false, .slice none 0 0]] w2 fun e w3 => e = .returned (.bool true) ∧ w3.cell? ⟨w.heap.size, 0, none⟩ = some (.int .i64 kind) ∧ Rnn W w3 pb := by
      refine (non_take (h.keeps KA.drew) kind (wrap64 N)).mono ?_
      rintro e w1 ⟨ad1, cap1, rfl, k1, T2⟩
      have x1 := (k1.block w.heap.size (by simp) (fun h => h)).trans (heap_alloc_new w (.cells #[.int .i64 kind, .int .u64 N, .int .i64 I, .bool F, .slice ad L cap] 38))
      refine ⟨ad1, cap1, rfl, (cell5 x1).1, ?_⟩
      refine T2.mono ?_
      rintro e w2 ⟨rfl, k2, T3⟩
      have x2 := (k2.block w.heap.size (block_lt x1) (fun h => h)).trans x1
      refine ⟨rfl, (cell5 x2).1, ?_⟩
      refine T3.mono ?_
      rintro e w3 ⟨rfl, k3, hf⟩
      have x3 := (k3.block w.heap.size (block_lt x2) (fun h => h)).trans x2
      exact ⟨rfl, (cell5 x3).1, hf⟩
    clear KA h HA hT
    go_enter Try.func21, Try.ntmps21
    go_wp2_with fail
    refine (IT _).mono ?_; rintro e w1 ⟨rfl, rfl⟩
    go_wp2_with fail
    go_region_held (fun w' => w'.cell? ⟨w.heap.size, 0, none⟩ = some (.int .i64 kind)) (go_keep)
      (first
      | (go_at_call 22; refine T.mono ?_; rintro e w1 ⟨ad1, cap1, rfl, c1, T2⟩)
      | (go_at_call 54; refine T2.mono ?_; rintro e w2 ⟨rfl, c2, T3⟩)
      | (go_at_call 53; refine T3.mono ?_; rintro e w3 ⟨rfl, c3, hf⟩))
    all_goals go_wp2
    all_goals go_ret
    all_goals exact ⟨rfl, hf⟩
  · have hT' : isT kind = false := by simpa using hT
    rw [hT'] at IT
    clear KA h hT
    go_enter Try.func21, Try.ntmps21
    go_wp2_with fail
    refine (IT _).mono ?_; rintro e w1 ⟨rfl, rfl⟩
    go_wp2
    go_ret
    exact ⟨rfl, HA⟩
end Go.Proofs.Ytgaehpdlljlliaa.Cd
