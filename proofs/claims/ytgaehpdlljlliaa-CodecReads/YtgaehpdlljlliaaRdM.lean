import Derived.Test.YtgaehpdlljlliaaRdL
namespace Go.Proofs.Ytgaehpdlljlliaa.Cd
open Go.RowKit
set_option linter.unusedVariables false
variable {W w w' : World} {b g pb : Nat} {d : Value} {D : List Int} {A : Nat} {err : Int}

theorem wrap_le (N : Int) : wrap64 N ≤ 9223372036854775807 := by
  have := wrap64_wf N
  have h2 : (-9223372036854775808 : Int) ≤ wrap64 N ∧ wrap64 N ≤ 9223372036854775807 := by simpa [Lit.wf, IntKind.min, IntKind.max, IntKind.signed, IntKind.bits] using this
  exact h2.2

set_option maxHeartbeats 1000000 in
/-- one step of both -/
theorem reads_two (h : Rtw W w b g pb d D A err) (kind N I : Int) (F : Bool) (ad : Option Addr) (L cap : Nat) :
    Calls Try.prog 21 #[.pointer (some ⟨b, 0, none⟩), .pointer (some ⟨pb, 0, none⟩), .agg #[.int .i64 kind, .int .u64 N, .int .i64 I, .bool F, .slice ad L cap]] w fun e w' => e = .returned (.bool true) ∧ ∃ A' err', Rtw W w' b g pb d D A' err' := by
  have HA := h.keeps (Kp.alloc w (.cells #[.int .i64 kind, .int .u64 N, .int .i64 I, .bool F, .slice ad L cap] 38) Nu)
  have KA := Kp.alloc w (.cells #[.int .i64 kind, .int .u64 N, .int .i64 I, .bool F, .slice ad L cap] 38) Nu
  by_cases h10 : kind = 10
  · subst h10
    obtain ⟨v, hr⟩ := HA.rr
    have L1 := left_any hr
    have L2 := gleft_any HA.rg
    rw [List.length_drop] at L1
    have hA := h.rg.a1
    have e : ((D.length - A : Nat) : Int) = (D.length : Int) - (A : Int) := by omega
    rw [e] at L1
    generalize (D.length : Int) - (A : Int) = z at *
    have hz : (z == z) = true := by simp
    clear hA hr KA h
    go_enter Try.func21, Try.ntmps21
    go_wp2_with fail
    refine L1.mono ?_; rintro e w1 ⟨rfl, rfl⟩
    go_wp2_with fail
    refine L2.mono ?_; rintro e w1 ⟨rfl, k⟩
    go_wp2
    go_ret
    exact ⟨rfl, A, err, HA.keeps k⟩
  by_cases h11 : kind = 11
  · subst h11
    obtain ⟨v, hr⟩ := HA.rr
    have E1 := rerr_any hr
    have E2 := gerror_any HA.rg
    rw [show errG true err = err from rfl] at E2
    have nm := fun w => num_any err w
    have hz : (err == err) = true := by simp
    clear hr KA h
    go_enter Try.func21, Try.ntmps21
    go_wp2_with fail
    refine E1.mono ?_; rintro e w1 ⟨rfl, rfl⟩
    go_wp2_with fail
    refine (nm _).mono ?_; rintro e w1 ⟨rfl, rfl⟩
    go_wp2_with fail
    refine E2.mono ?_; rintro e w1 ⟨rfl, rfl⟩
    go_wp2
    go_ret
    exact ⟨rfl, A, err, HA⟩
  by_cases h12 : kind = 12
  · subst h12
    obtain ⟨v, hr⟩ := HA.rr
    have E1 := done_any hr
    have E2 := gdone_any HA.rg
    rw [show errG true err = err from rfl] at E2
    have hA := h.rg.a1
    have e : (if err = 0 then (if (D.drop A).length = 0 then (0 : Int) else 26) else err) = (if err = 0 then (if (A : Int) < (D.length : Int) then 26 else 0) else err) := by
      rw [List.length_drop]
      by_cases he : err = 0
      · rw [if_pos he, if_pos he]
        by_cases hl : (A : Int) < (D.length : Int)
        · rw [if_pos hl, if_neg (by omega)]
        · rw [if_neg hl, if_pos (by omega)]
      · rw [if_neg he, if_neg he]
    rw [e] at E1
    generalize (if err = 0 then (if (A : Int) < (D.length : Int) then (26 : Int) else 0) else err) = z at *
    have nm := fun w => num_any z w
    have hz : (z == z) = true := by simp
    clear hr KA h hA e
    go_enter Try.func21, Try.ntmps21
    go_wp2_with fail
    refine E1.mono ?_; rintro e w1 ⟨rfl, rfl⟩
    go_wp2_with fail
    refine (nm _).mono ?_; rintro e w1 ⟨rfl, rfl⟩
    go_wp2_with fail
    refine E2.mono ?_; rintro e w1 ⟨rfl, k⟩
    go_wp2
    go_ret
    exact ⟨rfl, A, err, HA.keeps k⟩
  by_cases h13 : kind = 13
  · subst h13
    have F1 := two_fail HA (wrap64 N)
    clear KA h HA
    go_enter Try.func21, Try.ntmps21
    go_wp2_with fail
    refine F1.mono ?_; rintro e w1 ⟨rfl, F2⟩
    go_wp2_with fail
    refine F2.mono ?_; rintro e w1 ⟨rfl, HH⟩
    go_wp2
    go_ret
    exact ⟨rfl, A, _, HH⟩
  have IT := fun w => isThing_any kind w
  by_cases hT : isT kind = true
  · rw [hT] at IT
    have hbl := h.lt
    have T : Calls Try.prog 22 #[.pointer (some ⟨b, 0, none⟩), .int .i64 kind, .int .i64 (wrap64 N)] (w.alloc (.cells #[.int .i64 kind, .int .u64 N, .int .i64 I, .bool F, .slice ad L cap] 38)).drew fun e w1 => ∃ tN tI tF ad1 L1 cap1, e = .returned (.agg #[.int .i64 kind, .int .u64 tN, .int .i64 tI, .bool tF, .slice ad1 L1 cap1]) ∧ w1.cell? ⟨w.heap.size, 0, none⟩ = some (.int .i64 kind) ∧
      Calls Try.prog 54 #[.pointer (some ⟨pb, 0, none⟩), .int .i64 kind, .int .i64 (wrap64 N)] w1 fun e w2 => ∃ kd ad2 L2 cap2, e = .returned (.agg #[.int .i64 kd, .int .u64 tN, .int .i64 tI, .bool tF, .slice ad2 L2 cap2]) ∧ w2.cell? ⟨w.heap.size, 0, none⟩ = some (.int .i64 kind) ∧
        Calls Try.prog 53 #[.agg #[.int .i64 kind, .int .u64 tN, .int .i64 tI, .bool tF, .slice ad1 L1 cap1], .agg #[.int .i64 kd, .int .u64 tN, .int .i64 tI, .bool tF, .slice ad2 L2 cap2]] w2 fun e w3 => e = .returned (.bool true) ∧ w3.cell? ⟨w.heap.size, 0, none⟩ = some (.int .i64 kind) ∧ ∃ A' err', Rtw W w3 b g pb d D A' err' := by
      refine (two_take (h.keeps KA.drew) kind (wrap64 N) hT (wrap_le N)).mono ?_
      rintro e w1 ⟨tN, tI, tF, ad1, L1, cap1, rfl, k1, T2⟩
      have x1 := (k1.block w.heap.size (by simp) (fun e => by have : w.heap.size = b := e; omega)).trans (heap_alloc_new w (.cells #[.int .i64 kind, .int .u64 N, .int .i64 I, .bool F, .slice ad L cap] 38))
      refine ⟨tN, tI, tF, ad1, L1, cap1, rfl, (cell5 x1).1, ?_⟩
      refine T2.mono ?_
      rintro e w2 ⟨kd, ad2, L2, cap2, rfl, k2, T3⟩
      have x2 := (k2.block w.heap.size (block_lt x1) (fun e => by have : w.heap.size = pb := e; omega)).trans x1
      refine ⟨kd, ad2, L2, cap2, rfl, (cell5 x2).1, ?_⟩
      refine T3.mono ?_
      rintro e w3 ⟨rfl, k3, hf⟩
      have x3 := (k3.block w.heap.size (block_lt x2) (fun h => h)).trans x2
      exact ⟨rfl, (cell5 x3).1, hf⟩
    clear KA h HA hT
    go_enter Try.func21, Try.ntmps21
    go_wp2_with fail
    refine (IT _).mono ?_; rintro e w1 ⟨rfl, rfl⟩
    go_wp2_with fail
    go_region_held (fun w' => w'.cell? ⟨w.heap.size, 0, none⟩ = some (.int .i64 kind)) (go_keep)
      (first
      | (go_at_call 22; refine T.mono ?_; rintro e w1 ⟨tN, tI, tF, ad1, L1, cap1, rfl, c1, T2⟩)
      | (go_at_call 54; refine T2.mono ?_; rintro e w2 ⟨kd, ad2, L2, cap2, rfl, c2, T3⟩)
      | (go_at_call 53; refine T3.mono ?_; rintro e w3 ⟨rfl, c3, hf⟩))
    all_goals go_wp2
    all_goals go_ret
    all_goals exact ⟨rfl, hf⟩
  · have hT' : isT kind = false := by simpa using hT
    rw [hT'] at IT
    clear KA h hT
    go_enter Try.func21, Try.ntmps21
    go_wp2_with fail
    refine (IT _).mono ?_; rintro e w1 ⟨rfl, rfl⟩
    go_wp2
    go_ret
    exact ⟨rfl, A, err, HA⟩
end Go.Proofs.Ytgaehpdlljlliaa.Cd
