import Derived.Test.YtgaehpdlljlliaaCwG
import Derived.Test.YtgaehpdlljlliaaCrJ
namespace Go.Proofs.Ytgaehpdlljlliaa.Cd
open Go.RowKit
set_option linter.unusedVariables false

/-- the document's reader at block b: its bytes, where it stands, its error -/
structure Rg (w : World) (b : Nat) (there : Bool) (d : Value) (D : List Int) (A err : Int) : Prop where
  blk : w.heap[b]? = some (.cells #[.bool there, d, .int .i64 A, .int .i64 err] 52 (0, 0))
  rd : Rd w d D
  ne : at? d ≠ some b
  a0 : 0 ≤ A
  a1 : A ≤ (D.length : Int)
  len : D.length ≤ 16777216

section
variable {w : World} {b : Nat} {there : Bool} {d : Value} {D : List Int} {A err : Int}
theorem Rg.lt (h : Rg w b there d D A err) : b < w.heap.size := block_lt h.blk
theorem Rg.keeps {S : Nat → Prop} {w' : World} (h : Rg w b there d D A err) (k : Kp S w w') (hb : ¬ S b) (hd : ∀ g, at? d = some g → ¬ S g) : Rg w' b there d D A err :=
  ⟨(k.block b h.lt hb).trans h.blk, h.rd.keeps k hd, h.ne, h.a0, h.a1, h.len⟩

theorem gerror_any (h : Rg w b there d D A err) : Calls Try.prog 49 #[.pointer (some ⟨b, 0, none⟩)] w fun e w' => e = .returned (.int .i64 (errG there err)) ∧ w' = w := by
  obtain ⟨c0, c1, c2, c3⟩ := cell4 h.blk
  cases there
  · go_enter Try.func49, Try.ntmps49
    go_wp2
    go_ret
    exact ⟨rfl, rfl⟩
  · go_enter Try.func49, Try.ntmps49
    go_wp2
    go_ret
    exact ⟨rfl, rfl⟩

theorem gleft_any (h : Rg w b there d D A err) : Calls Try.prog 48 #[.pointer (some ⟨b, 0, none⟩)] w fun e w' => e = .returned (.int .i64 ((D.length : Int) - A)) ∧ Kp Nu w w' := by
  obtain ⟨c0, c1, c2, c3⟩ := cell4 h.blk
  obtain ⟨ad, cap, hv⟩ := h.rd.slice
  subst hv
  have a0 := h.a0
  have a1 := h.a1
  have hl : (D.length : Int) ≤ 16777216 := by have := h.len; omega
  generalize D.length = L at *
  go_enter Try.func48, Try.ntmps48
  go_wp2
  go_region
  all_goals go_wp2
  all_goals go_ret
  all_goals exact ⟨rfl, (Kp.refl Nu _).drew⟩

theorem gdone_any (h : Rg w b there d D A err) : Calls Try.prog 50 #[.pointer (some ⟨b, 0, none⟩)] w fun e w' => e = .returned (.int .i64 (if errG there err = 0 then (if A < (D.length : Int) then 26 else 0) else errG there err)) ∧ Kp Nu w w' := by
  have E := gerror_any h
  obtain ⟨c0, c1, c2, c3⟩ := cell4 h.blk
  obtain ⟨ad, cap, hv⟩ := h.rd.slice
  subst hv
  have hl : (D.length : Int) ≤ 16777216 := by have := h.len; omega
  generalize D.length = L at *
  generalize errG there err = q at *
  by_cases hq : q = 0
  · subst hq
    by_cases hA : A < (L : Int)
    · rw [if_pos rfl, if_pos hA]
      go_enter Try.func50, Try.ntmps50
      go_wp2_with fail
      refine E.mono ?_; rintro e w' ⟨rfl, rfl⟩
      go_wp2
      go_region
      all_goals go_wp2
      all_goals go_ret
      all_goals exact ⟨rfl, (Kp.refl Nu _).drew⟩
    · rw [if_pos rfl, if_neg hA]
      go_enter Try.func50, Try.ntmps50
      go_wp2_with fail
      refine E.mono ?_; rintro e w' ⟨rfl, rfl⟩
      go_wp2
      go_region
      all_goals go_wp2
      all_goals go_ret
      all_goals exact ⟨rfl, (Kp.refl Nu _).drew⟩
  · have hq' : (q == 0) = false := by simpa using hq
    rw [if_neg hq]
    go_enter Try.func50, Try.ntmps50
    go_wp2_with fail
    refine E.mono ?_; rintro e w' ⟨rfl, rfl⟩
    go_wp2
    go_region
    all_goals go_wp2
    all_goals go_ret
    all_goals exact ⟨rfl, (Kp.refl Nu _).drew⟩

def failG (there : Bool) (err q : Int) : Int := if there then failed err q else err
theorem gfail_any (h : Rg w b there d D A err) (q : Int) : Calls Try.prog 52 #[.pointer (some ⟨b, 0, none⟩), .int .i64 q] w fun e w' => e = .returned (.tuple #[]) ∧ Rg w' b there d D A (failG there err q) ∧ Kp (iS b) w w' := by
  obtain ⟨c0, c1, c2, c3⟩ := cell4 h.blk
  have K0 : ∀ S, Kp S w w := fun S => Kp.refl S w
  have ST : Rg (w.setCell ⟨b, 3, none⟩ (.int .i64 q)) b there d D A q ∧ Kp (iS b) w (w.setCell ⟨b, 3, none⟩ (.int .i64 q)) := by
    refine ⟨⟨?_, h.rd.andSet _ _ h.ne, h.ne, h.a0, h.a1, h.len⟩, Kp.setCell w ⟨b, 3, none⟩ _⟩
    rw [set3 h.blk]; rfl
  have D0 : Rg w.drew b there d D A err ∧ Kp (iS b) w w.drew := ⟨⟨h.blk, h.rd.drew, h.ne, h.a0, h.a1, h.len⟩, (Kp.refl _ w).drew⟩
  have STD : Rg (w.drew.setCell ⟨b, 3, none⟩ (.int .i64 q)) b there d D A q ∧ Kp (iS b) w (w.drew.setCell ⟨b, 3, none⟩ (.int .i64 q)) := by
    refine ⟨⟨?_, h.rd.drew.andSet _ _ h.ne, h.ne, h.a0, h.a1, h.len⟩, (Kp.refl _ w).drew.trans (Kp.setCell w.drew ⟨b, 3, none⟩ _) (fun i _ e => e)⟩
    rw [set3 (w := w.drew) h.blk]; rfl
  cases there
  · go_enter Try.func52, Try.ntmps52
    go_wp2
    try go_region
    all_goals go_wp2
    all_goals first | go_end0 | refine bodyPost_ret (results_none rfl _ _ _) rfl ?_
    all_goals first | exact ⟨rfl, D0.1, D0.2⟩ | exact ⟨rfl, h, K0 _⟩
  · by_cases he : err = 0
    · subst he
      have q4 := free3 (w := w.drew) h.blk 3
      have q7 := free3 (w := w) h.blk 3
      have q5 : w.drew.cell? ⟨b, 3, none⟩ = some (.int .i64 0) := c3
      have q6 : w.drew.cell? ⟨b, 0, none⟩ = some (.bool true) := c0
      go_enter Try.func52, Try.ntmps52
      go_wp2
      try go_region
      all_goals go_wp2
      all_goals first | go_end0 | refine bodyPost_ret (results_none rfl _ _ _) rfl ?_
      all_goals first | exact ⟨rfl, STD.1, STD.2⟩ | exact ⟨rfl, ST.1, ST.2⟩
    · have he' : (err == 0) = false := by simpa using he
      have e : failG true err q = err := by simp [failG, failed, he]
      rw [e]
      go_enter Try.func52, Try.ntmps52
      go_wp2
      try go_region
      all_goals go_wp2
      all_goals first | go_end0 | refine bodyPost_ret (results_none rfl _ _ _) rfl ?_
      all_goals first | exact ⟨rfl, D0.1, D0.2⟩ | exact ⟨rfl, h, K0 _⟩
end

def wid (kind : Int) : Int := if kind = 1 then 1 else if kind = 2 then 2 else if kind = 3 then 4 else 8
theorem width_any (kind : Int) (w : World) : Calls Try.prog 79 #[.int .i64 kind] w fun e w' => e = .returned (.int .i64 (wid kind)) ∧ w' = w := by
  by_cases h1 : kind = 1
  · subst h1
    go_enter Try.func79, Try.ntmps79
    go_wp2
    go_ret
    exact ⟨rfl, rfl⟩
  by_cases h2 : kind = 2
  · subst h2
    go_enter Try.func79, Try.ntmps79
    go_wp2
    go_ret
    exact ⟨rfl, rfl⟩
  by_cases h3 : kind = 3
  · subst h3
    go_enter Try.func79, Try.ntmps79
    go_wp2
    go_ret
    exact ⟨rfl, rfl⟩
  have e : wid kind = 8 := by simp [wid, h1, h2, h3]
  rw [e]
  go_enter Try.func79, Try.ntmps79
  go_wp2
  go_ret
  exact ⟨rfl, rfl⟩

theorem unfold_any (x : Int) (h0 : 0 ≤ x) (h1 : x < 18446744073709551616) (w : World) : Calls Try.prog 82 #[.int .u64 x] w fun e w' => e = .returned (.int .i64 (uz x)) ∧ w' = w := by
  by_cases he : x % 2 = 0
  · have e : uz x = x / 2 := by unfold uz; rw [if_pos he]
    rw [e]
    go_enter Try.func82, Try.ntmps82
    go_wp2
    go_ret
    exact ⟨rfl, rfl⟩
  · have e : uz x = -(x / 2) - 1 := by unfold uz; rw [if_neg he]
    have he' : (x % 2 == 0) = false := by simpa using he
    rw [e]
    go_enter Try.func82, Try.ntmps82
    go_wp2
    go_ret
    exact ⟨rfl, rfl⟩

theorem newReading_bad {w : World} {u : Value} {xs : List Int} (h : Rd w u xs) (hl : (xs.length : Int) > 16777216) : Calls Try.prog 19 #[u] w fun e w' => e = .returned (.tuple #[.agg #[.bool false, .slice none 0 0, .int .i64 0, .int .i64 0], .int .i64 28]) ∧ Kp Nu w w' := by
  obtain ⟨ad, cap, hu⟩ := h.slice
  subst hu
  generalize xs.length = L at *
  go_enter Try.func19, Try.ntmps19
  go_wp2
  exact bodyPost_ret (v := .tuple #[.agg #[.bool false, .slice none 0 0, .int .i64 0, .int .i64 0], .int .i64 28]) (by simp [results, Try.results19, go_sem]) rfl ⟨rfl, Kp.alloc _ _ _⟩
end Go.Proofs.Ytgaehpdlljlliaa.Cd
