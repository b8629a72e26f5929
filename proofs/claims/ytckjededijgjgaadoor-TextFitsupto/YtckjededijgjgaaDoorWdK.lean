import Derived.Test.YtckjededijgjgaaDoorWdJ
namespace Go.Proofs.YtckjededijgjgaaDoor.Wd
open Go.RowKit
open Go.Proofs.YtckjededijgjgaaDoor.Pc (P4 pieces)
open Go.Proofs.YtckjededijgjgaaDoor.Enc (hide Spans)
set_option linter.unusedVariables false

theorem pad_bad (s : ByteArray) (cols side : Int) (h : side < 0 ∨ (0 ≤ side ∧ side > 2) ∨ (0 ≤ side ∧ side ≤ 2 ∧ cols < 0) ∨ (0 ≤ side ∧ side ≤ 2 ∧ 0 ≤ cols ∧ cols > 400)) (w : World) :
    Calls Tryd.prog 37 #[.string s, .int .i64 cols, .int .i64 side] w fun e W' => e = .returned (.tuple #[.string ⟨#[]⟩, .int .i64 2]) ∧ W' = w := by
  rcases h with h | ⟨h, h'⟩ | ⟨h, h', h2⟩ | ⟨h, h', h2, h3⟩
  all_goals
    go_enter Tryd.func37, Tryd.ntmps37
    go_wp2
    exact bodyPost_ret (v := .tuple #[.string ⟨#[]⟩, .int .i64 2]) (by simp [results, Tryd.results37, go_sem]) rfl ⟨rfl, rfl⟩
theorem refPad_bad (s : ByteArray) (cols side : Int) (h : side < 0 ∨ (0 ≤ side ∧ side > 2) ∨ (0 ≤ side ∧ side ≤ 2 ∧ cols < 0) ∨ (0 ≤ side ∧ side ≤ 2 ∧ 0 ≤ cols ∧ cols > 400)) (w : World) :
    Calls Tryd.prog 42 #[.string s, .int .i64 cols, .int .i64 side] w fun e W' => e = .returned (.tuple #[.string ⟨#[]⟩, .int .i64 2]) ∧ W' = w := by
  rcases h with h | ⟨h, h'⟩ | ⟨h, h', h2⟩ | ⟨h, h', h2, h3⟩
  all_goals
    go_enter Tryd.func42, Tryd.ntmps42
    go_wp2
    exact bodyPost_ret (v := .tuple #[.string ⟨#[]⟩, .int .i64 2]) (by simp [results, Tryd.results42, go_sem]) rfl ⟨rfl, rfl⟩

/-- what both Pads answer -/
theorem pads (CO : Cols) (s : ByteArray) (hs : s.size ≤ 1048576) (cols side : Int) : ∃ (o : ByteArray) (e : Int),
    (∀ w R off cap, Spans w R off cap → Calls Tryd.prog 37 #[.string s, .int .i64 cols, .int .i64 side] w fun e' W' => e' = .returned (.tuple #[.string o, .int .i64 e]) ∧ Below w.heap.size w W') ∧
    (∀ w, Calls Tryd.prog 42 #[.string s, .int .i64 cols, .int .i64 side] w fun e' W' => e' = .returned (.tuple #[.string o, .int .i64 e]) ∧ Below w.heap.size w W') := by
  by_cases h : side < 0 ∨ (0 ≤ side ∧ side > 2) ∨ (0 ≤ side ∧ side ≤ 2 ∧ cols < 0) ∨ (0 ≤ side ∧ side ≤ 2 ∧ 0 ≤ cols ∧ cols > 400)
  · refine ⟨⟨#[]⟩, 2, fun w R off cap _ => (pad_bad s cols side h w).mono ?_, fun w => (refPad_bad s cols side h w).mono ?_⟩
    · rintro e w' ⟨rfl, rfl⟩; exact ⟨rfl, Below.refl _ _⟩
    · rintro e w' ⟨rfl, rfl⟩; exact ⟨rfl, Below.refl _ _⟩
  · exact ⟨_, 0, fun w R off cap hS => pad_any s hs cols side (by omega) (by omega) (by omega) (by omega) w R off cap hS, fun w => refPad_of CO s hs cols side (by omega) (by omega) (by omega) (by omega) w⟩
end Go.Proofs.YtckjededijgjgaaDoor.Wd
