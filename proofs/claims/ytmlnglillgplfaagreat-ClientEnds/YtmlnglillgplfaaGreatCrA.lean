import Derived.Test.YtmlnglillgplfaaGreatCtH
namespace Go.Proofs.YtmlnglillgplfaaGreat.Cl
open Go.RowKit Go.Maps
set_option linter.unusedVariables false
structure Lim (hosts pat tries : Int) : Prop where
  h0 : hosts ≥ 1
  h1 : hosts ≤ 16
  p0 : pat ≥ 1
  p1 : pat ≤ 64
  t0 : tries ≥ 1
  t1 : tries ≤ 64
theorem limits_any (w : World) (hosts pat tries : Int) : Calls Tryz.prog 15 #[.int .i64 hosts, .int .i64 pat, .int .i64 tries] w fun e w' => Ans (Lim hosts pat tries) e ∧ w' = w := by
  by_cases c0 : hosts ≥ 1
  case neg =>
    go_enter Tryz.func15, Tryz.ntmps15
    go_wp2
    go_ret
    exact ⟨⟨_, rfl, fun h => by cases h⟩, rfl⟩
  case pos =>
  by_cases c1 : hosts ≤ 16
  case neg =>
    go_enter Tryz.func15, Tryz.ntmps15
    go_wp2
    go_ret
    exact ⟨⟨_, rfl, fun h => by cases h⟩, rfl⟩
  case pos =>
  by_cases c2 : pat ≥ 1
  case neg =>
    go_enter Tryz.func15, Tryz.ntmps15
    go_wp2
    go_ret
    exact ⟨⟨_, rfl, fun h => by cases h⟩, rfl⟩
  case pos =>
  by_cases c3 : pat ≤ 64
  case neg =>
    go_enter Tryz.func15, Tryz.ntmps15
    go_wp2
    go_ret
    exact ⟨⟨_, rfl, fun h => by cases h⟩, rfl⟩
  case pos =>
  by_cases c4 : tries ≥ 1
  case neg =>
    go_enter Tryz.func15, Tryz.ntmps15
    go_wp2
    go_ret
    exact ⟨⟨_, rfl, fun h => by cases h⟩, rfl⟩
  case pos =>
  by_cases c5 : tries ≤ 64
  case neg =>
    go_enter Tryz.func15, Tryz.ntmps15
    go_wp2
    go_ret
    exact ⟨⟨_, rfl, fun h => by cases h⟩, rfl⟩
  case pos =>
  have HL : Hid (Lim hosts pat tries) := ⟨c0, c1, c2, c3, c4, c5⟩
  go_enter Tryz.func15, Tryz.ntmps15
  go_wp2
  go_ret
  exact ⟨⟨_, rfl, fun _ => HL.out⟩, rfl⟩
end Go.Proofs.YtmlnglillgplfaaGreat.Cl
