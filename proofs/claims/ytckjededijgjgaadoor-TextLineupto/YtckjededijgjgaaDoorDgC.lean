import Derived.Test.YtckjededijgjgaaDoorDgB
import Derived.Test.YtckjededijgjgaaDoorRnE
import Derived.Stop.LaidErr
import Derived.Lib.LaidTab
namespace Go.Proofs.YtckjededijgjgaaDoor.Hx
open Go.RowKit
set_option linter.unusedVariables false

theorem refDigits_bad (n : Int) (form : Int) (h : form < 0 ∨ (0 ≤ form ∧ form > 2)) (w : World) :
    Calls Tryd.prog 31 #[.int .u64 n, .int .i64 form] w fun e w' => e = .returned (.tuple #[.string ⟨#[]⟩, .int .i64 2]) ∧ w' = w := by
  rcases h with h | ⟨h, h'⟩
  all_goals
    go_enter Tryd.func31, Tryd.ntmps31
    go_wp2
    go_ret2
    exact ⟨rfl, rfl⟩

/-- what both answer -/
theorem both (n : Nat) (hn : n < 18446744073709551616) (form : Int) : ∃ (o : ByteArray) (e : Int),
    (∀ w, Tabs w → Calls Tryd.prog 30 #[.int .u64 (n : Int), .int .i64 form] w fun e' W' => e' = .returned (.tuple #[.string o, .int .i64 e]) ∧ Below w.heap.size w W') ∧
    (∀ w, Calls Tryd.prog 31 #[.int .u64 (n : Int), .int .i64 form] w fun e' W' => e' = .returned (.tuple #[.string o, .int .i64 e]) ∧ Below w.heap.size w W') := by
  by_cases h : form < 0 ∨ (0 ≤ form ∧ form > 2)
  · refine ⟨⟨#[]⟩, 2, fun w _ => (digits_bad _ form (by omega) w).mono ?_, fun w => (refDigits_bad _ form h w).mono ?_⟩
    · rintro e w' ⟨rfl, rfl⟩; exact ⟨rfl, Below.refl _ _⟩
    · rintro e w' ⟨rfl, rfl⟩; exact ⟨rfl, Below.refl _ _⟩
  · refine ⟨⟨(digF n form).toArray⟩, 0, fun w hT => digits_any n hn form (by omega) (by omega) w hT, fun w => ?_⟩
    have hc : form = 0 ∨ form = 1 ∨ form = 2 := by omega
    rcases hc with rfl | rfl | rfl
    · exact refDigits_0 n hn w
    · exact refDigits_1 n hn w
    · exact refDigits_2 n hn w

set_option maxHeartbeats 800000 in
theorem digits_walk (n : Nat) (hn : n < 18446744073709551616) (form : Int) (w : World) (hT : Tabs w) :
    Calls Tryd.prog 8 #[.int .u64 (n : Int), .int .i64 form] w fun e w' => e = .returned (.bool true) ∧ Below w.heap.size w w' := by
  obtain ⟨o, e0, P1, P2⟩ := both n hn form
  have C1 := P1 w hT
  have nm := fun n w => Rn.num_any n w
  have b2 : (e0 == e0) = true := by simp
  have b4 : (o.toList == o.toList) = true := by simp
  go_enter Tryd.func8, Tryd.ntmps8
  go_wp2_with fail
  refine C1.mono ?_; rintro e w1 ⟨rfl, hb1⟩
  go_wp2_with fail
  refine (P2 _).mono ?_; rintro e w2 ⟨rfl, hb2⟩
  go_wp2_with fail
  refine (nm _ _).mono ?_; rintro e w3 ⟨rfl, rfl⟩
  go_wp2
  go_ret
  exact ⟨rfl, hb1.trans (hb2.mono hb1.size)⟩

/-! the tables -/
def bru32 : List Int := [0, 1, 28, 2, 29, 14, 24, 3, 30, 22, 20, 15, 25, 17, 4, 8, 31, 27, 13, 23, 21, 19, 16, 7, 26, 12, 18, 6, 11, 5, 10, 9]
def bru64 : List Int := [0, 1, 56, 2, 57, 49, 28, 3, 61, 58, 42, 50, 38, 29, 17, 4, 62, 47, 59, 36, 45, 43, 51, 22, 53, 39, 33, 30, 24, 18, 12, 5, 63, 55, 48, 27, 60, 41, 37, 16, 46, 35, 44, 21, 52, 32, 23, 11, 54, 26, 40, 15, 34, 20, 31, 10, 25, 14, 19, 9, 13, 8, 7, 6]
theorem laid64 : (Rows.laid_math_bits_deBruijn64tab : DataW Unit) = Lib.tabData .u8 bru64 := by kernel_rfl
theorem laidPow : (Rows.laid_internal_strconv_uint64pow10 : DataW Unit) = Lib.tabData .u64 Lib.pow10Tab := by kernel_rfl
theorem g64 : Tryd.prog.globalNamed "math/bits.deBruijn64tab" = some 5 := by kernel_rfl
theorem tabs_of {W : World} {rest : List (String × DataW Unit)} (h : laidMet Tryd.prog (("math/bits.deBruijn32tab", Rows.laid_math_bits_deBruijn32tab) :: ("math/bits.deBruijn64tab", Rows.laid_math_bits_deBruijn64tab) :: ("internal/strconv.uint64pow10", Rows.laid_internal_strconv_uint64pow10) :: rest) W) : Tabs W := by
  have h2 := h.tail
  have h3 := h2.tail
  rw [laid64] at h2
  rw [laidPow] at h3
  have t2 : Lib.TabIs Tryd.prog W "math/bits.deBruijn64tab" .u8 bru64 := Lib.tabIs_of_head g64 (t := 171) (e := 5) (n := 64) (by kernel_rfl) Tryd.underlying171 Tryd.underlying5 (by kernel_rfl) (by kernel_rfl) h2
  have t3 : Lib.TabIs Tryd.prog W "internal/strconv.uint64pow10" .u64 Lib.pow10Tab := Lib.tabIs_of_head (g := 2) (by kernel_rfl) (t := 165) (e := 45) (n := 20) (by kernel_rfl) Tryd.underlying165 Tryd.underlying45 (by kernel_rfl) (by kernel_rfl) h3
  have hc : W.cell? ⟨5, 15, none⟩ = some (.int .u8 4) := t2.cell g64 15 (by decide)
  exact ⟨t3, hc, World.block_lt_of_cell? W _ hc⟩
end Go.Proofs.YtckjededijgjgaaDoor.Hx
