import Derived.Test.YtmlnglillgplfaaGreatRgI
namespace Go.Proofs.YtmlnglillgplfaaGreat.Rg
open Go.RowKit Go.Shelf Go.Sort
open Go.Proofs.YtmlnglillgplfaaGreat.It
attribute [local go_sem] Oper.semAt_some
set_option linter.unusedVariables false

theorem field40 (W : World) (a b c : Value) : (Instr.field 76 (.agg #[a, b, c]) 2).run Tryz.prog W = .ok c W := by kernel_rfl

set_option maxRecDepth 100000 in
set_option maxHeartbeats 1000000 in
theorem lookup_any {B b : Nat} {w : World} {lim : Int} {v : Value} {L : List Sg} (h : Tb B w b lim v L) (key : Int) (k0 : 0 ≤ key) (k1 : key < 18446744073709551616) :
    Calls Tryz.prog 56 #[.pointer (some ⟨b, 0, none⟩), .int .u64 key] w fun e w' => e = .returned (.int .u8 (ow L key)) ∧ Kp Nu w w' := by
  have SG := segment_any h key k0 k1
  obtain ⟨s, hs, _, _, he, _⟩ := plc_facts h.tab.cov k0 k1
  have SG2 : Calls Tryz.prog 92 #[.pointer (some ⟨b, 0, none⟩), .int .u64 key] w fun e w' => e = .returned (.agg #[.int .u64 s.lo, .int .u64 s.hi, .int .u8 s.h]) ∧ Kp Nu w w' := SG.mono (by
    rintro e w' ⟨t, rfl, ht, hk⟩
    rw [hs] at ht; cases ht
    exact ⟨rfl, hk⟩)
  rw [← he]
  have fd := field40
  clear SG h hs he
  go_enter Tryz.func56, Tryz.ntmps56
  go_wp2_with (go_at_call 92; refine SG2.mono ?_; rintro e w' ⟨rfl, hk⟩)
  go_ret
  exact ⟨rfl, hk⟩

/-- is all of a range a host's? -/
def ownsB (L : List Sg) (lo hi o : Int) : Bool := (tk lo hi (L.drop (plc L lo))).all (fun s => s.h == o)

end Go.Proofs.YtmlnglillgplfaaGreat.Rg
