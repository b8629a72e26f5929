import Derived.Test.YtffcnonhhfhlhaaDoorRfE
namespace Go.Proofs.YtffcnonhhfhlhaaDoor.Rg
open Go.RowKit Go.Shelf Go.Sort
open Go.Proofs.YtffcnonhhfhlhaaDoor.It
set_option linter.unusedVariables false

/-- the document's Assign at any step: its code, and the list that it gives -/
theorem refAssign_any {w : World} {rv : Value} {L : List Sg} {lim : Int} (hrs : Rs w rv L) (hT : Tab L) (hl : (L.length : Int) ≤ lim) (hl2 : lim ≤ 8192) (s : Sp) (f : 0 ≤ s.lo ∧ s.lo < 18446744073709551616 ∧ 0 ≤ s.hi ∧ s.hi < 18446744073709551616 ∧ 0 ≤ s.h ∧ s.h < 256) :
    Calls Tryd.prog 17 #[.agg #[.int .i64 lim, rv], .int .u64 s.lo, .int .u64 s.hi, .int .u8 s.h] w fun e w' => ∃ u', e = .returned (.tuple #[.agg #[.int .i64 lim, u'], .int .i64 (cod L lim s)]) ∧ Rs w' u' (stp L lim s) ∧ (u' = rv ∨ w'.ownsRow w.heap.size 26 3 u' (stp L lim s).length (cells (stp L lim s))) ∧ Kp Nu w w' := by
  obtain ⟨f0, f1, f2, f3, f4, f5⟩ := f
  have hM : L.length ≤ 8192 := by omega
  by_cases h1 : s.hi < s.lo
  · have e1 : cod L lim s = 60 := by unfold cod; rw [if_pos h1]
    have e2 : stp L lim s = L := by unfold stp; rw [if_neg (by omega)]
    rw [e1, e2]
    refine (refAssign_no hrs s.lo s.hi s.h 60 (by decide) 0 (fun W hW => refCost_bad (hrs.nu hW) _ _ _ h1)).mono ?_
    rintro e w' ⟨rfl, hk⟩
    exact ⟨rv, rfl, hrs.nu hk, .inl rfl, hk⟩
  · by_cases h2 : s.h < 16
    · obtain ⟨a1, a2, a3⟩ := asg_facts hT f0 (by omega) f3 f4 h2
      have hr := cost_range hT s.h f0 (by omega : s.lo ≤ s.hi) f3
      have CO := fun W (hW : Kp Nu w W) => refCost_ok (lim := lim) (hrs.nu hW) hT hM s.lo s.hi s.h f0 (by omega) f3 f4 h2
      by_cases h3 : (L.length : Int) + costB L s.lo s.hi s.h ≤ lim
      · have e1 : cod L lim s = 0 := by unfold cod; rw [if_neg h1, if_neg (by omega), if_neg (by omega)]
        have e2 : stp L lim s = asg L s.lo s.hi s.h := by unfold stp; rw [if_pos ⟨by omega, h2, h3⟩]
        rw [e1, e2]
        have CU := fun W (hW : Kp Nu w W) => refCut_any W rv L (hrs.nu hW) hM hT.sgb.1 hT.sgb.2 s.lo s.hi s.h f0 (by omega) f3 f4 f5
        rw [cutD_asg hT f0 (by omega) f3 f4 h2] at CU
        refine (refAssign_ok hrs s.lo s.hi s.h _ (asg L s.lo s.hi s.h) hM (by omega) h3 CU CO).mono ?_
        rintro e w' ⟨u', rfl, ho, hk⟩
        exact ⟨u', rfl, rs_of_own ho a1.ne, .inr ho, hk⟩
      · have e1 : cod L lim s = 61 := by unfold cod; rw [if_neg h1, if_neg (by omega), if_pos (by omega)]
        have e2 : stp L lim s = L := by unfold stp; rw [if_neg (by omega)]
        rw [e1, e2]
        refine (refAssign_full hrs s.lo s.hi s.h _ hM (by omega) (by omega) CO).mono ?_
        rintro e w' ⟨rfl, hk⟩
        exact ⟨rv, rfl, hrs.nu hk, .inl rfl, hk⟩
    · have e1 : cod L lim s = 2 := by unfold cod; rw [if_neg h1, if_pos h2]
      have e2 : stp L lim s = L := by unfold stp; rw [if_neg (by omega)]
      rw [e1, e2]
      refine (refAssign_no hrs s.lo s.hi s.h 2 (by decide) 0 (fun W hW => refCost_arg (hrs.nu hW) _ _ _ (by omega) h2)).mono ?_
      rintro e w' ⟨rfl, hk⟩
      exact ⟨rv, rfl, hrs.nu hk, .inl rfl, hk⟩
end Go.Proofs.YtffcnonhhfhlhaaDoor.Rg
