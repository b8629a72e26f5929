import Derived.Test.YtmlnglillgplfaaGreatStC
import Derived.Test.YtmlnglillgplfaaGreatFnU
namespace Go.Proofs.YtmlnglillgplfaaGreat.Cl
open Go.RowKit Go.Maps
set_option linter.unusedVariables false
set_option maxHeartbeats 1000000 in
theorem believe_at {w : World} {b : Nat} {s : Cs} (h : CB w b s) (a : Int) (a0 : 0 ≤ a) (a1 : a < 16) :
    Calls Tryz.prog 59 #[.pointer (some ⟨b, 0, none⟩), .int .u8 a] w fun e w' => ∃ hb tv, e = .returned (.tuple #[]) ∧ CB w' b { s with hb := hb } ∧ Rg.Tb w.heap.size w' hb 64 tv [⟨0, 18446744073709551615, a⟩] ∧ Kp (fun i => i = b) w w' := by
  have NW := Rg.new_ok w a a0 a1 64 (by omega) (by omega)
  have hbl : b < w.heap.size := h.lt
  have HH := hide h
  clear h
  go_enter Tryz.func59, Tryz.ntmps59
  go_wp2_with fail
  refine NW.mono ?_; rintro e w1 ⟨hb, tv, rfl, hT, hk⟩
  have hb1 := HH.out.nu (kpR hk)
  have x3 := hb1.c_hb
  have f3 := hb1.free 3
  have HB := hide hb1
  have HT := hide hT
  have HK := hide (kpR hk)
  clear NW hb1 hT hk
  go_wp2
  go_end0
  have hlow := HT.out.low
  refine ⟨hb, tv, rfl, HB.out.s_hb hb, ?_, (HK.out.mono (T := fun i => i = b) (fun _ _ h => h.elim)).andSet ⟨b, 3, none⟩ _ (.inr rfl)⟩
  exact tb_kp HT.out (Kp.setCell w1 ⟨b, 3, none⟩ (.pointer (some ⟨hb, 0, none⟩))) (fun e => by have e : hb = b := e; omega) (fun i hi c' hc' => by have hi : i = b := hi; rw [hi, HB.out] at hc'; cases hc')
set_option maxHeartbeats 1000000 in
theorem aim_ok {w : World} {b : Nat} {s : Cs} (h : CB w b s) (hp : ¬ s.ph = 1) (a : Int) (a0 : 0 ≤ a) (a1 : a < s.hosts) (h16 : s.hosts ≤ 16) :
    Calls Tryz.prog 22 #[.pointer (some ⟨b, 0, none⟩), .int .u8 a] w fun e w' => ∃ hb tv, e = .returned (.int .i64 0) ∧ CB w' b { s with hb := hb } ∧ Rg.Tb w.heap.size w' hb 64 tv [⟨0, 18446744073709551615, a⟩] ∧ Kp (fun i => i = b) w w' := by
  have MA := made_any h
  have WA := waits_no h hp
  have IH := isHost_any h a a0 (by omega)
  have hd : decide (a < s.hosts) = true := by simpa using a1
  rw [hd] at IH
  have BE := believe_at h a a0 (by omega)
  clear h hp a0 a1 h16 hd
  go_enter Tryz.func22, Tryz.ntmps22
  go_wp2_with fail
  refine MA.mono ?_; rintro e w' ⟨rfl, hw⟩
  obtain rfl := hw.symm
  clear MA hw
  go_wp2_with fail
  refine WA.mono ?_; rintro e w' ⟨rfl, hw⟩
  obtain rfl := hw.symm
  clear WA hw
  go_wp2_with fail
  refine IH.mono ?_; rintro e w' ⟨rfl, hw⟩
  obtain rfl := hw.symm
  clear IH hw
  go_wp2_with fail
  refine BE.mono ?_; rintro e w2 ⟨hb, tv, rfl, hc, hT, hk⟩
  have HF := hide (And.intro hc (And.intro hT hk))
  clear BE hc hT hk
  go_wp2
  go_ret
  exact ⟨hb, tv, rfl, HF.out.1, HF.out.2.1, HF.out.2.2⟩
end Go.Proofs.YtmlnglillgplfaaGreat.Cl
namespace Go.Proofs.YtmlnglillgplfaaGreat.Cl
open Go.RowKit Go.Maps
set_option linter.unusedVariables false
theorem tab_at (a : Int) (a0 : 0 ≤ a) (a1 : a < 16) : Rg.Tab [⟨0, 18446744073709551615, a⟩] := ⟨⟨rfl, by show (0 : Int) ≤ 18446744073709551615; omega, rfl⟩, by simp [Rg.Alt], fun s hs => by simp only [List.mem_singleton] at hs; subst hs; exact ⟨a0, a1⟩⟩
/-- behind a redirect over a key the table of one segment says its host -/
theorem hnt_ow {B : Nat} {w : World} {hb : Nat} {aim lo hi to key : Int} (h : Hnt B w hb [⟨0, 18446744073709551615, aim⟩] lo hi to) (a0 : 0 ≤ aim) (a1 : aim < 16) (l0 : 0 ≤ lo) (l1 : lo ≤ key) (l2 : key ≤ hi) (l3 : hi < 18446744073709551616) (t0 : 0 ≤ to) (t1 : to < 16) : ∃ tv L', Rg.Tb B w hb 64 tv L' ∧ Rg.ow L' key = to := by
  obtain ⟨tv, L', hT, hf⟩ := h
  have hc := Rg.cost_range (tab_at aim a0 a1) (lo := lo) (hi := hi) to l0 (by omega) l3
  have e := hf (by have := hc.1; simp; omega)
  refine ⟨tv, L', hT, ?_⟩
  rw [e, (Rg.asg_facts (tab_at aim a0 a1) l0 (by omega) l3 t0 t1).2.1 key (by omega) (by omega), if_pos ⟨l1, l2⟩]
end Go.Proofs.YtmlnglillgplfaaGreat.Cl
