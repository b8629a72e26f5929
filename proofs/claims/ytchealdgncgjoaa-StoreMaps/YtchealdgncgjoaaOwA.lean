import Derived.Test.YtchealdgncgjoaaRmB
namespace Go.Proofs.Ytchealdgncgjoaa.StM
open Go.RowKit Go.Proofs.Ytchealdgncgjoaa.St Go.Proofs.Ytchealdgncgjoaa.StI
set_option linter.unusedVariables false
set_option linter.unusedSimpArgs false
/-- the last digit (of base m), at least 0 -/
def md (m x : Int) : Int := (x.tmod m + m).tmod m
/-- the document's orders -/
def cmpW (wh a b : Int) : Int := if wh = 2 then cmpI (md 10 a) (md 10 b) else if wh = 3 ∧ md 2 a ≠ md 2 b then md 2 a - md 2 b else if wh = 1 then - cmpI a b else cmpI a b
theorem cmpI_cases (a b : Int) : (a < b ∧ cmpI a b = -1) ∨ (a = b ∧ cmpI a b = 0) ∨ (b < a ∧ cmpI a b = 1) := by
  unfold cmpI
  rcases Int.lt_trichotomy a b with h | h | h
  · exact .inl ⟨h, by rw [if_pos h]⟩
  · exact .inr (.inl ⟨h, by rw [if_neg (by omega), if_neg (by omega)]⟩)
  · exact .inr (.inr ⟨h, by rw [if_neg (by omega), if_pos h]⟩)
theorem cmpW_ord (wh : Int) : OrdL (cmpW wh) := by
  by_cases h2 : wh = 2
  · have e : cmpW wh = fun a b => cmpI (md 10 a) (md 10 b) := by funext a b; unfold cmpW; rw [if_pos h2]
    rw [e]
    exact ⟨fun a b => cmpI_ord.anti _ _, fun a b c => cmpI_ord.tr _ _ _, fun a b c => cmpI_ord.tr' _ _ _⟩
  by_cases h3 : wh = 3
  · have e : cmpW wh = fun a b => if md 2 a ≠ md 2 b then md 2 a - md 2 b else cmpI a b := by
      funext a b; unfold cmpW; rw [if_neg h2]
      by_cases h : md 2 a ≠ md 2 b
      · rw [if_pos ⟨h3, h⟩, if_pos h]
      · rw [if_neg (fun k => h k.2), if_neg h, if_neg (by omega)]
    rw [e]
    refine ⟨fun a b => ?_, fun a b c => ?_, fun a b c => ?_⟩
    · have h := cmpI_cases a b
      have h' := cmpI_cases b a
      generalize md 2 a = x
      generalize md 2 b = y
      by_cases c1 : x = y
      · rw [if_neg (by omega), if_neg (by omega)]; omega
      · rw [if_pos (by omega), if_pos (by omega)]; omega
    · have h := cmpI_cases a b
      have h' := cmpI_cases b c
      have h'' := cmpI_cases a c
      generalize md 2 a = x
      generalize md 2 b = y
      generalize md 2 c = z
      by_cases c1 : x = y <;> by_cases c2 : y = z <;> by_cases c3 : x = z <;> simp only [c1, c2, c3, ne_eq, not_true_eq_false, not_false_eq_true, if_true, if_false] <;> first | omega | (intros; omega)
    · have h := cmpI_cases a b
      have h' := cmpI_cases b c
      have h'' := cmpI_cases a c
      generalize md 2 a = x
      generalize md 2 b = y
      generalize md 2 c = z
      by_cases c1 : x = y <;> by_cases c2 : y = z <;> by_cases c3 : x = z <;> simp only [c1, c2, c3, ne_eq, not_true_eq_false, not_false_eq_true, if_true, if_false] <;> first | omega | (intros; omega)
  by_cases h1 : wh = 1
  · have e : cmpW wh = fun a b => - cmpI a b := by funext a b; unfold cmpW; rw [if_neg h2, if_neg (fun k => h3 k.1), if_pos h1]
    rw [e]
    refine ⟨fun a b => ?_, fun a b c => ?_, fun a b c => ?_⟩
    · have h := cmpI_cases a b
      have h' := cmpI_cases b a
      omega
    · have h := cmpI_cases a b
      have h' := cmpI_cases b c
      have h'' := cmpI_cases a c
      omega
    · have h := cmpI_cases a b
      have h' := cmpI_cases b c
      have h'' := cmpI_cases a c
      omega
  · have e : cmpW wh = cmpI := by funext a b; unfold cmpW; rw [if_neg h2, if_neg (fun k => h3 k.1), if_neg h1]
    rw [e]; exact cmpI_ord
theorem tm_bd (x : Int) (m : Int) (hm : 0 < m) : -m < x.tmod m ∧ x.tmod m < m := by
  constructor
  · have := Int.lt_tmod_of_pos x hm; omega
  · exact Int.tmod_lt_of_pos x hm
theorem md_facts (x : Int) (m : Int) (hm : 0 < m) (hm2 : m ≤ 10) : IntKind.i64.wrap (x.tmod m + m) = x.tmod m + m ∧ wrap64 (x.tmod m + m) = x.tmod m + m ∧ 0 ≤ md m x ∧ md m x < m := by
  have h := tm_bd x m hm
  refine ⟨by rw [IntKind.wrap_i64]; omega, by unfold wrap64; omega, ?_, ?_⟩
  · exact Int.tmod_nonneg m (by omega)
  · exact (tm_bd _ m hm).2
theorem order_of0 (wh : Int) (h : wh = 0) : Oc wh (cmpW wh) := by
  subst h
  have e : cmpW 0 = cmpI := by funext a b; simp [cmpW]
  rw [e]
  exact order_0
set_option maxRecDepth 100000 in
set_option maxHeartbeats 1000000 in
theorem order_of1 (wh : Int) (h : wh = 1) : Oc wh (cmpW wh) := by
  subst h
  intro a b W
  have e : cmpW 1 a b = - cmpI a b := by simp [cmpW]
  rw [e]
  clear e
  rcases cmpI_cases a b with ⟨h, e⟩ | ⟨h, e⟩ | ⟨h, e⟩
  · rw [e]
    have h2 : ¬ b < a := by omega
    clear e
    go_enter Try.func67, Try.ntmps67
    go_wp2
    go_ret
    exact ⟨rfl, rfl⟩
  · rw [e]
    subst h
    clear e
    go_enter Try.func67, Try.ntmps67
    go_wp2
    go_ret
    exact ⟨rfl, rfl⟩
  · rw [e]
    have h2 : ¬ a < b := by omega
    clear e
    go_enter Try.func67, Try.ntmps67
    go_wp2
    go_ret
    exact ⟨rfl, rfl⟩
set_option maxRecDepth 100000 in
set_option maxHeartbeats 1000000 in
theorem order_of2 (wh : Int) (h : wh = 2) : Oc wh (cmpW wh) := by
  subst h
  intro a b W
  have e : cmpW 2 a b = cmpI (md 10 a) (md 10 b) := by simp [cmpW]
  rw [e]
  clear e
  obtain ⟨a1, a2, _, _⟩ := md_facts a 10 (by decide) (by decide)
  obtain ⟨b1, b2, _, _⟩ := md_facts b 10 (by decide) (by decide)
  have ea : (a.tmod 10 + 10).tmod 10 = md 10 a := rfl
  have eb : (b.tmod 10 + 10).tmod 10 = md 10 b := rfl
  rcases cmpI_cases (md 10 a) (md 10 b) with ⟨h, e⟩ | ⟨h, e⟩ | ⟨h, e⟩
  · rw [e]
    have h2 : ¬ md 10 b < md 10 a := by omega
    clear e
    go_enter Try.func67, Try.ntmps67
    go_wp2
    go_ret
    exact ⟨rfl, rfl⟩
  · rw [e]
    have h2 : ¬ md 10 b < md 10 a := by omega
    have h3 : ¬ md 10 a < md 10 b := by omega
    clear e h
    go_enter Try.func67, Try.ntmps67
    go_wp2
    go_ret
    exact ⟨rfl, rfl⟩
  · rw [e]
    have h2 : ¬ md 10 a < md 10 b := by omega
    clear e
    go_enter Try.func67, Try.ntmps67
    go_wp2
    go_ret
    exact ⟨rfl, rfl⟩
set_option maxRecDepth 100000 in
set_option maxHeartbeats 1000000 in
theorem order_of3 (wh : Int) (h : wh = 3) : Oc wh (cmpW wh) := by
  subst h
  intro a b W
  obtain ⟨a1, a2, a3, a4⟩ := md_facts a 2 (by decide) (by decide)
  obtain ⟨b1, b2, b3, b4⟩ := md_facts b 2 (by decide) (by decide)
  have ea : (a.tmod 2 + 2).tmod 2 = md 2 a := rfl
  have eb : (b.tmod 2 + 2).tmod 2 = md 2 b := rfl
  by_cases hne : md 2 a = md 2 b
  · have e : cmpW 3 a b = cmpI a b := by simp [cmpW, hne]
    rw [e]
    clear e
    have hn : (md 2 a != md 2 b) = false := by simpa using hne
    rcases cmpI_cases a b with ⟨h, e⟩ | ⟨h, e⟩ | ⟨h, e⟩
    · rw [e]
      have h2 : ¬ b < a := by omega
      clear e a3 a4 b3 b4 hne
      go_enter Try.func67, Try.ntmps67
      go_wp2
      go_ret
      exact ⟨rfl, rfl⟩
    · rw [e]
      subst h
      clear e a3 a4 b3 b4 hne
      go_enter Try.func67, Try.ntmps67
      go_wp2
      go_ret
      exact ⟨rfl, rfl⟩
    · rw [e]
      have h2 : ¬ a < b := by omega
      clear e a3 a4 b3 b4 hne
      go_enter Try.func67, Try.ntmps67
      go_wp2
      go_ret
      exact ⟨rfl, rfl⟩
  · have e : cmpW 3 a b = md 2 a - md 2 b := by simp [cmpW, hne]
    rw [e]
    have hn : (md 2 a != md 2 b) = true := by simpa using hne
    have w1 : IntKind.i64.wrap (md 2 a - md 2 b) = md 2 a - md 2 b := by rw [IntKind.wrap_i64]; omega
    have w2 : wrap64 (md 2 a - md 2 b) = md 2 a - md 2 b := by unfold wrap64; omega
    clear e a3 a4 b3 b4 hne
    go_enter Try.func67, Try.ntmps67
    go_wp2
    go_ret
    exact ⟨by first | rfl | rw [w2], rfl⟩
theorem order_w (wh : Int) (h0 : 0 ≤ wh) (h3 : wh ≤ 3) : Oc wh (cmpW wh) := by
  by_cases h : wh = 0
  · exact order_of0 wh h
  by_cases h : wh = 1
  · exact order_of1 wh h
  by_cases h : wh = 2
  · exact order_of2 wh h
  · exact order_of3 wh (by omega)
/-- the closure that StoreMaps hands in -/
theorem closure66 (wh : Int) (h0 : 0 ≤ wh) (h3 : wh ≤ 3) (x y : Int) (W : World) (bw : Nat) (hb : W.heap[bw]? = some (.cells #[.int .i64 wh] 3 (0, 0))) :
    Calls Try.prog 66 #[.int .i64 x, .int .i64 y, .pointer (some ⟨bw, 0, none⟩)] W fun e w' => e = .returned (.int .i64 (cmpW wh x y)) ∧ w' = W := by
  have c := cell1 hb
  have OW := order_w wh h0 h3 x y W
  clear hb h0 h3
  go_enter Try.func66, Try.ntmps66
  go_wp2_with (go_at_call 67; refine OW.mono ?_; rintro e w' ⟨rfl, hw⟩; obtain rfl := hw.symm)
  go_ret
  exact ⟨rfl, rfl⟩
end Go.Proofs.Ytchealdgncgjoaa.StM
