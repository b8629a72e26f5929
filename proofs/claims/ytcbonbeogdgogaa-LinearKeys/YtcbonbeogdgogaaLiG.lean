import Derived.Test.YtcbonbeogdgogaaLiF
namespace Go.Proofs.Ytcbonbeogdgogaa.Li
open Go.RowKit
set_option linter.unusedVariables false
/-- a call on what its key has: none: it can't take effect; else what the key has behind it -/
def stp (k st : Int) (kn has : Bool) (V O Y : List Int) (on : Option (List Int)) : Option (Option (List Int)) :=
  if st = 4 then (if on = none then some none else none)
  else if kn = false then some (exe k has V O on).2
  else if (exe k has V O on).1 = st ∧ (k = 1 → Y = on.getD []) then some (exe k has V O on).2 else none
/-- what effect answers -/
def EfR (w0 : World) (r : Option (Option (List Int))) (e : Ending) : Prop :=
  ∃ can h' a n c X', e = .returned (.tuple #[.bool can, .agg #[.bool h', .slice a n c]]) ∧ r = (if can = true then some (opt h' X') else none) ∧ By w0 (.slice a n c) X' ∧ (h' = false → X' = []) ∧ (can = false → h' = false)
theorem optD {h : Bool} {X : List Int} (hX : h = false → X = []) : (opt h X).getD [] = X := by
  cases h
  · simp [opt, hX rfl]
  · rfl
set_option maxRecDepth 100000 in
set_option maxHeartbeats 4000000 in
theorem effect30 (w0 w : World) (k0 : Kp Nu w0 w) (h : Bool) (xa : Option Addr) (xn xc : Nat) (X V O Y : List Int) (who seq k key hi lim st beg en : Int) (has : Bool) (va oa ya : Option Addr) (vn vc on oc yn yc : Nat) (rx0 : By w0 (.slice xa xn xc) X) (rv0 : By w0 (.slice va vn vc) V) (ro0 : By w0 (.slice oa on oc) O) (ry0 : By w0 (.slice ya yn yc) Y) (hX : h = false → X = []) :
    Calls Try.prog 30 #[.agg #[.int .u8 who, .int .u64 seq, .int .u8 k, .int .u64 key, .int .u64 hi, .slice va vn vc, .slice oa on oc, .bool has, .int .u8 lim, .int .u8 st, .slice ya yn yc, .int .i64 beg, .int .i64 en], .agg #[.bool h, .slice xa xn xc]] w fun e w' => EfR w0 (stp k st (en != -1) has V O Y (opt h X)) e ∧ Kp Nu w w' := by
  have rx := rx0.nu k0
  have rv := rv0.nu k0
  have ro := ro0.nu k0
  have ry := ry0.nu k0
  obtain ⟨W3, e3⟩ : ∃ W3, ((w.alloc (.cells #[.int .u8 who, .int .u64 seq, .int .u8 k, .int .u64 key, .int .u64 hi, .slice va vn vc, .slice oa on oc, .bool has, .int .u8 lim, .int .u8 st, .slice ya yn yc, .int .i64 beg, .int .i64 en] 30)).alloc (.cells #[.bool h, .slice xa xn xc] 64)).alloc (.cells #[.bool false, .slice none 0 0] 64) = W3 := ⟨_, rfl⟩
  obtain ⟨hA, hB, hC⟩ : W3.heap[w.heap.size]? = _ ∧ W3.heap[w.heap.size + 1]? = _ ∧ W3.heap[w.heap.size + 2]? = _ := by rw [← e3]; exact three w _ _ _
  have k3 : Kp Nu w W3 := by rw [← e3]; exact ((Kp.alloc w _ Nu).andAlloc _).andAlloc _
  have HW := hide (And.intro hA (And.intro hB (And.intro hC (And.intro k3 (And.intro rx (And.intro rv (And.intro ro (And.intro ry hX))))))))
  have a2 := cellAt hA 2 (v := .int .u8 k) rfl
  have a3 := cellAt hA 3 (v := .int .u64 key) rfl
  have a4 := cellAt hA 4 (v := .int .u64 hi) rfl
  have a5 := cellAt hA 5 (v := .slice va vn vc) rfl
  have a6 := cellAt hA 6 (v := .slice oa on oc) rfl
  have a7 := cellAt hA 7 (v := .bool has) rfl
  have a8 := cellAt hA 8 (v := .int .u8 lim) rfl
  have a9 := cellAt hA 9 (v := .int .u8 st) rfl
  have a10 := cellAt hA 10 (v := .slice ya yn yc) rfl
  have a11 := cellAt hA 11 (v := .int .i64 beg) rfl
  have a12 := cellAt hA 12 (v := .int .i64 en) rfl
  have b0 := cellAt hB 0 (v := .bool h) rfl
  have b1 := cellAt hB 1 (v := .slice xa xn xc) rfl
  have c0 := cellAt hC 0 (v := .bool false) rfl
  have c1 := cellAt hC 1 (v := .slice none 0 0) rfl
  have f0 := free3 hC 0
  have f1 := free3 hC 1
  have XE := (execute56 w0 W3 (k0.andNu k3) h xa xn xc X V O who seq k key hi lim st beg en has va oa ya vn vc on oc yn yc rx0 rv0 ro0 hX)
  clear hA hB hC k3 rx rv ro ry hX rx0 rv0 ro0 ry0 k0
  by_cases h4 : st = 4
  · have e4 : (st == 4) = true := by simpa using h4
    have H4 := hide h4
    clear h4 XE
    go_enter Try.func30, Try.ntmps30
    go_wp2
    have F2 := fin2 (n := 0) HW.out.2.2.2.1 (Nat.le_add_right w.heap.size 2) HW.out.2.2.1 (.bool false) (.slice none 0 0)
    refine bodyPost_ret (results_tc rfl _ _ ⟨w.heap.size + 2, 0, none⟩ _ rfl (load64 F2.1)) rfl ?_
    refine ⟨⟨!h, false, none, 0, 0, [], rfl, ?_, By.nil _, by simp, by simp⟩, F2.2⟩
    cases h <;> simp [stp, opt, H4.out]
  have e4 : (st == 4) = false := by simpa using h4
  have H4 := hide h4
  clear h4
  go_enter Try.func30, Try.ntmps30
  go_wp2_with fail
  refine XE.mono ?_; rintro e w1 ⟨⟨s1, h1, xa1, xn1, xc1, X1, rfl, q1, q2, q3⟩, hk1⟩
  have HQ := hide (And.intro q1 (And.intro q2 q3))
  obtain ⟨w2, e2⟩ : ∃ w2, w1.alloc (.cells #[.bool h1, .slice xa1 xn1 xc1] 64) = w2 := ⟨_, rfl⟩
  have k12 : Kp Nu w1 w2 := by rw [← e2]; exact Kp.alloc _ _ _
  have hD : w2.heap[w1.heap.size]? = some (.cells #[.bool h1, .slice xa1 xn1 xc1] 64 (0, 0)) := by rw [← e2]; exact heap_new _ _
  have k32 := hk1.andNu k12
  have KN := known54 w2 who seq k key hi lim st beg en has va oa ya vn vc on oc yn yc
  have H2 := hide (And.intro (box_k HW.out.1 k32) (And.intro (box_k HW.out.2.1 k32) (And.intro (box_k HW.out.2.2.1 k32) (And.intro hD (HW.out.2.2.2.1.andNu k32)))))
  clear XE a2 a3 a4 a5 a6 a7 a8 a9 a10 a11 a12 b0 b1 c0 c1 f0 f1 q1 q2 q3 hk1 k12 hD k32
  go_wp2_with (guard_target =~ wpList _ _ _ ({ dst := _, op := Op.load 30 (Operand.tmp 2), type := _, pos := _, after := _, guard := _ } :: _) _ _; refine wpList_load_all 30 13 (.tmp 2) rfl rfl info30 _ Try.underlying30 rfl _ rfl H2.out.1 rfl ?_)
  refine KN.mono ?_; rintro e w4 ⟨rfl, hk4⟩
  have hA := box_k H2.out.1 hk4
  have hB := box_k H2.out.2.1 hk4
  have hC := box_k H2.out.2.2.1 hk4
  have hD := box_k H2.out.2.2.2.1 hk4
  have a0 := cellAt hA 0 (v := .int .u8 who) rfl
  have a1 := cellAt hA 1 (v := .int .u64 seq) rfl
  have a2 := cellAt hA 2 (v := .int .u8 k) rfl
  have a3 := cellAt hA 3 (v := .int .u64 key) rfl
  have a4 := cellAt hA 4 (v := .int .u64 hi) rfl
  have a5 := cellAt hA 5 (v := .slice va vn vc) rfl
  have a6 := cellAt hA 6 (v := .slice oa on oc) rfl
  have a7 := cellAt hA 7 (v := .bool has) rfl
  have a8 := cellAt hA 8 (v := .int .u8 lim) rfl
  have a9 := cellAt hA 9 (v := .int .u8 st) rfl
  have a10 := cellAt hA 10 (v := .slice ya yn yc) rfl
  have a11 := cellAt hA 11 (v := .int .i64 beg) rfl
  have a12 := cellAt hA 12 (v := .int .i64 en) rfl
  have b0 := cellAt hB 0 (v := .bool h) rfl
  have b1 := cellAt hB 1 (v := .slice xa xn xc) rfl
  have c0 := cellAt hC 0 (v := .bool false) rfl
  have c1 := cellAt hC 1 (v := .slice none 0 0) rfl
  have d0 := cellAt hD 0 (v := .bool h1) rfl
  have d1 := cellAt hD 1 (v := .slice xa1 xn1 xc1) rfl
  have f0 := free3 hC 0
  have f1 := free3 hC 1
  have k4 := H2.out.2.2.2.2.andNu hk4
  have H4w := hide (And.intro hC (And.intro hD k4))
  have TL := (tells57 w4 h xa xn xc X Y who seq k key hi lim st beg en has va oa ya vn vc on oc yn yc (HW.out.2.2.2.2.1.nu k4) (HW.out.2.2.2.2.2.2.2.1.nu k4))
  have szD : w1.heap.size < w4.heap.size := blk_lt hD
  clear KN hk4 hA hB hC hD k4 e2 e3
  by_cases hen : en = -1
  · have hn : (en != -1) = false := by simpa using hen
    have HE := hide hen
    clear hen TL
    go_wp2_with fail
    go_region
    go_wp2
    have F2 := fin2 (n := 1) H4w.out.2.2 (Nat.le_add_right w.heap.size 2) H4w.out.1 (.bool h1) (.slice xa1 xn1 xc1)
    refine bodyPost_ret (results_tc rfl _ _ ⟨w.heap.size + 2, 0, none⟩ _ rfl (load64 F2.1)) rfl ?_
    refine ⟨⟨true, h1, xa1, xn1, xc1, X1, rfl, ?_, HQ.out.2.1, HQ.out.2.2, by simp⟩, F2.2⟩
    unfold stp
    rw [if_neg H4.out, ← HQ.out.1, HE.out]
    rfl
  have hn : (en != -1) = true := by simpa using hen
  have HE := hide hn
  clear hen
  by_cases hs : s1 = st
  · have es : (s1 == st) = true := by simpa using hs
    have HS := hide hs
    clear hs
    go_wp2_with fail
    refine TL.mono ?_; rintro e w5 ⟨rfl, hk5⟩
    have hC := box_k H4w.out.1 hk5
    have hD := box_k H4w.out.2.1 hk5
    have c0' := cellAt hC 0 (v := .bool false) rfl
    have c1' := cellAt hC 1 (v := .slice none 0 0) rfl
    have d0' := cellAt hD 0 (v := .bool h1) rfl
    have d1' := cellAt hD 1 (v := .slice xa1 xn1 xc1) rfl
    have f0' := free3 hC 0
    have f1' := free3 hC 1
    have H5 := hide (And.intro hC (H4w.out.2.2.andNu hk5))
    clear TL hC hD hk5 a0 a1 a2 a3 a4 a5 a6 a7 a8 a9 a10 a11 a12 b0 b1 c0 c1 d0 d1 f0 f1 szD
    cases ht : tlB k Y X with
    | true =>
      go_wp2_with fail
      go_region
      go_wp2
      have F2 := fin2 (n := 1) H5.out.2 (Nat.le_add_right w.heap.size 2) H5.out.1 (.bool h1) (.slice xa1 xn1 xc1)
      refine bodyPost_ret (results_tc rfl _ _ ⟨w.heap.size + 2, 0, none⟩ _ rfl (load64 F2.1)) rfl ?_
      refine ⟨⟨true, h1, xa1, xn1, xc1, X1, rfl, ?_, HQ.out.2.1, HQ.out.2.2, by simp⟩, F2.2⟩
      have hx := optD HW.out.2.2.2.2.2.2.2.2
      have ht' : k = 1 → Y = X := of_decide_eq_true ht
      unfold stp
      rw [if_neg H4.out, ← HQ.out.1, HE.out, hx]
      simp [HS.out]
      exact ht'
    | false =>
      go_wp2
      have F2 := fin2 (n := 0) H5.out.2 (Nat.le_add_right w.heap.size 2) H5.out.1 (.bool false) (.slice none 0 0)
      refine bodyPost_ret (results_tc rfl _ _ ⟨w.heap.size + 2, 0, none⟩ _ rfl (load64 F2.1)) rfl ?_
      refine ⟨⟨false, false, none, 0, 0, [], rfl, ?_, By.nil _, by simp, by simp⟩, F2.2⟩
      have hx := optD HW.out.2.2.2.2.2.2.2.2
      have ht' : ¬ (k = 1 → Y = X) := of_decide_eq_false ht
      unfold stp
      rw [if_neg H4.out, ← HQ.out.1, HE.out, hx]
      simp only [ht', and_false, if_false]
      rfl
  · have es : (s1 == st) = false := by simpa using hs
    have HS := hide hs
    clear hs TL
    go_wp2
    have F2 := fin2 (n := 0) H4w.out.2.2 (Nat.le_add_right w.heap.size 2) H4w.out.1 (.bool false) (.slice none 0 0)
    refine bodyPost_ret (results_tc rfl _ _ ⟨w.heap.size + 2, 0, none⟩ _ rfl (load64 F2.1)) rfl ?_
    refine ⟨⟨false, false, none, 0, 0, [], rfl, ?_, By.nil _, by simp, by simp⟩, F2.2⟩
    have hs := HS.out
    unfold stp
    rw [if_neg H4.out, ← HQ.out.1, HE.out]
    simp [hs]
end Go.Proofs.Ytcbonbeogdgogaa.Li
