import Derived.Test.YtcbonbeogdgogaaLiH
namespace Go.Proofs.Ytcbonbeogdgogaa.Li
open Go.RowKit
set_option linter.unusedVariables false
theorem MB.st8 {k st beg en : Int} {has : Bool} {yn : Nat} (h : MB k st beg en has yn) : 0 ≤ st ∧ st ≤ 4 := by
  rcases h.out with ⟨_, h, _⟩ | ⟨_, h, _⟩
  · omega
  · unfold Mans at h; omega
theorem wrap8 {x : Int} (h0 : 0 ≤ x) (h1 : x ≤ 4) : IntKind.i64.wrap x = x := by
  simp only [IntKind.wrap, IntKind.signed, IntKind.bits]
  first | omega | (simp; omega)
theorem By.len {w : World} {a : Option Addr} {n c : Nat} {X : List Int} (h : By w (.slice a n c) X) : n = X.length := by
  obtain ⟨a', c', e⟩ := h.rd.slice
  simp only [Value.slice.injEq] at e
  exact e.2.1
/-- what the document's Play says -/
def PlR (w0 : World) (r : Option (Option (List Int))) (e : Ending) : Prop :=
  ∃ can h' a n c X', e = .returned (.tuple #[.bool can, .agg #[.bool h', .slice a n c]]) ∧ can = r.isSome ∧ (can = true → r = some (opt h' X') ∧ (h' = true → By w0 (.slice a n c) X'))
set_option maxRecDepth 100000 in
set_option maxHeartbeats 4000000 in
theorem play26 (w0 w : World) (k0 : Kp Nu w0 w) (h : Bool) (xa : Option Addr) (xn xc : Nat) (X V O Y : List Int) (who seq k key hi lim st beg en : Int) (has : Bool) (va oa ya : Option Addr) (vn vc on oc yn yc : Nat) (hMB : MB k st beg en has yn) (rx0 : h = true → By w0 (.slice xa xn xc) X) (rv0 : By w0 (.slice va vn vc) V) (ro0 : By w0 (.slice oa on oc) O) (ry0 : By w0 (.slice ya yn yc) Y) :
    Calls Try.prog 26 #[.agg #[.int .u8 who, .int .u64 seq, .int .u8 k, .int .u64 key, .int .u64 hi, .slice va vn vc, .slice oa on oc, .bool has, .int .u8 lim, .int .u8 st, .slice ya yn yc, .int .i64 beg, .int .i64 en], .agg #[.bool h, .slice xa xn xc]] w fun e w' => PlR w0 (stp k st (en != -1) has V O Y (opt h X)) e ∧ Kp Nu w w' := by
  obtain ⟨W3, e3⟩ : ∃ W3, ((w.alloc (.cells #[.int .u8 who, .int .u64 seq, .int .u8 k, .int .u64 key, .int .u64 hi, .slice va vn vc, .slice oa on oc, .bool has, .int .u8 lim, .int .u8 st, .slice ya yn yc, .int .i64 beg, .int .i64 en] 30)).alloc (.cells #[.bool h, .slice xa xn xc] 60)).alloc (.cells #[.bool false, .slice none 0 0] 60) = W3 := ⟨_, rfl⟩
  obtain ⟨hA, hB, hC⟩ : W3.heap[w.heap.size]? = _ ∧ W3.heap[w.heap.size + 1]? = _ ∧ W3.heap[w.heap.size + 2]? = _ := by rw [← e3]; exact three w _ _ _
  have k3 : Kp Nu w W3 := by rw [← e3]; exact ((Kp.alloc w _ Nu).andAlloc _).andAlloc _
  have hyl := ry0.len
  have ews := wrap8 hMB.st8.1 hMB.st8.2
  have HW := hide (And.intro hA (And.intro hB (And.intro hC (And.intro k3 (And.intro k0 (And.intro rx0 (And.intro ry0 (And.intro hMB hyl))))))))
  have a2 := cellAt hA 2 (v := .int .u8 k) rfl
  have a3 := cellAt hA 3 (v := .int .u64 key) rfl
  have a4 := cellAt hA 4 (v := .int .u64 hi) rfl
  have a5 := cellAt hA 5 (v := .slice va vn vc) rfl
  have a6 := cellAt hA 6 (v := .slice oa on oc) rfl
  have a7 := cellAt hA 7 (v := .bool has) rfl
  have a8 := cellAt hA 8 (v := .int .u8 lim) rfl
  have a9 := cellAt hA 9 (v := .int .u8 st) rfl
  have a10 := cellAt hA 10 (v := .slice ya yn yc) rfl
  have a11 := cellAt hA 11 (v := .int .i64 beg) rfl
  have a12 := cellAt hA 12 (v := .int .i64 en) rfl
  have b0 := cellAt hB 0 (v := .bool h) rfl
  have b1 := cellAt hB 1 (v := .slice xa xn xc) rfl
  have AN := (answer51 w0 W3 (k0.andNu k3) h xa xn xc X V O who seq k key hi lim st beg en has va oa ya vn vc on oc yn yc rx0 rv0 ro0)
  clear hA hB hC k3 rx0 rv0 ro0 ry0 k0 hMB hyl
  go_enter Try.func26, Try.ntmps26
  go_wp2_with fail
  refine AN.mono ?_; rintro e w1 ⟨⟨s1, h1, xa1, xn1, xc1, X1, rfl, q1, q2⟩, hk1⟩
  have HQ := hide (And.intro q1 q2)
  obtain ⟨w2, e2⟩ : ∃ w2, w1.alloc (.cells #[.bool h1, .slice xa1 xn1 xc1] 60) = w2 := ⟨_, rfl⟩
  have k12 : Kp Nu w1 w2 := by rw [← e2]; exact Kp.alloc _ _ _
  have hD : w2.heap[w1.heap.size]? = some (.cells #[.bool h1, .slice xa1 xn1 xc1] 60 (0, 0)) := by rw [← e2]; exact heap_new _ _
  have k32 := hk1.andNu k12
  have KN := known50 w2 who seq k key hi lim st beg en has va oa ya vn vc on oc yn yc
  have H2 := hide (And.intro (box_k HW.out.1 k32) (And.intro (box_k HW.out.2.1 k32) (And.intro (box_k HW.out.2.2.1 k32) (And.intro hD (HW.out.2.2.2.1.andNu k32)))))
  clear AN a2 a3 a4 a5 a6 a7 a8 a9 a10 a11 a12 b0 b1 q1 q2 hk1 k12 hD k32
  go_wp2_with (guard_target =~ wpList _ _ _ ({ dst := _, op := Op.load 30 (Operand.tmp 2), type := _, pos := _, after := _, guard := _ } :: _) _ _; refine wpList_load_all 30 13 (.tmp 2) rfl rfl info30 _ Try.underlying30 rfl _ rfl H2.out.1 rfl ?_)
  refine KN.mono ?_; rintro e w4 ⟨rfl, hk4⟩
  have hA := box_k H2.out.1 hk4
  have hB := box_k H2.out.2.1 hk4
  have hC := box_k H2.out.2.2.1 hk4
  have hD := box_k H2.out.2.2.2.1 hk4
  have a0 := cellAt hA 0 (v := .int .u8 who) rfl
  have a1 := cellAt hA 1 (v := .int .u64 seq) rfl
  have a2 := cellAt hA 2 (v := .int .u8 k) rfl
  have a3 := cellAt hA 3 (v := .int .u64 key) rfl
  have a4 := cellAt hA 4 (v := .int .u64 hi) rfl
  have a5 := cellAt hA 5 (v := .slice va vn vc) rfl
  have a6 := cellAt hA 6 (v := .slice oa on oc) rfl
  have a7 := cellAt hA 7 (v := .bool has) rfl
  have a8 := cellAt hA 8 (v := .int .u8 lim) rfl
  have a9 := cellAt hA 9 (v := .int .u8 st) rfl
  have a10 := cellAt hA 10 (v := .slice ya yn yc) rfl
  have a11 := cellAt hA 11 (v := .int .i64 beg) rfl
  have a12 := cellAt hA 12 (v := .int .i64 en) rfl
  have b0 := cellAt hB 0 (v := .bool h) rfl
  have b1 := cellAt hB 1 (v := .slice xa xn xc) rfl
  have c0 := cellAt hC 0 (v := .bool false) rfl
  have c1 := cellAt hC 1 (v := .slice none 0 0) rfl
  have d0 := cellAt hD 0 (v := .bool h1) rfl
  have d1 := cellAt hD 1 (v := .slice xa1 xn1 xc1) rfl
  have f0 := free3 hC 0
  have f1 := free3 hC 1
  have k4 := H2.out.2.2.2.2.andNu hk4
  have H4w := hide (And.intro hC (And.intro hD k4))
  have szD : w1.heap.size < w4.heap.size := blk_lt hD
  clear KN hk4 hA hB hC hD k4 e2 e3
  by_cases hen : en = -1
  · have hn : (en != -1) = false := by simpa using hen
    have HE := hide hen
    clear hen
    go_wp2_with fail
    go_region
    go_wp2
    have F2 := fin6 (n := 1) H4w.out.2.2 (Nat.le_add_right w.heap.size 2) H4w.out.1 (.bool h1) (.slice xa1 xn1 xc1)
    refine bodyPost_ret (results_tc rfl _ _ ⟨w.heap.size + 2, 0, none⟩ _ rfl (load60 F2.1)) rfl ?_
    have h4 : ¬ st = 4 := by
      have := HW.out.2.2.2.2.2.2.2.1.out
      have := HE.out
      have := HW.out.2.2.2.2.2.2.2.1.at_
      omega
    have hr : stp k st (en != -1) has V O Y (opt h X) = some (opt h1 X1) := by
      unfold stp
      rw [if_neg h4, ← HQ.out.1, HE.out]
      rfl
    exact ⟨⟨true, h1, xa1, xn1, xc1, X1, rfl, by rw [hr]; rfl, fun _ => ⟨hr, HQ.out.2⟩⟩, F2.2⟩
  have hn : (en != -1) = true := by simpa using hen
  have HE := hide (And.intro hen hn)
  clear hen
  by_cases h4 : st = 4
  · have e4 : (st == 4) = true := by simpa using h4
    have H4 := hide h4
    clear h4
    cases h with
    | true =>
      go_wp2_with fail
      go_region
      go_wp2
      have F2 := fin6 (n := 1) H4w.out.2.2 (Nat.le_add_right w.heap.size 2) H4w.out.1 (.bool true) (.slice xa xn xc)
      refine bodyPost_ret (results_tc rfl _ _ ⟨w.heap.size + 2, 0, none⟩ _ rfl (load60 F2.1)) rfl ?_
      have hr : stp k st (en != -1) has V O Y (opt true X) = none := by simp [stp, H4.out, opt]
      exact ⟨⟨false, true, xa, xn, xc, X, rfl, by rw [hr]; rfl, by simp⟩, F2.2⟩
    | false =>
      have hs1 : s1 = 1 := by
        have hm := HW.out.2.2.2.2.2.2.2.1.out
        have he := HE.out.1
        have h4 := H4.out
        have hq := congrArg Prod.fst HQ.out.1
        unfold Mans at hm
        have hkk : k = 2 ∨ k = 4 ∧ has = false := by
          rcases hm with hm | ⟨_, hm, _⟩
          · exact absurd hm.1 he
          · rcases hm with hm | ⟨hm, _⟩ | ⟨hm, _⟩ | ⟨_, hm⟩
            · omega
            · omega
            · omega
            · exact hm
        rcases hkk with hkk | ⟨hkk, hh⟩
        · simpa [exe, hkk] using hq
        · simpa [exe, hkk, hh, opt] using hq
      have es : (s1 == 1) = true := by simpa using hs1
      clear hs1
      go_wp2_with fail
      go_region
      go_wp2
      have F2 := fin6 (n := 1) H4w.out.2.2 (Nat.le_add_right w.heap.size 2) H4w.out.1 (.bool false) (.slice xa xn xc)
      refine bodyPost_ret (results_tc rfl _ _ ⟨w.heap.size + 2, 0, none⟩ _ rfl (load60 F2.1)) rfl ?_
      have hr : stp k st (en != -1) has V O Y (opt false X) = some none := by simp [stp, H4.out, opt]
      exact ⟨⟨true, false, xa, xn, xc, X, rfl, by rw [hr]; rfl, fun _ => ⟨hr, by simp⟩⟩, F2.2⟩
  have e4 : (st == 4) = false := by simpa using h4
  have H4 := hide h4
  clear h4
  by_cases hs : st = s1
  · have es : (st != s1) = false := by simpa using hs
    have HS := hide hs
    clear hs
    by_cases hk1 : k = 1
    · have ek : (k == 1) = true := by simpa using hk1
      have HKK := hide hk1
      clear hk1
      by_cases hs1 : s1 = 1
      · have e1 : (s1 == 1) = true := by simpa using hs1
        have H1 := hide hs1
        clear hs1
        cases h with
        | false =>
          exfalso
          have hq := congrArg Prod.fst HQ.out.1
          have := H1.out
          simp [exe, HKK.out, opt] at hq
          omega
        | true =>
        have kk4 := HW.out.2.2.2.2.1.andNu H4w.out.2.2
        have rx := (HW.out.2.2.2.2.2.1 (by simp)).nu kk4
        have ry := HW.out.2.2.2.2.2.2.1.nu kk4
        have SM := same52 w4 _ _ X Y rx.rd ry.rd rx.fit ry.fit
        clear rx ry kk4
        go_wp2_with fail
        refine SM.mono ?_; rintro e w5 ⟨rfl, hk5⟩
        have hC := box_k H4w.out.1 hk5
        have hD := box_k H4w.out.2.1 hk5
        have c0' := cellAt hC 0 (v := .bool false) rfl
        have c1' := cellAt hC 1 (v := .slice none 0 0) rfl
        have d0' := cellAt hD 0 (v := .bool h1) rfl
        have d1' := cellAt hD 1 (v := .slice xa1 xn1 xc1) rfl
        have f0' := free3 hC 0
        have f1' := free3 hC 1
        have H5 := hide (And.intro hC (H4w.out.2.2.andNu hk5))
        clear SM hC hD hk5 a0 a1 a2 a3 a4 a5 a6 a7 a8 a9 a10 a11 a12 b0 b1 c0 c1 d0 d1 f0 f1 szD
        by_cases hq : X = Y
        · have hd : decide (X = Y) = true := decide_eq_true hq
          have HXY := hide hq
          rw [hd]
          clear hq hd
          go_wp2_with fail
          go_region
          go_wp2
          have F2 := fin6 (n := 1) H5.out.2 (Nat.le_add_right w.heap.size 2) H5.out.1 (.bool h1) (.slice xa1 xn1 xc1)
          refine bodyPost_ret (results_tc rfl _ _ ⟨w.heap.size + 2, 0, none⟩ _ rfl (load60 F2.1)) rfl ?_
          have hr : stp k st (en != -1) has V O Y (opt true X) = some (opt h1 X1) := by
            have hc : k = 1 → Y = (opt true X).getD [] := fun _ => by rw [HXY.out]; rfl
            unfold stp
            rw [if_neg H4.out, ← HQ.out.1, HE.out.2]
            have hs := HS.out
            simp [hs]
            simpa using hc
          exact ⟨⟨true, h1, xa1, xn1, xc1, X1, rfl, by rw [hr]; rfl, fun _ => ⟨hr, HQ.out.2⟩⟩, F2.2⟩
        · have hd : decide (X = Y) = false := decide_eq_false hq
          have HXY := hide hq
          rw [hd]
          clear hq hd
          go_wp2
          have F2 := fin6 (n := 0) H5.out.2 (Nat.le_add_right w.heap.size 2) H5.out.1 (.bool false) (.slice none 0 0)
          refine bodyPost_ret (results_tc rfl _ _ ⟨w.heap.size + 2, 0, none⟩ _ rfl (load60 F2.1)) rfl ?_
          have hr : stp k st (en != -1) has V O Y (opt true X) = none := by
            have hq := HXY.out
            unfold stp
            rw [if_neg H4.out, ← HQ.out.1, HE.out.2]
            simp [opt]
            intro _
            exact ⟨HKK.out, fun e => hq e.symm⟩
          exact ⟨⟨false, false, none, 0, 0, [], rfl, by rw [hr]; rfl, by simp⟩, F2.2⟩
      · have e1 : (s1 == 1) = false := by simpa using hs1
        have H1 := hide hs1
        clear hs1
        have HN : Hid (k = 1 → Y = (opt h X).getD []) := hide (fun _ => by
          have hs1 := H1.out
          have hss := HS.out
          have hyn : yn = 0 := by
            rcases HW.out.2.2.2.2.2.2.2.1.out with ⟨_, _, q⟩ | ⟨_, _, q | ⟨_, q⟩⟩
            · exact q
            · exact q
            · omega
          have hyl := HW.out.2.2.2.2.2.2.2.2
          have hY : Y = [] := List.eq_nil_of_length_eq_zero (by omega)
          cases h with
          | false => rw [hY]; rfl
          | true =>
            exfalso
            have hq := congrArg Prod.fst HQ.out.1
            simp [exe, HKK.out, opt] at hq
            omega)
        go_wp2_with fail
        go_region
        go_wp2
        have F2 := fin6 (n := 1) H4w.out.2.2 (Nat.le_add_right w.heap.size 2) H4w.out.1 (.bool h1) (.slice xa1 xn1 xc1)
        refine bodyPost_ret (results_tc rfl _ _ ⟨w.heap.size + 2, 0, none⟩ _ rfl (load60 F2.1)) rfl ?_
        have hr : stp k st (en != -1) has V O Y (opt h X) = some (opt h1 X1) := by
          have hc : k = 1 → Y = (opt h X).getD [] := HN.out
          unfold stp
          rw [if_neg H4.out, ← HQ.out.1, HE.out.2]
          have hs := HS.out
          simp [hs]
          simpa using hc
        exact ⟨⟨true, h1, xa1, xn1, xc1, X1, rfl, by rw [hr]; rfl, fun _ => ⟨hr, HQ.out.2⟩⟩, F2.2⟩
    · have ek : (k == 1) = false := by simpa using hk1
      have HKK := hide hk1
      clear hk1
      go_wp2_with fail
      go_region
      go_wp2
      have F2 := fin6 (n := 1) H4w.out.2.2 (Nat.le_add_right w.heap.size 2) H4w.out.1 (.bool h1) (.slice xa1 xn1 xc1)
      refine bodyPost_ret (results_tc rfl _ _ ⟨w.heap.size + 2, 0, none⟩ _ rfl (load60 F2.1)) rfl ?_
      have hr : stp k st (en != -1) has V O Y (opt h X) = some (opt h1 X1) := by
        have hc : k = 1 → Y = (opt h X).getD [] := fun q => absurd q HKK.out
        unfold stp
        rw [if_neg H4.out, ← HQ.out.1, HE.out.2]
        have hs := HS.out
        simp [hs]
        simpa using hc
      exact ⟨⟨true, h1, xa1, xn1, xc1, X1, rfl, by rw [hr]; rfl, fun _ => ⟨hr, HQ.out.2⟩⟩, F2.2⟩
  · have es : (st != s1) = true := by simpa using hs
    have HS := hide hs
    clear hs
    go_wp2
    have F2 := fin6 (n := 0) H4w.out.2.2 (Nat.le_add_right w.heap.size 2) H4w.out.1 (.bool false) (.slice none 0 0)
    refine bodyPost_ret (results_tc rfl _ _ ⟨w.heap.size + 2, 0, none⟩ _ rfl (load60 F2.1)) rfl ?_
    have hr : stp k st (en != -1) has V O Y (opt h X) = none := by
      have hs := HS.out
      unfold stp
      rw [if_neg H4.out, ← HQ.out.1, HE.out.2]
      simp
      intro q
      exact absurd q.symm hs
    exact ⟨⟨false, false, none, 0, 0, [], rfl, by rw [hr]; rfl, by simp⟩, F2.2⟩
end Go.Proofs.Ytcbonbeogdgogaa.Li
