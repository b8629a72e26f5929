import Derived.Test.YtcbonbeogdgogaaLiG
namespace Go.Proofs.Ytcbonbeogdgogaa.Li
open Go.RowKit
set_option linter.unusedVariables false
theorem fin6 {w W3 : World} {n b : Nat} {c0 c1 : Value} (k3 : Kp Nu w W3) (hb : w.heap.size ≤ b) (hC : W3.heap[b]? = some (.cells #[c0, c1] 60 (0, 0))) (u v : Value) :
    (((W3.drewN n).setCell ⟨b, 0, none⟩ u).setCell ⟨b, 1, none⟩ v).heap[b]? = some (.cells #[u, v] 60 (0, 0)) ∧ Kp Nu w (((W3.drewN n).setCell ⟨b, 0, none⟩ u).setCell ⟨b, 1, none⟩ v) := by
  refine ⟨set3 (set3 (w := W3.drewN n) hC 0 u) 1 v, ?_⟩
  exact ((k3.andNu (kp_dn _ _)).andSet ⟨b, 0, none⟩ u (.inl hb)).andSet ⟨b, 1, none⟩ v (.inl hb)
theorem load60 {w : World} {b : Nat} {u v : Value} (h : w.heap[b]? = some (.cells #[u, v] 60 (0, 0))) : (loadVar 60 ⟨b, 0, none⟩).run Try.prog w = .ok (.agg #[u, v]) w := run_loadVar_row w b 60 60 _ (0, 0) _ h Try.underlying60 rfl info60
theorem four (w : World) (A B C D : Obj) : ((((w.alloc A).alloc B).alloc C).alloc D).heap[w.heap.size]? = some A ∧ ((((w.alloc A).alloc B).alloc C).alloc D).heap[w.heap.size + 1]? = some B ∧ ((((w.alloc A).alloc B).alloc C).alloc D).heap[w.heap.size + 2]? = some C ∧ ((((w.alloc A).alloc B).alloc C).alloc D).heap[w.heap.size + 3]? = some D := by
  obtain ⟨h1, h2, h3⟩ := three w A B C
  refine ⟨(Below.heap_alloc _ _ _ (blk_lt h1)).trans h1, (Below.heap_alloc _ _ _ (blk_lt h2)).trans h2, (Below.heap_alloc _ _ _ (blk_lt h3)).trans h3, ?_⟩
  have := heap_new (((w.alloc A).alloc B).alloc C) D
  simp only [World.size_alloc] at this
  exact this
/-- what the document's answer says -/
def AnR (w0 : World) (k : Int) (has : Bool) (V O : List Int) (h : Bool) (X : List Int) (e : Ending) : Prop :=
  ∃ st h' a n c X', e = .returned (.tuple #[.int .i64 st, .agg #[.bool h', .slice a n c]]) ∧ (st, opt h' X') = exe k has V O (opt h X) ∧ (h' = true → By w0 (.slice a n c) X')
set_option maxRecDepth 100000 in
set_option maxHeartbeats 4000000 in
theorem answer51 (w0 w : World) (k0 : Kp Nu w0 w) (h : Bool) (xa : Option Addr) (xn xc : Nat) (X V O : List Int) (who seq k key hi lim st beg en : Int) (has : Bool) (va oa ya : Option Addr) (vn vc on oc yn yc : Nat) (rx0 : h = true → By w0 (.slice xa xn xc) X) (rv0 : By w0 (.slice va vn vc) V) (ro0 : By w0 (.slice oa on oc) O) :
    Calls Try.prog 51 #[.agg #[.int .u8 k, .int .u64 key, .int .u64 hi, .slice va vn vc, .slice oa on oc, .bool has, .int .u8 lim], .agg #[.bool h, .slice xa xn xc]] w fun e w' => AnR w0 k has V O h X e ∧ Kp Nu w w' := by
  obtain ⟨W4, e4⟩ : ∃ W4, (((w.alloc (.cells #[.int .u8 k, .int .u64 key, .int .u64 hi, .slice va vn vc, .slice oa on oc, .bool has, .int .u8 lim] 27)).alloc (.cells #[.bool h, .slice xa xn xc] 60)).alloc (.cells #[.bool false, .slice none 0 0] 60)).alloc (.cells #[.bool true, .slice va vn vc] 60) = W4 := ⟨_, rfl⟩
  obtain ⟨hA, hB, hC, hD⟩ : W4.heap[w.heap.size]? = _ ∧ W4.heap[w.heap.size + 1]? = _ ∧ W4.heap[w.heap.size + 2]? = _ ∧ W4.heap[w.heap.size + 3]? = _ := by rw [← e4]; exact four w _ _ _ _
  have k4 : Kp Nu w W4 := by rw [← e4]; exact (((Kp.alloc w _ Nu).andAlloc _).andAlloc _).andAlloc _
  have HW := hide (And.intro hC (And.intro hD (And.intro k4 (And.intro k0 (And.intro rx0 (And.intro rv0 ro0))))))
  have a0 := cellAt hA 0 (v := .int .u8 k) rfl
  have a4 := cellAt hA 4 (v := .slice oa on oc) rfl
  have a5 := cellAt hA 5 (v := .bool has) rfl
  have b0 := cellAt hB 0 (v := .bool h) rfl
  have b1 := cellAt hB 1 (v := .slice xa xn xc) rfl
  have c0 := cellAt hC 0 (v := .bool false) rfl
  have c1 := cellAt hC 1 (v := .slice none 0 0) rfl
  have d0 := cellAt hD 0 (v := .bool true) rfl
  have d1 := cellAt hD 1 (v := .slice va vn vc) rfl
  have f0 := free3 hC 0
  have f1 := free3 hC 1
  have HB4 := hide (And.intro hA hB)
  clear hA hB hC hD k4 rx0 rv0 ro0 k0
  by_cases hk2 : k = 2
  · have e2 : (k == 2) = true := by simpa using hk2
    have HKK := hide hk2
    clear hk2
    go_enter Try.func51, Try.ntmps51
    go_wp2_with fail
    go_region
    go_wp2
    have F2 := fin6 (n := 1) HW.out.2.2.1 (Nat.le_add_right w.heap.size 2) HW.out.1 (.bool true) (.slice va vn vc)
    refine bodyPost_ret (results_tc rfl _ _ ⟨w.heap.size + 2, 0, none⟩ _ rfl (load60 F2.1)) rfl ?_
    exact ⟨⟨1, true, va, vn, vc, V, rfl, by simp [exe, opt, HKK.out], fun _ => HW.out.2.2.2.2.2.1⟩, F2.2⟩
  have e2 : (k == 2) = false := by simpa using hk2
  by_cases hk3 : k = 3
  · have e3 : (k == 3) = true := by simpa using hk3
    have HKK := hide hk3
    clear hk3 hk2
    cases h with
    | true =>
      go_enter Try.func51, Try.ntmps51
      go_wp2
      have F2 := fin6 (n := 0) HW.out.2.2.1 (Nat.le_add_right w.heap.size 2) HW.out.1 (.bool false) (.slice none 0 0)
      refine bodyPost_ret (results_tc rfl _ _ ⟨w.heap.size + 2, 0, none⟩ _ rfl (load60 F2.1)) rfl ?_
      exact ⟨⟨1, false, none, 0, 0, [], rfl, by simp [exe, opt, HKK.out], by simp⟩, F2.2⟩
    | false =>
      go_enter Try.func51, Try.ntmps51
      go_wp2
      have F2 := fin6 (n := 0) HW.out.2.2.1 (Nat.le_add_right w.heap.size 2) HW.out.1 (.bool false) (.slice none 0 0)
      refine bodyPost_ret (results_tc rfl _ _ ⟨w.heap.size + 2, 0, none⟩ _ rfl (load60 F2.1)) rfl ?_
      exact ⟨⟨2, false, none, 0, 0, [], rfl, by simp [exe, opt, HKK.out], by simp⟩, F2.2⟩
  have e3 : (k == 3) = false := by simpa using hk3
  by_cases hk4 : k = 4
  · have e4' : (k == 4) = true := by simpa using hk4
    have HKK := hide hk4
    clear hk4 hk2 hk3
    cases h with
    | false =>
      cases has with
      | false =>
        go_enter Try.func51, Try.ntmps51
        go_wp2_with fail
        go_region
        go_wp2
        have F2 := fin6 (n := 1) HW.out.2.2.1 (Nat.le_add_right w.heap.size 2) HW.out.1 (.bool true) (.slice va vn vc)
        refine bodyPost_ret (results_tc rfl _ _ ⟨w.heap.size + 2, 0, none⟩ _ rfl (load60 F2.1)) rfl ?_
        exact ⟨⟨1, true, va, vn, vc, V, rfl, by simp [exe, opt, HKK.out], fun _ => HW.out.2.2.2.2.2.1⟩, F2.2⟩
      | true =>
        go_enter Try.func51, Try.ntmps51
        go_wp2_with fail
        go_region
        go_wp2
        have F2 := fin6 (n := 1) HW.out.2.2.1 (Nat.le_add_right w.heap.size 2) HW.out.1 (.bool false) (.slice xa xn xc)
        refine bodyPost_ret (results_tc rfl _ _ ⟨w.heap.size + 2, 0, none⟩ _ rfl (load60 F2.1)) rfl ?_
        exact ⟨⟨3, false, xa, xn, xc, X, rfl, by simp [exe, opt, HKK.out], by simp⟩, F2.2⟩
    | true =>
      cases has with
      | false =>
        go_enter Try.func51, Try.ntmps51
        go_wp2_with fail
        go_region
        go_wp2
        have F2 := fin6 (n := 1) HW.out.2.2.1 (Nat.le_add_right w.heap.size 2) HW.out.1 (.bool true) (.slice xa xn xc)
        refine bodyPost_ret (results_tc rfl _ _ ⟨w.heap.size + 2, 0, none⟩ _ rfl (load60 F2.1)) rfl ?_
        exact ⟨⟨3, true, xa, xn, xc, X, rfl, by simp [exe, opt, HKK.out], fun _ => HW.out.2.2.2.2.1 (by simp)⟩, F2.2⟩
      | true =>
        have rx := (HW.out.2.2.2.2.1 rfl).nu (HW.out.2.2.2.1.andNu HW.out.2.2.1)
        have ro := HW.out.2.2.2.2.2.2.nu (HW.out.2.2.2.1.andNu HW.out.2.2.1)
        have SM := same52 W4 _ _ X O rx.rd ro.rd rx.fit ro.fit
        clear rx ro
        go_enter Try.func51, Try.ntmps51
        go_wp2_with fail
        refine SM.mono ?_; rintro e w1 ⟨rfl, hk1⟩
        have gA := box_k HB4.out.1 hk1
        have gB := box_k HB4.out.2 hk1
        have gC := box_k HW.out.1 hk1
        have gD := box_k HW.out.2.1 hk1
        have p0 := cellAt gB 0 (v := .bool true) rfl
        have p1 := cellAt gB 1 (v := .slice xa xn xc) rfl
        have q0 := cellAt gC 0 (v := .bool false) rfl
        have q1 := cellAt gC 1 (v := .slice none 0 0) rfl
        have r0 := cellAt gD 0 (v := .bool true) rfl
        have r1 := cellAt gD 1 (v := .slice va vn vc) rfl
        have t0 := free3 gC 0
        have t1 := free3 gC 1
        have H1 := hide (And.intro gC (HW.out.2.2.1.andNu hk1))
        clear SM hk1 gA gB gC gD a0 a4 a5 b0 b1 c0 c1 d0 d1 f0 f1 e4
        by_cases hq : X = O
        · have hd : decide (X = O) = true := decide_eq_true hq
          have HQ := hide hq
          rw [hd]
          clear hq hd
          go_wp2_with fail
          go_region
          go_wp2
          have F2 := fin6 (n := 1) H1.out.2 (Nat.le_add_right w.heap.size 2) H1.out.1 (.bool true) (.slice va vn vc)
          refine bodyPost_ret (results_tc rfl _ _ ⟨w.heap.size + 2, 0, none⟩ _ rfl (load60 F2.1)) rfl ?_
          exact ⟨⟨1, true, va, vn, vc, V, rfl, by simp [exe, opt, HKK.out, HQ.out], fun _ => HW.out.2.2.2.2.2.1⟩, F2.2⟩
        · have hd : decide (X = O) = false := decide_eq_false hq
          have HQ := hide hq
          rw [hd]
          clear hq hd
          go_wp2_with fail
          go_region
          go_wp2
          have F2 := fin6 (n := 1) H1.out.2 (Nat.le_add_right w.heap.size 2) H1.out.1 (.bool true) (.slice xa xn xc)
          refine bodyPost_ret (results_tc rfl _ _ ⟨w.heap.size + 2, 0, none⟩ _ rfl (load60 F2.1)) rfl ?_
          exact ⟨⟨3, true, xa, xn, xc, X, rfl, by simp [exe, opt, HKK.out, HQ.out], fun _ => HW.out.2.2.2.2.1 (by simp)⟩, F2.2⟩
  have e4' : (k == 4) = false := by simpa using hk4
  have HKK := hide (And.intro hk2 (And.intro hk3 hk4))
  clear hk2 hk3 hk4
  cases h with
  | true =>
    go_enter Try.func51, Try.ntmps51
    go_wp2_with fail
    go_region
    go_wp2
    have F2 := fin6 (n := 1) HW.out.2.2.1 (Nat.le_add_right w.heap.size 2) HW.out.1 (.bool true) (.slice xa xn xc)
    refine bodyPost_ret (results_tc rfl _ _ ⟨w.heap.size + 2, 0, none⟩ _ rfl (load60 F2.1)) rfl ?_
    exact ⟨⟨1, true, xa, xn, xc, X, rfl, by simp [exe, opt, HKK.out], fun _ => HW.out.2.2.2.2.1 (by simp)⟩, F2.2⟩
  | false =>
    go_enter Try.func51, Try.ntmps51
    go_wp2_with fail
    go_region
    go_wp2
    have F2 := fin6 (n := 1) HW.out.2.2.1 (Nat.le_add_right w.heap.size 2) HW.out.1 (.bool false) (.slice xa xn xc)
    refine bodyPost_ret (results_tc rfl _ _ ⟨w.heap.size + 2, 0, none⟩ _ rfl (load60 F2.1)) rfl ?_
    exact ⟨⟨2, false, xa, xn, xc, X, rfl, by simp [exe, opt, HKK.out], by simp⟩, F2.2⟩
end Go.Proofs.Ytcbonbeogdgogaa.Li
