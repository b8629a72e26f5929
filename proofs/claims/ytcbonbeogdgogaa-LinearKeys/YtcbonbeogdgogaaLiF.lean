import Derived.Test.YtcbonbeogdgogaaLiE
namespace Go.Proofs.Ytcbonbeogdgogaa.Li
open Go.RowKit
set_option linter.unusedVariables false
/-- what execute answers -/
def ExR (w0 : World) (k : Int) (has : Bool) (V O : List Int) (h : Bool) (X : List Int) (e : Ending) : Prop :=
  ∃ st h' a n c X', e = .returned (.tuple #[.int .u8 st, .agg #[.bool h', .slice a n c]]) ∧ (st, opt h' X') = exe k has V O (opt h X) ∧ By w0 (.slice a n c) X' ∧ (h' = false → X' = [])
theorem fin2 {w W3 : World} {n b : Nat} {c0 c1 : Value} (k3 : Kp Nu w W3) (hb : w.heap.size ≤ b) (hC : W3.heap[b]? = some (.cells #[c0, c1] 64 (0, 0))) (u v : Value) :
    (((W3.drewN n).setCell ⟨b, 0, none⟩ u).setCell ⟨b, 1, none⟩ v).heap[b]? = some (.cells #[u, v] 64 (0, 0)) ∧ Kp Nu w (((W3.drewN n).setCell ⟨b, 0, none⟩ u).setCell ⟨b, 1, none⟩ v) := by
  refine ⟨set3 (set3 (w := W3.drewN n) hC 0 u) 1 v, ?_⟩
  exact ((k3.andNu (kp_dn _ _)).andSet ⟨b, 0, none⟩ u (.inl hb)).andSet ⟨b, 1, none⟩ v (.inl hb)
theorem load64 {w : World} {b : Nat} {u v : Value} (h : w.heap[b]? = some (.cells #[u, v] 64 (0, 0))) : (loadVar 64 ⟨b, 0, none⟩).run Try.prog w = .ok (.agg #[u, v]) w := run_loadVar_row w b 64 64 _ (0, 0) _ h Try.underlying64 rfl info64
set_option maxRecDepth 100000 in
set_option maxHeartbeats 4000000 in
theorem execute56 (w0 w : World) (k0 : Kp Nu w0 w) (h : Bool) (xa : Option Addr) (xn xc : Nat) (X V O : List Int) (who seq k key hi lim st beg en : Int) (has : Bool) (va oa ya : Option Addr) (vn vc on oc yn yc : Nat) (rx0 : By w0 (.slice xa xn xc) X) (rv0 : By w0 (.slice va vn vc) V) (ro0 : By w0 (.slice oa on oc) O) (hX : h = false → X = []) :
    Calls Try.prog 56 #[.agg #[.int .u8 k, .int .u64 key, .int .u64 hi, .slice va vn vc, .slice oa on oc, .bool has, .int .u8 lim], .agg #[.bool h, .slice xa xn xc]] w fun e w' => ExR w0 k has V O h X e ∧ Kp Nu w w' := by
  have rx := rx0.nu k0
  have rv := rv0.nu k0
  have ro := ro0.nu k0
  have H0 := hide (And.intro rx0 (And.intro rv0 ro0))
  have mixed : Try.prog.follows .mixedOrders = true := by kernel_rfl
  have FU := fun W => full29 W va vn vc
  obtain ⟨W3, e3⟩ : ∃ W3, ((w.alloc (.cells #[.int .u8 k, .int .u64 key, .int .u64 hi, .slice va vn vc, .slice oa on oc, .bool has, .int .u8 lim] 27)).alloc (.cells #[.bool h, .slice xa xn xc] 64)).alloc (.cells #[.bool false, .slice none 0 0] 64) = W3 := ⟨_, rfl⟩
  obtain ⟨hA, hB, hC⟩ : W3.heap[w.heap.size]? = _ ∧ W3.heap[w.heap.size + 1]? = _ ∧ W3.heap[w.heap.size + 2]? = _ := by rw [← e3]; exact three w _ _ _
  have k3 : Kp Nu w W3 := by rw [← e3]; exact ((Kp.alloc w _ Nu).andAlloc _).andAlloc _
  have HW := hide (And.intro hA (And.intro hB (And.intro hC (And.intro k3 (And.intro rx (And.intro rv (And.intro ro hX)))))))
  have a0 := cellAt hA 0 (v := .int .u8 k) rfl
  have a3 := cellAt hA 3 (v := .slice va vn vc) rfl
  have b0 := cellAt hB 0 (v := .bool h) rfl
  have b1 := cellAt hB 1 (v := .slice xa xn xc) rfl
  have c0 := cellAt hC 0 (v := .bool false) rfl
  have c1 := cellAt hC 1 (v := .slice none 0 0) rfl
  have f0 := free3 hC 0
  have f1 := free3 hC 1
  clear hA hB hC k3 rx rv ro hX rx0 rv0 ro0 k0
  by_cases hk2 : k = 2
  · have e2 : (k == 2) = true := by simpa using hk2
    have HKK := hide hk2
    clear hk2
    go_enter Try.func56, Try.ntmps56
    go_wp2_with fail
    refine (FU _).mono ?_; rintro e w1 ⟨rfl, hk1⟩
    have B1 := box_k HW.out.2.2.1 hk1
    have x0 := cellAt B1 0 (v := .bool false) rfl
    have x1 := cellAt B1 1 (v := .slice none 0 0) rfl
    have y0 := free3 B1 0
    have y1 := free3 B1 1
    have HB := hide B1
    have HK := hide (HW.out.2.2.2.1.andNu hk1)
    clear FU hk1 B1 a0 a3 b0 b1 c0 c1 f0 f1
    go_wp2
    refine bodyPost_ret (results_tc rfl _ _ ⟨w.heap.size + 2, 0, none⟩ _ rfl (run_loadVar_row _ (w.heap.size + 2) 64 64 _ (0, 0) _ (set3 (set3 HB.out 0 _) 1 _) Try.underlying64 rfl info64)) rfl ?_
    have KF := (HK.out.andSet ⟨w.heap.size + 2, 0, none⟩ (.bool true) (.inl (by simp))).andSet ⟨w.heap.size + 2, 1, none⟩ (.slice va vn vc) (.inl (by simp))
    exact ⟨⟨1, true, va, vn, vc, V, rfl, by simp [exe, opt, HKK.out], H0.out.2.1, by simp⟩, KF⟩
  have e2 : (k == 2) = false := by simpa using hk2
  by_cases hk4 : k = 4
  · have e4 : (k == 4) = true := by simpa using hk4
    have HKK := hide hk4
    clear hk4 hk2
    cases has with
    | false =>
      have EX := fun Z (q : Kp Nu W3 Z) => (expected84_f Z who seq k key hi lim st beg en false va oa ya vn vc on oc yn yc rfl).mono (fun e w' h => (⟨h.1, q.andNu h.2⟩ : e = .returned (.agg #[.bool false, .slice none 0 0]) ∧ Kp Nu W3 w'))
      have IS := fun Z (q : Kp Nu W3 Z) => (is83 Z h false xa (none) xn xc 0 0 X [] (HW.out.2.2.2.2.1.nu (HW.out.2.2.2.1.andNu q)) (By.nil Z)).mono (fun e w' r => (⟨r.1, q.andNu r.2⟩ : e = .returned (.bool (isB h false X [])) ∧ Kp Nu W3 w'))
      have HS : ∀ Z, Kp Nu W3 Z → (Z.cell? ⟨w.heap.size, 0, none⟩ = some (.int .u8 k) ∧ Z.cell? ⟨w.heap.size, 1, none⟩ = some (.int .u64 key) ∧ Z.cell? ⟨w.heap.size, 2, none⟩ = some (.int .u64 hi) ∧ Z.cell? ⟨w.heap.size, 3, none⟩ = some (.slice va vn vc) ∧ Z.cell? ⟨w.heap.size, 4, none⟩ = some (.slice oa on oc) ∧ Z.cell? ⟨w.heap.size, 5, none⟩ = some (.bool false) ∧ Z.cell? ⟨w.heap.size, 6, none⟩ = some (.int .u8 lim) ∧ Z.cell? ⟨w.heap.size + 1, 0, none⟩ = some (.bool h) ∧ Z.cell? ⟨w.heap.size + 1, 1, none⟩ = some (.slice xa xn xc)) := fun Z q => by
        have gA := box_k HW.out.1 q
        have gB := box_k HW.out.2.1 q
        exact ⟨cellAt gA 0 rfl, cellAt gA 1 rfl, cellAt gA 2 rfl, cellAt gA 3 rfl, cellAt gA 4 rfl, cellAt gA 5 rfl, cellAt gA 6 rfl, cellAt gB 0 rfl, cellAt gB 1 rfl⟩
      obtain ⟨a0', a1, a2, a3', a4, a5, a6, b0', b1'⟩ := HS W3 (Kp.refl _ _)
      go_enter Try.func56, Try.ntmps56
      go_wp2_with fail
      go_region_held3 (fun Z => Z.cell? ⟨w.heap.size, 0, none⟩ = some (.int .u8 k) ∧ Z.cell? ⟨w.heap.size, 1, none⟩ = some (.int .u64 key) ∧ Z.cell? ⟨w.heap.size, 2, none⟩ = some (.int .u64 hi) ∧ Z.cell? ⟨w.heap.size, 3, none⟩ = some (.slice va vn vc) ∧ Z.cell? ⟨w.heap.size, 4, none⟩ = some (.slice oa on oc) ∧ Z.cell? ⟨w.heap.size, 5, none⟩ = some (.bool false) ∧ Z.cell? ⟨w.heap.size, 6, none⟩ = some (.int .u8 lim) ∧ Z.cell? ⟨w.heap.size + 1, 0, none⟩ = some (.bool h) ∧ Z.cell? ⟨w.heap.size + 1, 1, none⟩ = some (.slice xa xn xc)) (first | (exact ⟨by assumption, by assumption, by assumption, by assumption, by assumption, by assumption, by assumption, by assumption, by assumption⟩) | (refine HS _ ?_; (repeat (first | assumption | exact Kp.refl _ _ | apply Kp.drew)); done)) (first | (go_at_call 84; refine (EX _ ?_).mono ?_; (repeat (first | assumption | exact Kp.refl _ _ | apply Kp.drew)); rintro e w6 ⟨rfl, hk6⟩) | (go_at_call 83; refine (IS _ ?_).mono ?_; (first | assumption); rintro e w7 ⟨rfl, hk7⟩))
      have HK7 := hide (HW.out.2.2.2.1.andNu hk7)
      have g7 := box_k HW.out.2.2.1 hk7
      have z0 := cellAt (box_k HW.out.1 hk7) 0 (v := .int .u8 k) rfl
      have z3 := cellAt (box_k HW.out.1 hk7) 3 (v := .slice va vn vc) rfl
      have y0 := cellAt (box_k HW.out.2.1 hk7) 0 (v := .bool h) rfl
      have y1 := cellAt (box_k HW.out.2.1 hk7) 1 (v := .slice xa xn xc) rfl
      have x0 := cellAt g7 0 (v := .bool false) rfl
      have x1 := cellAt g7 1 (v := .slice none 0 0) rfl
      have t0 := free3 g7 0
      have t1 := free3 g7 1
      have HG := hide g7
      clear EX IS HS a0 a3 b0 b1 c0 c1 f0 f1 a0' a1 a2 a3' a4 a5 a6 b0' b1' g7 hk6 hk7 e3
      by_cases hq : h = false ∧ X = []
      · have hd : isB h false X [] = true := decide_eq_true hq
        have HQ := hide hq
        rw [hd]
        clear hq hd
        go_wp2_with fail
        refine (FU _).mono ?_; rintro e w1 ⟨rfl, hk1⟩
        have B1 := box_k HG.out hk1
        have u0 := cellAt B1 0 (v := .bool false) rfl
        have u1 := cellAt B1 1 (v := .slice none 0 0) rfl
        have v0 := free3 B1 0
        have v1 := free3 B1 1
        have HB := hide B1
        have HK := hide (HK7.out.andNu hk1)
        clear FU hk1 B1 z0 z3 y0 y1 x0 x1 t0 t1
        go_wp2
        have F2 := fin2 (n := 0) HK.out (Nat.le_add_right w.heap.size 2) HB.out (.bool true) (.slice va vn vc)
        refine bodyPost_ret (results_tc rfl _ _ ⟨w.heap.size + 2, 0, none⟩ _ rfl (load64 F2.1)) rfl ?_
        refine ⟨⟨1, true, va, vn, vc, V, rfl, ?_, H0.out.2.1, by simp⟩, F2.2⟩
        obtain ⟨q1, q2⟩ := HQ.out
        simp [exe, opt, HKK.out, q1]
      · have hd : isB h false X [] = false := decide_eq_false hq
        have HQ := hide hq
        rw [hd]
        clear hq hd FU
        go_wp2_with fail
        go_region
        go_wp2
        have F2 := fin2 (n := 1) HK7.out (Nat.le_add_right w.heap.size 2) HG.out (.bool h) (.slice xa xn xc)
        refine bodyPost_ret (results_tc rfl _ _ ⟨w.heap.size + 2, 0, none⟩ _ rfl (load64 F2.1)) rfl ?_
        refine ⟨⟨3, h, xa, xn, xc, X, rfl, ?_, H0.out.1, HW.out.2.2.2.2.2.2.2⟩, F2.2⟩
        have q1 := HQ.out
        have q2 := HW.out.2.2.2.2.2.2.2
        cases h <;> simp_all [exe, opt, HKK.out]
    | true =>
      have EX := fun Z (q : Kp Nu W3 Z) => (expected84_t Z who seq k key hi lim st beg en true va oa ya vn vc on oc yn yc rfl).mono (fun e w' h => (⟨h.1, q.andNu h.2⟩ : e = .returned (.agg #[.bool true, .slice oa on oc]) ∧ Kp Nu W3 w'))
      have IS := fun Z (q : Kp Nu W3 Z) => (is83 Z h true xa (oa) xn xc on oc X O (HW.out.2.2.2.2.1.nu (HW.out.2.2.2.1.andNu q)) (HW.out.2.2.2.2.2.2.1.nu (HW.out.2.2.2.1.andNu q))).mono (fun e w' r => (⟨r.1, q.andNu r.2⟩ : e = .returned (.bool (isB h true X O)) ∧ Kp Nu W3 w'))
      have HS : ∀ Z, Kp Nu W3 Z → (Z.cell? ⟨w.heap.size, 0, none⟩ = some (.int .u8 k) ∧ Z.cell? ⟨w.heap.size, 1, none⟩ = some (.int .u64 key) ∧ Z.cell? ⟨w.heap.size, 2, none⟩ = some (.int .u64 hi) ∧ Z.cell? ⟨w.heap.size, 3, none⟩ = some (.slice va vn vc) ∧ Z.cell? ⟨w.heap.size, 4, none⟩ = some (.slice oa on oc) ∧ Z.cell? ⟨w.heap.size, 5, none⟩ = some (.bool true) ∧ Z.cell? ⟨w.heap.size, 6, none⟩ = some (.int .u8 lim) ∧ Z.cell? ⟨w.heap.size + 1, 0, none⟩ = some (.bool h) ∧ Z.cell? ⟨w.heap.size + 1, 1, none⟩ = some (.slice xa xn xc)) := fun Z q => by
        have gA := box_k HW.out.1 q
        have gB := box_k HW.out.2.1 q
        exact ⟨cellAt gA 0 rfl, cellAt gA 1 rfl, cellAt gA 2 rfl, cellAt gA 3 rfl, cellAt gA 4 rfl, cellAt gA 5 rfl, cellAt gA 6 rfl, cellAt gB 0 rfl, cellAt gB 1 rfl⟩
      obtain ⟨a0', a1, a2, a3', a4, a5, a6, b0', b1'⟩ := HS W3 (Kp.refl _ _)
      go_enter Try.func56, Try.ntmps56
      go_wp2_with fail
      go_region_held3 (fun Z => Z.cell? ⟨w.heap.size, 0, none⟩ = some (.int .u8 k) ∧ Z.cell? ⟨w.heap.size, 1, none⟩ = some (.int .u64 key) ∧ Z.cell? ⟨w.heap.size, 2, none⟩ = some (.int .u64 hi) ∧ Z.cell? ⟨w.heap.size, 3, none⟩ = some (.slice va vn vc) ∧ Z.cell? ⟨w.heap.size, 4, none⟩ = some (.slice oa on oc) ∧ Z.cell? ⟨w.heap.size, 5, none⟩ = some (.bool true) ∧ Z.cell? ⟨w.heap.size, 6, none⟩ = some (.int .u8 lim) ∧ Z.cell? ⟨w.heap.size + 1, 0, none⟩ = some (.bool h) ∧ Z.cell? ⟨w.heap.size + 1, 1, none⟩ = some (.slice xa xn xc)) (first | (exact ⟨by assumption, by assumption, by assumption, by assumption, by assumption, by assumption, by assumption, by assumption, by assumption⟩) | (refine HS _ ?_; (repeat (first | assumption | exact Kp.refl _ _ | apply Kp.drew)); done)) (first | (go_at_call 84; refine (EX _ ?_).mono ?_; (repeat (first | assumption | exact Kp.refl _ _ | apply Kp.drew)); rintro e w6 ⟨rfl, hk6⟩) | (go_at_call 83; refine (IS _ ?_).mono ?_; (first | assumption); rintro e w7 ⟨rfl, hk7⟩))
      have HK7 := hide (HW.out.2.2.2.1.andNu hk7)
      have g7 := box_k HW.out.2.2.1 hk7
      have z0 := cellAt (box_k HW.out.1 hk7) 0 (v := .int .u8 k) rfl
      have z3 := cellAt (box_k HW.out.1 hk7) 3 (v := .slice va vn vc) rfl
      have y0 := cellAt (box_k HW.out.2.1 hk7) 0 (v := .bool h) rfl
      have y1 := cellAt (box_k HW.out.2.1 hk7) 1 (v := .slice xa xn xc) rfl
      have x0 := cellAt g7 0 (v := .bool false) rfl
      have x1 := cellAt g7 1 (v := .slice none 0 0) rfl
      have t0 := free3 g7 0
      have t1 := free3 g7 1
      have HG := hide g7
      clear EX IS HS a0 a3 b0 b1 c0 c1 f0 f1 a0' a1 a2 a3' a4 a5 a6 b0' b1' g7 hk6 hk7 e3
      by_cases hq : h = true ∧ X = O
      · have hd : isB h true X O = true := decide_eq_true hq
        have HQ := hide hq
        rw [hd]
        clear hq hd
        go_wp2_with fail
        refine (FU _).mono ?_; rintro e w1 ⟨rfl, hk1⟩
        have B1 := box_k HG.out hk1
        have u0 := cellAt B1 0 (v := .bool false) rfl
        have u1 := cellAt B1 1 (v := .slice none 0 0) rfl
        have v0 := free3 B1 0
        have v1 := free3 B1 1
        have HB := hide B1
        have HK := hide (HK7.out.andNu hk1)
        clear FU hk1 B1 z0 z3 y0 y1 x0 x1 t0 t1
        go_wp2
        have F2 := fin2 (n := 0) HK.out (Nat.le_add_right w.heap.size 2) HB.out (.bool true) (.slice va vn vc)
        refine bodyPost_ret (results_tc rfl _ _ ⟨w.heap.size + 2, 0, none⟩ _ rfl (load64 F2.1)) rfl ?_
        refine ⟨⟨1, true, va, vn, vc, V, rfl, ?_, H0.out.2.1, by simp⟩, F2.2⟩
        obtain ⟨q1, q2⟩ := HQ.out
        simp [exe, opt, HKK.out, q1, q2]
      · have hd : isB h true X O = false := decide_eq_false hq
        have HQ := hide hq
        rw [hd]
        clear hq hd FU
        go_wp2_with fail
        go_region
        go_wp2
        have F2 := fin2 (n := 1) HK7.out (Nat.le_add_right w.heap.size 2) HG.out (.bool h) (.slice xa xn xc)
        refine bodyPost_ret (results_tc rfl _ _ ⟨w.heap.size + 2, 0, none⟩ _ rfl (load64 F2.1)) rfl ?_
        refine ⟨⟨3, h, xa, xn, xc, X, rfl, ?_, H0.out.1, HW.out.2.2.2.2.2.2.2⟩, F2.2⟩
        have q1 := HQ.out
        have q2 := HW.out.2.2.2.2.2.2.2
        cases h <;> simp_all [exe, opt, HKK.out]
  have e4 : (k == 4) = false := by simpa using hk4
  have HKK := hide (And.intro hk2 hk4)
  clear hk2 hk4 FU
  cases h with
  | false =>
    go_enter Try.func56, Try.ntmps56
    go_wp2_with fail
    go_quiet (fail)
    go_wp2_with fail
    go_region
    go_wp2
    have F2 := fin2 (n := nq + 1) HW.out.2.2.2.1 (Nat.le_add_right w.heap.size 2) HW.out.2.2.1 (.bool false) (.slice xa xn xc)
    refine bodyPost_ret (results_tc rfl _ _ ⟨w.heap.size + 2, 0, none⟩ _ rfl (load64 F2.1)) rfl ?_
    exact ⟨⟨2, false, xa, xn, xc, X, rfl, by simp [exe, opt, HKK.out], H0.out.1, fun _ => HW.out.2.2.2.2.2.2.2 (by simp)⟩, F2.2⟩
  | true =>
    by_cases hk3 : k = 3
    · have e5 : (k == 3) = true := by simpa using hk3
      have H3 := hide hk3
      clear hk3
      go_enter Try.func56, Try.ntmps56
      go_wp2_with fail
      go_quiet (fail)
      go_wp2
      have F2 := fin2 (n := nq) HW.out.2.2.2.1 (Nat.le_add_right w.heap.size 2) HW.out.2.2.1 (.bool false) (.slice none 0 0)
      refine bodyPost_ret (results_tc rfl _ _ ⟨w.heap.size + 2, 0, none⟩ _ rfl (load64 F2.1)) rfl ?_
      exact ⟨⟨1, false, none, 0, 0, [], rfl, by simp [exe, opt, H3.out], By.nil _, by simp⟩, F2.2⟩
    · have e5 : (k == 3) = false := by simpa using hk3
      have H3 := hide hk3
      clear hk3
      go_enter Try.func56, Try.ntmps56
      go_wp2_with fail
      go_quiet (fail)
      go_wp2_with fail
      go_region
      go_wp2
      have F2 := fin2 (n := nq + 1) HW.out.2.2.2.1 (Nat.le_add_right w.heap.size 2) HW.out.2.2.1 (.bool true) (.slice xa xn xc)
      refine bodyPost_ret (results_tc rfl _ _ ⟨w.heap.size + 2, 0, none⟩ _ rfl (load64 F2.1)) rfl ?_
      exact ⟨⟨1, true, xa, xn, xc, X, rfl, by simp [exe, opt, HKK.out, H3.out], H0.out.1, by simp⟩, F2.2⟩
end Go.Proofs.Ytcbonbeogdgogaa.Li
