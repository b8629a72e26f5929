import Derived.Test.YtcbonbeogdgogaaLiI
namespace Go.Proofs.Ytcbonbeogdgogaa.Li
open Go.RowKit
set_option linter.unusedVariables false
/-- what Step answers -/
def StR (r : Option (Option (List Int))) (e : Ending) (w' : World) : Prop :=
  ∃ b1 b2 s, e = .returned (.tuple #[.bool b1, .bool b2, s]) ∧ b1 = r.isSome ∧ b2 = (r.getD none).isSome ∧ By w' s ((r.getD none).getD [])
theorem By.own {w : World} {B : Nat} {v : Value} {X : List Int} (h : w.ownsRow B 5 1 v X.length (cs X)) (hb : Byt X) (hf : Fit X) : By w v X := ⟨Rd.of_own h, hb, hf⟩
theorem str_of {r : Option (Option (List Int))} {can h1 : Bool} {X1 : List Int} {w' : World} {d : Value} (q1 : r = (if can = true then some (opt h1 X1) else none)) (q3 : h1 = false → X1 = []) (q4 : can = false → h1 = false) (hd : By w' d X1) : can = r.isSome ∧ h1 = (r.getD none).isSome ∧ By w' d ((r.getD none).getD []) := by
  subst q1
  cases can with
  | true =>
    refine ⟨rfl, ?_, ?_⟩
    · cases h1 <;> rfl
    · have e := optD q3
      simpa [e] using hd
  | false =>
    have hh := q4 rfl
    refine ⟨rfl, by simp [hh], ?_⟩
    have e := q3 hh
    rw [e] at hd
    simpa using hd
set_option maxRecDepth 100000 in
set_option maxHeartbeats 4000000 in
/-- Step of a call that may not be, or of a Scan -/
theorem step11_no (w : World) (h : Bool) (xa : Option Addr) (xn xc : Nat) (who seq k key hi lim st beg en : Int) (has : Bool) (va oa ya : Option Addr) (vn vc on oc yn yc : Nat) (hno : ¬ (MB k st beg en has yn ∧ ¬ k = 5)) :
    Calls Try.prog 11 #[.agg #[.int .u8 who, .int .u64 seq, .int .u8 k, .int .u64 key, .int .u64 hi, .slice va vn vc, .slice oa on oc, .bool has, .int .u8 lim, .int .u8 st, .slice ya yn yc, .int .i64 beg, .int .i64 en], .bool h, .slice xa xn xc] w fun e w' => StR none e w' ∧ Kp Nu w w' := by
  have MY := fun W => mayBe27 W who seq k key hi lim st beg en has va oa ya vn vc on oc yn yc
  have SC := fun W => scan28 W who seq k key hi lim st beg en has va oa ya vn vc on oc yn yc
  have HA1 := hide (heap_new w (.cells #[.int .u8 who, .int .u64 seq, .int .u8 k, .int .u64 key, .int .u64 hi, .slice va vn vc, .slice oa on oc, .bool has, .int .u8 lim, .int .u8 st, .slice ya yn yc, .int .i64 beg, .int .i64 en] 30))
  have HN := hide hno
  clear hno
  go_enter Try.func11, Try.ntmps11
  go_wp2_with (guard_target =~ wpList _ _ _ ({ dst := _, op := Op.load 30 (Operand.tmp 3), type := _, pos := _, after := _, guard := _ } :: _) _ _; refine wpList_load_all 30 13 (.tmp 3) rfl rfl info30 _ Try.underlying30 rfl _ rfl HA1.out rfl ?_)
  refine (MY _).mono ?_; rintro e w1 ⟨⟨b, rfl, hb⟩, hk1⟩
  have hA := box_k HA1.out hk1
  have a0 := cellAt hA 0 (v := .int .u8 who) rfl
  have a1 := cellAt hA 1 (v := .int .u64 seq) rfl
  have a2 := cellAt hA 2 (v := .int .u8 k) rfl
  have a3 := cellAt hA 3 (v := .int .u64 key) rfl
  have a4 := cellAt hA 4 (v := .int .u64 hi) rfl
  have a5 := cellAt hA 5 (v := .slice va vn vc) rfl
  have a6 := cellAt hA 6 (v := .slice oa on oc) rfl
  have a7 := cellAt hA 7 (v := .bool has) rfl
  have a8 := cellAt hA 8 (v := .int .u8 lim) rfl
  have a9 := cellAt hA 9 (v := .int .u8 st) rfl
  have a10 := cellAt hA 10 (v := .slice ya yn yc) rfl
  have a11 := cellAt hA 11 (v := .int .i64 beg) rfl
  have a12 := cellAt hA 12 (v := .int .i64 en) rfl
  have HB := hide hb
  have HK := hide ((Kp.alloc w _ Nu).andNu hk1)
  clear MY hA hb hk1
  cases b with
  | false =>
    go_wp2
    go_ret3
    exact ⟨⟨false, false, _, rfl, rfl, rfl, By.nil _⟩, HK.out⟩
  | true =>
    have h5 : k = 5 := Decidable.byContradiction (fun n => HN.out ⟨HB.out.1 (by simp), n⟩)
    have e5 : (k == 5) = true := by simpa using h5
    clear h5
    go_wp2_with fail
    refine (SC _).mono ?_; rintro e w2 ⟨rfl, hk2⟩
    have HK2 := hide (HK.out.andNu hk2)
    clear SC hk2 a0 a1 a2 a3 a4 a5 a6 a7 a8 a9 a10 a11 a12
    go_wp2
    go_ret3
    exact ⟨⟨false, false, _, rfl, rfl, rfl, By.nil _⟩, HK2.out⟩
set_option maxRecDepth 100000 in
set_option maxHeartbeats 4000000 in
theorem step11 (w : World) (h : Bool) (xa : Option Addr) (xn xc : Nat) (X V O Y : List Int) (who seq k key hi lim st beg en : Int) (has : Bool) (va oa ya : Option Addr) (vn vc on oc yn yc : Nat) (hMB : MB k st beg en has yn) (h5 : ¬ k = 5) (rx : By w (.slice xa xn xc) X) (rv : By w (.slice va vn vc) V) (ro : By w (.slice oa on oc) O) (ry : By w (.slice ya yn yc) Y) :
    Calls Try.prog 11 #[.agg #[.int .u8 who, .int .u64 seq, .int .u8 k, .int .u64 key, .int .u64 hi, .slice va vn vc, .slice oa on oc, .bool has, .int .u8 lim, .int .u8 st, .slice ya yn yc, .int .i64 beg, .int .i64 en], .bool h, .slice xa xn xc] w fun e w' => StR (stp k st (en != -1) has V O Y (opt h X)) e w' ∧ Kp Nu w w' := by
  have MY := fun W => mayBe27 W who seq k key hi lim st beg en has va oa ya vn vc on oc yn yc
  have SC := fun W => scan28 W who seq k key hi lim st beg en has va oa ya vn vc on oc yn yc
  have HA1 := hide (heap_new w (.cells #[.int .u8 who, .int .u64 seq, .int .u8 k, .int .u64 key, .int .u64 hi, .slice va vn vc, .slice oa on oc, .bool has, .int .u8 lim, .int .u8 st, .slice ya yn yc, .int .i64 beg, .int .i64 en] 30))
  have HH := hide (And.intro hMB (And.intro rx (And.intro rv (And.intro ro ry))))
  have e5 : (k == 5) = false := by simpa using h5
  clear hMB h5 rx rv ro ry
  go_enter Try.func11, Try.ntmps11
  go_wp2_with (guard_target =~ wpList _ _ _ ({ dst := _, op := Op.load 30 (Operand.tmp 3), type := _, pos := _, after := _, guard := _ } :: _) _ _; refine wpList_load_all 30 13 (.tmp 3) rfl rfl info30 _ Try.underlying30 rfl _ rfl HA1.out rfl ?_)
  refine (MY _).mono ?_; rintro e w1 ⟨⟨b, rfl, hb⟩, hk1⟩
  have hA := box_k HA1.out hk1
  have a0 := cellAt hA 0 (v := .int .u8 who) rfl
  have a1 := cellAt hA 1 (v := .int .u64 seq) rfl
  have a2 := cellAt hA 2 (v := .int .u8 k) rfl
  have a3 := cellAt hA 3 (v := .int .u64 key) rfl
  have a4 := cellAt hA 4 (v := .int .u64 hi) rfl
  have a5 := cellAt hA 5 (v := .slice va vn vc) rfl
  have a6 := cellAt hA 6 (v := .slice oa on oc) rfl
  have a7 := cellAt hA 7 (v := .bool has) rfl
  have a8 := cellAt hA 8 (v := .int .u8 lim) rfl
  have a9 := cellAt hA 9 (v := .int .u8 st) rfl
  have a10 := cellAt hA 10 (v := .slice ya yn yc) rfl
  have a11 := cellAt hA 11 (v := .int .i64 beg) rfl
  have a12 := cellAt hA 12 (v := .int .i64 en) rfl
  obtain rfl : b = true := hb.2 HH.out.1
  have HA2 := hide hA
  have HK := hide ((Kp.alloc w _ Nu).andNu hk1)
  clear MY hA hb hk1
  go_wp2_with fail
  refine (SC _).mono ?_; rintro e w2 ⟨rfl, hk2⟩
  have HA3 := hide (box_k HA2.out hk2)
  have HK2 := hide (HK.out.andNu hk2)
  clear SC hk2 a0 a1 a2 a3 a4 a5 a6 a7 a8 a9 a10 a11 a12
  cases h with
  | false =>
    have k23 : Kp Nu w2 (w2.alloc (.cells #[.bool false, .slice none 0 0] 64)) := Kp.alloc _ _ _
    have hD := heap_new w2 (.cells #[.bool false, .slice none 0 0] 64)
    have HA4 := hide (box_k HA3.out k23)
    have kw3 := HK2.out.andNu k23
    have EF := effect30 w (w2.alloc (.cells #[.bool false, .slice none 0 0] 64)) kw3 false none 0 0 [] V O Y who seq k key hi lim st beg en has va oa ya vn vc on oc yn yc (By.nil _) HH.out.2.2.1 HH.out.2.2.2.1 HH.out.2.2.2.2 (fun _ => rfl)
    have d0 := cellAt hD 0 (v := .bool false) rfl
    have d1 := cellAt hD 1 (v := .slice none 0 0) rfl
    have HK3 := hide kw3
    clear k23 hD kw3
    go_wp2_with (guard_target =~ wpList _ _ _ ({ dst := _, op := Op.load 30 (Operand.tmp 3), type := _, pos := _, after := _, guard := _ } :: _) _ _; refine wpList_load_all 30 13 (.tmp 3) rfl rfl info30 _ Try.underlying30 rfl _ rfl HA4.out rfl ?_)
    refine EF.mono ?_; rintro e w6 ⟨⟨can, h1, xa1, xn1, xc1, X1, rfl, q1, q2, q3, q4⟩, hk6⟩
    obtain ⟨w7, e7⟩ : ∃ w7, w6.alloc (.cells #[.bool h1, .slice xa1 xn1 xc1] 64) = w7 := ⟨_, rfl⟩
    have k67 : Kp Nu w6 w7 := by rw [← e7]; exact Kp.alloc _ _ _
    have hE : w7.heap[w6.heap.size]? = some (.cells #[.bool h1, .slice xa1 xn1 xc1] 64 (0, 0)) := by rw [← e7]; exact heap_new _ _
    have kw7 := (HK3.out.andNu hk6).andNu k67
    have CLN := fun Z (q : Kp Nu w7 Z) => (clone_any Z _ X1 (q2.nu (kw7.andNu q)).rd q2.fit).mono (fun e w' r => (by
      obtain ⟨d, r1, r2, r3⟩ := r
      exact ⟨d, r1, By.own r2 q2.by_ q2.fit, q.andNu r3⟩ : ∃ d, e = .returned d ∧ By w' d X1 ∧ Kp Nu w7 w'))
    have HS : ∀ Z, Kp Nu w7 Z → (Z.cell? ⟨w6.heap.size, 0, none⟩ = some (.bool h1) ∧ Z.cell? ⟨w6.heap.size, 1, none⟩ = some (.slice xa1 xn1 xc1)) := fun Z q => ⟨cellAt (box_k hE q) 0 rfl, cellAt (box_k hE q) 1 rfl⟩
    obtain ⟨g0, g1⟩ := HS w7 (Kp.refl _ _)
    have HQ := hide (And.intro q1 (And.intro q3 q4))
    have HK7 := hide kw7
    clear EF d0 d1 hk6 k67 hE kw7 q1 q2 q3 q4
    go_wp2_with fail
    go_region_held3 (fun Z => Z.cell? ⟨w6.heap.size, 0, none⟩ = some (.bool h1) ∧ Z.cell? ⟨w6.heap.size, 1, none⟩ = some (.slice xa1 xn1 xc1)) (first | (exact ⟨by assumption, by assumption⟩) | (refine HS _ ?_; (repeat (first | assumption | exact Kp.refl _ _ | apply Kp.drew)); done)) (first | (go_at_call 31; refine (CLN _ ?_).mono ?_; (repeat (first | assumption | exact Kp.refl _ _ | apply Kp.drew)); rintro e w8 ⟨d, rfl, hd8, hk8⟩))
    have HD8 := hide hd8
    have HK8 := hide (HK7.out.andNu hk8)
    clear CLN HS g0 g1 hd8 hk8
    go_wp2
    go_ret3
    have Z := str_of HQ.out.1 HQ.out.2.1 HQ.out.2.2 HD8.out
    exact ⟨⟨can, h1, d, rfl, Z.1, Z.2.1, Z.2.2⟩, HK8.out⟩
  | true =>
    have FU := full29 (w2.alloc (.cells #[.bool false, .slice none 0 0] 64)) xa xn xc
    go_wp2_with fail
    refine FU.mono ?_; rintro e w4 ⟨rfl, hk4⟩
    have k24 := (Kp.alloc w2 (.cells #[.bool false, .slice none 0 0] 64) Nu).andNu hk4
    have hD4 := new_at w2 _ hk4
    have x0 := cellAt hD4 0 (v := .bool false) rfl
    have x1 := cellAt hD4 1 (v := .slice none 0 0) rfl
    have f0 := free3 hD4 0
    have f1 := free3 hD4 1
    obtain ⟨w5, e5w⟩ : ∃ w5, (w4.setCell ⟨w2.heap.size, 0, none⟩ (.bool true)).setCell ⟨w2.heap.size, 1, none⟩ (.slice xa xn xc) = w5 := ⟨_, rfl⟩
    have kw2 : w.heap.size ≤ w2.heap.size := HK2.out.size
    have kw5 : Kp Nu w w5 := by rw [← e5w]; exact ((HK2.out.andNu k24).andSet _ _ (.inl kw2)).andSet _ _ (.inl kw2)
    have hD : w5.heap[w2.heap.size]? = some (.cells #[.bool true, .slice xa xn xc] 64 (0, 0)) := by rw [← e5w]; exact set3 (set3 hD4 0 _) 1 _
    have k25 : Kp (fun i => i = w2.heap.size) w2 w5 := by rw [← e5w]; exact ((k24.mono (T := fun i => i = w2.heap.size) (fun _ _ h => h.elim)).andSet _ _ (.inr rfl)).andSet _ _ (.inr rfl)
    have HA4 := hide ((k25.block _ (blk_lt HA3.out) (fun e => by have := blk_lt HA3.out; have e' : w.heap.size = w2.heap.size := e; omega)).trans HA3.out)
    have EF := effect30 w w5 kw5 true xa xn xc X V O Y who seq k key hi lim st beg en has va oa ya vn vc on oc yn yc HH.out.2.1 HH.out.2.2.1 HH.out.2.2.2.1 HH.out.2.2.2.2 (by simp)
    have d0 := cellAt hD 0 (v := .bool true) rfl
    have d1 := cellAt hD 1 (v := .slice xa xn xc) rfl
    have HK3 := hide kw5
    clear FU hk4 k24 hD4 kw5 hD k25
    go_wp2_with (guard_target =~ wpList _ _ _ ({ dst := _, op := Op.load 30 (Operand.tmp 3), type := _, pos := _, after := _, guard := _ } :: _) _ _; refine wpList_load_all 30 13 (.tmp 3) rfl rfl info30 _ Try.underlying30 rfl _ rfl HA4.out rfl ?_)
    refine EF.mono ?_; rintro e w6 ⟨⟨can, h1, xa1, xn1, xc1, X1, rfl, q1, q2, q3, q4⟩, hk6⟩
    obtain ⟨w7, e7⟩ : ∃ w7, w6.alloc (.cells #[.bool h1, .slice xa1 xn1 xc1] 64) = w7 := ⟨_, rfl⟩
    have k67 : Kp Nu w6 w7 := by rw [← e7]; exact Kp.alloc _ _ _
    have hE : w7.heap[w6.heap.size]? = some (.cells #[.bool h1, .slice xa1 xn1 xc1] 64 (0, 0)) := by rw [← e7]; exact heap_new _ _
    have kw7 := (HK3.out.andNu hk6).andNu k67
    have CLN := fun Z (q : Kp Nu w7 Z) => (clone_any Z _ X1 (q2.nu (kw7.andNu q)).rd q2.fit).mono (fun e w' r => (by
      obtain ⟨d, r1, r2, r3⟩ := r
      exact ⟨d, r1, By.own r2 q2.by_ q2.fit, q.andNu r3⟩ : ∃ d, e = .returned d ∧ By w' d X1 ∧ Kp Nu w7 w'))
    have HS : ∀ Z, Kp Nu w7 Z → (Z.cell? ⟨w6.heap.size, 0, none⟩ = some (.bool h1) ∧ Z.cell? ⟨w6.heap.size, 1, none⟩ = some (.slice xa1 xn1 xc1)) := fun Z q => ⟨cellAt (box_k hE q) 0 rfl, cellAt (box_k hE q) 1 rfl⟩
    obtain ⟨g0, g1⟩ := HS w7 (Kp.refl _ _)
    have HQ := hide (And.intro q1 (And.intro q3 q4))
    have HK7 := hide kw7
    clear EF d0 d1 hk6 k67 hE kw7 q1 q2 q3 q4
    go_wp2_with fail
    go_region_held3 (fun Z => Z.cell? ⟨w6.heap.size, 0, none⟩ = some (.bool h1) ∧ Z.cell? ⟨w6.heap.size, 1, none⟩ = some (.slice xa1 xn1 xc1)) (first | (exact ⟨by assumption, by assumption⟩) | (refine HS _ ?_; (repeat (first | assumption | exact Kp.refl _ _ | apply Kp.drew)); done)) (first | (go_at_call 31; refine (CLN _ ?_).mono ?_; (repeat (first | assumption | exact Kp.refl _ _ | apply Kp.drew)); rintro e w8 ⟨d, rfl, hd8, hk8⟩))
    have HD8 := hide hd8
    have HK8 := hide (HK7.out.andNu hk8)
    clear CLN HS g0 g1 hd8 hk8
    go_wp2
    go_ret3
    have Z := str_of HQ.out.1 HQ.out.2.1 HQ.out.2.2 HD8.out
    exact ⟨⟨can, h1, d, rfl, Z.1, Z.2.1, Z.2.2⟩, HK8.out⟩
end Go.Proofs.Ytcbonbeogdgogaa.Li
