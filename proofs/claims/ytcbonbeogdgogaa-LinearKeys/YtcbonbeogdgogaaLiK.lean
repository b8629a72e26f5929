import Derived.Test.YtcbonbeogdgogaaLiJ
namespace Go.Proofs.Ytcbonbeogdgogaa.Li
open Go.RowKit
set_option linter.unusedVariables false
set_option maxRecDepth 100000 in
set_option maxHeartbeats 4000000 in
/-- the document's Step of a call that may not be, or of a Scan -/
theorem step8_no (w : World) (h : Bool) (xa : Option Addr) (xn xc : Nat) (who seq k key hi lim st beg en : Int) (has : Bool) (va oa ya : Option Addr) (vn vc on oc yn yc : Nat) (hno : ¬ (MB k st beg en has yn ∧ ¬ k = 5)) :
    Calls Try.prog 8 #[.agg #[.int .u8 who, .int .u64 seq, .int .u8 k, .int .u64 key, .int .u64 hi, .slice va vn vc, .slice oa on oc, .bool has, .int .u8 lim, .int .u8 st, .slice ya yn yc, .int .i64 beg, .int .i64 en], .bool h, .slice xa xn xc] w fun e w' => StR none e w' ∧ Kp Nu w w' := by
  have MY := fun W => mayBe25 W who seq k key hi lim st beg en has va oa ya vn vc on oc yn yc
  have HA1 := hide (heap_new w (.cells #[.int .u8 who, .int .u64 seq, .int .u8 k, .int .u64 key, .int .u64 hi, .slice va vn vc, .slice oa on oc, .bool has, .int .u8 lim, .int .u8 st, .slice ya yn yc, .int .i64 beg, .int .i64 en] 30))
  have HN := hide hno
  clear hno
  go_enter Try.func8, Try.ntmps8
  go_wp2_with (guard_target =~ wpList _ _ _ ({ dst := _, op := Op.load 30 (Operand.tmp 3), type := _, pos := _, after := _, guard := _ } :: _) _ _; refine wpList_load_all 30 13 (.tmp 3) rfl rfl info30 _ Try.underlying30 rfl _ rfl HA1.out rfl ?_)
  refine (MY _).mono ?_; rintro e w1 ⟨⟨b, rfl, hb⟩, hk1⟩
  have hA := box_k HA1.out hk1
  have a2 := cellAt hA 2 (v := .int .u8 k) rfl
  have HB := hide hb
  have HK := hide ((Kp.alloc w _ Nu).andNu hk1)
  clear MY hA hb hk1
  cases b with
  | false =>
    go_wp2
    go_ret3
    exact ⟨⟨false, false, _, rfl, rfl, rfl, By.nil _⟩, HK.out⟩
  | true =>
    have h5 : k = 5 := Decidable.byContradiction (fun n => HN.out ⟨HB.out.1 (by simp), n⟩)
    have e5 : (k == 5) = true := by simpa using h5
    clear h5
    go_wp2
    go_ret3
    exact ⟨⟨false, false, _, rfl, rfl, rfl, By.nil _⟩, HK.out⟩
set_option maxRecDepth 100000 in
set_option maxHeartbeats 4000000 in
theorem step8 (w : World) (h : Bool) (xa : Option Addr) (xn xc : Nat) (X V O Y : List Int) (who seq k key hi lim st beg en : Int) (has : Bool) (va oa ya : Option Addr) (vn vc on oc yn yc : Nat) (hMB : MB k st beg en has yn) (h5 : ¬ k = 5) (rx : By w (.slice xa xn xc) X) (rv : By w (.slice va vn vc) V) (ro : By w (.slice oa on oc) O) (ry : By w (.slice ya yn yc) Y) :
    Calls Try.prog 8 #[.agg #[.int .u8 who, .int .u64 seq, .int .u8 k, .int .u64 key, .int .u64 hi, .slice va vn vc, .slice oa on oc, .bool has, .int .u8 lim, .int .u8 st, .slice ya yn yc, .int .i64 beg, .int .i64 en], .bool h, .slice xa xn xc] w fun e w' => StR (stp k st (en != -1) has V O Y (opt h X)) e w' ∧ Kp Nu w w' := by
  have MY := fun W => mayBe25 W who seq k key hi lim st beg en has va oa ya vn vc on oc yn yc
  have HA1 := hide (heap_new w (.cells #[.int .u8 who, .int .u64 seq, .int .u8 k, .int .u64 key, .int .u64 hi, .slice va vn vc, .slice oa on oc, .bool has, .int .u8 lim, .int .u8 st, .slice ya yn yc, .int .i64 beg, .int .i64 en] 30))
  have HH := hide (And.intro hMB (And.intro rx (And.intro rv (And.intro ro ry))))
  have e5 : (k == 5) = false := by simpa using h5
  clear hMB h5 rx rv ro ry
  go_enter Try.func8, Try.ntmps8
  go_wp2_with (guard_target =~ wpList _ _ _ ({ dst := _, op := Op.load 30 (Operand.tmp 3), type := _, pos := _, after := _, guard := _ } :: _) _ _; refine wpList_load_all 30 13 (.tmp 3) rfl rfl info30 _ Try.underlying30 rfl _ rfl HA1.out rfl ?_)
  refine (MY _).mono ?_; rintro e w1 ⟨⟨b, rfl, hb⟩, hk1⟩
  have hA := box_k HA1.out hk1
  have a2 := cellAt hA 2 (v := .int .u8 k) rfl
  obtain rfl : b = true := hb.2 HH.out.1
  have HA2 := hide hA
  have kw1 := (Kp.alloc w (.cells #[.int .u8 who, .int .u64 seq, .int .u8 k, .int .u64 key, .int .u64 hi, .slice va vn vc, .slice oa on oc, .bool has, .int .u8 lim, .int .u8 st, .slice ya yn yc, .int .i64 beg, .int .i64 en] 30) Nu).andNu hk1
  have PL := play26 w w1 kw1 h xa xn xc X V O Y who seq k key hi lim st beg en has va oa ya vn vc on oc yn yc HH.out.1 (fun _ => HH.out.2.1) HH.out.2.2.1 HH.out.2.2.2.1 HH.out.2.2.2.2
  have HK := hide kw1
  clear MY hA hb hk1 kw1
  go_wp2_with (guard_target =~ wpList _ _ _ ({ dst := _, op := Op.load 30 (Operand.tmp 3), type := _, pos := _, after := _, guard := _ } :: _) _ _; refine wpList_load_all 30 13 (.tmp 3) rfl rfl info30 _ Try.underlying30 rfl _ rfl HA2.out rfl ?_)
  refine PL.mono ?_; rintro e w2 ⟨⟨can, h1, xa1, xn1, xc1, X1, rfl, q1, q2⟩, hk2⟩
  obtain ⟨w3, e3⟩ : ∃ w3, w2.alloc (.cells #[.bool h1, .slice xa1 xn1 xc1] 60) = w3 := ⟨_, rfl⟩
  have k23 : Kp Nu w2 w3 := by rw [← e3]; exact Kp.alloc _ _ _
  have hE : w3.heap[w2.heap.size]? = some (.cells #[.bool h1, .slice xa1 xn1 xc1] 60 (0, 0)) := by rw [← e3]; exact heap_new _ _
  have g0 := cellAt hE 0 (v := .bool h1) rfl
  have g1 := cellAt hE 1 (v := .slice xa1 xn1 xc1) rfl
  have HK3 := hide ((HK.out.andNu hk2).andNu k23)
  have HQ := hide (And.intro q1 q2)
  clear PL hk2 k23 hE q1 q2 a2
  cases can with
  | false =>
    go_wp2
    go_ret3
    have hr : stp k st (en != -1) has V O Y (opt h X) = none := by
      have := HQ.out.1
      revert this
      cases stp k st (en != -1) has V O Y (opt h X) <;> simp
    rw [hr]
    exact ⟨⟨false, false, _, rfl, rfl, rfl, By.nil _⟩, HK3.out⟩
  | true =>
    cases h1 with
    | false =>
      go_wp2
      go_ret3
      have hr := (HQ.out.2 (by simp)).1
      rw [hr]
      exact ⟨⟨true, false, _, rfl, rfl, rfl, By.nil _⟩, HK3.out⟩
    | true =>
      go_wp2_with fail
      go_quiet (fail)
      go_wp2
      go_ret3
      have hr := HQ.out.2 (by simp)
      have kf := HK3.out.andNu (kp_dn _ nq)
      rw [hr.1]
      exact ⟨⟨true, true, _, rfl, rfl, rfl, (hr.2 (by simp)).nu kf⟩, kf⟩
end Go.Proofs.Ytcbonbeogdgogaa.Li
