import Derived.Test.YtcbonbeogdgogaaLiN
import Derived.Test.YtcbonbeogdgogaaLiK
namespace Go.Proofs.Ytcbonbeogdgogaa.Li
open Go.RowKit
set_option linter.unusedVariables false
open Classical in
/-- what Step says of a call -/
noncomputable def rOf (c : Ca) (h : Bool) (X : List Int) : Option (Option (List Int)) :=
  if MB c.k c.st c.beg c.en c.has c.Y.length ∧ ¬ c.k = 5 then stp c.k c.st (c.en != -1) c.has c.V c.O c.Y (opt h X) else none
theorem rOf_at (c : Ca) (va oa ya : Option Addr) (vc oc yc : Nat) (h : Bool) (X : List Int) : rOf (c.at_ va oa ya vc oc yc) h X = rOf c h X := rfl
theorem Same.symm {c d : Ca} (h : Same c d) : Same d c := by
  obtain ⟨va, oa, ya, vc, oc, yc, rfl⟩ := h
  exact ⟨c.va, c.oa, c.ya, c.vc, c.oc, c.yc, rfl⟩
theorem step8_any (w : World) (c : Ca) (ok : CaOk w c) (h : Bool) (xa : Option Addr) (xn xc : Nat) (X : List Int) (rx : By w (.slice xa xn xc) X) :
    Calls Try.prog 8 #[.agg #[.int .u8 c.who, .int .u64 c.seq, .int .u8 c.k, .int .u64 c.key, .int .u64 c.hi, .slice c.va c.V.length c.vc, .slice c.oa c.O.length c.oc, .bool c.has, .int .u8 c.lim, .int .u8 c.st, .slice c.ya c.Y.length c.yc, .int .i64 c.beg, .int .i64 c.en], .bool h, .slice xa xn xc] w fun e w' => StR (rOf c h X) e w' ∧ Kp Nu w w' := by
  by_cases hm : MB c.k c.st c.beg c.en c.has c.Y.length ∧ ¬ c.k = 5
  · rw [rOf, if_pos hm]
    exact step8 w h xa xn xc X c.V c.O c.Y c.who c.seq c.k c.key c.hi c.lim c.st c.beg c.en c.has c.va c.oa c.ya c.V.length c.vc c.O.length c.oc c.Y.length c.yc hm.1 hm.2 rx ok.v ok.o ok.y
  · rw [rOf, if_neg hm]
    exact step8_no w h xa xn xc c.who c.seq c.k c.key c.hi c.lim c.st c.beg c.en c.has c.va c.oa c.ya c.V.length c.vc c.O.length c.oc c.Y.length c.yc hm
theorem step11_any (w : World) (c : Ca) (ok : CaOk w c) (h : Bool) (xa : Option Addr) (xn xc : Nat) (X : List Int) (rx : By w (.slice xa xn xc) X) :
    Calls Try.prog 11 #[.agg #[.int .u8 c.who, .int .u64 c.seq, .int .u8 c.k, .int .u64 c.key, .int .u64 c.hi, .slice c.va c.V.length c.vc, .slice c.oa c.O.length c.oc, .bool c.has, .int .u8 c.lim, .int .u8 c.st, .slice c.ya c.Y.length c.yc, .int .i64 c.beg, .int .i64 c.en], .bool h, .slice xa xn xc] w fun e w' => StR (rOf c h X) e w' ∧ Kp Nu w w' := by
  by_cases hm : MB c.k c.st c.beg c.en c.has c.Y.length ∧ ¬ c.k = 5
  · rw [rOf, if_pos hm]
    exact step11 w h xa xn xc X c.V c.O c.Y c.who c.seq c.k c.key c.hi c.lim c.st c.beg c.en c.has c.va c.oa c.ya c.V.length c.vc c.O.length c.oc c.Y.length c.yc hm.1 hm.2 rx ok.v ok.o ok.y
  · rw [rOf, if_neg hm]
    exact step11_no w h xa xn xc c.who c.seq c.k c.key c.hi c.lim c.st c.beg c.en c.has c.va c.oa c.ya c.V.length c.vc c.O.length c.oc c.Y.length c.yc hm
theorem cls_one {w : World} {b : Nat} {c : Ca} (h : w.heap[b]? = some (.cells c.cells.toArray 30 (0, 0))) (ok : CaOk w c) : Cls w (.slice (some ⟨b, 0, none⟩) 1 1) [c] :=
  .inr ⟨b, 0, 1, rfl, fun i c' hi => by
    cases i with
    | zero =>
      simp only [List.getElem?_cons_zero, Option.some.injEq] at hi
      subst hi
      refine ⟨fun j x hj => ?_, ok⟩
      have := cellAt h j (by simpa using hj)
      simpa using this
    | succ i => simp at hi⟩
set_option maxRecDepth 100000 in
set_option maxHeartbeats 8000000 in
theorem steps_walk (w : World) (c : Ca) (ok : CaOk w c) (h : Bool) (xa : Option Addr) (xc : Nat) (X : List Int) (rx : By w (.slice xa X.length xc) X) :
    Calls Try.prog 3 #[.agg #[.int .u8 c.who, .int .u64 c.seq, .int .u8 c.k, .int .u64 c.key, .int .u64 c.hi, .slice c.va c.V.length c.vc, .slice c.oa c.O.length c.oc, .bool c.has, .int .u8 c.lim, .int .u8 c.st, .slice c.ya c.Y.length c.yc, .int .i64 c.beg, .int .i64 c.en], .bool h, .slice xa X.length xc] w fun e w' => e = .returned (.bool true) ∧ Kp Nu w w' := by
  have kA : Kp Nu w (w.alloc (.cells #[.int .u8 c.who, .int .u64 c.seq, .int .u8 c.k, .int .u64 c.key, .int .u64 c.hi, .slice c.va c.V.length c.vc, .slice c.oa c.O.length c.oc, .bool c.has, .int .u8 c.lim, .int .u8 c.st, .slice c.ya c.Y.length c.yc, .int .i64 c.beg, .int .i64 c.en] 30)) := Kp.alloc _ _ _
  have S8 := step8_any (w.alloc (.cells #[.int .u8 c.who, .int .u64 c.seq, .int .u8 c.k, .int .u64 c.key, .int .u64 c.hi, .slice c.va c.V.length c.vc, .slice c.oa c.O.length c.oc, .bool c.has, .int .u8 c.lim, .int .u8 c.st, .slice c.ya c.Y.length c.yc, .int .i64 c.beg, .int .i64 c.en] 30)) c (ok.nu kA) h xa X.length xc X (rx.nu kA)
  have HA := hide (heap_new w (.cells #[.int .u8 c.who, .int .u64 c.seq, .int .u8 c.k, .int .u64 c.key, .int .u64 c.hi, .slice c.va c.V.length c.vc, .slice c.oa c.O.length c.oc, .bool c.has, .int .u8 c.lim, .int .u8 c.st, .slice c.ya c.Y.length c.yc, .int .i64 c.beg, .int .i64 c.en] 30))
  have HH := hide (And.intro ok (And.intro rx kA))
  clear ok rx kA
  go_enter Try.func3, Try.ntmps3
  go_wp2_with (guard_target =~ wpList _ _ _ ({ dst := _, op := Op.load 30 (Operand.tmp 3), type := _, pos := _, after := _, guard := _ } :: _) _ _; refine wpList_load_all 30 13 (.tmp 3) rfl rfl info30 _ Try.underlying30 rfl _ rfl HA.out rfl ?_)
  refine S8.mono ?_; rintro e w1 ⟨⟨b1, b2, s1, rfl, p1, p2, p3⟩, hk1⟩
  obtain ⟨sa1, sc1, es1⟩ := p3.rd.slice
  subst es1
  have kw1 := HH.out.2.2.andNu hk1
  have HA1 := hide (box_k HA.out hk1)
  have k12 : Kp Nu w1 (w1.alloc (.cells #[.int .u8 c.who, .int .u64 c.seq, .int .u8 c.k, .int .u64 c.key, .int .u64 c.hi, .slice c.va c.V.length c.vc, .slice c.oa c.O.length c.oc, .bool c.has, .int .u8 c.lim, .int .u8 c.st, .slice c.ya c.Y.length c.yc, .int .i64 c.beg, .int .i64 c.en] 30)) := Kp.alloc _ _ _
  have T9 := twins9 (w1.alloc (.cells #[.int .u8 c.who, .int .u64 c.seq, .int .u8 c.k, .int .u64 c.key, .int .u64 c.hi, .slice c.va c.V.length c.vc, .slice c.oa c.O.length c.oc, .bool c.has, .int .u8 c.lim, .int .u8 c.st, .slice c.ya c.Y.length c.yc, .int .i64 c.beg, .int .i64 c.en] 30)) _ [c] (cls_one (heap_new w1 (.cells c.cells.toArray 30)) (HH.out.1.nu (kw1.andNu k12))) (by simp)
  have H1 := hide (And.intro p1 (And.intro p2 (And.intro p3 (And.intro kw1 k12))))
  clear S8 p1 p2 p3 hk1 kw1 k12
  go_wp2_with (guard_target =~ wpList _ _ _ ({ dst := _, op := Op.load 30 (Operand.tmp 3), type := _, pos := _, after := _, guard := _ } :: _) _ _; refine wpList_load_all 30 13 (.tmp 3) rfl rfl info30 _ Try.underlying30 rfl _ rfl HA1.out rfl ?_)
  refine T9.mono ?_; rintro e w3 ⟨lv, rfl, D, hDl, hDa, hcow, hk3⟩
  obtain ⟨c', d, hc', hd, hsame⟩ := hDa 0 (by simp)
  obtain rfl : c = c' := by simpa using hc'
  obtain ⟨va, oa, ya, vc, oc, yc, rfl⟩ := hsame
  obtain rfl : D = [c.at_ va oa ya vc oc yc] := by
    rcases D with _ | ⟨x, _ | ⟨y, D⟩⟩
    · simp at hDl
    · simp at hd; rw [hd]
    · simp at hDl
  obtain ⟨lb, loff, lcap, rfl, lr, lok⟩ := cls_at hcow.cls (i := 0) rfl
  have kw3 := (H1.out.2.2.2.1.andNu H1.out.2.2.2.2).andNu hk3
  have TW := twin_any w3 _ X (HH.out.2.1.nu kw3).rd HH.out.2.1.fit
  have H3 := hide (And.intro hcow.cls (And.intro lr (And.intro lok (And.intro kw3 (box_k HA1.out (H1.out.2.2.2.2.andNu hk3))))))
  have k13 := H1.out.2.2.2.2.andNu hk3
  have HK13 := hide k13
  clear T9 hDl hDa hcow hk3 hc' hd lr lok kw3 k13
  simp only [List.length_singleton]
  go_wp2_with fail
  refine TW.mono ?_; rintro e w4 ⟨vv, rfl, hov, hk4⟩
  obtain ⟨xa4, xc4, rfl⟩ := own_slice hov
  have lr4 : w4.rangeAt lb loff (c.at_ va oa ya vc oc yc).cells := by simpa using rangeAt_nu H3.out.2.1 hk4
  obtain ⟨r0, r1, r2, r3, r4, r5, r6, r7, r8, r9, r10, r11, r12⟩ : w4.cell? ⟨lb, loff, none⟩ = some (.int .u8 c.who) ∧ w4.cell? ⟨lb, loff + 1, none⟩ = some (.int .u64 c.seq) ∧ w4.cell? ⟨lb, loff + 2, none⟩ = some (.int .u8 c.k) ∧ w4.cell? ⟨lb, loff + 3, none⟩ = some (.int .u64 c.key) ∧ w4.cell? ⟨lb, loff + 4, none⟩ = some (.int .u64 c.hi) ∧ w4.cell? ⟨lb, loff + 5, none⟩ = some (.slice va c.V.length vc) ∧ w4.cell? ⟨lb, loff + 6, none⟩ = some (.slice oa c.O.length oc) ∧ w4.cell? ⟨lb, loff + 7, none⟩ = some (.bool c.has) ∧ w4.cell? ⟨lb, loff + 8, none⟩ = some (.int .u8 c.lim) ∧ w4.cell? ⟨lb, loff + 9, none⟩ = some (.int .u8 c.st) ∧ w4.cell? ⟨lb, loff + 10, none⟩ = some (.slice ya c.Y.length yc) ∧ w4.cell? ⟨lb, loff + 11, none⟩ = some (.int .i64 c.beg) ∧ w4.cell? ⟨lb, loff + 12, none⟩ = some (.int .i64 c.en) := range_cells lr4
  have rx4 : By w4 (.slice xa4 X.length xc4) X := By.own hov HH.out.2.1.by_ HH.out.2.1.fit
  have S11 := step11_any w4 (c.at_ va oa ya vc oc yc) (H3.out.2.2.1.nu hk4) h xa4 X.length xc4 X rx4
  rw [rOf_at] at S11
  have H4 := hide (And.intro (H3.out.1.nu hk4) (And.intro (H3.out.2.2.2.1.andNu hk4) (And.intro (box_k H3.out.2.2.2.2 hk4) (And.intro rx4 (HK13.out.andNu hk4)))))
  clear TW hov hk4 rx4 lr4
  go_wp2_with fail
  refine S11.mono ?_; rintro e w5 ⟨⟨c1, c2, s2, rfl, q1, q2, q3⟩, hk5⟩
  obtain ⟨sa2, sc2, es2⟩ := q3.rd.slice
  subst es2
  obtain rfl : c1 = b1 := q1.trans H1.out.1.symm
  obtain rfl : c2 = b2 := q2.trans H1.out.2.1.symm
  have SM := same12_eq w5 _ _ _ q3 (H1.out.2.2.1.nu (H4.out.2.2.2.2.andNu hk5))
  have H5 := hide (And.intro (H4.out.1.nu hk5) (And.intro (H4.out.2.1.andNu hk5) (And.intro (box_k H4.out.2.2.1 hk5) (H4.out.2.2.2.1.nu hk5))))
  have ec1 : (c1 == c1) = true := by simp
  have ec2 : (c2 == c2) = true := by simp
  clear S11 q1 q2 q3 hk5 r0 r1 r2 r3 r4 r5 r6 r7 r8 r9 r10 r11 r12
  go_wp2_with fail
  refine SM.mono ?_; rintro e w6 ⟨rfl, hk6⟩
  have hA6 := box_k H5.out.2.2.1 hk6
  have a0 := cellAt hA6 0 (v := .int .u8 c.who) rfl
  have a1 := cellAt hA6 1 (v := .int .u64 c.seq) rfl
  have a2 := cellAt hA6 2 (v := .int .u8 c.k) rfl
  have a3 := cellAt hA6 3 (v := .int .u64 c.key) rfl
  have a4 := cellAt hA6 4 (v := .int .u64 c.hi) rfl
  have a5 := cellAt hA6 5 (v := .slice c.va c.V.length c.vc) rfl
  have a6 := cellAt hA6 6 (v := .slice c.oa c.O.length c.oc) rfl
  have a7 := cellAt hA6 7 (v := .bool c.has) rfl
  have a8 := cellAt hA6 8 (v := .int .u8 c.lim) rfl
  have a9 := cellAt hA6 9 (v := .int .u8 c.st) rfl
  have a10 := cellAt hA6 10 (v := .slice c.ya c.Y.length c.yc) rfl
  have a11 := cellAt hA6 11 (v := .int .i64 c.beg) rfl
  have a12 := cellAt hA6 12 (v := .int .i64 c.en) rfl
  have k67 : Kp Nu w6 (w6.alloc (.cells #[.int .u8 c.who, .int .u64 c.seq, .int .u8 c.k, .int .u64 c.key, .int .u64 c.hi, .slice c.va c.V.length c.vc, .slice c.oa c.O.length c.oc, .bool c.has, .int .u8 c.lim, .int .u8 c.st, .slice c.ya c.Y.length c.yc, .int .i64 c.beg, .int .i64 c.en] 30)) := Kp.alloc _ _ _
  have kw6 := H5.out.2.1.andNu hk6
  have UN := unchanged13 (w6.alloc (.cells #[.int .u8 c.who, .int .u64 c.seq, .int .u8 c.k, .int .u64 c.key, .int .u64 c.hi, .slice c.va c.V.length c.vc, .slice c.oa c.O.length c.oc, .bool c.has, .int .u8 c.lim, .int .u8 c.st, .slice c.ya c.Y.length c.yc, .int .i64 c.beg, .int .i64 c.en] 30)) _ _ [c.at_ va oa ya vc oc yc] [c] ((H5.out.1.nu hk6).nu k67) (cls_one (heap_new w6 (.cells c.cells.toArray 30)) (HH.out.1.nu (kw6.andNu k67))) rfl (fun j hj => by
    have e : j = 0 := by simp at hj; omega
    subst e
    exact ⟨_, _, rfl, rfl, Same.symm ⟨va, oa, ya, vc, oc, yc, rfl⟩⟩) (by simp)
  have H6 := hide (And.intro (kw6.andNu k67) ((H5.out.2.2.2.nu hk6).nu k67))
  clear SM hk6 hA6 k67 kw6
  simp only [List.length_singleton] at UN
  go_wp2_with fail
  refine UN.mono ?_; rintro e w7 ⟨rfl, hk7⟩
  have kw7 := H6.out.1.andNu hk7
  have SX := same12_eq w7 _ _ X (H6.out.2.nu hk7) (HH.out.2.1.nu kw7)
  have HK7 := hide kw7
  clear UN hk7 kw7 a0 a1 a2 a3 a4 a5 a6 a7 a8 a9 a10 a11 a12
  go_wp2_with fail
  refine SX.mono ?_; rintro e w8 ⟨rfl, hk8⟩
  have HK8 := hide (HK7.out.andNu hk8)
  clear SX hk8
  go_wp2
  go_ret
  exact ⟨rfl, HK8.out⟩
end Go.Proofs.Ytcbonbeogdgogaa.Li
