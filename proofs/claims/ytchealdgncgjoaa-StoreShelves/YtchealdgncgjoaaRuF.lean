import Derived.Test.YtchealdgncgjoaaRuC
import Derived.Test.YtchealdgncgjoaaRtY
import Derived.Test.YtchealdgncgjoaaRtZ
import Derived.BigQuiet
import Derived.Deep.Cut
import Derived.Deep.QuietTactic
namespace Go.Proofs.Ytchealdgncgjoaa.StU
open Go.RowKit Go.Proofs.Ytchealdgncgjoaa.St Go.Shelf
set_option linter.unusedVariables false
set_option linter.unusedSimpArgs false
/-- a step of the script -/
structure Op7 where
  k : Int
  s : Int
  lo : Int
  hi : Int
  n : Int
  v : Sv
  ys : List Int
  p : Value
  S : List Pg
instance : Inhabited Op7 := ⟨⟨0, 0, 0, 0, 0, ⟨none, 0, 0⟩, [], .bool false, []⟩⟩
def OpOk (W : World) (x : Op7) : Prop := Rd W (.slice x.v.a x.v.n x.v.c) x.ys ∧ Byt x.ys ∧ x.ys.length ≤ 140737488351232 ∧ Wp W x.p x.S ∧ AOk (x.S.map kv) ∧ 0 ≤ x.lo ∧ x.lo ≤ 18446744073709551615
abbrev opV (k s lo hi n : Int) (v p : Value) : Value := .agg #[.int .i64 k, .int .i64 s, .int .u64 lo, .int .u64 hi, .int .i64 n, v, p]
section
variable {W0 w : World} {col : Nat → Nat} {c d : Nat} {a b : Value} {o : Om}
set_option maxRecDepth 100000 in
set_option maxHeartbeats 4000000 in
theorem step_lay (hnm : c ≠ 0 ∧ d ≠ 0 ∧ c < 5 ∧ d < 5 ∧ c ≠ d) (hB : Bz W0 w col) (hP : Ps w a (Co col c) o) (hD : Ds w b (Co col d) o) (os lo hi n : Int) (val prs : Value) (S : List Pg) (hS : Wp W0 prs S) (hA : AOk (S.map kv)) :
    Calls Try.prog 73 #[a, b, .agg #[.int .i64 8, .int .i64 os, .int .u64 lo, .int .u64 hi, .int .i64 n, val, prs]] w fun e w' => e = .returned (.bool true) ∧ Hid (Nx W0 c d a b w col w') := by
  have HS1 := hide (Sx.start hnm hB hP hD #[.int .i64 8, .int .i64 os, .int .u64 lo, .int .u64 hi, .int .i64 n, val, prs])
  clear hB hP hD hnm
  have LS : ∀ {W W2 obs} (h : Sx W0 W2 col c d a b obs o o W), Calls Try.prog 146 #[a, b, .agg #[.int .i64 8, .int .i64 os, .int .u64 lo, .int .u64 hi, .int .i64 n, val, prs]] W fun e w' => e = .returned (.bool true) ∧ Hid (Nx W0 c d a b W2 col w') := fun h => by
    obtain ⟨col1, h⟩ := h
    refine (lays146 h.nm h.bz h.ps h.ds os lo hi n val prs S hS hA).mono ?_
    rintro e w' ⟨e1, e2⟩
    exact ⟨e1, h.call e2.out⟩
  clear hS hA
  go_enter Try.func73, Try.ntmps73
  go_wp2_with fail
  generalize w.alloc (.cells #[.int .i64 8, .int .i64 os, .int .u64 lo, .int .u64 hi, .int .i64 n, val, prs] 121) = W1 at *
  obtain ⟨q0, q1, q2, q3, q4, q5, q6⟩ := box7 (HS1.out.box 0 rfl)
  go_wp2_with (go_at_call 146; refine (LS HS1.out).mono ?_; rintro e w2 ⟨rfl, HN⟩)
  go_ret
  exact ⟨rfl, HN⟩
/-- a step at a shelf of the program's and at the document's: both answer the same -/
theorem step73 (hnm : c ≠ 0 ∧ d ≠ 0 ∧ c < 5 ∧ d < 5 ∧ c ≠ d) (hB : Bz W0 w col) (hP : Ps w a (Co col c) o) (hD : Ds w b (Co col d) o) (k os lo hi n : Int) (v : Sv) (p : Value) (ys : List Int) (S : List Pg) (hx : OpOk W0 ⟨k, os, lo, hi, n, v, ys, p, S⟩) (h1 : 1 ≤ k) (h9 : k ≤ 9) :
    Calls Try.prog 73 #[a, b, opV k os lo hi n (.slice v.a v.n v.c) p] w fun e w' => e = .returned (.bool true) ∧ Hid (Nx W0 c d a b w col w') := by
  obtain ⟨r1, r2, r3, r4, r5, r6, r7⟩ := hx
  have hk : k = 1 ∨ k = 2 ∨ k = 3 ∨ k = 4 ∨ (k = 5 ∨ k = 7) ∨ k = 6 ∨ k = 8 ∨ k = 9 := by omega
  rcases hk with rfl | rfl | rfl | rfl | hk | rfl | rfl | rfl
  · exact step_set hnm hB hP hD os lo hi n _ p ys r1 r2 r3 r6 r7
  · exact step_get hnm hB hP hD os lo hi n _ p
  · exact step_del hnm hB hP hD os lo hi n _ p
  · exact step_sizes hnm hB hP hD os lo hi n _ p
  · exact step_lists hnm hB hP hD k os lo hi n _ p hk
  · exact step_nth hnm hB hP hD os lo hi n _ p
  · exact step_lay hnm hB hP hD os lo hi n _ p S r4 r5
  · exact step_dig hnm hB hP hD os lo hi n _ p
end
/-- all four shelves -/
def Tw (W0 : World) (a1 b1 a2 b2 : Value) (w : World) : Prop := ∃ col o1 o2, Bz W0 w col ∧ Ps w a1 (Co col 1) o1 ∧ Ds w b1 (Co col 2) o1 ∧ Ps w a2 (Co col 3) o2 ∧ Ds w b2 (Co col 4) o2
section
variable {W0 w w' : World} {a1 b1 a2 b2 : Value}
theorem Tw.nu (h : Tw W0 a1 b1 a2 b2 w) (k : Kp Nu w w') : Tw W0 a1 b1 a2 b2 w' := by
  obtain ⟨col, o1, o2, h1, h2, h3, h4, h5⟩ := h
  exact ⟨ext w col 5, o1, o2, h1.nu k 5, (Own.ps _ _).nu h2 k 5, (Own.ds _ _).nu h3 k 5, (Own.ps _ _).nu h4 k 5, (Own.ds _ _).nu h5 k 5⟩
theorem Tw.base (h : Tw W0 a1 b1 a2 b2 w) : Kp Nu W0 w := by
  obtain ⟨col, o1, o2, h1, h2, h3, h4, h5⟩ := h
  exact h1.1
theorem Tw.step1 (h : Tw W0 a1 b1 a2 b2 w) (k os lo hi n : Int) (v : Sv) (p : Value) (ys : List Int) (S : List Pg) (hx : OpOk W0 ⟨k, os, lo, hi, n, v, ys, p, S⟩) (q1 : 1 ≤ k) (q9 : k ≤ 9) :
    Calls Try.prog 73 #[a1, b1, opV k os lo hi n (.slice v.a v.n v.c) p] w fun e w' => e = .returned (.bool true) ∧ Hid (Tw W0 a1 b1 a2 b2 w') := by
  obtain ⟨col, o1, o2, h1, h2, h3, h4, h5⟩ := h
  refine (step73 (by decide) h1 h2 h3 k os lo hi n v p ys S hx q1 q9).mono ?_
  rintro e w' ⟨e1, e2⟩
  obtain ⟨col', o', g1, g2, g3, g4⟩ := e2.out
  exact ⟨e1, col', o', o2, g2, g3, g4, (Own.ps _ _).ext h4 g1 (by decide) (by decide) (by decide), (Own.ds _ _).ext h5 g1 (by decide) (by decide) (by decide)⟩
theorem Tw.step2 (h : Tw W0 a1 b1 a2 b2 w) (k os lo hi n : Int) (v : Sv) (p : Value) (ys : List Int) (S : List Pg) (hx : OpOk W0 ⟨k, os, lo, hi, n, v, ys, p, S⟩) (q1 : 1 ≤ k) (q9 : k ≤ 9) :
    Calls Try.prog 73 #[a2, b2, opV k os lo hi n (.slice v.a v.n v.c) p] w fun e w' => e = .returned (.bool true) ∧ Hid (Tw W0 a1 b1 a2 b2 w') := by
  obtain ⟨col, o1, o2, h1, h2, h3, h4, h5⟩ := h
  refine (step73 (by decide) h1 h4 h5 k os lo hi n v p ys S hx q1 q9).mono ?_
  rintro e w' ⟨e1, e2⟩
  obtain ⟨col', o', g1, g2, g3, g4⟩ := e2.out
  exact ⟨e1, col', o1, o', g2, (Own.ps _ _).ext h2 g1 (by decide) (by decide) (by decide), (Own.ds _ _).ext h3 g1 (by decide) (by decide) (by decide), g3, g4⟩
def nwO (most : Int) : Om := if 0 ≤ most ∧ most ≤ 32768 then some (most, []) else none
def nwE (most : Int) : Int := if 0 ≤ most ∧ most ≤ 32768 then 0 else 2
def nwN (most : Int) : Bool := !(decide (0 ≤ most) && decide (most ≤ 32768))
set_option maxHeartbeats 400000 in
theorem new_no45 (w : World) (most : Int) (h : most < 0 ∨ 32768 < most) : Calls Try.prog 45 #[.int .i64 most] w fun e w' => e = .returned (.tuple #[.pointer none, .int .i64 2]) ∧ w' = w := by
  by_cases h0 : most < 0
  · clear h
    go_enter Try.func45, Try.ntmps45
    go_wp2
    go_ret2
    exact ⟨rfl, rfl⟩
  · have h1 : 32768 < most := by omega
    clear h
    go_enter Try.func45, Try.ntmps45
    go_wp2
    go_ret2
    exact ⟨rfl, rfl⟩
theorem new45_any (w : World) (most : Int) : Calls Try.prog 45 #[.int .i64 most] w fun e w' => ∃ p : Option Addr, e = .returned (.tuple #[.pointer p, .int .i64 (nwE most)]) ∧ Hid (Ps w' (.pointer p) (fun i => w.heap.size ≤ i) (nwO most) ∧ p.isNone = nwN most ∧ Kp Nu w w') := by
  unfold nwO nwE nwN
  by_cases h : 0 ≤ most ∧ most ≤ 32768
  · rw [if_pos h, if_pos h]
    refine (new_ok w most h.1 h.2).mono ?_
    rintro e w' ⟨sb, mb, rfl, h1, h2, h3, h4⟩
    exact ⟨_, rfl, ⟨sb, mb, _, rfl, h3, h1, h2, fun p hp => by cases hp⟩, by simp [h.1, h.2], h4⟩
  · rw [if_neg h, if_neg h]
    refine (new_no45 w most (by omega)).mono ?_
    rintro e w' ⟨rfl, hw⟩
    obtain rfl := hw
    refine ⟨none, rfl, rfl, ?_, Kp.refl _ _⟩
    by_cases h0 : 0 ≤ most
    · have h1 : ¬ most ≤ 32768 := fun h1 => h ⟨h0, h1⟩
      simp [h0, h1]
    · simp [h0]
theorem new71_any (w : World) (most : Int) : Calls Try.prog 71 #[.int .i64 most] w fun e w' => ∃ p : Option Addr, e = .returned (.tuple #[.pointer p, .int .i64 (nwE most)]) ∧ Hid (Ds w' (.pointer p) (fun i => w.heap.size ≤ i) (nwO most) ∧ p.isNone = nwN most ∧ Kp Nu w w') := by
  unfold nwO nwE nwN
  by_cases h : 0 ≤ most ∧ most ≤ 32768
  · rw [if_pos h, if_pos h]
    refine (new71 w most h.1 h.2).mono ?_
    rintro e w' ⟨rb, rfl, h1, h2, h3⟩
    exact ⟨_, rfl, ⟨rb, _, _, rfl, h2, h1, (fun g hg => by cases hg), (fun p hp => by cases hp)⟩, by simp [h.1, h.2], h3⟩
  · rw [if_neg h, if_neg h]
    refine (new_no71 w most (by omega)).mono ?_
    rintro e w' ⟨rfl, hw⟩
    obtain rfl := hw
    refine ⟨none, rfl, rfl, ?_, Kp.refl _ _⟩
    by_cases h0 : 0 ≤ most
    · have h1 : ¬ most ≤ 32768 := fun h1 => h ⟨h0, h1⟩
      simp [h0, h1]
    · simp [h0]
end
end Go.Proofs.Ytchealdgncgjoaa.StU
namespace Go.Proofs.Ytchealdgncgjoaa.StU
open Go.RowKit Go.Proofs.Ytchealdgncgjoaa.St Go.Shelf
set_option linter.unusedVariables false
set_option linter.unusedSimpArgs false
section
variable {W0 w w' : World} {a1 b1 a2 b2 v1 v2 v3 v4 : Value} {m1 m2 : Int}
def T1 (W0 : World) (a1 : Value) (m1 : Int) (w : World) : Prop := ∃ col, Bz W0 w col ∧ Ps w a1 (Co col 1) (nwO m1)
def T2 (W0 : World) (a1 a2 : Value) (m1 m2 : Int) (w : World) : Prop := ∃ col, Bz W0 w col ∧ Ps w a1 (Co col 1) (nwO m1) ∧ Ps w a2 (Co col 3) (nwO m2)
def T3 (W0 : World) (a1 a2 b1 : Value) (m1 m2 : Int) (w : World) : Prop := ∃ col, Bz W0 w col ∧ Ps w a1 (Co col 1) (nwO m1) ∧ Ps w a2 (Co col 3) (nwO m2) ∧ Ds w b1 (Co col 2) (nwO m1)
theorem t1 (w : World) (m1 : Int) : Calls Try.prog 45 #[.int .i64 m1] w fun e w' => ∃ p : Option Addr, e = .returned (.tuple #[.pointer p, .int .i64 (nwE m1)]) ∧ p.isNone = nwN m1 ∧ Hid (T1 w (.pointer p) m1 w') := by
  refine (new45_any w m1).mono ?_
  rintro e w' ⟨p, e1, H⟩
  obtain ⟨h1, h2, k⟩ := H.out
  have hB : Bz w w (fun _ => 0) := ⟨Kp.refl _ _, fun _ _ => rfl⟩
  exact ⟨p, e1, h2, _, hB.nu k 1, (Own.ps _ _).new h1 1⟩
theorem t2 (h : T1 W0 a1 m1 w) (m2 : Int) : Calls Try.prog 45 #[.int .i64 m2] w fun e w' => ∃ p : Option Addr, e = .returned (.tuple #[.pointer p, .int .i64 (nwE m2)]) ∧ p.isNone = nwN m2 ∧ Hid (T2 W0 a1 (.pointer p) m1 m2 w') := by
  obtain ⟨col, hB, g1⟩ := h
  refine (new45_any w m2).mono ?_
  rintro e w' ⟨p, e1, H⟩
  obtain ⟨h1, h2, k⟩ := H.out
  exact ⟨p, e1, h2, _, hB.nu k 3, (Own.ps _ _).nu g1 k 3, (Own.ps _ _).new h1 3⟩
theorem t3 (h : T2 W0 a1 a2 m1 m2 w) : Calls Try.prog 71 #[.int .i64 m1] w fun e w' => ∃ p : Option Addr, e = .returned (.tuple #[.pointer p, .int .i64 (nwE m1)]) ∧ p.isNone = nwN m1 ∧ Hid (T3 W0 a1 a2 (.pointer p) m1 m2 w') := by
  obtain ⟨col, hB, g1, g2⟩ := h
  refine (new71_any w m1).mono ?_
  rintro e w' ⟨p, e1, H⟩
  obtain ⟨h1, h2, k⟩ := H.out
  exact ⟨p, e1, h2, _, hB.nu k 2, (Own.ps _ _).nu g1 k 2, (Own.ps _ _).nu g2 k 2, (Own.ds _ _).new h1 2⟩
theorem t4 (h : T3 W0 a1 a2 b1 m1 m2 w) : Calls Try.prog 71 #[.int .i64 m2] w fun e w' => ∃ p : Option Addr, e = .returned (.tuple #[.pointer p, .int .i64 (nwE m2)]) ∧ p.isNone = nwN m2 ∧ Hid (Tw W0 a1 b1 a2 (.pointer p) w') := by
  obtain ⟨col, hB, g1, g2, g3⟩ := h
  refine (new71_any w m2).mono ?_
  rintro e w' ⟨p, e1, H⟩
  obtain ⟨h1, h2, k⟩ := H.out
  exact ⟨p, e1, h2, _, _, _, hB.nu k 4, (Own.ps _ _).nu g1 k 4, (Own.ds _ _).nu g3 k 4, (Own.ps _ _).nu g2 k 4, (Own.ds _ _).new h1 4⟩
abbrev lA (o : Om) : List KV := scA o 0 18446744073709551615 1073741824
def Am : Nat → Prop := fun _ => True
/-- the last questions -/
structure E0 (a1 b1 a2 b2 : Value) (o1 o2 : Om) (w : World) : Prop where
  p1 : Ps w a1 Am o1
  d1 : Ds w b1 Am o1
  p2 : Ps w a2 Am o2
  d2 : Ds w b2 Am o2
theorem E0.nu {o1 o2 : Om} (h : E0 a1 b1 a2 b2 o1 o2 w) (k : Kp Nu w w') : E0 a1 b1 a2 b2 o1 o2 w' := ⟨h.p1.nu k, h.d1.nu k, h.p2.nu k, h.d2.nu k⟩
theorem Tw.e0 (h : Tw W0 a1 b1 a2 b2 w) : ∃ o1 o2, E0 a1 b1 a2 b2 o1 o2 w := by
  obtain ⟨col, o1, o2, h1, h2, h3, h4, h5⟩ := h
  exact ⟨o1, o2, h2.mono (fun _ _ _ => trivial), h3.mono (fun _ _ _ => trivial), h4.mono (fun _ _ _ => trivial), h5.mono (fun _ _ _ => trivial)⟩
def E1 (W0 : World) (a1 b1 a2 b2 v1 : Value) (w : World) : Prop := ∃ o1 o2, E0 a1 b1 a2 b2 o1 o2 w ∧ Tp w v1 Am (lA o1) ∧ Kp Nu W0 w
def E2 (W0 : World) (a1 b1 a2 b2 v1 v2 : Value) (w : World) : Prop := ∃ o1 o2, E0 a1 b1 a2 b2 o1 o2 w ∧ Tp w v1 Am (lA o1) ∧ Tp w v2 Am (lA o2) ∧ Kp Nu W0 w
def E3 (W0 : World) (a1 b1 a2 b2 v1 v2 v3 : Value) (w : World) : Prop := ∃ o1 o2, E0 a1 b1 a2 b2 o1 o2 w ∧ Tp w v1 Am (lA o1) ∧ Tp w v2 Am (lA o2) ∧ Td w v3 Am (lA o1) ∧ Kp Nu W0 w
def E4 (W0 : World) (v1 v2 v3 v4 : Value) (w : World) : Prop := ∃ A1 A2 : List KV, Tp w v1 Am A1 ∧ Tp w v2 Am A2 ∧ Td w v3 Am A1 ∧ Td w v4 Am A2 ∧ A1.length ≤ 32768 ∧ A2.length ≤ 32768 ∧ Kp Nu W0 w
theorem e1 (h : Tw W0 a1 b1 a2 b2 w) : Calls Try.prog 49 #[a1, .int .u64 0, .int .u64 18446744073709551615, .int .i64 1073741824] w fun e w' => ∃ v x, e = .returned (.tuple #[v, .bool x]) ∧ Hid (E1 W0 a1 b1 a2 b2 v w') := by
  have hb := h.base
  obtain ⟨o1, o2, h⟩ := h.e0
  refine (h.p1.scan 0 18446744073709551615 1073741824).mono ?_
  rintro e w' ⟨v, e1, e2, k⟩
  exact ⟨v, _, e1, o1, o2, h.nu k, e2.out.mono (fun _ _ _ => trivial), hb.andNu k⟩
theorem e2 (h : E1 W0 a1 b1 a2 b2 v1 w) : Calls Try.prog 49 #[a2, .int .u64 0, .int .u64 18446744073709551615, .int .i64 1073741824] w fun e w' => ∃ v x, e = .returned (.tuple #[v, .bool x]) ∧ Hid (E2 W0 a1 b1 a2 b2 v1 v w') := by
  obtain ⟨o1, o2, h, g1, hb⟩ := h
  refine (h.p2.scan 0 18446744073709551615 1073741824).mono ?_
  rintro e w' ⟨v, e1, e2, k⟩
  exact ⟨v, _, e1, o1, o2, h.nu k, g1.nu k, e2.out.mono (fun _ _ _ => trivial), hb.andNu k⟩
theorem e3 (h : E2 W0 a1 b1 a2 b2 v1 v2 w) : Calls Try.prog 74 #[b1, .int .u64 0, .int .u64 18446744073709551615, .int .i64 1073741824] w fun e w' => ∃ v x, e = .returned (.tuple #[v, .bool x]) ∧ Hid (E3 W0 a1 b1 a2 b2 v1 v2 v w') := by
  obtain ⟨o1, o2, h, g1, g2, hb⟩ := h
  refine (h.d1.scan 0 18446744073709551615 1073741824).mono ?_
  rintro e w' ⟨v, e1, e2, k⟩
  exact ⟨v, _, e1, o1, o2, h.nu k, g1.nu k, g2.nu k, e2.out.mono (fun _ _ _ => trivial), hb.andNu k⟩
theorem e4 (h : E3 W0 a1 b1 a2 b2 v1 v2 v3 w) : Calls Try.prog 74 #[b2, .int .u64 0, .int .u64 18446744073709551615, .int .i64 1073741824] w fun e w' => ∃ v x, e = .returned (.tuple #[v, .bool x]) ∧ Hid (E4 W0 v1 v2 v3 v w') := by
  obtain ⟨o1, o2, h, g1, g2, g3, hb⟩ := h
  refine (h.d2.scan 0 18446744073709551615 1073741824).mono ?_
  rintro e w' ⟨v, e1, e2, k⟩
  exact ⟨v, _, e1, _, _, g1.nu k, g2.nu k, g3.nu k, e2.out.mono (fun _ _ _ => trivial), Nat.le_trans (scA_len _ _ _ _) h.p1.small, Nat.le_trans (scA_len _ _ _ _) h.p2.small, hb.andNu k⟩
theorem tsame {A : List KV} (h1 : Tp w v1 Am A) (h2 : Td w v3 Am A) (hA : A.length ≤ 32768) : Calls Try.prog 75 #[v1, v3] w fun e w' => e = .returned (.bool true) ∧ Kp Nu w w' := by
  obtain ⟨SA, hA1, e1⟩ := h1.wp
  obtain ⟨SB, hB1, e2⟩ := h2.wp
  exact same75 w v1 v3 SA SB hA1 hB1 (e1.trans e2.symm) (by have := congrArg List.length e1; rw [List.length_map] at this; omega)
theorem e5 (h : E4 W0 v1 v2 v3 v4 w) : Calls Try.prog 75 #[v1, v3] w fun e w' => e = .returned (.bool true) ∧ Hid (E4 W0 v1 v2 v3 v4 w') := by
  obtain ⟨A1, A2, g1, g2, g3, g4, l1, l2, hb⟩ := h
  refine (tsame g1 g3 l1).mono ?_
  rintro e w' ⟨e1, k⟩
  exact ⟨e1, A1, A2, g1.nu k, g2.nu k, g3.nu k, g4.nu k, l1, l2, hb.andNu k⟩
theorem e6 (h : E4 W0 v1 v2 v3 v4 w) : Calls Try.prog 75 #[v2, v4] w fun e w' => e = .returned (.bool true) ∧ Hid (E4 W0 v1 v2 v3 v4 w') := by
  obtain ⟨A1, A2, g1, g2, g3, g4, l1, l2, hb⟩ := h
  refine (tsame g2 g4 l2).mono ?_
  rintro e w' ⟨e1, k⟩
  exact ⟨e1, A1, A2, g1.nu k, g2.nu k, g3.nu k, g4.nu k, l1, l2, hb.andNu k⟩
end
end Go.Proofs.Ytchealdgncgjoaa.StU
namespace Go.Proofs.Ytchealdgncgjoaa.StU
open Go.RowKit Go.Proofs.Ytchealdgncgjoaa.St Go.Shelf
set_option linter.unusedVariables false
set_option linter.unusedSimpArgs false
/-- the script -/
def Wo (W : World) (v : Value) (T : List Op7) : Prop := ∃ ad cap, v = .slice ad T.length cap ∧ ∀ (i : Nat) (x : Op7), T[i]? = some x → ∃ b off, ad = some ⟨b, off, none⟩ ∧
  (W.cell? ⟨b, off + i * 7, none⟩ = some (.int .i64 x.k) ∧ W.cell? ⟨b, off + i * 7 + 1, none⟩ = some (.int .i64 x.s) ∧ W.cell? ⟨b, off + i * 7 + 2, none⟩ = some (.int .u64 x.lo) ∧ W.cell? ⟨b, off + i * 7 + 3, none⟩ = some (.int .u64 x.hi) ∧
   W.cell? ⟨b, off + i * 7 + 4, none⟩ = some (.int .i64 x.n) ∧ W.cell? ⟨b, off + i * 7 + 5, none⟩ = some (.slice x.v.a x.v.n x.v.c) ∧ W.cell? ⟨b, off + i * 7 + 6, none⟩ = some x.p) ∧ OpOk W x
set_option maxRecDepth 100000 in
set_option maxHeartbeats 1000000 in
theorem shelves_walk (w : World) (m1 m2 : Int) (v : Value) (T : List Op7) (hT : Wo w v T) (htl : T.length ≤ 17592186043904) :
    Calls Try.prog 15 #[.int .i64 m1, .int .i64 m2, v] w fun e w' => e = .returned (.bool true) ∧ Kp Nu w w' := by
  obtain ⟨ad, cap, rfl, hT⟩ := hT
  obtain ⟨N, eN⟩ : ∃ N, T.length = N := ⟨_, rfl⟩
  rw [eN] at htl ⊢
  have HT := hide hT
  have HN := hide (And.intro eN htl)
  clear hT eN htl
  obtain ⟨n1, en1⟩ : ∃ n1, nwE m1 = n1 := ⟨_, rfl⟩
  obtain ⟨n2, en2⟩ : ∃ n2, nwE m2 = n2 := ⟨_, rfl⟩
  obtain ⟨z1, ez1⟩ : ∃ z1, nwN m1 = z1 := ⟨_, rfl⟩
  obtain ⟨z2, ez2⟩ : ∃ z2, nwN m2 = z2 := ⟨_, rfl⟩
  have HE := hide (And.intro en1 (And.intro en2 (And.intro ez1 ez2)))
  clear en1 en2 ez1 ez2
  go_enter Try.func15, Try.ntmps15
  go_upto_region 5 with (first
    | (go_at_call 71; have HZ := t4 H3.out; rw [HE.out.2.1, HE.out.2.2.2] at HZ; refine HZ.mono ?_; clear HZ; rintro e w4 ⟨q2, rfl, d4, H4⟩; clear H3)
    | (go_at_call 71; have HZ := t3 H2.out; rw [HE.out.1, HE.out.2.2.1] at HZ; refine HZ.mono ?_; clear HZ; rintro e w3 ⟨q1, rfl, d3, H3⟩; clear H2)
    | (go_at_call 45; have HZ := t2 H1.out m2; rw [HE.out.2.1, HE.out.2.2.2] at HZ; refine HZ.mono ?_; clear HZ; rintro e w2 ⟨p2, rfl, d2, H2⟩; clear H1)
    | (go_at_call 45; have HZ := t1 w m1; rw [HE.out.1, HE.out.2.2.1] at HZ; refine HZ.mono ?_; clear HZ; rintro e w1 ⟨p1, rfl, d1, H1⟩))
  have g1 : (n1 == n1) = true := by simp
  have g2 : (n2 == n2) = true := by simp
  go_wp2_with (go_at_call 72; refine (num72 _ _).mono ?_; rintro e w5 ⟨rfl, hw⟩; obtain rfl := hw.symm)
  clear d1 d2 d3 d4 g1 g2
  generalize hA1 : Value.pointer p1 = A1 at *
  generalize hB1 : Value.pointer q1 = B1 at *
  generalize hA2 : Value.pointer p2 = A2 at *
  generalize hB2 : Value.pointer q2 = B2 at *
  clear hA1 hB1 hA2 hB2
  go_loopw [15] (fun it wr => ∃ i : Nat, it = .int .i64 (i : Int) ∧ i ≤ N ∧ Hid (Tw w A1 B1 A2 B2 wr)) (fun it _ => N - (intOf it).toNat)
  case atStart => exact ⟨0, rfl, Nat.zero_le _, H4⟩
  case round =>
    clear H4
    obtain ⟨i, rfl, hi, HI⟩ := hrel
    by_cases hlt : i < N
    · obtain ⟨x, hx⟩ : ∃ x, T[i]? = some x := ⟨_, List.getElem?_eq_getElem (by rw [HN.out.1]; exact hlt)⟩
      obtain ⟨b, off, rfl, ⟨c0, c1, c2, c3, c4, c5, c6⟩, hok⟩ := HT.out i x hx
      have kw := HI.out.base
      have d0 := cell_nu c0 kw
      have d1 := cell_nu c1 kw
      have d2 := cell_nu c2 kw
      have d3 := cell_nu c3 kw
      have d4 := cell_nu c4 kw
      have d5 := cell_nu c5 kw
      have d6 := cell_nu c6 kw
      have hltI : (i : Int) < (N : Int) := by omega
      have hi00 : (0 : Int) ≤ (i : Int) := by omega
      have hwi := wq (i : Int) hi00 (by have := HN.out.2; have := HN.out.1; omega)
      obtain ⟨kd, os, lo, hi2, n, ⟨va, vn, vc⟩, ys, p, S⟩ := x
      simp only at d0 d1 d2 d3 d4 d5 d6
      obtain ⟨pad, pcap, ep, _⟩ := hok.2.2.2.1
      simp only at ep
      subst ep
      obtain ⟨pn, epn⟩ : ∃ pn, S.length = pn := ⟨_, rfl⟩
      rw [epn] at d6 hok
      clear epn
      have HO : Hid (OpOk w ⟨kd, os, lo, hi2, n, ⟨va, vn, vc⟩, ys, .slice pad pn pcap, S⟩) := hide hok
      have HE2 := hide (And.intro hlt hwi)
      clear hx c0 c1 c2 c3 c4 c5 c6 hok kw hlt hi hwi
      have HT1 := hide (HI.out.nu (Kp.alloc wr (.cells #[.int .i64 kd, .int .i64 os, .int .u64 lo, .int .u64 hi2, .int .i64 n, .slice va vn vc, .slice pad pn pcap] 121) Nu))
      clear HI
      by_cases k1 : kd < 1
      · go_wp2_with fail
        rw [HE2.out.2]
        exact ⟨⟨i + 1, rfl, HE2.out.1, HT1⟩, lt_mi rfl HE2.out.1⟩
      · by_cases k9 : 9 < kd
        · go_wp2_with fail
          rw [HE2.out.2]
          exact ⟨⟨i + 1, rfl, HE2.out.1, HT1⟩, lt_mi rfl HE2.out.1⟩
        · have HK9 := hide (And.intro (show 1 ≤ kd by omega) (show kd ≤ 9 by omega))
          obtain ⟨r, er⟩ : ∃ r, Int.tmod os 2 = r := ⟨_, rfl⟩
          by_cases hr : r = 0
          · subst hr
            go_wp2_with (go_at_call 73; refine (HT1.out.step1 kd os lo hi2 n ⟨va, vn, vc⟩ _ ys S HO.out HK9.out.1 HK9.out.2).mono ?_; rintro e w6 ⟨rfl, H6⟩; clear HT1)
            rw [HE2.out.2]
            first
              | exact ⟨⟨i + 1, rfl, HE2.out.1, H6⟩, lt_mi rfl HE2.out.1⟩
              | exact ⟨⟨i + 1, rfl, HE2.out.1⟩, lt_mi rfl HE2.out.1⟩
          · go_wp2_with (go_at_call 73; refine (HT1.out.step2 kd os lo hi2 n ⟨va, vn, vc⟩ _ ys S HO.out HK9.out.1 HK9.out.2).mono ?_; rintro e w6 ⟨rfl, H6⟩; clear HT1)
            rw [HE2.out.2]
            first
              | exact ⟨⟨i + 1, rfl, HE2.out.1, H6⟩, lt_mi rfl HE2.out.1⟩
              | exact ⟨⟨i + 1, rfl, HE2.out.1⟩, lt_mi rfl HE2.out.1⟩
    · obtain rfl : i = N := by omega
      have hnl : ¬ (i : Int) < (i : Int) := by omega
      clear hi hlt
      go_wp2_with (first
        | (go_at_call 75; refine (e6 H9.out).mono ?_; rintro e w10 ⟨rfl, H10⟩; clear H9)
        | (go_at_call 75; refine (e5 H8.out).mono ?_; rintro e w9 ⟨rfl, H9⟩; clear H8)
        | (go_at_call 74; refine (e4 H7.out).mono ?_; rintro e w8 ⟨v8, x8, rfl, H8⟩; clear H7)
        | (go_at_call 74; refine (e3 H6.out).mono ?_; rintro e w7 ⟨v7, x7, rfl, H7⟩; clear H6)
        | (go_at_call 49; refine (e2 H5.out).mono ?_; rintro e w6 ⟨v6, x6, rfl, H6⟩; clear H5)
        | (go_at_call 49; refine (e1 HI.out).mono ?_; rintro e w5 ⟨v5, x5, rfl, H5⟩; clear HI))
      go_ret
      obtain ⟨_, _, _, _, _, _, _, _, hk⟩ := H10.out
      exact ⟨rfl, hk⟩
end Go.Proofs.Ytchealdgncgjoaa.StU
