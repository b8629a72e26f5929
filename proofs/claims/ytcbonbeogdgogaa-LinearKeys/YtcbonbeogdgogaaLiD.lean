import Derived.Test.YtcbonbeogdgogaaLiC
namespace Go.Proofs.Ytcbonbeogdgogaa.Li
open Go.RowKit
set_option linter.unusedVariables false
/-- a bool that says whether p -/
def Ans (p : Prop) (e : Ending) : Prop := ∃ b : Bool, e = .returned (.bool b) ∧ (b = true ↔ p)
theorem Ans.of {p : Prop} [Decidable p] {e : Ending} (h : e = .returned (.bool (decide p))) : Ans p e := ⟨_, h, by simp⟩
set_option maxHeartbeats 1000000 in
theorem known50 (w : World) (who seq k key hi lim st beg en : Int) (has : Bool) (va oa ya : Option Addr) (vn vc on oc yn yc : Nat) : Calls Try.prog 50 #[.agg #[.int .u8 who, .int .u64 seq, .int .u8 k, .int .u64 key, .int .u64 hi, .slice va vn vc, .slice oa on oc, .bool has, .int .u8 lim, .int .u8 st, .slice ya yn yc, .int .i64 beg, .int .i64 en]] w fun e w' => e = .returned (.bool (en != -1)) ∧ Kp Nu w w' := by
  go_enter Try.func50, Try.ntmps50
  go_wp2
  go_ret
  exact ⟨rfl, Kp.alloc _ _ _⟩
set_option maxHeartbeats 1000000 in
theorem known54 (w : World) (who seq k key hi lim st beg en : Int) (has : Bool) (va oa ya : Option Addr) (vn vc on oc yn yc : Nat) : Calls Try.prog 54 #[.agg #[.int .u8 who, .int .u64 seq, .int .u8 k, .int .u64 key, .int .u64 hi, .slice va vn vc, .slice oa on oc, .bool has, .int .u8 lim, .int .u8 st, .slice ya yn yc, .int .i64 beg, .int .i64 en]] w fun e w' => e = .returned (.bool (en != -1)) ∧ Kp Nu w w' := by
  go_enter Try.func54, Try.ntmps54
  go_wp2
  go_ret
  exact ⟨rfl, Kp.alloc _ _ _⟩
set_option maxHeartbeats 1000000 in
theorem scan28 (w : World) (who seq k key hi lim st beg en : Int) (has : Bool) (va oa ya : Option Addr) (vn vc on oc yn yc : Nat) : Calls Try.prog 28 #[.agg #[.int .u8 who, .int .u64 seq, .int .u8 k, .int .u64 key, .int .u64 hi, .slice va vn vc, .slice oa on oc, .bool has, .int .u8 lim, .int .u8 st, .slice ya yn yc, .int .i64 beg, .int .i64 en]] w fun e w' => e = .returned (.bool (k == 5)) ∧ Kp Nu w w' := by
  go_enter Try.func28, Try.ntmps28
  go_wp2
  go_ret
  exact ⟨rfl, Kp.alloc _ _ _⟩
theorem results_tc {fn : Func} {t p : Tmp} {ty : TypeId} (h : fn.results = #[.tmp t, .cell p ty]) (tmps : Array Value) (w : World) (a : Addr) (x : Value) (hp : tmps.getD p undef = .pointer (some a)) (hl : (loadVar ty a).run Try.prog w = .ok x w) :
    (results fn tmps).run Try.prog w = .ok (.tuple #[tmps.getD t undef, x]) w := by
  have hp' : tmps[p]?.getD undef = .pointer (some a) := by simpa using hp
  simp [results, h, hp', asAddr, hl, Result.andThen]
theorem full29 (w : World) (a : Option Addr) (n c : Nat) : Calls Try.prog 29 #[.slice a n c] w fun e w' => e = .returned (.agg #[.bool true, .slice a n c]) ∧ Kp Nu w w' := by
  go_enter Try.func29, Try.ntmps29
  go_wp2
  refine bodyPost_ret (results_cell_row rfl _ _ w.heap.size 64 _ _ _ rfl (heap_new w _) Try.underlying64 rfl info64) rfl ?_
  exact ⟨rfl, Kp.alloc _ _ _⟩
theorem isReq53 (w : World) (k : Int) : Calls Try.prog 53 #[.int .u8 k] w fun e w' => Ans (1 ≤ k ∧ k ≤ 5) e ∧ w' = w := by
  go_enter Try.func53, Try.ntmps53
  go_wp2
  all_goals (go_ret; refine ⟨⟨_, rfl, ?_⟩, rfl⟩; simp_all)
  all_goals omega
/-- the statuses that a request may have -/
def Mans (k s : Int) (has : Bool) : Prop := s = 1 ∨ s = 2 ∧ (k = 1 ∨ k = 3) ∨ s = 3 ∧ k = 4 ∨ s = 4 ∧ (k = 2 ∨ k = 4 ∧ has = false)
set_option maxHeartbeats 1000000 in
theorem mayAnswer55 (w : World) (s : Int) (who seq k key hi lim st beg en : Int) (has : Bool) (va oa ya : Option Addr) (vn vc on oc yn yc : Nat) : Calls Try.prog 55 #[.agg #[.int .u8 k, .int .u64 key, .int .u64 hi, .slice va vn vc, .slice oa on oc, .bool has, .int .u8 lim], .int .u8 s] w fun e w' => Ans (Mans k s has) e ∧ Kp Nu w w' := by
  go_enter Try.func55, Try.ntmps55
  go_wp2
  all_goals (go_ret; refine ⟨⟨_, rfl, ?_⟩, Kp.alloc _ _ _⟩; simp_all [Mans])
/-- a call that may be -/
structure MB (k st beg en : Int) (has : Bool) (yn : Nat) : Prop where
  kind : 1 ≤ k ∧ k ≤ 5
  at_ : 0 ≤ beg
  out : en = -1 ∧ st = 0 ∧ yn = 0 ∨ beg < en ∧ Mans k st has ∧ (yn = 0 ∨ k = 1 ∧ st = 1)
theorem MB.iff (k st beg en : Int) (has : Bool) (yn : Nat) : MB k st beg en has yn ↔ (1 ≤ k ∧ k ≤ 5) ∧ 0 ≤ beg ∧ (en = -1 ∧ st = 0 ∧ yn = 0 ∨ beg < en ∧ Mans k st has ∧ (yn = 0 ∨ k = 1 ∧ st = 1)) :=
  ⟨fun h => ⟨h.kind, h.at_, h.out⟩, fun h => ⟨h.1, h.2.1, h.2.2⟩⟩
set_option maxRecDepth 100000 in
set_option maxHeartbeats 2000000 in
theorem mayBe25 (w : World) (who seq k key hi lim st beg en : Int) (has : Bool) (va oa ya : Option Addr) (vn vc on oc yn yc : Nat) : Calls Try.prog 25 #[.agg #[.int .u8 who, .int .u64 seq, .int .u8 k, .int .u64 key, .int .u64 hi, .slice va vn vc, .slice oa on oc, .bool has, .int .u8 lim, .int .u8 st, .slice ya yn yc, .int .i64 beg, .int .i64 en]] w fun e w' => Ans (MB k st beg en has yn) e ∧ Kp Nu w w' := by
  have KN := fun W => known50 W who seq k key hi lim st beg en has va oa ya vn vc on oc yn yc
  by_cases h1 : k < 1
  · go_enter Try.func25, Try.ntmps25
    go_wp2
    go_ret
    exact ⟨⟨_, rfl, by simp; intro h; have := h.kind.1; omega⟩, Kp.alloc _ _ _⟩
  by_cases h2 : k > 5
  · go_enter Try.func25, Try.ntmps25
    go_wp2
    go_ret
    exact ⟨⟨_, rfl, by simp; intro h; have := h.kind.2; omega⟩, Kp.alloc _ _ _⟩
  by_cases h3 : beg < 0
  · go_enter Try.func25, Try.ntmps25
    go_wp2
    go_ret
    exact ⟨⟨_, rfl, by simp; intro h; have := h.at_; omega⟩, Kp.alloc _ _ _⟩
  have HH := hide (And.intro h1 (And.intro h2 h3))
  go_enter Try.func25, Try.ntmps25
  go_wp2_with fail
  refine (KN _).mono ?_; rintro e w1 ⟨rfl, hk1⟩
  have B1 := new_at w _ hk1
  have c2 := cellAt B1 2 (v := .int .u8 k) rfl
  have c7 := cellAt B1 7 (v := .bool has) rfl
  have c9 := cellAt B1 9 (v := .int .u8 st) rfl
  have c10 := cellAt B1 10 (v := .slice ya yn yc) rfl
  have c11 := cellAt B1 11 (v := .int .i64 beg) rfl
  have c12 := cellAt B1 12 (v := .int .i64 en) rfl
  have HK := hide ((Kp.alloc w _ Nu).andNu hk1)
  clear KN B1 hk1 h1 h2 h3
  by_cases hen : en = -1
  · have hn : (en != -1) = false := by simpa using hen
    have HE := hide hen
    clear hen
    go_wp2
    all_goals (go_ret; refine ⟨⟨_, rfl, ?_⟩, HK.out⟩; rw [MB.iff]; have q1 := HH.out; have q2 := HE.out; simp_all [Mans])
    all_goals omega
  · have hn : (en != -1) = true := by simpa using hen
    have HE := hide hen
    clear hen
    go_wp2
    all_goals (go_ret; refine ⟨⟨_, rfl, ?_⟩, HK.out⟩; rw [MB.iff]; have q1 := HH.out; have q2 := HE.out; simp_all [Mans])
    all_goals (intros; omega)
set_option maxRecDepth 100000 in
set_option maxHeartbeats 2000000 in
theorem mayBe27 (w : World) (who seq k key hi lim st beg en : Int) (has : Bool) (va oa ya : Option Addr) (vn vc on oc yn yc : Nat) : Calls Try.prog 27 #[.agg #[.int .u8 who, .int .u64 seq, .int .u8 k, .int .u64 key, .int .u64 hi, .slice va vn vc, .slice oa on oc, .bool has, .int .u8 lim, .int .u8 st, .slice ya yn yc, .int .i64 beg, .int .i64 en]] w fun e w' => Ans (MB k st beg en has yn) e ∧ Kp Nu w w' := by
  have KN := fun W => known54 W who seq k key hi lim st beg en has va oa ya vn vc on oc yn yc
  have IR := fun W => isReq53 W k
  have MA := fun W => mayAnswer55 W st who seq k key hi lim st beg en has va oa ya vn vc on oc yn yc
  go_enter Try.func27, Try.ntmps27
  go_wp2_with fail
  refine (IR _).mono ?_; rintro e w' ⟨⟨b1, rfl, hb1⟩, hw⟩
  obtain rfl := hw.symm
  have HB1 := hide hb1
  clear hw hb1 IR
  cases b1 with
  | false =>
    go_wp2
    go_ret
    exact ⟨⟨_, rfl, by simp; intro h; have := HB1.out.2 h.kind; simp at this⟩, Kp.alloc _ _ _⟩
  | true =>
  have hk := HB1.out.1 rfl
  by_cases h3 : beg < 0
  · go_wp2
    go_ret
    exact ⟨⟨_, rfl, by simp; intro h; have := h.at_; omega⟩, Kp.alloc _ _ _⟩
  have HH := hide (And.intro hk h3)
  clear hk HB1
  go_wp2_with fail
  refine (KN _).mono ?_; rintro e w1 ⟨rfl, hk1⟩
  have B1 := new_at w _ hk1
  have c2 := cellAt B1 2 (v := .int .u8 k) rfl
  have c3 := cellAt B1 3 (v := .int .u64 key) rfl
  have c4 := cellAt B1 4 (v := .int .u64 hi) rfl
  have c5 := cellAt B1 5 (v := .slice va vn vc) rfl
  have c6 := cellAt B1 6 (v := .slice oa on oc) rfl
  have c7 := cellAt B1 7 (v := .bool has) rfl
  have c8 := cellAt B1 8 (v := .int .u8 lim) rfl
  have c9 := cellAt B1 9 (v := .int .u8 st) rfl
  have c10 := cellAt B1 10 (v := .slice ya yn yc) rfl
  have c11 := cellAt B1 11 (v := .int .i64 beg) rfl
  have c12 := cellAt B1 12 (v := .int .i64 en) rfl
  have HK := hide ((Kp.alloc w _ Nu).andNu hk1)
  have HB := hide B1
  clear KN B1 hk1 h3
  by_cases hen : en = -1
  · have hn : (en != -1) = false := by simpa using hen
    have HE := hide hen
    clear hen MA
    go_wp2
    all_goals (go_ret; refine ⟨⟨_, rfl, ?_⟩, HK.out⟩; rw [MB.iff]; have q1 := HH.out; have q2 := HE.out; simp_all [Mans])
    all_goals omega
  · have hn : (en != -1) = true := by simpa using hen
    have HE := hide hen
    clear hen
    by_cases hle : en ≤ beg
    · have HL := hide hle
      clear MA
      go_wp2
      go_ret
      refine ⟨⟨_, rfl, ?_⟩, HK.out⟩
      rw [MB.iff]
      have q1 := HH.out; have q2 := HE.out; have q3 := HL.out
      simp
      intros
      omega
    · have HL := hide hle
      go_wp2_with fail
      refine (MA _).mono ?_; rintro e w2 ⟨⟨b2, rfl, hb2⟩, hk2⟩
      have B2 := box_k HB.out hk2
      have d2 := cellAt B2 2 (v := .int .u8 k) rfl
      have d9 := cellAt B2 9 (v := .int .u8 st) rfl
      have d10 := cellAt B2 10 (v := .slice ya yn yc) rfl
      have HK2 := hide (HK.out.andNu hk2)
      have HB2 := hide hb2
      clear MA B2 hk2 hb2 c2 c3 c4 c5 c6 c7 c8 c9 c10 c11 c12 hle
      cases b2 with
      | false =>
        go_wp2
        go_ret
        refine ⟨⟨_, rfl, ?_⟩, HK2.out⟩
        rw [MB.iff]
        have q1 := HH.out; have q2 := HE.out; have q3 := HL.out; have q4 := HB2.out
        simp at q4
        simp [q4]
        intros
        omega
      | true =>
        go_wp2
        all_goals (go_ret; refine ⟨⟨_, rfl, ?_⟩, HK2.out⟩; rw [MB.iff]; have q1 := HH.out; have q2 := HE.out; have q3 := HL.out; have q4 := HB2.out.1 (by simp); simp_all)
        all_goals omega
end Go.Proofs.Ytcbonbeogdgogaa.Li
