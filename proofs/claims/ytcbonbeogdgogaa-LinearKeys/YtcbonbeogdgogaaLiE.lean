import Derived.Test.YtcbonbeogdgogaaLiD
import Derived.Deep.RegionHeld3
namespace Go.Proofs.Ytcbonbeogdgogaa.Li
open Go.RowKit
set_option linter.unusedVariables false
/-- what a key has -/
def opt (h : Bool) (X : List Int) : Option (List Int) := if h then some X else none
/-- a request carried out on what a key has -/
def exe (k : Int) (has : Bool) (V O : List Int) (on : Option (List Int)) : Int × Option (List Int) :=
  if k = 2 then (1, some V)
  else if k = 4 then (if on = (if has then some O else none) then (1, some V) else (3, on))
  else match on with
    | none => (2, none)
    | some X => (1, if k = 3 then none else some X)
/-- bytes that can be read -/
structure By (w : World) (s : Value) (X : List Int) : Prop where
  rd : Rd w s X
  by_ : Byt X
  fit : Fit X
theorem By.nu {w w' : World} {s : Value} {X : List Int} (h : By w s X) (k : Kp Nu w w') : By w' s X := ⟨h.rd.nu k, h.by_, h.fit⟩
theorem By.nil (w : World) : By w (.slice none 0 0) [] := ⟨.inl ⟨rfl, rfl⟩, (fun y hy => by cases hy), (by simp [Fit])⟩
theorem three (w : World) (A B C : Obj) : (((w.alloc A).alloc B).alloc C).heap[w.heap.size]? = some A ∧ (((w.alloc A).alloc B).alloc C).heap[w.heap.size + 1]? = some B ∧ (((w.alloc A).alloc B).alloc C).heap[w.heap.size + 2]? = some C :=
  ⟨new13 w A B C, (Below.heap_alloc _ _ _ (by simp)).trans (new2 w A B), new3 w A B C⟩
set_option maxHeartbeats 1000000 in
theorem expected84_t (w : World) (who seq k key hi lim st beg en : Int) (has : Bool) (va oa ya : Option Addr) (vn vc on oc yn yc : Nat) (hh : has = true) : Calls Try.prog 84 #[.agg #[.int .u8 k, .int .u64 key, .int .u64 hi, .slice va vn vc, .slice oa on oc, .bool has, .int .u8 lim]] w fun e w' => e = .returned (.agg #[.bool true, .slice oa on oc]) ∧ Kp Nu w w' := by
  subst hh
  have FU := fun W => full29 W oa on oc
  go_enter Try.func84, Try.ntmps84
  go_wp2_with fail
  refine (FU _).mono ?_; rintro e w1 ⟨rfl, hk1⟩
  have B1 := (hk1.block _ (by simp) (fun h => h)).trans (new2 w _ _)
  have x0 := cellAt B1 0 (v := .bool false) rfl
  have x1 := cellAt B1 1 (v := .slice none 0 0) rfl
  have f0 := free3 B1 0
  have f1 := free3 B1 1
  have HK := hide (((Kp.alloc w _ Nu).andAlloc _).andNu hk1)
  have HB := hide B1
  clear FU hk1 B1
  go_wp2
  refine bodyPost_ret (results_cell_row rfl _ _ (w.heap.size + 1) 64 _ _ _ rfl (set3 (set3 HB.out 0 _) 1 _) Try.underlying64 rfl info64) rfl ?_
  exact ⟨rfl, (HK.out.andSet _ _ (.inl (by simp))).andSet _ _ (.inl (by simp))⟩
set_option maxHeartbeats 1000000 in
theorem expected84_f (w : World) (who seq k key hi lim st beg en : Int) (has : Bool) (va oa ya : Option Addr) (vn vc on oc yn yc : Nat) (hh : has = false) : Calls Try.prog 84 #[.agg #[.int .u8 k, .int .u64 key, .int .u64 hi, .slice va vn vc, .slice oa on oc, .bool has, .int .u8 lim]] w fun e w' => e = .returned (.agg #[.bool false, .slice none 0 0]) ∧ Kp Nu w w' := by
  subst hh
  go_enter Try.func84, Try.ntmps84
  go_wp2
  refine bodyPost_ret (results_cell_row rfl _ _ (w.heap.size + 1) 64 _ _ _ rfl (new2 w _ _) Try.underlying64 rfl info64) rfl ?_
  exact ⟨rfl, (Kp.alloc w _ Nu).andAlloc _⟩
/-- are both the same? -/
def isB (h1 h2 : Bool) (X1 X2 : List Int) : Bool := decide (h1 = h2 ∧ X1 = X2)
set_option maxHeartbeats 1000000 in
theorem is83 (w : World) (h1 h2 : Bool) (a1 a2 : Option Addr) (n1 c1 n2 c2 : Nat) (X1 X2 : List Int) (r1 : By w (.slice a1 n1 c1) X1) (r2 : By w (.slice a2 n2 c2) X2) :
    Calls Try.prog 83 #[.agg #[.bool h1, .slice a1 n1 c1], .agg #[.bool h2, .slice a2 n2 c2]] w fun e w' => e = .returned (.bool (isB h1 h2 X1 X2)) ∧ Kp Nu w w' := by
  have EQ := fun W (k : Kp Nu w W) => equal_any W _ _ X1 X2 (r1.nu k).rd (r2.nu k).rd r1.by_ r2.by_
  clear r1 r2
  by_cases hh : h1 = h2
  · subst hh
    have hb : (h1 == h1) = true := by simp
    go_enter Try.func83, Try.ntmps83
    go_wp2_with fail
    refine (EQ _ ((Kp.alloc w _ Nu).andAlloc _)).mono ?_; rintro e w' ⟨rfl, hw⟩
    obtain rfl := hw.symm
    clear hw EQ
    go_wp2
    go_ret
    exact ⟨by simp [isB], (Kp.alloc w _ Nu).andAlloc _⟩
  · have hb : (h1 == h2) = false := by simpa using hh
    have hd : isB h1 h2 X1 X2 = false := by simp [isB, hh]
    rw [hd]
    clear hd hh
    go_enter Try.func83, Try.ntmps83
    go_wp2
    go_ret
    exact ⟨rfl, (Kp.alloc w _ Nu).andAlloc _⟩
/-- was it told this? -/
def tlB (k : Int) (Y X : List Int) : Bool := decide (k = 1 → Y = X)
set_option maxHeartbeats 1000000 in
theorem tells57 (w : World) (h : Bool) (xa : Option Addr) (xn xc : Nat) (X Y : List Int) (who seq k key hi lim st beg en : Int) (has : Bool) (va oa ya : Option Addr) (vn vc on oc yn yc : Nat) (rx : By w (.slice xa xn xc) X) (ry : By w (.slice ya yn yc) Y) :
    Calls Try.prog 57 #[.agg #[.int .u8 who, .int .u64 seq, .int .u8 k, .int .u64 key, .int .u64 hi, .slice va vn vc, .slice oa on oc, .bool has, .int .u8 lim, .int .u8 st, .slice ya yn yc, .int .i64 beg, .int .i64 en], .agg #[.bool h, .slice xa xn xc]] w fun e w' => e = .returned (.bool (tlB k Y X)) ∧ Kp Nu w w' := by
  have EQ := fun W (q : Kp Nu w W) => equal_any W _ _ Y X (ry.nu q).rd (rx.nu q).rd ry.by_ rx.by_
  clear rx ry
  by_cases hk : k = 1
  · have hb : (k != 1) = false := by simpa using hk
    have HKK := hide hk
    clear hk
    go_enter Try.func57, Try.ntmps57
    go_wp2_with fail
    refine (EQ _ ((Kp.alloc w _ Nu).andAlloc _)).mono ?_; rintro e w' ⟨rfl, hw⟩
    obtain rfl := hw.symm
    clear hw EQ
    go_wp2
    go_ret
    exact ⟨by simp [tlB, HKK.out], (Kp.alloc w _ Nu).andAlloc _⟩
  · have hb : (k != 1) = true := by simpa using hk
    have hd : tlB k Y X = true := by simp [tlB, hk]
    rw [hd]
    clear hd hk
    go_enter Try.func57, Try.ntmps57
    go_wp2
    go_ret
    exact ⟨rfl, (Kp.alloc w _ Nu).andAlloc _⟩
end Go.Proofs.Ytcbonbeogdgogaa.Li
