import Derived.Test.YtffcnonhhfhlhaaDoorRgJ
namespace Go.Proofs.YtffcnonhhfhlhaaDoor.Rg
open Go.RowKit Go.Shelf Go.Sort
open Go.Proofs.YtffcnonhhfhlhaaDoor.It
set_option linter.unusedVariables false

section
variable {B b : Nat} {w : World} {lim : Int} {v : Value} {L : List Sg}
theorem wu_add {x : Int} (h0 : 0 ≤ x) (h : x < 18446744073709551615) : IntKind.u64.wrap (x + 1) = x + 1 := by rw [IntKind.wrap_u64]; omega
theorem wu_sub {x : Int} (h0 : 0 < x) (h : x < 18446744073709551616) : IntKind.u64.wrap (x - 1) = x - 1 := by rw [IntKind.wrap_u64]; omega

set_option maxRecDepth 100000 in
set_option maxHeartbeats 1000000 in
theorem now_00 (h : Tb B w b lim v L) (lo hi : Int) (k0 : 0 ≤ lo) (hlh : lo ≤ hi) (k1 : hi < 18446744073709551616) (e1 : ¬ 0 < lo) (e2 : ¬ hi < 18446744073709551615) :
    Calls Tryd.prog 53 #[.pointer (some ⟨b, 0, none⟩), .int .u64 lo, .int .u64 hi] w fun e w' => e = .returned (.int .i64 ((plc L (hi) : Int) - (plc L (lo) : Int))) ∧ Kp Nu w w' := by
  have P1 := place_any h (hi)
  have P2 := fun W (k : Kp Nu w W) => place_any (h.nu k) (lo)
  have hl : L.length ≤ 8192 := by have := h.len; have := h.lim1; omega
  have l1 := h.tab.plc_lt (k := hi) (by omega) (by omega)
  have l2 := h.tab.plc_lt (k := lo) (by omega) (by omega)
  have hw1 : IntKind.u64.wrap (hi) = hi := by rw [IntKind.wrap_u64]; omega
  have hw2 : IntKind.u64.wrap (lo) = lo := by rw [IntKind.wrap_u64]; omega
  have e1' : ¬ lo > 0 := e1
  generalize plc L (hi) = p1 at *
  generalize plc L (lo) = p2 at *
  have hd : IntKind.i64.wrap ((p1 : Int) - (p2 : Int)) = (p1 : Int) - (p2 : Int) := by rw [IntKind.wrap_i64]; omega
  clear h
  go_enter Tryd.func53, Tryd.ntmps53
  go_wp2_with fail
  refine P1.mono ?_; rintro e w2 ⟨rfl, hk2⟩
  clear P1
  go_wp2_with fail
  refine (P2 _ hk2).mono ?_; rintro e w3 ⟨rfl, hk3⟩
  clear P2
  go_wp2
  go_ret
  exact ⟨by simp, hk2.andNu hk3⟩

set_option maxRecDepth 100000 in
set_option maxHeartbeats 1000000 in
theorem now_01 (h : Tb B w b lim v L) (lo hi : Int) (k0 : 0 ≤ lo) (hlh : lo ≤ hi) (k1 : hi < 18446744073709551616) (e1 : ¬ 0 < lo) (e2 : hi < 18446744073709551615) :
    Calls Tryd.prog 53 #[.pointer (some ⟨b, 0, none⟩), .int .u64 lo, .int .u64 hi] w fun e w' => e = .returned (.int .i64 ((plc L (hi + 1) : Int) - (plc L (lo) : Int))) ∧ Kp Nu w w' := by
  have P1 := place_any h (hi + 1)
  have P2 := fun W (k : Kp Nu w W) => place_any (h.nu k) (lo)
  have hl : L.length ≤ 8192 := by have := h.len; have := h.lim1; omega
  have l1 := h.tab.plc_lt (k := hi + 1) (by omega) (by omega)
  have l2 := h.tab.plc_lt (k := lo) (by omega) (by omega)
  have hw1 : IntKind.u64.wrap (hi + 1) = hi + 1 := by rw [IntKind.wrap_u64]; omega
  have hw2 : IntKind.u64.wrap (lo) = lo := by rw [IntKind.wrap_u64]; omega
  have e1' : ¬ lo > 0 := e1
  generalize plc L (hi + 1) = p1 at *
  generalize plc L (lo) = p2 at *
  have hd : IntKind.i64.wrap ((p1 : Int) - (p2 : Int)) = (p1 : Int) - (p2 : Int) := by rw [IntKind.wrap_i64]; omega
  clear h
  go_enter Tryd.func53, Tryd.ntmps53
  go_wp2_with fail
  refine P1.mono ?_; rintro e w2 ⟨rfl, hk2⟩
  clear P1
  go_wp2_with fail
  refine (P2 _ hk2).mono ?_; rintro e w3 ⟨rfl, hk3⟩
  clear P2
  go_wp2
  go_ret
  exact ⟨by simp, hk2.andNu hk3⟩

set_option maxRecDepth 100000 in
set_option maxHeartbeats 1000000 in
theorem now_10 (h : Tb B w b lim v L) (lo hi : Int) (k0 : 0 ≤ lo) (hlh : lo ≤ hi) (k1 : hi < 18446744073709551616) (e1 : 0 < lo) (e2 : ¬ hi < 18446744073709551615) :
    Calls Tryd.prog 53 #[.pointer (some ⟨b, 0, none⟩), .int .u64 lo, .int .u64 hi] w fun e w' => e = .returned (.int .i64 ((plc L (hi) : Int) - (plc L (lo - 1) : Int))) ∧ Kp Nu w w' := by
  have P1 := place_any h (hi)
  have P2 := fun W (k : Kp Nu w W) => place_any (h.nu k) (lo - 1)
  have hl : L.length ≤ 8192 := by have := h.len; have := h.lim1; omega
  have l1 := h.tab.plc_lt (k := hi) (by omega) (by omega)
  have l2 := h.tab.plc_lt (k := lo - 1) (by omega) (by omega)
  have hw1 : IntKind.u64.wrap (hi) = hi := by rw [IntKind.wrap_u64]; omega
  have hw2 : IntKind.u64.wrap (lo - 1) = lo - 1 := by rw [IntKind.wrap_u64]; omega
  have e1' : lo > 0 := e1
  generalize plc L (hi) = p1 at *
  generalize plc L (lo - 1) = p2 at *
  have hd : IntKind.i64.wrap ((p1 : Int) - (p2 : Int)) = (p1 : Int) - (p2 : Int) := by rw [IntKind.wrap_i64]; omega
  clear h
  go_enter Tryd.func53, Tryd.ntmps53
  go_wp2_with fail
  refine P1.mono ?_; rintro e w2 ⟨rfl, hk2⟩
  clear P1
  go_wp2_with fail
  refine (P2 _ hk2).mono ?_; rintro e w3 ⟨rfl, hk3⟩
  clear P2
  go_wp2
  go_ret
  exact ⟨by simp, hk2.andNu hk3⟩

set_option maxRecDepth 100000 in
set_option maxHeartbeats 1000000 in
theorem now_11 (h : Tb B w b lim v L) (lo hi : Int) (k0 : 0 ≤ lo) (hlh : lo ≤ hi) (k1 : hi < 18446744073709551616) (e1 : 0 < lo) (e2 : hi < 18446744073709551615) :
    Calls Tryd.prog 53 #[.pointer (some ⟨b, 0, none⟩), .int .u64 lo, .int .u64 hi] w fun e w' => e = .returned (.int .i64 ((plc L (hi + 1) : Int) - (plc L (lo - 1) : Int))) ∧ Kp Nu w w' := by
  have P1 := place_any h (hi + 1)
  have P2 := fun W (k : Kp Nu w W) => place_any (h.nu k) (lo - 1)
  have hl : L.length ≤ 8192 := by have := h.len; have := h.lim1; omega
  have l1 := h.tab.plc_lt (k := hi + 1) (by omega) (by omega)
  have l2 := h.tab.plc_lt (k := lo - 1) (by omega) (by omega)
  have hw1 : IntKind.u64.wrap (hi + 1) = hi + 1 := by rw [IntKind.wrap_u64]; omega
  have hw2 : IntKind.u64.wrap (lo - 1) = lo - 1 := by rw [IntKind.wrap_u64]; omega
  have e1' : lo > 0 := e1
  generalize plc L (hi + 1) = p1 at *
  generalize plc L (lo - 1) = p2 at *
  have hd : IntKind.i64.wrap ((p1 : Int) - (p2 : Int)) = (p1 : Int) - (p2 : Int) := by rw [IntKind.wrap_i64]; omega
  clear h
  go_enter Tryd.func53, Tryd.ntmps53
  go_wp2_with fail
  refine P1.mono ?_; rintro e w2 ⟨rfl, hk2⟩
  clear P1
  go_wp2_with fail
  refine (P2 _ hk2).mono ?_; rintro e w3 ⟨rfl, hk3⟩
  clear P2
  go_wp2
  go_ret
  exact ⟨by simp, hk2.andNu hk3⟩

theorem now_any (h : Tb B w b lim v L) (lo hi : Int) (k0 : 0 ≤ lo) (hlh : lo ≤ hi) (k1 : hi < 18446744073709551616) :
    Calls Tryd.prog 53 #[.pointer (some ⟨b, 0, none⟩), .int .u64 lo, .int .u64 hi] w fun e w' => e = .returned (.int .i64 (nowB L lo hi)) ∧ Kp Nu w w' := by
  unfold nowB
  by_cases e1 : 0 < lo <;> by_cases e2 : hi < 18446744073709551615
  · rw [if_pos e1, if_pos e2]; exact now_11 h lo hi k0 hlh k1 e1 e2
  · rw [if_pos e1, if_neg e2]; exact now_10 h lo hi k0 hlh k1 e1 e2
  · rw [if_neg e1, if_pos e2]; exact now_01 h lo hi k0 hlh k1 e1 e2
  · rw [if_neg e1, if_neg e2]; exact now_00 h lo hi k0 hlh k1 e1 e2

def aft1 (L : List Sg) (lo o : Int) : Bool := decide (0 < lo ∧ ow L (lo - 1) ≠ o)
def aft2 (L : List Sg) (hi o : Int) : Bool := decide (hi < 18446744073709551615 ∧ ow L (hi + 1) ≠ o)

set_option maxRecDepth 100000 in
set_option maxHeartbeats 1000000 in
theorem aft_00 (h : Tb B w b lim v L) (lo hi o : Int) (k0 : 0 ≤ lo) (hlh : lo ≤ hi) (k1 : hi < 18446744073709551616) (e1 : ¬ 0 < lo) (e2 : ¬ hi < 18446744073709551615) :
    Calls Tryd.prog 52 #[.pointer (some ⟨b, 0, none⟩), .int .u64 lo, .int .u64 hi, .int .u8 o] w fun e w' => e = .returned (.int .i64 0) ∧ Kp Nu w w' := by
  have e1' : ¬ lo > 0 := e1
  clear h
  go_enter Tryd.func52, Tryd.ntmps52
  have K0 := Kp.refl Nu w
  go_wp2
  go_ret
  exact ⟨by simp, K0⟩

set_option maxRecDepth 100000 in
set_option maxHeartbeats 1000000 in
theorem aft_01 (h : Tb B w b lim v L) (lo hi o : Int) (k0 : 0 ≤ lo) (hlh : lo ≤ hi) (k1 : hi < 18446744073709551616) (e1 : ¬ 0 < lo) (e2 : hi < 18446744073709551615) (f2 : ow L (hi + 1) = o) :
    Calls Tryd.prog 52 #[.pointer (some ⟨b, 0, none⟩), .int .u64 lo, .int .u64 hi, .int .u8 o] w fun e w' => e = .returned (.int .i64 0) ∧ Kp Nu w w' := by
  have P2 := fun W (k : Kp Nu w W) => lookup_any (h.nu k) (hi + 1) (by omega) (by omega)
  have hw1 : IntKind.u64.wrap (hi + 1) = hi + 1 := wu_add (by omega) e2
  have g2 : (ow L (hi + 1) != o) = false := by simpa using f2
  have e1' : ¬ lo > 0 := e1
  generalize ow L (hi + 1) = o2 at *
  clear h f2
  go_enter Tryd.func52, Tryd.ntmps52
  have K0 := Kp.refl Nu w
  go_wp2_with fail
  refine (P2 _ K0).mono ?_; rintro e w3 ⟨rfl, hk3⟩
  clear P2
  replace K0 := K0.andNu hk3
  go_wp2
  go_ret
  exact ⟨by simp, K0⟩

set_option maxRecDepth 100000 in
set_option maxHeartbeats 1000000 in
theorem aft_02 (h : Tb B w b lim v L) (lo hi o : Int) (k0 : 0 ≤ lo) (hlh : lo ≤ hi) (k1 : hi < 18446744073709551616) (e1 : ¬ 0 < lo) (e2 : hi < 18446744073709551615) (f2 : ow L (hi + 1) ≠ o) :
    Calls Tryd.prog 52 #[.pointer (some ⟨b, 0, none⟩), .int .u64 lo, .int .u64 hi, .int .u8 o] w fun e w' => e = .returned (.int .i64 1) ∧ Kp Nu w w' := by
  have P2 := fun W (k : Kp Nu w W) => lookup_any (h.nu k) (hi + 1) (by omega) (by omega)
  have hw1 : IntKind.u64.wrap (hi + 1) = hi + 1 := wu_add (by omega) e2
  have g2 : (ow L (hi + 1) != o) = true := by simpa using f2
  have e1' : ¬ lo > 0 := e1
  generalize ow L (hi + 1) = o2 at *
  clear h f2
  go_enter Tryd.func52, Tryd.ntmps52
  have K0 := Kp.refl Nu w
  go_wp2_with fail
  refine (P2 _ K0).mono ?_; rintro e w3 ⟨rfl, hk3⟩
  clear P2
  replace K0 := K0.andNu hk3
  go_wp2
  go_ret
  exact ⟨by simp, K0⟩

set_option maxRecDepth 100000 in
set_option maxHeartbeats 1000000 in
theorem aft_10 (h : Tb B w b lim v L) (lo hi o : Int) (k0 : 0 ≤ lo) (hlh : lo ≤ hi) (k1 : hi < 18446744073709551616) (e1 : 0 < lo) (e2 : ¬ hi < 18446744073709551615) (f1 : ow L (lo - 1) = o) :
    Calls Tryd.prog 52 #[.pointer (some ⟨b, 0, none⟩), .int .u64 lo, .int .u64 hi, .int .u8 o] w fun e w' => e = .returned (.int .i64 0) ∧ Kp Nu w w' := by
  have P1 := lookup_any h (lo - 1) (by omega) (by omega)
  have hw2 : IntKind.u64.wrap (lo - 1) = lo - 1 := wu_sub e1 (by omega)
  have g1 : (ow L (lo - 1) != o) = false := by simpa using f1
  have e1' : lo > 0 := e1
  generalize ow L (lo - 1) = o1 at *
  clear h f1
  go_enter Tryd.func52, Tryd.ntmps52
  have K0 := Kp.refl Nu w
  go_wp2_with fail
  refine P1.mono ?_; rintro e w2 ⟨rfl, hk2⟩
  clear P1 K0
  have K0 := hk2
  go_wp2
  go_ret
  exact ⟨by simp, K0⟩

set_option maxRecDepth 100000 in
set_option maxHeartbeats 1000000 in
theorem aft_11 (h : Tb B w b lim v L) (lo hi o : Int) (k0 : 0 ≤ lo) (hlh : lo ≤ hi) (k1 : hi < 18446744073709551616) (e1 : 0 < lo) (e2 : hi < 18446744073709551615) (f1 : ow L (lo - 1) = o) (f2 : ow L (hi + 1) = o) :
    Calls Tryd.prog 52 #[.pointer (some ⟨b, 0, none⟩), .int .u64 lo, .int .u64 hi, .int .u8 o] w fun e w' => e = .returned (.int .i64 0) ∧ Kp Nu w w' := by
  have P1 := lookup_any h (lo - 1) (by omega) (by omega)
  have hw2 : IntKind.u64.wrap (lo - 1) = lo - 1 := wu_sub e1 (by omega)
  have g1 : (ow L (lo - 1) != o) = false := by simpa using f1
  have P2 := fun W (k : Kp Nu w W) => lookup_any (h.nu k) (hi + 1) (by omega) (by omega)
  have hw1 : IntKind.u64.wrap (hi + 1) = hi + 1 := wu_add (by omega) e2
  have g2 : (ow L (hi + 1) != o) = false := by simpa using f2
  have e1' : lo > 0 := e1
  generalize ow L (lo - 1) = o1 at *
  generalize ow L (hi + 1) = o2 at *
  clear h f1 f2
  go_enter Tryd.func52, Tryd.ntmps52
  have K0 := Kp.refl Nu w
  go_wp2_with fail
  refine P1.mono ?_; rintro e w2 ⟨rfl, hk2⟩
  clear P1 K0
  have K0 := hk2
  go_wp2_with fail
  refine (P2 _ K0).mono ?_; rintro e w3 ⟨rfl, hk3⟩
  clear P2
  replace K0 := K0.andNu hk3
  go_wp2
  go_ret
  exact ⟨by simp, K0⟩

set_option maxRecDepth 100000 in
set_option maxHeartbeats 1000000 in
theorem aft_12 (h : Tb B w b lim v L) (lo hi o : Int) (k0 : 0 ≤ lo) (hlh : lo ≤ hi) (k1 : hi < 18446744073709551616) (e1 : 0 < lo) (e2 : hi < 18446744073709551615) (f1 : ow L (lo - 1) = o) (f2 : ow L (hi + 1) ≠ o) :
    Calls Tryd.prog 52 #[.pointer (some ⟨b, 0, none⟩), .int .u64 lo, .int .u64 hi, .int .u8 o] w fun e w' => e = .returned (.int .i64 1) ∧ Kp Nu w w' := by
  have P1 := lookup_any h (lo - 1) (by omega) (by omega)
  have hw2 : IntKind.u64.wrap (lo - 1) = lo - 1 := wu_sub e1 (by omega)
  have g1 : (ow L (lo - 1) != o) = false := by simpa using f1
  have P2 := fun W (k : Kp Nu w W) => lookup_any (h.nu k) (hi + 1) (by omega) (by omega)
  have hw1 : IntKind.u64.wrap (hi + 1) = hi + 1 := wu_add (by omega) e2
  have g2 : (ow L (hi + 1) != o) = true := by simpa using f2
  have e1' : lo > 0 := e1
  generalize ow L (lo - 1) = o1 at *
  generalize ow L (hi + 1) = o2 at *
  clear h f1 f2
  go_enter Tryd.func52, Tryd.ntmps52
  have K0 := Kp.refl Nu w
  go_wp2_with fail
  refine P1.mono ?_; rintro e w2 ⟨rfl, hk2⟩
  clear P1 K0
  have K0 := hk2
  go_wp2_with fail
  refine (P2 _ K0).mono ?_; rintro e w3 ⟨rfl, hk3⟩
  clear P2
  replace K0 := K0.andNu hk3
  go_wp2
  go_ret
  exact ⟨by simp, K0⟩

set_option maxRecDepth 100000 in
set_option maxHeartbeats 1000000 in
theorem aft_20 (h : Tb B w b lim v L) (lo hi o : Int) (k0 : 0 ≤ lo) (hlh : lo ≤ hi) (k1 : hi < 18446744073709551616) (e1 : 0 < lo) (e2 : ¬ hi < 18446744073709551615) (f1 : ow L (lo - 1) ≠ o) :
    Calls Tryd.prog 52 #[.pointer (some ⟨b, 0, none⟩), .int .u64 lo, .int .u64 hi, .int .u8 o] w fun e w' => e = .returned (.int .i64 1) ∧ Kp Nu w w' := by
  have P1 := lookup_any h (lo - 1) (by omega) (by omega)
  have hw2 : IntKind.u64.wrap (lo - 1) = lo - 1 := wu_sub e1 (by omega)
  have g1 : (ow L (lo - 1) != o) = true := by simpa using f1
  have e1' : lo > 0 := e1
  generalize ow L (lo - 1) = o1 at *
  clear h f1
  go_enter Tryd.func52, Tryd.ntmps52
  have K0 := Kp.refl Nu w
  go_wp2_with fail
  refine P1.mono ?_; rintro e w2 ⟨rfl, hk2⟩
  clear P1 K0
  have K0 := hk2
  go_wp2
  go_ret
  exact ⟨by simp, K0⟩

set_option maxRecDepth 100000 in
set_option maxHeartbeats 1000000 in
theorem aft_21 (h : Tb B w b lim v L) (lo hi o : Int) (k0 : 0 ≤ lo) (hlh : lo ≤ hi) (k1 : hi < 18446744073709551616) (e1 : 0 < lo) (e2 : hi < 18446744073709551615) (f1 : ow L (lo - 1) ≠ o) (f2 : ow L (hi + 1) = o) :
    Calls Tryd.prog 52 #[.pointer (some ⟨b, 0, none⟩), .int .u64 lo, .int .u64 hi, .int .u8 o] w fun e w' => e = .returned (.int .i64 1) ∧ Kp Nu w w' := by
  have P1 := lookup_any h (lo - 1) (by omega) (by omega)
  have hw2 : IntKind.u64.wrap (lo - 1) = lo - 1 := wu_sub e1 (by omega)
  have g1 : (ow L (lo - 1) != o) = true := by simpa using f1
  have P2 := fun W (k : Kp Nu w W) => lookup_any (h.nu k) (hi + 1) (by omega) (by omega)
  have hw1 : IntKind.u64.wrap (hi + 1) = hi + 1 := wu_add (by omega) e2
  have g2 : (ow L (hi + 1) != o) = false := by simpa using f2
  have e1' : lo > 0 := e1
  generalize ow L (lo - 1) = o1 at *
  generalize ow L (hi + 1) = o2 at *
  clear h f1 f2
  go_enter Tryd.func52, Tryd.ntmps52
  have K0 := Kp.refl Nu w
  go_wp2_with fail
  refine P1.mono ?_; rintro e w2 ⟨rfl, hk2⟩
  clear P1 K0
  have K0 := hk2
  go_wp2_with fail
  refine (P2 _ K0).mono ?_; rintro e w3 ⟨rfl, hk3⟩
  clear P2
  replace K0 := K0.andNu hk3
  go_wp2
  go_ret
  exact ⟨by simp, K0⟩

set_option maxRecDepth 100000 in
set_option maxHeartbeats 1000000 in
theorem aft_22 (h : Tb B w b lim v L) (lo hi o : Int) (k0 : 0 ≤ lo) (hlh : lo ≤ hi) (k1 : hi < 18446744073709551616) (e1 : 0 < lo) (e2 : hi < 18446744073709551615) (f1 : ow L (lo - 1) ≠ o) (f2 : ow L (hi + 1) ≠ o) :
    Calls Tryd.prog 52 #[.pointer (some ⟨b, 0, none⟩), .int .u64 lo, .int .u64 hi, .int .u8 o] w fun e w' => e = .returned (.int .i64 2) ∧ Kp Nu w w' := by
  have P1 := lookup_any h (lo - 1) (by omega) (by omega)
  have hw2 : IntKind.u64.wrap (lo - 1) = lo - 1 := wu_sub e1 (by omega)
  have g1 : (ow L (lo - 1) != o) = true := by simpa using f1
  have P2 := fun W (k : Kp Nu w W) => lookup_any (h.nu k) (hi + 1) (by omega) (by omega)
  have hw1 : IntKind.u64.wrap (hi + 1) = hi + 1 := wu_add (by omega) e2
  have g2 : (ow L (hi + 1) != o) = true := by simpa using f2
  have e1' : lo > 0 := e1
  generalize ow L (lo - 1) = o1 at *
  generalize ow L (hi + 1) = o2 at *
  clear h f1 f2
  go_enter Tryd.func52, Tryd.ntmps52
  have K0 := Kp.refl Nu w
  go_wp2_with fail
  refine P1.mono ?_; rintro e w2 ⟨rfl, hk2⟩
  clear P1 K0
  have K0 := hk2
  go_wp2_with fail
  refine (P2 _ K0).mono ?_; rintro e w3 ⟨rfl, hk3⟩
  clear P2
  replace K0 := K0.andNu hk3
  go_wp2
  go_ret
  exact ⟨by simp, K0⟩

theorem aft_any (h : Tb B w b lim v L) (lo hi o : Int) (k0 : 0 ≤ lo) (hlh : lo ≤ hi) (k1 : hi < 18446744073709551616) :
    Calls Tryd.prog 52 #[.pointer (some ⟨b, 0, none⟩), .int .u64 lo, .int .u64 hi, .int .u8 o] w fun e w' => e = .returned (.int .i64 (aftB L lo hi o)) ∧ Kp Nu w w' := by
  unfold aftB
  by_cases e1 : 0 < lo <;> by_cases e2 : hi < 18446744073709551615
  · by_cases f1 : ow L (lo - 1) = o <;> by_cases f2 : ow L (hi + 1) = o
    · rw [if_neg (fun x => x.2 f1), if_neg (fun x => x.2 f2)]; exact aft_11 h lo hi o k0 hlh k1 e1 e2 f1 f2
    · rw [if_neg (fun x => x.2 f1), if_pos ⟨e2, f2⟩]; exact aft_12 h lo hi o k0 hlh k1 e1 e2 f1 f2
    · rw [if_pos ⟨e1, f1⟩, if_neg (fun x => x.2 f2)]; exact aft_21 h lo hi o k0 hlh k1 e1 e2 f1 f2
    · rw [if_pos ⟨e1, f1⟩, if_pos ⟨e2, f2⟩]; exact aft_22 h lo hi o k0 hlh k1 e1 e2 f1 f2
  · rw [if_neg (fun x => e2 x.1) (c := hi < 18446744073709551615 ∧ ow L (hi + 1) ≠ o)]
    by_cases f1 : ow L (lo - 1) = o
    · rw [if_neg (fun x => x.2 f1)]; exact aft_10 h lo hi o k0 hlh k1 e1 e2 f1
    · rw [if_pos ⟨e1, f1⟩]; exact aft_20 h lo hi o k0 hlh k1 e1 e2 f1
  · rw [if_neg (fun x => e1 x.1) (c := 0 < lo ∧ ow L (lo - 1) ≠ o)]
    by_cases f2 : ow L (hi + 1) = o
    · rw [if_neg (fun x => x.2 f2)]; exact aft_01 h lo hi o k0 hlh k1 e1 e2 f2
    · rw [if_pos ⟨e2, f2⟩]; exact aft_02 h lo hi o k0 hlh k1 e1 e2 f2
  · rw [if_neg (fun x => e1 x.1) (c := 0 < lo ∧ ow L (lo - 1) ≠ o), if_neg (fun x => e2 x.1)]; exact aft_00 h lo hi o k0 hlh k1 e1 e2
end
end Go.Proofs.YtffcnonhhfhlhaaDoor.Rg
