import Derived.Test.YtbhdhoeaogbfbaaGnI
namespace Go.Proofs.Ytbhdhoeaogbfbaa.Xo
open Go.RowKit
set_option linter.unusedVariables false
/-- the outgoing half of a state may be -/
def okO (s a m qn d : Int) (qs : List (Value × List Int)) : Bool := decide (a ≤ s) && (decide ((qs.length : Int) ≤ qn) && ((qs.length : Int) == d && (inM m d && !(qs.any (fun x => unf x.2)))))
set_option maxHeartbeats 2000000 in
theorem loadOut_no {w : World} (pb k : Nat) (s a m d0 qn dd : Int) (q e : Value) (qs : List (Value × List Int)) (hq : Lq w q qs) (hlen : qs.length ≤ 140737488351232) (hqn : qn ≤ 16) (e0 : IntKind.u64.wrap (s - a) = dd) (h0 : 0 ≤ m) (hm : m ≤ 18446744073709551615) (hno : okO s a m qn dd qs = false) (hee : ∃ ae ne ce, e = .slice ae ne ce) :
    Calls Try.prog 63 #[.pointer (some ⟨pb, k * 6, none⟩), .agg #[.int .u64 s, .int .u64 a, q, .int .u64 m, .int .u64 d0, e], .int .i64 qn] w fun e w' => e = .returned (.bool false) ∧ Kp Nu w w' := by
  obtain ⟨aq, cq, hqe⟩ := hq.slice
  obtain ⟨ae, ne, ce, rfl⟩ := hee
  have CZ := fun (hn : qs.length ≤ 16) W (kW : Kp Nu w W) => contains_lq W q qs hn (hq.nu kW)
  have WZ := fun W => within_any m dd h0 hm W
  subst hqe
  unfold okO at hno
  have ec : IntKind.u64.wrap (qs.length : Int) = (qs.length : Int) := by rw [IntKind.wrap_u64]; omega
  have CE := fun W (kW : Kp Nu (w.alloc (.cells #[.int .u64 s, .int .u64 a, .slice aq qs.length cq, .int .u64 m, .int .u64 d0, .slice ae ne ce] 66)) W) => cell6 (new_at w _ kW)
  generalize hB : qs.any (fun x => unf x.2) = B at *
  generalize hI : inM m dd = I at *
  generalize hn : qs.length = n at *
  clear hq hB hI hlen hn h0 hm
  by_cases c1 : a > s
  · clear CZ WZ hno hqn
    go_enter Try.func63, Try.ntmps63
    go_wp2
    go_ret
    exact ⟨rfl, (Kp.refl _ _).andAlloc _⟩
  by_cases c2 : (n : Int) > qn
  · clear CZ WZ hno hqn
    go_enter Try.func63, Try.ntmps63
    go_wp2
    go_ret
    exact ⟨rfl, (Kp.refl _ _).andAlloc _⟩
  by_cases c3 : (n : Int) = dd
  · have c3b : ((n : Int) != dd) = false := by simp [c3]
    have CZ2 := CZ (by omega)
    cases I with
    | false =>
      clear CZ CZ2 hno c3 hqn
      go_enter Try.func63, Try.ntmps63
      go_wp2_with (go_at_call 86; refine (WZ _).mono ?_; rintro e w1 ⟨rfl, hw1⟩; obtain rfl := hw1.symm)
      go_ret
      exact ⟨rfl, (Kp.refl _ _).andAlloc _⟩
    | true =>
      have hBt : B = true := by
        cases B with
        | true => rfl
        | false => exfalso; simp [c3] at hno; omega
      subst hBt
      clear CZ hno c3 hqn
      go_enter Try.func63, Try.ntmps63
      go_wp2_with (first | (go_at_call 86; refine (WZ _).mono ?_; rintro e w1 ⟨rfl, hw1⟩; obtain rfl := hw1.symm) | (go_at_call 87; refine (CZ2 _ ((Kp.refl _ w).andAlloc _)).mono ?_; rintro e w2 ⟨rfl, hk2⟩))
      go_ret
      exact ⟨rfl, ((Kp.refl _ _).andAlloc _).andNu hk2⟩
  · have c3b : ((n : Int) != dd) = true := by simp [c3]
    clear CZ WZ hno c3 hqn
    go_enter Try.func63, Try.ntmps63
    go_wp2
    go_ret
    exact ⟨rfl, (Kp.refl _ _).andAlloc _⟩
set_option maxHeartbeats 1000000 in
theorem far_any (w : World) (a o : Nat) (dl sq wn : Int) (c0 : w.cell? ⟨a, o, none⟩ = some (.int .u64 dl)) (hw : IntKind.u64.wrap wn = wn) (D : Int) (hD : sq > dl → IntKind.u64.wrap (sq - dl) = D) : Calls Try.prog 88 #[.pointer (some ⟨a, o, none⟩), .int .u64 sq, .int .i64 wn] w fun e w' => e = .returned (.bool (decide (sq > dl) && decide (D > wn))) ∧ Kp Nu w w' := by
  by_cases h : sq > dl
  · have hD2 := hD h
    clear hD
    go_enter Try.func88, Try.ntmps88
    go_wp2
    go_ret
    refine ⟨?_, Kp.refl _ _⟩
    show Ending.returned (.bool (decide (wn < D))) = _
    simp [h]
  · clear hD
    go_enter Try.func88, Try.ntmps88
    go_wp2
    go_ret
    refine ⟨?_, Kp.refl _ _⟩
    show Ending.returned (.bool false) = _
    have : decide (dl < sq) = false := by simp; omega
    simp [this]
end Go.Proofs.Ytbhdhoeaogbfbaa.Xo
