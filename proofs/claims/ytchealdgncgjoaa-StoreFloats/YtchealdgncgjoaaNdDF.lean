import Derived.Test.YtchealdgncgjoaaNdBF
import Derived.Deep.LoopGhost
import Derived.Deep.Draws
namespace Go.Proofs.Ytchealdgncgjoaa.StF
open Go.RowKit Go.Proofs.Ytchealdgncgjoaa.St Go.Proofs.Ytchealdgncgjoaa.Fl Ieee
set_option linter.unusedVariables false
theorem run_store_float {P : Program} {w : World} (a : Addr) (k : FloatKind) (b : Nat) (m : Mode) : (store a (.float k b) m).run P w = stored P w a (.float k b) m := run_store P w a _ m rfl
theorem fmt64 : FloatKind.f64.format = double := rfl
theorem run_fl {a b : Nat} {op : BinOp} {c : Bool} (h : ∀ W : World, (Op.floatCmp op .f64 a b).run Try.prog W = .ok (.bool c) W) (hop : op = .neq ∨ op = .eql ∨ op = .lss ∨ op = .gtr) (W : World) : (binOp op 59 (.float .f64 a) (.float .f64 b)).run Try.prog W = .ok (.bool c) W := by
  rw [← h W]
  rcases hop with rfl | rfl | rfl | rfl <;> simp [binOp]
theorem run_neq {a b : Nat} {c : Bool} (h : (FloatKind.f64.format.order a b != some Ordering.eq) = c) (W : World) : (binOp .neq 59 (.float .f64 a) (.float .f64 b)).run Try.prog W = .ok (.bool c) W :=
  run_fl (fun W => by rw [← h]; rfl) (.inl rfl) W
theorem run_eql {a b : Nat} {c : Bool} (h : (FloatKind.f64.format.order a b == some Ordering.eq) = c) (W : World) : (binOp .eql 59 (.float .f64 a) (.float .f64 b)).run Try.prog W = .ok (.bool c) W :=
  run_fl (fun W => by rw [← h]; rfl) (.inr (.inl rfl)) W
theorem run_lss {a b : Nat} {c : Bool} (h : (FloatKind.f64.format.order a b == some Ordering.lt) = c) (W : World) : (binOp .lss 59 (.float .f64 a) (.float .f64 b)).run Try.prog W = .ok (.bool c) W :=
  run_fl (fun W => by rw [← h]; rfl) (.inr (.inr (.inl rfl))) W
theorem run_gtr {a b : Nat} {c : Bool} (h : (FloatKind.f64.format.order a b == some Ordering.gt) = c) (W : World) : (binOp .gtr 59 (.float .f64 a) (.float .f64 b)).run Try.prog W = .ok (.bool c) W :=
  run_fl (fun W => by rw [← h]; rfl) (.inr (.inr (.inr rfl))) W
set_option maxHeartbeats 400000 in
theorem isNaN_any (b : Nat) (r : Bool) (h : (FloatKind.f64.format.order b b != some Ordering.eq) = r) (w : World) : Calls Try.prog 158 #[.float .f64 b] w fun e w' => e = .returned (.bool r) ∧ w' = w := by
  have hr := run_neq h
  clear h
  go_enter Try.func158, Try.ntmps158
  go_wp2
  go_ret
  exact ⟨rfl, rfl⟩
theorem nan_yes {p : Int} {b : Nat} (k : Pl p b) (h : p = -1099511627776) : (FloatKind.f64.format.order b b != some Ordering.eq) = true := by
  rw [fmt64, order_nan_l (Pl.nan (h ▸ k))]; rfl
theorem nan_no {p : Int} {b : Nat} (k : Pl p b) (h : p ≠ -1099511627776) : (FloatKind.f64.format.order b b != some Ordering.eq) = false := by
  rw [fmt64, order_pl k k h h, cmp_eq]; rfl
set_option maxRecDepth 100000 in
set_option maxHeartbeats 400000 in
theorem cmp_nn (a b : Nat) (hx : (FloatKind.f64.format.order a a != some Ordering.eq) = true) (hy : (FloatKind.f64.format.order b b != some Ordering.eq) = true) (w : World) :
    Calls Try.prog 103 #[.float .f64 a, .float .f64 b] w fun e w' => e = .returned (.int .i64 (0)) ∧ w' = w := by
  have NX := fun W => isNaN_any a true hx W
  have NY := fun W => isNaN_any b true hy W
  clear hx hy
  go_enter Try.func103, Try.ntmps103
  go_wp2_with fail
  refine (NX _).mono ?_; rintro e w' ⟨rfl, hw⟩; obtain rfl := hw.symm
  clear NX
  go_wp2_with fail
  refine (NY _).mono ?_; rintro e w' ⟨rfl, hw⟩; obtain rfl := hw.symm
  clear NY
  go_wp2_with fail
  go_ret
  exact ⟨rfl, rfl⟩
set_option maxRecDepth 100000 in
set_option maxHeartbeats 400000 in
theorem cmp_nf (a b : Nat) (hx : (FloatKind.f64.format.order a a != some Ordering.eq) = true) (hy : (FloatKind.f64.format.order b b != some Ordering.eq) = false) (w : World) :
    Calls Try.prog 103 #[.float .f64 a, .float .f64 b] w fun e w' => e = .returned (.int .i64 (-1)) ∧ w' = w := by
  have NX := fun W => isNaN_any a true hx W
  have NY := fun W => isNaN_any b false hy W
  clear hx hy
  go_enter Try.func103, Try.ntmps103
  go_wp2_with fail
  refine (NX _).mono ?_; rintro e w' ⟨rfl, hw⟩; obtain rfl := hw.symm
  clear NX
  go_wp2_with fail
  refine (NY _).mono ?_; rintro e w' ⟨rfl, hw⟩; obtain rfl := hw.symm
  clear NY
  go_wp2_with fail
  go_ret
  exact ⟨rfl, rfl⟩
set_option maxRecDepth 100000 in
set_option maxHeartbeats 400000 in
theorem cmp_fn (a b : Nat) (hx : (FloatKind.f64.format.order a a != some Ordering.eq) = false) (hy : (FloatKind.f64.format.order b b != some Ordering.eq) = true) (w : World) :
    Calls Try.prog 103 #[.float .f64 a, .float .f64 b] w fun e w' => e = .returned (.int .i64 (1)) ∧ w' = w := by
  have NX := fun W => isNaN_any a false hx W
  have NY := fun W => isNaN_any b true hy W
  clear hx hy
  go_enter Try.func103, Try.ntmps103
  go_wp2_with fail
  refine (NX _).mono ?_; rintro e w' ⟨rfl, hw⟩; obtain rfl := hw.symm
  clear NX
  go_wp2_with fail
  refine (NY _).mono ?_; rintro e w' ⟨rfl, hw⟩; obtain rfl := hw.symm
  clear NY
  go_wp2_with fail
  go_ret
  exact ⟨rfl, rfl⟩
set_option maxRecDepth 100000 in
set_option maxHeartbeats 400000 in
theorem cmp_fl (a b : Nat) (hx : (FloatKind.f64.format.order a a != some Ordering.eq) = false) (hy : (FloatKind.f64.format.order b b != some Ordering.eq) = false) (ho : FloatKind.f64.format.order a b = some Ordering.lt) (w : World) :
    Calls Try.prog 103 #[.float .f64 a, .float .f64 b] w fun e w' => e = .returned (.int .i64 (-1)) ∧ w' = w := by
  have NX := fun W => isNaN_any a false hx W
  have NY := fun W => isNaN_any b false hy W
  have h1 := run_lss (a := a) (b := b) (c := true) (by rw [ho]; rfl)
  have h2 := run_gtr (a := a) (b := b) (c := false) (by rw [ho]; rfl)
  clear ho
  clear hx hy
  go_enter Try.func103, Try.ntmps103
  go_wp2_with fail
  refine (NX _).mono ?_; rintro e w' ⟨rfl, hw⟩; obtain rfl := hw.symm
  clear NX
  go_wp2_with fail
  refine (NY _).mono ?_; rintro e w' ⟨rfl, hw⟩; obtain rfl := hw.symm
  clear NY
  go_wp2_with fail
  go_ret
  exact ⟨rfl, rfl⟩
set_option maxRecDepth 100000 in
set_option maxHeartbeats 400000 in
theorem cmp_fe (a b : Nat) (hx : (FloatKind.f64.format.order a a != some Ordering.eq) = false) (hy : (FloatKind.f64.format.order b b != some Ordering.eq) = false) (ho : FloatKind.f64.format.order a b = some Ordering.eq) (w : World) :
    Calls Try.prog 103 #[.float .f64 a, .float .f64 b] w fun e w' => e = .returned (.int .i64 (0)) ∧ w' = w := by
  have NX := fun W => isNaN_any a false hx W
  have NY := fun W => isNaN_any b false hy W
  have h1 := run_lss (a := a) (b := b) (c := false) (by rw [ho]; rfl)
  have h2 := run_gtr (a := a) (b := b) (c := false) (by rw [ho]; rfl)
  clear ho
  clear hx hy
  go_enter Try.func103, Try.ntmps103
  go_wp2_with fail
  refine (NX _).mono ?_; rintro e w' ⟨rfl, hw⟩; obtain rfl := hw.symm
  clear NX
  go_wp2_with fail
  refine (NY _).mono ?_; rintro e w' ⟨rfl, hw⟩; obtain rfl := hw.symm
  clear NY
  go_wp2_with fail
  go_ret
  exact ⟨rfl, rfl⟩
set_option maxRecDepth 100000 in
set_option maxHeartbeats 400000 in
theorem cmp_fg (a b : Nat) (hx : (FloatKind.f64.format.order a a != some Ordering.eq) = false) (hy : (FloatKind.f64.format.order b b != some Ordering.eq) = false) (ho : FloatKind.f64.format.order a b = some Ordering.gt) (w : World) :
    Calls Try.prog 103 #[.float .f64 a, .float .f64 b] w fun e w' => e = .returned (.int .i64 (1)) ∧ w' = w := by
  have NX := fun W => isNaN_any a false hx W
  have NY := fun W => isNaN_any b false hy W
  have h1 := run_lss (a := a) (b := b) (c := false) (by rw [ho]; rfl)
  have h2 := run_gtr (a := a) (b := b) (c := true) (by rw [ho]; rfl)
  clear ho
  clear hx hy
  go_enter Try.func103, Try.ntmps103
  go_wp2_with fail
  refine (NX _).mono ?_; rintro e w' ⟨rfl, hw⟩; obtain rfl := hw.symm
  clear NX
  go_wp2_with fail
  refine (NY _).mono ?_; rintro e w' ⟨rfl, hw⟩; obtain rfl := hw.symm
  clear NY
  go_wp2_with fail
  go_ret
  exact ⟨rfl, rfl⟩
theorem compare_any (x y : FK) (w : World) : Calls Try.prog 103 #[.float .f64 x.bits, .float .f64 y.bits] w fun e w' => e = .returned (.int .i64 (cmpF x y)) ∧ w' = w := by
  obtain ⟨p, a, ha⟩ := x
  obtain ⟨q, b, hb⟩ := y
  show Calls Try.prog 103 #[.float .f64 a, .float .f64 b] w fun e w' => e = .returned (.int .i64 (cmpI p q)) ∧ w' = w
  by_cases hp : p = -1099511627776
  · by_cases hq : q = -1099511627776
    · rw [show cmpI p q = 0 by rw [hp, hq]; rfl]
      exact cmp_nn a b (nan_yes ha hp) (nan_yes hb hq) w
    · have : p < q := by rcases hb with h | h | h | h | h <;> omega
      rw [show cmpI p q = -1 by unfold cmpI; simp [this]]
      exact cmp_nf a b (nan_yes ha hp) (nan_no hb hq) w
  · by_cases hq : q = -1099511627776
    · have : q < p := by rcases ha with h | h | h | h | h <;> omega
      rw [show cmpI p q = 1 by unfold cmpI; simp [this, show ¬ p < q by omega]]
      exact cmp_fn a b (nan_no ha hp) (nan_yes hb hq) w
    · have ho := order_pl ha hb hp hq
      rcases Int.lt_trichotomy p q with h | h | h
      · rw [cmp_lt h] at ho
        rw [show cmpI p q = -1 by unfold cmpI; simp [h]]
        exact cmp_fl a b (nan_no ha hp) (nan_no hb hq) ho w
      · rw [h, cmp_eq] at ho
        rw [show cmpI p q = 0 by unfold cmpI; simp [h]]
        exact cmp_fe a b (nan_no ha hp) (nan_no hb hq) ho w
      · rw [cmp_gt h] at ho
        rw [show cmpI p q = 1 by unfold cmpI; simp [h, show ¬ p < q by omega]]
        exact cmp_fg a b (nan_no ha hp) (nan_no hb hq) ho w
end Go.Proofs.Ytchealdgncgjoaa.StF
namespace Go.Proofs.Ytchealdgncgjoaa.StF
open Go.RowKit Go.Proofs.Ytchealdgncgjoaa.St
set_option linter.unusedVariables false

theorem kp_drewN (w : World) (n : Nat) : Kp Nu w (w.drewN n) := ⟨rfl, rfl, rfl, Nat.le_refl _, fun _ _ _ => rfl⟩
section
variable {w : World} {l r : T (FK × Int)} {p : FK × Int} {a al ar : Option Addr}
/-- over, from a world behind w -/
theorem over_at {W : World} {t1 t2 : T (FK × Int)} {q : FK × Int} {n x y : Option Addr} (k : Kp Nu w W) (hn : Nd W q n) (h1 : Tr W t1 x) (h2 : Tr W t2 y) (hs : t1.sz + t2.sz < 2 ^ 62) :
    Calls Try.prog 161 #[.pointer n, .pointer x, .pointer y] W fun e w' => ∃ a', e = .returned (.pointer a') ∧ Tr w' (.node t1 q t2) a' ∧ Kp Nu W w' ∧ Kp Nu w w' :=
  (over_any hn h1 h2 hs).mono fun e w' ⟨a', e1, e2, e3⟩ => ⟨a', e1, e2, e3, k.andNu e3⟩

set_option maxRecDepth 100000 in
set_option maxHeartbeats 2000000 in
theorem bal_0 (hn : Nd w p a) (hl : Tr w l al) (hr : Tr w r ar) (hs : l.sz + r.sz < 2 ^ 62) (h1 : ¬ r.ht + 1 < l.ht) (h2 : ¬ l.ht + 1 < r.ht) :
    Calls Try.prog 160 #[.pointer a, .pointer al, .pointer ar] w fun e w' => ∃ a', e = .returned (.pointer a') ∧ Tr w' (T.mk p l r) a' ∧ Kp Nu w w' := by
  have HL : ∀ W, Kp Nu w W → Calls Try.prog 191 #[.pointer al] W fun e w' => e = .returned (.int .i64 (l.ht : Int)) ∧ w' = W := fun W k => high_any (hl.nu k)
  have HR : ∀ W, Kp Nu w W → Calls Try.prog 191 #[.pointer ar] W fun e w' => e = .returned (.int .i64 (r.ht : Int)) ∧ w' = W := fun W k => high_any (hr.nu k)
  have O1 : ∀ W, Kp Nu w W → Calls Try.prog 161 #[.pointer a, .pointer al, .pointer ar] W fun e w' => ∃ a', e = .returned (.pointer a') ∧ Tr w' (T.mk p l r) a' ∧ Kp Nu w w' := fun W k => by
    refine (over_at k (hn.keep (Kn.nu k)) (hl.nu k) (hr.nu k) hs).mono ?_
    rintro e w' ⟨a', e1, e2, e3, e4⟩
    exact ⟨a', e1, by unfold T.mk; rw [if_neg h1, if_neg h2]; exact e2, e4⟩
  have e1 := ht_sz l
  have e2 := ht_sz r
  generalize l.ht = A at *
  generalize r.ht = B at *
  have h3 : (A : Int) - (B : Int) = -1 ∨ (A : Int) - (B : Int) = 0 ∨ (A : Int) - (B : Int) = 1 := by omega
  have hA : (A : Int) < 4611686018427387904 := by omega
  have hB : (B : Int) < 4611686018427387904 := by omega
  clear hn hl hr h1 h2 hs e1 e2
  rcases h3 with hd | hd | hd
  all_goals go_enter Try.func160, Try.ntmps160
  all_goals go_wp2_with (first
    | (go_at_call_of 191 al; refine (HL _ ?_).mono ?_; (repeat (first | assumption | exact Kp.refl _ _ | apply Kp.drew)); rintro e w' ⟨rfl, rfl⟩)
    | (go_at_call_of 191 ar; refine (HR _ ?_).mono ?_; (repeat (first | assumption | exact Kp.refl _ _ | apply Kp.drew)); rintro e w' ⟨rfl, rfl⟩)
    | (go_at_call 161; refine (O1 _ ?_).mono ?_; (repeat (first | assumption | exact Kp.refl _ _ | apply Kp.drew)); rintro e w' ⟨a', rfl, t1, k1⟩))
  all_goals go_ret
  all_goals exact ⟨_, rfl, t1, k1⟩

end
end Go.Proofs.Ytchealdgncgjoaa.StF
