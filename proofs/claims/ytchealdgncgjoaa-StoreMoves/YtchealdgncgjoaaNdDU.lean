import Derived.Test.YtchealdgncgjoaaNdBU
import Derived.Deep.Draws
namespace Go.Proofs.Ytchealdgncgjoaa.StU
open Go.RowKit Go.Proofs.Ytchealdgncgjoaa.St
set_option linter.unusedVariables false

theorem kp_drewN (w : World) (n : Nat) : Kp Nu w (w.drewN n) := ⟨rfl, rfl, rfl, Nat.le_refl _, fun _ _ _ => rfl⟩
section
variable {w : World} {l r : T (Int × Sv)} {p : Int × Sv} {a al ar : Option Addr}
/-- over, from a world behind w -/
theorem over_at {W : World} {t1 t2 : T (Int × Sv)} {q : Int × Sv} {n x y : Option Addr} (k : Kp Nu w W) (hn : Nd W q n) (h1 : Tr W t1 x) (h2 : Tr W t2 y) (hs : t1.sz + t2.sz < 2 ^ 62) :
    Calls Try.prog 197 #[.pointer n, .pointer x, .pointer y] W fun e w' => ∃ a', e = .returned (.pointer a') ∧ Tr w' (.node t1 q t2) a' ∧ Kp Nu W w' ∧ Kp Nu w w' :=
  (over_any hn h1 h2 hs).mono fun e w' ⟨a', e1, e2, e3⟩ => ⟨a', e1, e2, e3, k.andNu e3⟩

set_option maxRecDepth 100000 in
set_option maxHeartbeats 2000000 in
theorem bal_0 (hn : Nd w p a) (hl : Tr w l al) (hr : Tr w r ar) (hs : l.sz + r.sz < 2 ^ 62) (h1 : ¬ r.ht + 1 < l.ht) (h2 : ¬ l.ht + 1 < r.ht) :
    Calls Try.prog 196 #[.pointer a, .pointer al, .pointer ar] w fun e w' => ∃ a', e = .returned (.pointer a') ∧ Tr w' (T.mk p l r) a' ∧ Kp Nu w w' := by
  have HL : ∀ W, Kp Nu w W → Calls Try.prog 205 #[.pointer al] W fun e w' => e = .returned (.int .i64 (l.ht : Int)) ∧ w' = W := fun W k => high_any (hl.nu k)
  have HR : ∀ W, Kp Nu w W → Calls Try.prog 205 #[.pointer ar] W fun e w' => e = .returned (.int .i64 (r.ht : Int)) ∧ w' = W := fun W k => high_any (hr.nu k)
  have O1 : ∀ W, Kp Nu w W → Calls Try.prog 197 #[.pointer a, .pointer al, .pointer ar] W fun e w' => ∃ a', e = .returned (.pointer a') ∧ Tr w' (T.mk p l r) a' ∧ Kp Nu w w' := fun W k => by
    refine (over_at k (hn.keep (Kn.nu k)) (hl.nu k) (hr.nu k) hs).mono ?_
    rintro e w' ⟨a', e1, e2, e3, e4⟩
    exact ⟨a', e1, by unfold T.mk; rw [if_neg h1, if_neg h2]; exact e2, e4⟩
  have e1 := ht_sz l
  have e2 := ht_sz r
  generalize l.ht = A at *
  generalize r.ht = B at *
  have h3 : (A : Int) - (B : Int) = -1 ∨ (A : Int) - (B : Int) = 0 ∨ (A : Int) - (B : Int) = 1 := by omega
  have hA : (A : Int) < 4611686018427387904 := by omega
  have hB : (B : Int) < 4611686018427387904 := by omega
  clear hn hl hr h1 h2 hs e1 e2
  rcases h3 with hd | hd | hd
  all_goals go_enter Try.func196, Try.ntmps196
  all_goals go_wp2_with (first
    | (go_at_call_of 205 al; refine (HL _ ?_).mono ?_; (repeat (first | assumption | exact Kp.refl _ _ | apply Kp.drew)); rintro e w' ⟨rfl, rfl⟩)
    | (go_at_call_of 205 ar; refine (HR _ ?_).mono ?_; (repeat (first | assumption | exact Kp.refl _ _ | apply Kp.drew)); rintro e w' ⟨rfl, rfl⟩)
    | (go_at_call 197; refine (O1 _ ?_).mono ?_; (repeat (first | assumption | exact Kp.refl _ _ | apply Kp.drew)); rintro e w' ⟨a', rfl, t1, k1⟩))
  all_goals go_ret
  all_goals exact ⟨_, rfl, t1, k1⟩

end
end Go.Proofs.Ytchealdgncgjoaa.StU
