import Derived.Test.YthajboipnjjgfaaBlD
import Derived.Test.YthajboipnjjgfaaBaB
namespace Go.Proofs.Ythajboipnjjgfaa.Ly
open Go.RowKit Go.Maps
set_option linter.unusedVariables false

set_option maxRecDepth 100000 in
set_option maxHeartbeats 1000000 in
/-- an entry of the book is the datagram -/
theorem is_true (w : World) (f t : Int) (f0 : 0 ≤ f) (f1 : f < 256) (t0 : 0 ≤ t) (t1 : t < 256) (d1 d2 : Value) (ys : List Int) (h1 : Rd w d1 ys) (h2 : Rd w d2 ys) (hl : ys.length ≤ 1024) :
    Calls Try.prog 54 #[.agg #[.int .u8 f, .int .u8 t, d1], .agg #[.int .u8 f, .int .u8 t, d2]] w fun e w' => e = .returned (.bool true) ∧ Kp Nu w w' := by
  have mixed : Try.prog.follows .mixedOrders = true := by kernel_rfl
  obtain ⟨a1, c1, e1⟩ := h1.slice
  obtain ⟨a2, c2, e2⟩ := h2.slice
  have SM : ∀ W, Kp Nu w W → Calls Try.prog 23 #[d1, d2] W fun e W' => e = .returned (.bool true) ∧ Kp Nu w W' := fun W k => by
    refine (same_any (h1.nu k) (h2.nu k) (by omega)).mono ?_
    rintro e W' ⟨rfl, hk'⟩
    exact ⟨by simp, k.andNu hk'⟩
  have K0 : Kp Nu w ((w.alloc (.cells #[.int .u8 f, .int .u8 t, d1] 94)).alloc (.cells #[.int .u8 f, .int .u8 t, d2] 38)) := (Kp.alloc w _ Nu).andAlloc _
  have SM2 := SM _ K0
  have h256 : f % 256 = f := by omega
  have h257 : t % 256 = t := by omega
  subst e1 e2
  generalize ys.length = N at *
  clear h1 h2 hl SM
  go_enter Try.func54, Try.ntmps54
  go_wp2_with fail
  refine SM2.mono ?_; rintro e w3 ⟨rfl, hk3⟩
  go_wp2
  go_ret
  exact ⟨rfl, hk3⟩

/-- the book in memory -/
structure Bo (w : World) (B : Nat) (u : Value) (M : List Gm) : Prop where
  own : w.ownsRow B 94 3 u M.length (cells M)
  dat : ∀ g ∈ M, Rd w g.d g.ys ∧ g.ys.length ≤ 1024 ∧ 0 ≤ g.f ∧ g.f < 256 ∧ 0 ≤ g.t ∧ g.t < 256
theorem Bo.nu {w w' : World} {B : Nat} {u : Value} {M : List Gm} (h : Bo w B u M) (k : Kp Nu w w') : Bo w' B u M :=
  ⟨own_keep h.own (fun g hg => k.block g (own_lt h.own hg) (fun h => h)), fun g hg => ⟨(h.dat g hg).1.nu k, (h.dat g hg).2⟩⟩
theorem info94 : (Try.prog.info? 94).map (fun i => (i.zero, i.size, i.bytes)) = some (some (.agg #[.int .u8 0, .int .u8 0, .slice none 0 0]), 3, 32) := by kernel_rfl
end Go.Proofs.Ythajboipnjjgfaa.Ly
