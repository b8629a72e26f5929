import Derived.Test.YtchealdgncgjoaaShB
import Derived.Laws.EntriesVeiled
import Derived.BigQuiet
import Derived.Deep.QuietTactic
namespace Go.Proofs.Ytchealdgncgjoaa.StU
open Go.RowKit Go.Proofs.Ytchealdgncgjoaa.St
set_option linter.unusedVariables false
section
variable {w : World} {sb mb : Nat} {most : Int} {t : T (Int × Sv)} {M : List KV}
set_option maxHeartbeats 400000 in
theorem held_any (h : Sh w sb mb most t M) : Calls Try.prog 114 #[.pointer (some ⟨sb, 0, none⟩)] w fun e w' => e = .returned (.pointer (some ⟨mb, 0, none⟩)) ∧ w' = w := by
  have c2 := (cell3 h.box).2.2
  clear h
  go_enter Try.func114, Try.ntmps114
  go_wp2
  go_ret
  exact ⟨rfl, rfl⟩
set_option maxHeartbeats 400000 in
theorem made117 (h : Sh w sb mb most t M) : Calls Try.prog 117 #[.pointer (some ⟨sb, 0, none⟩)] w fun e w' => e = .returned (.bool true) ∧ w' = w := by
  have c2 := (cell3 h.box).2.2
  clear h
  go_enter Try.func117, Try.ntmps117
  go_wp2
  go_ret
  exact ⟨rfl, rfl⟩
set_option maxHeartbeats 400000 in
theorem slen_any (h : Sh w sb mb most t M) : Calls Try.prog 52 #[.pointer (some ⟨sb, 0, none⟩)] w fun e w' => e = .returned (.int .i64 (M.length : Int)) ∧ w' = w := by
  have HA := held_any h
  have LA := len_any h.m
  rw [h.sz] at LA
  clear h
  go_enter Try.func52, Try.ntmps52
  go_wp2_with (first
    | (go_at_call 114; refine HA.mono ?_; rintro e w' ⟨rfl, hw⟩; obtain rfl := hw.symm)
    | (go_at_call 125; refine LA.mono ?_; rintro e w' ⟨rfl, hw⟩; obtain rfl := hw.symm))
  go_ret
  exact ⟨rfl, rfl⟩
theorem kpN {S : Nat → Prop} {a w : World} (h : Kp S a w) (n : Nat) : Kp S a (w.drewN n) := ⟨h.os, h.tape, h.output, h.size, h.block⟩
set_option maxHeartbeats 1000000 in
theorem room_any (h : Sh w sb mb most t M) : Calls Try.prog 119 #[.pointer (some ⟨sb, 0, none⟩)] w fun e w' => e = .returned (.int .i64 (most - (M.length : Int))) ∧ ∃ n, w' = w.drewN n := by
  have mixed : Try.prog.follows .mixedOrders = true := by kernel_rfl
  have LA : ∀ n, Calls Try.prog 52 #[.pointer (some ⟨sb, 0, none⟩)] (w.drewN n) fun e w' => e = .returned (.int .i64 (M.length : Int)) ∧ w' = w.drewN n := fun n => slen_any (h.nu (kpN (Kp.refl Nu w) n))
  have c0 := (cell3 h.box).1
  have hl := h.lm
  have hm := h.mo
  obtain ⟨N, eN⟩ : ∃ N : Int, (M.length : Int) = N := ⟨_, rfl⟩
  rw [eN] at LA hl ⊢
  have hN0 : 0 ≤ N := by omega
  have q1 : wrap64 (most - N) = most - N := by unfold wrap64; omega
  have q2 : IntKind.i64.wrap (most - N) = most - N := by rw [IntKind.wrap_i64]; omega
  clear h eN hl hm hN0
  go_enter Try.func119, Try.ntmps119
  go_wp2_with fail
  go_quiet (first | (go_at_call 52; exact Calls.quiet_of_same (LA _)))
  go_wp2
  go_ret
  exact ⟨by first | rfl | rw [q1], _, rfl⟩
set_option maxHeartbeats 400000 in
theorem may_any (w : World) (ad : Option Addr) (n c : Nat) : Calls Try.prog 118 #[.slice ad n c] w fun e w' => e = .returned (.bool (decide ((n : Int) ≤ 64))) ∧ w' = w := by
  go_enter Try.func118, Try.ntmps118
  go_wp2
  go_ret
  exact ⟨rfl, rfl⟩
set_option maxRecDepth 100000 in
set_option maxHeartbeats 1000000 in
theorem get46 (h : Sh w sb mb most t M) (k : Int) : Calls Try.prog 46 #[.pointer (some ⟨sb, 0, none⟩), .int .u64 k] w fun e w' => ∃ v : Sv, e = .returned (.tuple #[.slice v.a v.n v.c, .bool (hs k M)]) ∧ w'.ownsRow w.heap.size 5 1 (.slice v.a v.n v.c) (gtM k M).length (cs (gtM k M)) ∧ Kp Nu w w' := by
  have HA := held_any h
  have GA := get_any h.m k (by have := h.small; omega)
  rw [h.hs] at GA
  have CA : ∃ ad n c, ov (getT k t) = .slice ad n c ∧ ∀ W, Kp Nu w W → Calls Try.prog 116 #[.slice ad n c] W fun e w' => ∃ v : Sv, e = .returned (.slice v.a v.n v.c) ∧ w'.ownsRow w.heap.size 5 1 (.slice v.a v.n v.c) (gtM k M).length (cs (gtM k M)) ∧ Kp Nu w w' := by
    cases hk : hs k M with
    | true =>
      obtain ⟨p, m, eg, _, hm, hf, _⟩ := h.yes hk
      refine ⟨p.2.a, p.2.n, p.2.c, by rw [eg]; rfl, fun W q => ?_⟩
      rw [gtM_yes hk hm]
      refine (clone_any W _ m.2 (hf.rd.nu q) (by have := hf.2.2.1; omega)).mono ?_
      rintro e w' ⟨v, e1, e2, e3⟩
      exact ⟨v, e1, own_base e2 q.size, q.andNu e3⟩
    | false =>
      refine ⟨none, 0, 0, by rw [h.no hk]; rfl, fun W q => ?_⟩
      rw [gtM_no hk]
      refine (clone_any W _ [] (.inl ⟨rfl, rfl⟩) (by simp)).mono ?_
      rintro e w' ⟨v, e1, e2, e3⟩
      exact ⟨v, e1, own_base e2 q.size, q.andNu e3⟩
  obtain ⟨ad, n, c, ec, CB⟩ := CA
  rw [ec] at GA
  clear h ec
  generalize (gtM k M).length = gl at *
  generalize cs (gtM k M) = gc at *
  generalize hs k M = b at *
  go_enter Try.func46, Try.ntmps46
  go_wp2_with (first
    | (go_at_call 114; refine HA.mono ?_; rintro e w' ⟨rfl, hw⟩; obtain rfl := hw.symm)
    | (go_at_call 115; refine GA.mono ?_; rintro e w1 ⟨rfl, k1⟩)
    | (go_at_call 116; refine (CB _ k1).mono ?_; rintro e w2 ⟨v, rfl, o2, k2⟩))
  go_ret2
  exact ⟨v, rfl, o2, k2⟩
end
end Go.Proofs.Ytchealdgncgjoaa.StU
