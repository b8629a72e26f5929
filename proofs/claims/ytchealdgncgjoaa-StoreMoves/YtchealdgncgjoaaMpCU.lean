import Derived.Test.YtchealdgncgjoaaMpAU
namespace Go.Proofs.Ytchealdgncgjoaa.StU
open Go.RowKit Go.Proofs.Ytchealdgncgjoaa.St
set_option linter.unusedVariables false
section
variable {w : World} {mb : Nat} {t : T (Int × Sv)}
set_option maxRecDepth 100000 in
set_option maxHeartbeats 1000000 in
theorem get_any (h : Mp w mb t) (k : Int) (hs : t.sz + 1 < 2 ^ 62) :
    Calls Try.prog 115 #[.pointer (some ⟨mb, 0, none⟩), .int .u64 (k)] w fun e w' => e = .returned (.tuple #[ov (getT k t), .bool (T.fd (sd k) t).2]) ∧ Kp Nu w w' := by
  obtain ⟨a, h1, h2⟩ := h.ex
  have TA := tree_any h1
  have FA := find_any h1 h2 k (by omega)
  cases hb : (T.fd (sd k) t).2 with
  | false =>
    have eg : getT k t = none := by unfold getT; rw [hb]; rfl
    rw [eg]
    rw [hb] at FA
    generalize (T.fd (sd k) t).1 = i at *
    clear h h1 h2 eg hb hs
    go_enter Try.func115, Try.ntmps115
    go_wp2_with (first
      | (go_at_call 129; refine TA.mono ?_; rintro e w' ⟨rfl, hw⟩; obtain rfl := hw.symm)
      | (go_at_call 165; refine FA.mono ?_; rintro e w1 ⟨rfl, k1⟩))
    go_ret2
    exact ⟨rfl, k1⟩
  | true =>
    obtain ⟨p, hp, eg⟩ := getT_some hb
    rw [eg]
    rw [hb] at FA
    have hat := atT_xs t (T.fd (sd k) t).1
    rw [hp] at hat
    have hlt := (T.fd_le (sd k) t).2 hb
    generalize (T.fd (sd k) t).1 = i at *
    have AT : ∀ W, Kp Nu w W → Calls Try.prog 166 #[.pointer a, .int .i64 (i : Int)] W fun e w' => ∃ b, e = .returned (.pointer (some ⟨b, 0, none⟩)) ∧ w'.cell? ⟨b, 1, none⟩ = some (.slice (p.2).a (p.2).n (p.2).c) ∧ w' = W := fun W q => by
      refine (at_any (h2.nu q) (i : Int) (by omega) (by omega)).mono ?_
      rintro e w' ⟨a', rfl, hn, rfl⟩
      rw [hat] at hn
      obtain ⟨b, x2, x3, x4, x5, rfl, hb⟩ := hn
      exact ⟨b, rfl, (cell6 hb).2.1, rfl⟩
    clear h h1 h2 eg hb hs hp hat hlt
    go_enter Try.func115, Try.ntmps115
    go_wp2_with (first
      | (go_at_call 129; refine TA.mono ?_; rintro e w' ⟨rfl, hw⟩; obtain rfl := hw.symm)
      | (go_at_call 165; refine FA.mono ?_; rintro e w1 ⟨rfl, k1⟩)
      | (go_at_call 166; refine (AT _ k1).mono ?_; rintro e w3 ⟨b3, rfl, c3, hw3⟩; obtain rfl := hw3.symm))
    go_ret2
    exact ⟨rfl, k1⟩
set_option maxRecDepth 100000 in
set_option maxHeartbeats 1000000 in
theorem rank_any (h : Mp w mb t) (k : Int) (hs : t.sz + 1 < 2 ^ 62) :
    Calls Try.prog 127 #[.pointer (some ⟨mb, 0, none⟩), .int .u64 (k)] w fun e w' => e = .returned (.int .i64 ((T.fd (sd k) t).1 : Int)) ∧ Kp Nu w w' := by
  obtain ⟨a, h1, h2⟩ := h.ex
  have TA := tree_any h1
  have FA := find_any h1 h2 k (by omega)
  generalize (T.fd (sd k) t).1 = i at *
  generalize (T.fd (sd k) t).2 = b at *
  clear h h1 h2 hs
  go_enter Try.func127, Try.ntmps127
  go_wp2_with (first
    | (go_at_call 129; refine TA.mono ?_; rintro e w' ⟨rfl, hw⟩; obtain rfl := hw.symm)
    | (go_at_call 165; refine FA.mono ?_; rintro e w1 ⟨rfl, k1⟩))
  go_ret
  exact ⟨rfl, k1⟩
end
end Go.Proofs.Ytchealdgncgjoaa.StU
