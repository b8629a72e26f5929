import Derived.Test.YtgaehpdlljlliaaCdH
namespace Go.Proofs.Ytgaehpdlljlliaa.Cd
open Go.RowKit
set_option linter.unusedVariables false

theorem p128 (k : Nat) (h : k ≤ 8) : (0 : Int) < 128 ^ k ∧ (128 : Int) ^ k ≤ 72057594037927936 := by
  have h2 : (128 : Nat) ^ k ≤ 128 ^ 8 := Nat.pow_le_pow_right (by omega) h
  have h3 : (128 : Int) ^ k = ((128 ^ k : Nat) : Int) := by simp
  have h4 : (128 : Nat) ^ 8 = 72057594037927936 := by decide
  have := Nat.pow_pos (n := k) (show 0 < 128 by omega)
  omega

theorem gv_range (xs : List Int) (hB : Byt xs) : ∀ (i : Nat) (x : Int), i ≤ 9 → 0 ≤ x → x < 128 ^ i → 0 ≤ (gv i x xs).1 ∧ (gv i x xs).1 < 18446744073709551616 := by
  induction xs with
  | nil => intro i x _ _ _; simp [gv]
  | cons c r ih =>
    intro i x hi h0 h1
    obtain ⟨c0, c1⟩ := hB c (by simp)
    rw [gv]
    split
    · simp
    · rename_i h9
      by_cases h8 : i ≤ 8
      · obtain ⟨p0, p1⟩ := p128 i h8
        have m0 : 0 ≤ c % 128 * 128 ^ i := Int.mul_nonneg (by omega) (by omega)
        have m1 : c % 128 * 128 ^ i ≤ 127 * 128 ^ i := Int.mul_le_mul_of_nonneg_right (by omega) (by omega)
        split
        · exact ih (fun z hz => hB z (by simp [hz])) _ _ (by omega) (by omega) (by rw [Int.pow_succ]; omega)
        · split
          · simp
          · simp only
            omega
      · have hi9 : i = 9 := by omega
        subst hi9
        have h7 : (128 : Int) ^ 9 = 9223372036854775808 := by decide
        rw [h7] at h1 ⊢
        split
        · omega
        · split
          · simp
          · simp only
            omega

theorem rdV_range {err : Int} {xs : List Int} (hB : Byt xs) : 0 ≤ (rdV err xs).1 ∧ (rdV err xs).1 < 18446744073709551616 := by
  have := gv_range xs hB 0 0 (by omega) (by omega) (by simp)
  unfold rdV
  split
  · split
    · exact this
    · simp
  · simp

/-- the signed number for which u stands -/
def uz (x : Int) : Int := if x % 2 = 0 then x / 2 else -(x / 2) - 1

theorem xor0i (n : Nat) (h : n < 9223372036854775808) : bits .xor .i64 (n : Int) 0 = (n : Int) := by
  show IntKind.i64.wrap ((BitVec.ofInt 64 (n : Int) ^^^ BitVec.ofInt 64 0).toNat : Int) = _
  have h1 : (BitVec.ofInt 64 0).toNat = 0 := by decide
  have h2 : (BitVec.ofInt 64 (n : Int)).toNat = n := by
    rw [BitVec.ofInt_natCast, BitVec.toNat_ofNat]; exact Nat.mod_eq_of_lt (by omega)
  rw [BitVec.toNat_xor, h1, h2, Nat.xor_zero, IntKind.wrap_i64]
  omega
theorem xor1i (n : Nat) (h : n < 9223372036854775808) : bits .xor .i64 (n : Int) (-1) = -(n : Int) - 1 := by
  have := Lib.i64_not n h
  have e : bits .xor .i64 (n : Int) (-1) = bits .xor .i64 (-1) (n : Int) := by
    show IntKind.i64.wrap ((BitVec.ofInt 64 (n : Int) ^^^ BitVec.ofInt 64 (-1)).toNat : Int) = IntKind.i64.wrap ((BitVec.ofInt 64 (-1) ^^^ BitVec.ofInt 64 (n : Int)).toNat : Int)
    rw [BitVec.xor_comm]
  rw [e, this]
theorem uz_is (x : Int) (h0 : 0 ≤ x) (h1 : x < 18446744073709551616) : bits .xor .i64 (x / 2) (-(x % 2)) = uz x := by
  have e : x / 2 = (((x / 2).toNat : Nat) : Int) := by omega
  unfold uz
  split
  · rename_i h
    rw [h, e]
    have := xor0i (x / 2).toNat (by omega)
    simpa using this
  · rename_i h
    have h2 : x % 2 = 1 := by omega
    rw [h2, e]
    have := xor1i (x / 2).toNat (by omega)
    exact this

section
variable {w : World} {b g : Nat} {err : Int} {v : Value} {xs : List Int}
theorem rsigned_any (h : Rr w b g err v xs) (hB : Byt xs) : Reads 60 b g w (.int .i64 (uz (rdV err xs).1)) (rdV err xs).2.1 (rdV err xs).2.2 := by
  have V := rvarint_any h hB
  obtain ⟨x0, x1⟩ := rdV_range (err := err) hB
  have hu := uz_is _ x0 x1
  have ha := Lib.u64_and1 _ x0 x1
  generalize (rdV err xs).1 = x at *
  generalize (rdV err xs).2.1 = q at *
  generalize (rdV err xs).2.2 = ys at *
  clear hB
  show Calls _ _ _ _ _
  go_enter Try.func60, Try.ntmps60
  go_wp2_with fail
  refine Calls.mono V ?_; rintro e w' ⟨rfl, hr, hk⟩
  go_wp2
  go_ret
  exact ⟨rfl, hr, hk⟩

/-- what Flag gives -/
def rdF (err : Int) (xs : List Int) : Bool × Int × List Int :=
  if err = 0 then
    match xs with
    | [] => (false, 21, [])
    | c :: r => if c > 1 then (false, 24, c :: r) else (decide (c = 1), 0, r)
  else (false, err, xs)

theorem rflag_any (h : Rr w b g err v xs) (hB : Byt xs) : Reads 61 b g w (.bool (rdF err xs).1) (rdF err xs).2.1 (rdF err xs).2.2 := by
  have L := left_any h
  obtain ⟨c0, c1⟩ := cell2 h.blk
  show Calls _ _ _ _ _
  match xs, h, hB, L with
  | [], h, hB, L =>
    have U := ru8_any h hB
    have e1 : rdN 1 err [] = (0, if err = 0 then 21 else err, []) := by
      unfold rdN
      split <;> simp
    have e2 : rdF err [] = (false, if err = 0 then 21 else err, []) := by
      unfold rdF
      split <;> simp
    rw [e1] at U
    rw [e2]
    generalize (if err = 0 then 21 else err) = q at *
    have hL : Calls Try.prog 25 #[.pointer (some ⟨b, 0, none⟩)] w fun e w' => e = .returned (.int .i64 0) ∧ w' = w := L
    clear e1 e2
    go_enter Try.func61, Try.ntmps61
    go_wp2_with fail
    refine hL.mono ?_; rintro e w' ⟨rfl, rfl⟩
    go_wp2_with fail
    refine Calls.mono U ?_; rintro e w' ⟨rfl, hr, hk⟩
    go_wp2
    go_ret
    exact ⟨rfl, hr, hk⟩
  | c :: r, h, hB, L =>
    obtain ⟨off, cap, rfl, hlc, hcb, hc⟩ := h.win.is
    have hcell := hc 0 (.int .u8 c) (by simp [cs])
    rw [addo] at hcell
    have hcell0 : w.cell? ⟨g, off, none⟩ = some (.int .u8 c) := hcell
    obtain ⟨z0, z1⟩ := hB c (by simp)
    have hlen : ((c :: r).length : Int) = (r.length : Int) + 1 := by simp
    have hpos : ((c :: r).length : Int) > 0 := by omega
    by_cases hc1 : c > 1
    · have F := fail_any h 24
      have U := fun w v (hr : Rr w b g (failed err 24) v (c :: r)) => ru8_any hr hB
      have e1 : rdN 1 (failed err 24) (c :: r) = (0, failed err 24, c :: r) := by
        have hq : failed err 24 ≠ 0 := by unfold failed; split <;> omega
        simp only [rdN, if_neg hq]
      have e2 : rdF err (c :: r) = (false, failed err 24, c :: r) := by
        unfold rdF failed
        split
        · simp [hc1]
        · rfl
      rw [e1] at U
      rw [e2]
      generalize failed err 24 = q at *
      generalize hn : (c :: r).length = n at *
      clear e1 e2 hlc hcb hc hlen
      have HB := hide hB
      clear hB
      go_enter Try.func61, Try.ntmps61
      go_wp2_with fail
      refine L.mono ?_; rintro e w' ⟨rfl, rfl⟩
      go_wp2_with fail
      refine F.mono ?_; rintro e w1 ⟨rfl, hr1, hk1⟩
      go_wp2_with fail
      refine Calls.mono (U _ _ hr1) ?_; rintro e w2 ⟨rfl, hr, hk⟩
      go_wp2
      go_ret
      exact ⟨rfl, hr, hk1.trans hk (fun _ _ e => e)⟩
    · have U := ru8_any h hB
      by_cases he : err = 0
      · subst he
        have e1 : rdN 1 0 (c :: r) = (c, 0, r) := by
          simp [rdN, numF]
        have e2 : rdF 0 (c :: r) = (decide (c = 1), 0, r) := by
          simp [rdF]; omega
        rw [e1] at U
        rw [e2]
        generalize hn : (c :: r).length = n at *
        clear e1 e2 hlc hcb hc hlen hB
        go_enter Try.func61, Try.ntmps61
        go_wp2_with fail
        refine L.mono ?_; rintro e w' ⟨rfl, rfl⟩
        go_wp2_with fail
        refine Calls.mono U ?_; rintro e w2 ⟨rfl, hr, hk⟩
        go_wp2
        go_ret
        refine ⟨?_, hr, hk⟩
        rfl
      · have e1 : rdN 1 err (c :: r) = (0, err, c :: r) := by
          simp [rdN, he]
        have e2 : rdF err (c :: r) = (false, err, c :: r) := by
          simp [rdF, he]
        rw [e1] at U
        rw [e2]
        generalize hn : (c :: r).length = n at *
        clear e1 e2 hlc hcb hc hlen hB
        go_enter Try.func61, Try.ntmps61
        go_wp2_with fail
        refine L.mono ?_; rintro e w' ⟨rfl, rfl⟩
        go_wp2_with fail
        refine Calls.mono U ?_; rintro e w2 ⟨rfl, hr, hk⟩
        go_wp2
        go_ret
        exact ⟨rfl, hr, hk⟩

theorem done_any (h : Rr w b g err v xs) : Calls Try.prog 31 #[.pointer (some ⟨b, 0, none⟩)] w fun e w' => e = .returned (.int .i64 (if err = 0 then (if xs.length = 0 then 0 else 26) else err)) ∧ w' = w := by
  have R := reads_any h
  have E := rerr_any h
  have L := left_any h
  by_cases he : err = 0
  · subst he
    by_cases hl : xs.length = 0
    · rw [if_pos rfl, if_pos hl]
      have hl2 : ¬ (xs.length : Int) > 0 := by omega
      go_enter Try.func31, Try.ntmps31
      go_wp2_with fail
      refine R.mono ?_; rintro e w' ⟨rfl, rfl⟩
      go_wp2_with fail
      refine L.mono ?_; rintro e w' ⟨rfl, rfl⟩
      go_wp2
      go_ret
      exact ⟨rfl, rfl⟩
    · rw [if_pos rfl, if_neg hl]
      have hl2 : (xs.length : Int) > 0 := by omega
      go_enter Try.func31, Try.ntmps31
      go_wp2_with fail
      refine R.mono ?_; rintro e w' ⟨rfl, rfl⟩
      go_wp2_with fail
      refine L.mono ?_; rintro e w' ⟨rfl, rfl⟩
      go_wp2
      go_ret
      exact ⟨rfl, rfl⟩
  · rw [if_neg he]
    have h0 : (err == 0) = false := by simpa using he
    go_enter Try.func31, Try.ntmps31
    go_wp2_with fail
    refine R.mono ?_; rintro e w' ⟨rfl, rfl⟩
    go_wp2_with fail
    refine E.mono ?_; rintro e w' ⟨rfl, rfl⟩
    go_wp2
    go_ret
    exact ⟨rfl, rfl⟩
end
end Go.Proofs.Ytgaehpdlljlliaa.Cd
