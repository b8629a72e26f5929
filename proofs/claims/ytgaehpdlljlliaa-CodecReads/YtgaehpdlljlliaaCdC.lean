import Derived.Test.YtgaehpdlljlliaaCdB
import Derived.Test.YtgaehpdlljlliaaLn
namespace Go.Proofs.Ytgaehpdlljlliaa.Cd
open Go.RowKit
set_option linter.unusedVariables false

theorem bitLen_or1 (y : Nat) (h1 : 1 ≤ y) (h : y < 18446744073709551616) : Lib.bitLen (y ||| 1) = Lib.bitLen y := by
  have e : (y ||| 1) / 2 = y / 2 := by
    have := Nat.or_div_two (a := y) (b := 1)
    simpa using this
  have hlt : y ||| 1 < 2 ^ 64 := Nat.or_lt_two_pow (by omega) (by omega)
  have hne : y ||| 1 ≠ 0 := by
    have := Nat.left_le_or (n := y) (m := 1)
    omega
  rw [Lib.bitLen_half _ hne hlt, Lib.bitLen_half y (by omega) (by omega), e]

theorem small_len : ∀ x : Fin 128, (Lib.bitLen (x.val ||| 1) + 6) / 7 = 1 := by decide +kernel

theorem vi_len (f : Nat) : ∀ x : Nat, x < 18446744073709551616 → x < 128 ^ (f + 1) → (vi (f + 1) x).length = (Lib.bitLen (x ||| 1) + 6) / 7 := by
  induction f with
  | zero =>
    intro x _ h
    have h' : x < 128 := by simpa using h
    rw [small_len ⟨x, h'⟩]
    simp [vi, h']
  | succ f ih =>
    intro x hx h
    by_cases h' : x < 128
    · rw [small_len ⟨x, h'⟩]
      simp [vi, h']
    · have e : vi (f + 1 + 1) x = ((x % 128 + 128 : Nat) : Int) :: vi (f + 1) (x / 128) := by
        rw [vi, if_neg h']
      rw [e, List.length_cons, ih (x / 128) (by omega) (pow128 (f + 1) x h), bitLen_or1 x (by omega) hx, bitLen_or1 (x / 128) (by omega) (by omega)]
      have := Lib.bitLen_shift 7 x (by omega) (by omega)
      rw [this]
      have e7 : (2 : Nat) ^ 7 = 128 := by decide
      rw [e7]
      omega

theorem va_len (x : Nat) (h : x < 18446744073709551616) : (va x).length = (Lib.bitLen (x ||| 1) + 6) / 7 := by
  refine vi_len 9 x h ?_
  have : (128 : Nat) ^ (9 + 1) = 1180591620717411303424 := by decide
  omega
theorem va_le (x : Nat) : (va x).length ≤ 10 := vi_length_le 10 x
theorem va_pos (x : Nat) : 1 ≤ (va x).length := by unfold va; simp only [vi]; split <;> simp

theorem varintSize_any (x : Nat) (hx : x < 18446744073709551616) (w : World) : Calls Try.prog 71 #[.int .u64 (x : Int)] w fun e w' => e = .returned (.int .i64 ((va x).length : Int)) ∧ w' = w := by
  have hor : bits .or .u64 (x : Int) 1 = ((x ||| 1 : Nat) : Int) := u64_or_nat x 1 hx (by omega)
  have hlt : x ||| 1 < 18446744073709551616 := Nat.or_lt_two_pow (n := 64) (by omega) (by omega)
  have C := fun w => Try.bits_Len64 ((x ||| 1 : Nat) : Int) w (by omega) (by omega)
  have hL := va_len x hx
  have hb := va_le x
  have hb1 := va_pos x
  rw [Int.toNat_natCast] at C
  generalize Lib.bitLen (x ||| 1) = L at *
  generalize hz : ((x ||| 1 : Nat) : Int) = z at *
  have hL2 : (L : Int) ≤ 80 := by omega
  have HH := hide hL
  clear hL hx hlt hb hb1
  go_enter Try.func71, Try.ntmps71
  go_wp2_with (go_at_call 78; refine (C _).mono ?_; rintro e w' ⟨rfl, rfl⟩)
  go_ret
  refine ⟨?_, rfl⟩
  rw [HH.out]
  have : ((L : Int) + 7 - 1) / 7 = (((L + 6) / 7 : Nat) : Int) := by omega
  show Ending.returned (.int .i64 (((L : Int) + 7 - 1) / 7)) = _
  rw [this]

/-- what a write of ys leaves -/
def put (lim err : Int) (xs ys : List Int) : Int × List Int :=
  if err = 0 then (if (ys.length : Int) ≤ lim - (xs.length : Int) then (0, xs ++ ys) else (20, xs)) else (err, xs)

/-- the writer's numbers are as they must be -/
structure Ok (lim : Int) (xs : List Int) : Prop where
  lo : 0 ≤ lim
  hi : lim ≤ 16777216
  le : (xs.length : Int) ≤ lim

theorem Ok.put {lim err : Int} {xs ys : List Int} (h : Ok lim xs) : Ok lim (put lim err xs ys).2 := by
  unfold Cd.put
  split
  · split
    · exact ⟨h.lo, h.hi, by simp; omega⟩
    · exact h
  · exact h

theorem Wr.ne' {w w1 : World} {b : Nat} {c : Array Value} {v : Value} {n : Nat} {l : List Value} (h : w1.heap[b]? = some (.cells c 73 (0, 0))) (ho : w1.ownsRow 0 5 1 v n l) : ∀ g, v.ownBlock = some g → g ≠ b := by
  rintro g hg rfl
  rcases ho.2 with ⟨rfl, h0⟩ | ⟨g', cap, cur, rfl, hb', hg', _⟩
  · simp [Value.ownBlock] at hg
  · simp [Value.ownBlock] at hg
    subst hg
    rw [h] at hg'
    cases hg'

theorem own_slice {w : World} {base e size n : Nat} {v : Value} {l : List Value} (h : w.ownsRow base e size v n l) : ∃ ad cap, v = .slice ad n cap := by
  rcases h.2 with ⟨rfl, h0⟩ | ⟨g, cap, cur, rfl, _⟩
  · exact ⟨none, 0, by rw [h0]⟩
  · exact ⟨_, cap, rfl⟩

theorem own_slice' {w : World} {base e size n : Nat} {v : Value} {l : List Value} (h : w.ownsRow base e size v n l) : ∃ ad n' cap, v = .slice ad n' cap := by
  obtain ⟨ad, cap, e⟩ := own_slice h
  exact ⟨ad, n, cap, e⟩

theorem Wr.lt {w : World} {b : Nat} {lim err : Int} {v : Value} {xs : List Int} (h : Wr w b lim err v xs) : b < w.heap.size := by
  rcases Nat.lt_or_ge b w.heap.size with hlt | hge
  · exact hlt
  · have := h.blk; rw [Array.getElem?_eq_none hge] at this; cases this

theorem Wr.blk1 {w w1 : World} {b : Nat} {lim err : Int} {v v' : Value} {xs : List Int} (h : Wr w b lim err v xs) (hg : Gr v w w1 v') : w1.heap[b]? = some (.cells #[.int .i64 lim, v, .int .i64 err] 73 (0, 0)) :=
  (hg.kp.block b h.lt (fun e => h.ne b e.symm rfl)).trans h.blk

theorem Wr.store {w w1 : World} {b : Nat} {lim err : Int} {v v' : Value} {xs ys : List Int} (h : Wr w b lim err v xs) (hg : Gr v w w1 v') (ho : w1.ownsRow 0 5 1 v' ys.length (cs ys)) :
    Wr (w1.setCell ⟨b, 1, none⟩ v') b lim err v' ys ∧ Fr b v w (w1.setCell ⟨b, 1, none⟩ v') v' := by
  have hb := h.blk1 hg
  refine ⟨⟨?_, ownsRow_set ho (Wr.ne' (w := w) hb ho)⟩, ⟨(hg.kp.mono (fun i _ e => .inr e)).trans (Kp.setCell _ _ _) (fun i _ e => .inl e), hg.lie⟩⟩
  rw [set3 hb]
  rfl

theorem Fr.drew {b : Nat} {v v' : Value} {w w' : World} (h : Fr b v w.drew w' v') : Fr b v w w' v' := ⟨⟨h.kp.os, h.kp.tape, h.kp.output, h.kp.size, h.kp.block⟩, h.lie⟩

set_option maxHeartbeats 400000 in
theorem number_any {w : World} {b : Nat} {lim err : Int} {v : Value} {xs : List Int} (h : Wr w b lim err v xs) (k : Ok lim xs) (x size : Nat) (hx : x < 18446744073709551616) (hs : size ≤ 8) :
    Calls Try.prog 69 #[.pointer (some ⟨b, 0, none⟩), .int .u64 (x : Int), .int .i64 (size : Int)] w fun e w' => e = .returned (.tuple #[]) ∧ ∃ v', Wr w' b lim (put lim err xs (be size x)).1 v' (put lim err xs (be size x)).2 ∧ Fr b v w w' v' := by
  obtain ⟨c0, c1, c2⟩ := cell3 h.blk
  by_cases he : err = 0
  · subst he
    by_cases hf : ((be size x).length : Int) ≤ lim - (xs.length : Int)
    · have F := fits_yes h (size : Int) k.lo k.hi (by have := k.le; have := k.hi; omega) (by rw [be_length] at hf; exact hf)
      have P := fun w' (hw : w'.ownsRow 0 5 1 v xs.length (cs xs)) => putNumber_any w' v xs hw x size hx hs (by rw [be_length] at hf; have := k.hi; omega)
      have e : put lim 0 xs (be size x) = (0, xs ++ be size x) := by simp only [put, if_pos hf, if_true]
      rw [e]
      clear hf e hx hs
      go_enter Try.func69, Try.ntmps69
      go_wp2_with fail
      refine F.mono ?_; rintro e w' ⟨rfl, rfl⟩
      go_wp2_with fail
      refine (P _ h.drew.own).mono ?_; rintro e w1 ⟨v', rfl, ho, hg⟩
      have hb1 := cell3 (h.drew.blk1 hg)
      have hb2 := free3 (h.drew.blk1 hg) 1
      have hst := h.drew.store hg ho
      obtain ⟨ad', n', cap', rfl⟩ := own_slice' ho
      obtain ⟨hb3, hb4, hb5⟩ := hb1
      go_wp2
      go_end0
      exact ⟨rfl, _, hst.1, hst.2.drew⟩
    · have F := fits_no h (size : Int) k.lo k.hi (by have := k.le; have := k.hi; omega) (by rw [be_length] at hf; omega)
      have e : put lim 0 xs (be size x) = (20, xs) := by simp only [put, if_neg hf, if_true]
      rw [e]
      clear hf e hx hs
      go_enter Try.func69, Try.ntmps69
      go_wp2_with fail
      refine F.mono ?_; rintro e w' ⟨rfl, hw, hfr⟩
      go_wp2
      go_end0
      exact ⟨rfl, v, hw, hfr⟩
  · have F := fits_err h (by simpa using he) (size : Int)
    have e : put lim err xs (be size x) = (err, xs) := by simp only [put, if_neg he]
    rw [e]
    clear e hx hs
    go_enter Try.func69, Try.ntmps69
    go_wp2_with fail
    refine F.mono ?_; rintro e w' ⟨rfl, rfl⟩
    go_wp2
    go_end0
    exact ⟨rfl, v, h, Fr.refl _ _ _⟩

theorem number_nil (w : World) (x n : Int) : Calls Try.prog 69 #[.pointer none, .int .u64 x, .int .i64 n] w fun e w' => e = .returned (.tuple #[]) ∧ w' = w := by
  go_enter Try.func69, Try.ntmps69
  go_wp2_with fail
  refine (fits_nil _ _).mono ?_; rintro e w' ⟨rfl, rfl⟩
  go_wp2
  go_end0
  exact ⟨rfl, rfl⟩

/-- what every writing call leaves -/
def Wrote (f : Nat) (b : Nat) (arg : Value) (lim err : Int) (v : Value) (xs ys : List Int) (w : World) : Prop :=
  Calls Try.prog f #[.pointer (some ⟨b, 0, none⟩), arg] w fun e w' => e = .returned (.tuple #[]) ∧ ∃ v', Wr w' b lim (put lim err xs ys).1 v' (put lim err xs ys).2 ∧ Fr b v w w' v'

section
variable {w : World} {b : Nat} {lim err : Int} {v : Value} {xs : List Int}
theorem number_int (h : Wr w b lim err v xs) (k : Ok lim xs) (X size : Int) (n : Nat) (hn : size = (n : Int)) (h0 : 0 ≤ X) (hx : X < 18446744073709551616) (hs : n ≤ 8) :
    Calls Try.prog 69 #[.pointer (some ⟨b, 0, none⟩), .int .u64 X, .int .i64 size] w fun e w' => e = .returned (.tuple #[]) ∧ ∃ v', Wr w' b lim (put lim err xs (be n X.toNat)).1 v' (put lim err xs (be n X.toNat)).2 ∧ Fr b v w w' v' := by
  have N := number_any h k X.toNat n (by omega) hs
  rw [show ((X.toNat : Nat) : Int) = X by omega, ← hn] at N
  exact N
theorem u8_any (h : Wr w b lim err v xs) (k : Ok lim xs) (X : Int) (h0 : 0 ≤ X) (hx : X < 256) : Wrote 34 b (.int .u8 X) lim err v xs (be 1 X.toNat) w := by
  have N := number_int h k X 1 1 rfl h0 (by omega) (by omega)
  generalize be 1 X.toNat = ys at *
  show Calls _ _ _ _ _
  go_enter Try.func34, Try.ntmps34
  go_wp2_with fail
  refine N.mono ?_; rintro e w' ⟨rfl, hr⟩
  go_wp2
  go_end0
  exact ⟨rfl, hr⟩
theorem u16_any (h : Wr w b lim err v xs) (k : Ok lim xs) (X : Int) (h0 : 0 ≤ X) (hx : X < 65536) : Wrote 35 b (.int .u16 X) lim err v xs (be 2 X.toNat) w := by
  have N := number_int h k X 2 2 rfl h0 (by omega) (by omega)
  generalize be 2 X.toNat = ys at *
  show Calls _ _ _ _ _
  go_enter Try.func35, Try.ntmps35
  go_wp2_with fail
  refine N.mono ?_; rintro e w' ⟨rfl, hr⟩
  go_wp2
  go_end0
  exact ⟨rfl, hr⟩
theorem u32_any (h : Wr w b lim err v xs) (k : Ok lim xs) (X : Int) (h0 : 0 ≤ X) (hx : X < 4294967296) : Wrote 36 b (.int .u32 X) lim err v xs (be 4 X.toNat) w := by
  have N := number_int h k X 4 4 rfl h0 (by omega) (by omega)
  generalize be 4 X.toNat = ys at *
  show Calls _ _ _ _ _
  go_enter Try.func36, Try.ntmps36
  go_wp2_with fail
  refine N.mono ?_; rintro e w' ⟨rfl, hr⟩
  go_wp2
  go_end0
  exact ⟨rfl, hr⟩
theorem u64_any (h : Wr w b lim err v xs) (k : Ok lim xs) (X : Int) (h0 : 0 ≤ X) (hx : X < 18446744073709551616) : Wrote 37 b (.int .u64 X) lim err v xs (be 8 X.toNat) w := by
  have N := number_int h k X 8 8 rfl h0 (by omega) (by omega)
  generalize be 8 X.toNat = ys at *
  show Calls _ _ _ _ _
  go_enter Try.func37, Try.ntmps37
  go_wp2_with fail
  refine N.mono ?_; rintro e w' ⟨rfl, hr⟩
  go_wp2
  go_end0
  exact ⟨rfl, hr⟩
end
end Go.Proofs.Ytgaehpdlljlliaa.Cd
