import Derived.Test.YtgaehpdlljlliaaCdC
import Derived.Laws.CopyOwn
import Derived.Laws.AppendOwnNone
import Derived.Lib.Zigzag
namespace Go.Proofs.Ytgaehpdlljlliaa.Cd
open Go.RowKit
set_option linter.unusedVariables false

section
variable {w : World} {b : Nat} {lim err : Int} {v : Value} {xs : List Int}

set_option maxHeartbeats 400000 in
theorem varint_any (h : Wr w b lim err v xs) (k : Ok lim xs) (X : Int) (h0 : 0 ≤ X) (hx : X < 18446744073709551616) : Wrote 38 b (.int .u64 X) lim err v xs (va X.toNat) w := by
  obtain ⟨c0, c1, c2⟩ := cell3 h.blk
  have S := fun w => varintSize_any X.toNat (by omega) w
  rw [show ((X.toNat : Nat) : Int) = X by omega] at S
  show Calls _ _ _ _ _
  by_cases he : err = 0
  · subst he
    by_cases hf : ((va X.toNat).length : Int) ≤ lim - (xs.length : Int)
    · have F := fits_yes h ((va X.toNat).length : Int) k.lo k.hi (by have := k.le; have := k.hi; omega) hf
      have P := fun w' (hw : w'.ownsRow 0 5 1 v xs.length (cs xs)) => putVarint_any w' v xs hw X.toNat (by omega) (by have := k.hi; omega)
      rw [show ((X.toNat : Nat) : Int) = X by omega] at P
      have e : put lim 0 xs (va X.toNat) = (0, xs ++ va X.toNat) := by simp only [put, if_pos hf, if_true]
      rw [e]
      generalize va X.toNat = ys at *
      clear hf e
      go_enter Try.func38, Try.ntmps38
      go_wp2_with fail
      refine (S _).mono ?_; rintro e w' ⟨rfl, rfl⟩
      go_wp2_with fail
      refine F.mono ?_; rintro e w' ⟨rfl, rfl⟩
      go_wp2_with fail
      refine (P _ h.drew.own).mono ?_; rintro e w1 ⟨v', rfl, ho, hg⟩
      obtain ⟨hb3, hb4, hb5⟩ := cell3 (h.drew.blk1 hg)
      have hb2 := free3 (h.drew.blk1 hg) 1
      have hst := h.drew.store hg ho
      obtain ⟨ad', n', cap', rfl⟩ := own_slice' ho
      go_wp2
      go_end0
      exact ⟨rfl, _, hst.1, hst.2.drew⟩
    · have F := fits_no h ((va X.toNat).length : Int) k.lo k.hi (by have := k.le; have := k.hi; omega) (by omega)
      have e : put lim 0 xs (va X.toNat) = (20, xs) := by simp only [put, if_neg hf, if_true]
      rw [e]
      generalize va X.toNat = ys at *
      clear hf e
      go_enter Try.func38, Try.ntmps38
      go_wp2_with fail
      refine (S _).mono ?_; rintro e w' ⟨rfl, rfl⟩
      go_wp2_with fail
      refine F.mono ?_; rintro e w' ⟨rfl, hw, hfr⟩
      go_wp2
      go_end0
      exact ⟨rfl, v, hw, hfr⟩
  · have F := fits_err h (by simpa using he) ((va X.toNat).length : Int)
    have e : put lim err xs (va X.toNat) = (err, xs) := by simp only [put, if_neg he]
    rw [e]
    generalize va X.toNat = ys at *
    clear e
    go_enter Try.func38, Try.ntmps38
    go_wp2_with fail
    refine (S _).mono ?_; rintro e w' ⟨rfl, rfl⟩
    go_wp2_with fail
    refine F.mono ?_; rintro e w' ⟨rfl, rfl⟩
    go_wp2
    go_end0
    exact ⟨rfl, v, h, Fr.refl _ _ _⟩

/-- the number that stands for a signed one -/
def zz (x : Int) : Int := if 0 ≤ x then 2 * x else -2 * x - 1
theorem zz_range {x : Int} (h0 : -9223372036854775808 ≤ x) (h1 : x ≤ 9223372036854775807) : 0 ≤ zz x ∧ zz x < 18446744073709551616 := by
  unfold zz; split <;> omega

theorem zz_pos {x : Int} (h : 0 ≤ x) (h1 : x ≤ 9223372036854775807) : bits .xor .u64 (x * 2) 0 = zz x := by
  have := u64_xor (x * 2) 0 (by omega) (by omega) (by omega) (by omega)
  rw [this]
  simp [zz, h]
  omega
theorem zz_neg {x : Int} (h0 : -9223372036854775808 ≤ x) (hneg : x < 0) : bits .xor .u64 (2 * x + 18446744073709551616) 18446744073709551615 = zz x := by
  have := u64_xor (2 * x + 18446744073709551616) 18446744073709551615 (by omega) (by omega) (by omega) (by omega)
  rw [this, Nat.xor_comm]
  have e := Lib.xor_ones64 (2 * x + 18446744073709551616).toNat (by omega)
  rw [show (18446744073709551615 : Int).toNat = 2 ^ 64 - 1 by decide, e]
  unfold zz
  rw [if_neg (by omega)]
  omega

theorem signed_any (h : Wr w b lim err v xs) (k : Ok lim xs) (x : Int) (h0 : -9223372036854775808 ≤ x) (h1 : x ≤ 9223372036854775807) : Wrote 39 b (.int .i64 x) lim err v xs (va (zz x).toNat) w := by
  obtain ⟨z0, z1⟩ := zz_range h0 h1
  have V := varint_any h k (zz x) z0 z1
  generalize va (zz x).toNat = ys at *
  show Calls _ _ _ _ _
  by_cases hn : 0 ≤ x
  · have hz : bits .xor .u64 (x * 2) (x / 9223372036854775808) = zz x := by
      rw [show x / 9223372036854775808 = 0 by omega]
      exact zz_pos hn h1
    generalize zz x = z at *
    go_enter Try.func39, Try.ntmps39
    go_wp2_with fail
    refine Calls.mono V ?_; rintro e w' ⟨rfl, hr⟩
    go_wp2
    go_end0
    exact ⟨rfl, hr⟩
  · have hz : bits .xor .u64 (IntKind.u64.wrap (IntKind.u64.wrap x * 2)) (IntKind.u64.wrap (x / 9223372036854775808)) = zz x := by
      rw [show x / 9223372036854775808 = -1 by omega, IntKind.wrap_u64, IntKind.wrap_u64, IntKind.wrap_u64]
      rw [show x % 18446744073709551616 * 2 % 18446744073709551616 = 2 * x + 18446744073709551616 by omega, show (-1 : Int) % 18446744073709551616 = 18446744073709551615 by decide]
      exact zz_neg h0 (by omega)
    generalize zz x = z at *
    go_enter Try.func39, Try.ntmps39
    go_wp2_with fail
    refine Calls.mono V ?_; rintro e w' ⟨rfl, hr⟩
    go_wp2
    go_end0
    exact ⟨rfl, hr⟩
theorem flag_any (h : Wr w b lim err v xs) (k : Ok lim xs) (x : Bool) : Wrote 40 b (.bool x) lim err v xs [if x then 1 else 0] w := by
  show Calls _ _ _ _ _
  cases x
  · have N := u8_any h k 0 (by omega) (by omega)
    go_enter Try.func40, Try.ntmps40
    go_wp2_with fail
    refine Calls.mono N ?_; rintro e w' ⟨rfl, hr⟩
    go_wp2
    go_end0
    exact ⟨rfl, hr⟩
  · have N := u8_any h k 1 (by omega) (by omega)
    go_enter Try.func40, Try.ntmps40
    go_wp2_with fail
    refine Calls.mono N ?_; rintro e w' ⟨rfl, hr⟩
    go_wp2
    first | go_end0 | refine bodyPost_ret (results_none rfl _ _ _) rfl ?_
    exact ⟨rfl, hr⟩

/-- a slice that can be read: nil, or a window -/
def Rd (w : World) (v : Value) (xs : List Int) : Prop :=
  (v = .slice none 0 0 ∧ xs = []) ∨ ∃ a cap, v = .slice (some a) xs.length cap ∧ ∀ j u, (cs xs)[j]? = some u → w.cell? (a.add j) = some u

theorem Rd.slice {v : Value} (h : Rd w v xs) : ∃ ad cap, v = .slice ad xs.length cap := by
  rcases h with ⟨rfl, rfl⟩ | ⟨a, cap, rfl, _⟩
  · exact ⟨none, 0, rfl⟩
  · exact ⟨some a, cap, rfl⟩

theorem cs_one (xs : List Int) : ∀ u ∈ cs xs, u.oneCell' = true := by
  intro u hu
  simp only [cs, List.mem_map] at hu
  obtain ⟨a, _, rfl⟩ := hu
  rfl

theorem Rd.of_own {n : Nat} (h : w.ownsRow 0 5 1 v n (cs xs)) (hn : n = xs.length) : Rd w v xs := by
  subst hn
  rcases h.2 with ⟨rfl, h0⟩ | ⟨g, cap, cur, rfl, hb, hg, _⟩
  · exact .inl ⟨rfl, List.eq_nil_of_length_eq_zero h0⟩
  · exact .inr ⟨⟨g, 0, none⟩, cap, rfl, h.cells rfl⟩

theorem made_row {w1 : World} {base g n : Nat} {l : List Value} (h : w1.ownsRow base 5 1 (.slice (some ⟨g, 0, none⟩) n n) n l) : ∃ cur : List Value, Hid (w1.heap[g]? = some (.cells cur.toArray 5 (0, 0))) ∧ Hid (cur.length = n) := by
  rcases h.2 with ⟨e, _⟩ | ⟨g', cap, cur, e, _, hg, _, _, hs, _⟩
  · cases e
  · cases e
    exact ⟨cur.toList, hg, by simpa [Hid] using hs⟩
theorem splice_all {α : Type} (L ys : List α) (h : L.length = ys.length) : splice L 0 ys = ys := by simp [splice, ← h]
theorem sz5 : (Try.prog.info? 5).map (·.size) = some 1 := by kernel_rfl

def Nu : Nat → Prop := fun _ => False

set_option maxRecDepth 100000 in
set_option maxHeartbeats 400000 in
/-- own: a copy in new memory -/
theorem own_any (h : Rd w v xs) (hb : xs.length ≤ 140737488355328) :
    Calls Try.prog 46 #[v] w fun e w' => e = .returned (.slice (some ⟨w.heap.size, 0, none⟩) xs.length xs.length) ∧ w'.heap[w.heap.size]? = some (.cells (cs xs).toArray 5 (0, 0)) ∧ Kp Nu w w' := by
  obtain ⟨i0, hi, hz0, hz1, hz2⟩ := info_parts info5
  have HB := hide hb
  clear hb
  have hpos : 0 < (cs xs).length → ∀ ad n cap, v = .slice ad n cap → ∃ a, ad = some a ∧ ∀ j u, (cs xs)[j]? = some u → w.cell? (a.add j) = some u := by
    intro h0 ad n cap hv
    rcases h with ⟨rfl, rfl⟩ | ⟨a, cap', rfl, hc⟩
    · simp [cs] at h0
    · cases hv; exact ⟨a, rfl, hc⟩
  obtain ⟨ad, cap, rfl⟩ := h.slice
  have HP := hide hpos
  clear hpos
  generalize hn : xs.length = n at *
  have HNN := hide hn
  clear hn
  have A1 : Hid (i0.bytes * n ≤ 281474976710656) := by
    have := HB.out
    show _ ≤ _
    rw [hz2]; omega
  have A2 : Hid (n ≤ maxLen) := by
    have := HB.out
    show _ ≤ _
    unfold maxLen; omega
  have B1 : Hid ((cs xs).length = Nat.min n n) := by
    show _ = _
    rw [cs_length, HNN.out]
    exact (Nat.min_self n).symm
  have B2 : ∀ w1, Hid (Kp (fun k => some k = (none : Option Nat)) w w1) → Hid (0 < (cs xs).length → ∃ a, ad = some a ∧ ∀ j u, (cs xs)[j]? = some u → w1.cell? (a.add j) = some u) := by
    intro w1 HL h0
    obtain ⟨a, rfl, hc⟩ := HP.out h0 _ _ _ rfl
    refine ⟨a, rfl, fun j u hj => ?_⟩
    have := hc j u hj
    exact (World.cell?_of_block (HL.out.block _ (World.block_lt_of_cell? w _ this) (by simp))).trans this
  have B3 : ∀ cur : List Value, Hid (cur.length = n) → Hid (0 + (cs xs).length ≤ cur.length) := by
    intro cur hc
    show _ ≤ _
    rw [cs_length, HNN.out, hc.out]; omega
  have B4 : ∀ w1, Hid (Kp (fun k => some k = (none : Option Nat)) w w1) → Below w.heap.size w w1 :=
    fun w1 HL => ⟨HL.out.os, HL.out.tape, HL.out.output, HL.out.size, fun k hk => HL.out.block k hk (by simp)⟩
  go_enter Try.func46, Try.ntmps46
  go_wp2_with (first
    | (at_make; refine wpList_make_full _ rfl _ _ 30 rfl w.heap.size 5 i0 _ 1 Try.underlying30 hi hz0 hz1 .i64 .i64 _ _ n rfl rfl rfl rfl A1.out A2.out (Nat.le_refl _) ?_; intro w1 hown hgrow; obtain ⟨cur, HG, HC⟩ := made_row hown; have HL := hide (Kp.of_grown hgrow); clear hown hgrow)
    | (guard_target =~ wpList _ _ _ ({ dst := some 9, op := Op.call { callee := Callee.builtin Builtin.copy, args := _, argTypes := _ }, type := _, pos := _, after := _, guard := _ } :: _) _ _; refine wpList_copy_splice rfl _ _ 30 30 rfl 5 Try.underlying30 sz5 _ _ n n n cap rfl rfl w.heap.size 0 cur 5 HG.out (cs xs) B1.out (fun h0 => ⟨rfl, (B2 _ HL).out h0⟩) (B3 _ HC).out (cs_one xs) w.heap.size w (B4 _ HL) (Nat.le_refl _) ?_; intro w2 HG2 hB2))
  go_ret
  have hl := HC.out
  have hn := HNN.out
  have hg2 := HG2.out
  rw [splice_all cur (cs xs) (by rw [cs_length]; omega)] at hg2
  exact ⟨rfl, hg2, ⟨hB2.os, hB2.tape, hB2.output, hB2.size, fun k hk _ => hB2.block k hk⟩⟩
end
end Go.Proofs.Ytgaehpdlljlliaa.Cd
