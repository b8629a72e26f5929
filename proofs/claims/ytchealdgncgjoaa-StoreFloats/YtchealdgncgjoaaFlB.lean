import Derived.Test.YtchealdgncgjoaaRmD
import Derived.Test.YtchealdgncgjoaaRmF
import Derived.Test.YtchealdgncgjoaaRmG
import Derived.Test.YtchealdgncgjoaaMpBI
import Ieee.Arith
import Derived.Test.YtchealdgncgjoaaKpA
namespace Go.Proofs.Ytchealdgncgjoaa.StI
open Go.RowKit Go.Proofs.Ytchealdgncgjoaa.St Go.Shelf
set_option linter.unusedVariables false
set_option linter.unusedSimpArgs false
/-- the document's map and the program's find a key at the same place -/
theorem ahead_fd {t : T (Int × Int)} (hs : Srt cmpI t.xs) (k : Int) : ahead cmpI k t.xs t.xs.length = (T.fd (sd k) t).1 := by
  rw [T.fd_eq (sd k) t (hs.c cmpI_ord k)]
  unfold ahead
  rw [List.take_length]
  refine List.countP_congr (fun p _ => ?_)
  have := cmpI_ord.anti p.1 k
  simp only [decide_eq_true_eq]
  exact this
theorem plc_yes {t : T (Int × Int)} (hs : Srt cmpI t.xs) {k : Int} (h : (T.fd (sd k) t).2 = true) : plc cmpI k t.xs = ((T.fd (sd k) t).1 : Int) := by
  have hf := T.fd_eq (sd k) t (hs.c cmpI_ord k)
  have h2 : t.xs.any (fun a => decide (sd k a = 0)) = true := by rw [← h, hf]
  obtain ⟨p, hp, hk⟩ := hs.at cmpI_ord h2
  have h1 : (T.fd (sd k) t).1 = t.xs.countP (fun a => decide (0 < sd k a)) := by rw [hf]
  unfold plc
  rw [ahead_fd hs k, h1, hp]
  have : cmpI p.1 k = 0 := cmpI_ord.sym0.1 hk
  simp only [this, if_true]
theorem plc_no {t : T (Int × Int)} (hs : Srt cmpI t.xs) {k : Int} (h : (T.fd (sd k) t).2 = false) : plc cmpI k t.xs = -1 := by
  have hf := T.fd_eq (sd k) t (hs.c cmpI_ord k)
  have h2 : t.xs.any (fun a => decide (sd k a = 0)) = false := by rw [← h, hf]
  unfold plc
  split
  · rename_i p hp
    rw [if_neg]
    intro h0
    have := List.any_eq_false.1 h2 p (List.mem_of_getElem? hp)
    exact this (by simpa using cmpI_ord.sym0.1 h0)
  · rfl
section
variable {B : Nat} {w w' : World} {rb mb : Nat} {wh : Int} {vk vv : Value} {xs : List (Int × Int)} {t : T (Int × Int)}
/-- a write to the program's map leaves the document's as it was -/
theorem Rm.keepM (h : Rm B w rb wh vk vv xs) (hm : Mp w mb t) (k : Kp (fun i => i = mb) w w') : Rm B w' rb wh vk vv xs := by
  obtain ⟨a, h1, _⟩ := hm.ex
  have hn : ∀ g c ty p, w.heap[g]? = some (.cells c ty p) → ty ≠ 130 → g ≠ mb := fun g c ty p hg hty e => by
    rw [e, h1] at hg; cases hg; exact hty rfl
  refine ⟨(k.block _ (blk_lt h.blk) (hn _ _ _ _ h.blk (by decide))).trans h.blk, own_keep h.ok (fun g hg => ?_), own_keep h.ov (fun g hg => ?_), h.apart⟩
  · obtain ⟨cur, hc⟩ := own_obj h.ok hg
    exact k.block g (blk_lt hc) (hn _ _ _ _ hc (by decide))
  · obtain ⟨cur, hc⟩ := own_obj h.ov hg
    exact k.block g (blk_lt hc) (hn _ _ _ _ hc (by decide))
/-- a write to the document's map leaves the program's as it was -/
theorem Mp.keepR (hm : Mp w mb t) (h : Rm B w rb wh vk vv xs) (k : Kp (fun i => i = rb ∨ vv.ownBlock = some i) w w') : Mp w' mb t := by
  obtain ⟨a, h1, h2⟩ := hm.ex
  have hn : ∀ g c ty p, w.heap[g]? = some (.cells c ty p) → ty ≠ 52 → ty ≠ 3 → ¬ (g = rb ∨ vv.ownBlock = some g) := fun g c ty p hg t1 t2 e => by
    rcases e with e | e
    · rw [e, h.blk] at hg; cases hg; exact t1 rfl
    · obtain ⟨cur, hc⟩ := own_obj h.ov e
      rw [hc] at hg; cases hg; exact t2 rfl
  exact ⟨⟨a, (k.block _ (blk_lt h1) (hn _ _ _ _ h1 (by decide) (by decide))).trans h1, h2.keep (Kn.of k (fun b c hb => hn _ _ _ _ hb (by decide) (by decide)))⟩, hm.bal, hm.srt⟩
/-- the document's Put, told by the program's -/
theorem rput_T (h : Rm B w rb 0 vk vv t.xs) (hs : Srt cmpI t.xs) (hB : B ≤ w.heap.size) (k v : Int) (hl : t.xs.length ≤ 17592186043904) :
    Calls Try.prog 36 #[.pointer (some ⟨rb, 0, none⟩), .int .i64 k, .int .i64 v] w fun e w' => e = .returned (.tuple #[ov (getT k t), .bool (T.fd (sd k) t).2]) ∧ (∃ vk' vv', Rm B w' rb 0 vk' vv' (putT k v t).xs) ∧ Kp (fun i => i = rb ∨ vv.ownBlock = some i) w w' := by
  cases hf : (T.fd (sd k) t).2 with
  | true =>
    obtain ⟨p, hp, hg⟩ := getT_some hf
    refine (rput_old h order_0 k v hl _ p (plc_yes hs hf) hp).mono ?_
    rintro e w' ⟨rfl, hr, hk⟩
    refine ⟨by rw [hg]; rfl, ⟨vk, vv, ?_⟩, hk.mono (fun _ _ h => .inr h)⟩
    rw [put_xs, if_pos hf]; exact hr
  | false =>
    refine (rput_new h hB order_0 k v hl (plc_no hs hf)).mono ?_
    rintro e w' ⟨rfl, ⟨vk', vv', hr, hk⟩⟩
    have hg : getT k t = none := by unfold getT; rw [hf]; rfl
    refine ⟨by rw [hg]; rfl, ⟨vk', vv', ?_⟩, hk.mono (fun _ _ h => .inl h)⟩
    rw [put_xs, hf]
    rw [ahead_fd hs k] at hr
    exact hr
/-- the document's Delete, told by the program's -/
theorem rdel_T (h : Rm B w rb 0 vk vv t.xs) (hs : Srt cmpI t.xs) (hB : B ≤ w.heap.size) (k : Int) (hl : t.xs.length ≤ 17592186043904) :
    Calls Try.prog 42 #[.pointer (some ⟨rb, 0, none⟩), .int .i64 k] w fun e w' => e = .returned (.tuple #[ov (getT k t), .bool (T.fd (sd k) t).2]) ∧ (∃ vk' vv', Rm B w' rb 0 vk' vv' (delT k t).xs) ∧ Kp (fun i => i = rb ∨ vv.ownBlock = some i) w w' := by
  cases hf : (T.fd (sd k) t).2 with
  | true =>
    obtain ⟨p, hp, hg⟩ := getT_some hf
    refine (rdel_yes h hB order_0 k hl _ p (plc_yes hs hf) hp).mono ?_
    rintro e w' ⟨rfl, vk', vv', hr, hk⟩
    refine ⟨by rw [hg]; rfl, ⟨vk', vv', ?_⟩, hk.mono (fun _ _ h => .inl h)⟩
    rw [del_xs, if_pos hf]; exact hr
  | false =>
    refine (rdel_no h order_0 k hl (plc_no hs hf)).mono ?_
    rintro e w' ⟨rfl, hk⟩
    have hg : getT k t = none := by unfold getT; rw [hf]; rfl
    refine ⟨by rw [hg]; rfl, ⟨vk, vv, ?_⟩, hk.mono (fun _ _ h => h.elim)⟩
    rw [del_xs, hf]
    exact h.nu hk
end
end Go.Proofs.Ytchealdgncgjoaa.StI
namespace Go.Proofs.Ytchealdgncgjoaa.Fl
open Ieee
set_option linter.unusedVariables false
/-- float64(n) -/
def cnv (n : Int) : Nat := double.write (.number (decide (n < 0)) n.natAbs 0)
/-- float64(n) / 4 -/
def dv4 (n : Int) : Nat := (double.div (cnv n) (cnv 4)).getD 0
/-- one row of the table -/
def rowOk (n : Int) : Bool := double.div (cnv n) (cnv 4) == some (dv4 n) && double.mul (dv4 n) (cnv 4) == some (cnv n) &&
  (n == 0 || (double.read (dv4 n) == .number (decide (n < 0)) (n.natAbs * 2 ^ (52 - n.natAbs.log2)) ((n.natAbs.log2 : Int) - 54) && double.order (cnv n) (cnv n) == some .eq))
theorem tab : (List.range 1999).all (fun q => rowOk ((q : Int) - 999)) = true := by decide +kernel
theorem row_ok {n : Int} (h0 : -1000 < n) (h1 : n < 1000) : rowOk n = true := by
  have := List.all_eq_true.1 tab (n + 999).toNat (List.mem_range.2 (by omega))
  rwa [show ((n + 999).toNat : Int) - 999 = n by omega] at this
/-- a word whose value is n / 2 ^ 1074 -/
def V (b : Nat) (n : Int) : Prop := ∃ s m, ∃ e : Nat, double.read b = .number s m ((e : Int) - 1074) ∧ signed s m 0 * 2 ^ e = n
theorem signed_shift (s : Bool) (m e : Nat) : signed s m e = signed s m 0 * 2 ^ e := by
  unfold signed
  cases s
  · simp [Nat.shiftLeft_eq]
  · simp only [Nat.shiftLeft_eq, if_true, Nat.pow_zero, Nat.mul_one, Int.natCast_mul, Int.natCast_pow]
    rw [Int.neg_mul]; rfl
theorem cmp_mul (x z p : Int) (hp : 0 < p) : compare x z = compare (x * p) (z * p) := by
  simp only [compare, compareOfLessAndEq]
  rcases Int.lt_trichotomy x z with c | c | c
  · rw [if_pos c, if_pos (Int.mul_lt_mul_of_pos_right c hp)]
  · subst c; simp
  · have := Int.mul_lt_mul_of_pos_right c hp
    rw [if_neg (by omega), if_neg (by omega), if_neg (by omega), if_neg (by omega)]
theorem order_val {b c : Nat} {n n' : Int} (h : V b n) (h' : V c n') : double.order b c = some (compare n n') := by
  obtain ⟨s, m, e, r, rfl⟩ := h
  obtain ⟨s', m', e', r', rfl⟩ := h'
  unfold Format.order
  rw [r, r']
  simp only [Datum.order]
  rw [signed_shift s m, signed_shift s' m']
  congr 1
  generalize signed s m 0 = x
  generalize signed s' m' 0 = y
  rcases Nat.le_total e e' with hle | hle
  · obtain ⟨d, rfl⟩ := Nat.exists_eq_add_of_le hle
    have e1 : ((e : Int) - 1074 - min ((e : Int) - 1074) (((e + d : Nat) : Int) - 1074)).toNat = 0 := by omega
    have e2 : (((e + d : Nat) : Int) - 1074 - min ((e : Int) - 1074) (((e + d : Nat) : Int) - 1074)).toNat = d := by omega
    rw [e1, e2, Int.pow_add, Int.mul_comm (2 ^ e) (2 ^ d), ← Int.mul_assoc, Int.pow_zero, Int.mul_one]
    have hp : (0 : Int) < 2 ^ e := Int.pow_pos (by decide)
    exact cmp_mul _ _ _ hp
  · obtain ⟨d, rfl⟩ := Nat.exists_eq_add_of_le hle
    have e1 : ((e' : Int) - 1074 - min (((e' + d : Nat) : Int) - 1074) ((e' : Int) - 1074)).toNat = 0 := by omega
    have e2 : (((e' + d : Nat) : Int) - 1074 - min (((e' + d : Nat) : Int) - 1074) ((e' : Int) - 1074)).toNat = d := by omega
    rw [e1, e2, Int.pow_add, Int.mul_comm (2 ^ e') (2 ^ d), ← Int.mul_assoc, Int.pow_zero, Int.mul_one]
    have hp : (0 : Int) < 2 ^ e' := Int.pow_pos (by decide)
    exact cmp_mul _ _ _ hp
theorem v_dv4 {n : Int} (h0 : -1000 < n) (h1 : n < 1000) (hn : n ≠ 0) : V (dv4 n) (n * 2 ^ 1072) := by
  have h := row_ok h0 h1
  simp only [rowOk, Bool.and_eq_true, Bool.or_eq_true, beq_iff_eq] at h
  have hr := (h.2.resolve_left (by simpa using hn)).1
  have hl : n.natAbs.log2 ≤ 52 := by
    have := Nat.log2_lt (n := n.natAbs) (by omega) |>.2 (show n.natAbs < 2 ^ 10 by omega)
    omega
  refine ⟨_, _, 1020 + n.natAbs.log2, by rw [hr]; congr 1; omega, ?_⟩
  obtain ⟨l, hl'⟩ : ∃ l, n.natAbs.log2 = l := ⟨_, rfl⟩
  rw [hl'] at hl ⊢
  have e : (2 : Int) ^ 1072 = 2 ^ (52 - l) * 2 ^ (1020 + l) := by rw [← Int.pow_add]; congr 1; omega
  rw [e, ← Int.mul_assoc]
  congr 1
  unfold signed
  have e3 : ((n.natAbs * 2 ^ (52 - l) : Nat) : Int) = (n.natAbs : Int) * 2 ^ (52 - l) := by rw [Int.natCast_mul, Int.natCast_pow]; rfl
  clear e hr h hl'
  generalize (2 : Int) ^ (52 - l) = Q at *
  rcases Int.lt_or_le n 0 with c | c
  · rw [decide_eq_true c, if_pos rfl, Nat.shiftLeft_eq, Nat.pow_zero, Nat.mul_one, e3, ← Int.neg_mul]
    congr 1; omega
  · rw [decide_eq_false (by omega), if_neg (by simp), Nat.shiftLeft_eq, Nat.pow_zero, Nat.mul_one, e3]
    congr 1; omega
theorem v_zero : V 0 0 := ⟨false, 0, 0, by decide, by decide⟩
theorem v_mzero : V (2 ^ 63) 0 := ⟨true, 0, 0, by decide, by decide⟩
end Go.Proofs.Ytchealdgncgjoaa.Fl
namespace Go.Proofs.Ytchealdgncgjoaa.Fl
open Ieee Go.Proofs.Ytchealdgncgjoaa.St
set_option linter.unusedVariables false
/-- which words stand for a place in the order of the keys -/
def Pl (p : Int) (b : Nat) : Prop :=
  (p = -1099511627776 ∧ (double.read b).isNaN = true) ∨ (p = -1073741824 ∧ b = 0xFFF0000000000000) ∨ (p = 1073741824 ∧ b = 0x7FF0000000000000) ∨
  (p = 0 ∧ (b = 0 ∨ b = 0x8000000000000000)) ∨ (p ≠ 0 ∧ -1000 < p ∧ p < 1000 ∧ b = dv4 p)
theorem order_nan_l {b : Nat} (h : (double.read b).isNaN = true) (c : Nat) : double.order b c = none := by
  unfold Format.order
  cases hb : double.read b with
  | nan s f => simp [Datum.order]
  | number s m e => rw [hb] at h; cases h
  | infinity s => rw [hb] at h; cases h
theorem order_nan_r {b : Nat} (h : (double.read b).isNaN = true) (c : Nat) : double.order c b = none := by
  unfold Format.order
  cases hb : double.read b with
  | nan s f => cases double.read c <;> simp [Datum.order]
  | number s m e => rw [hb] at h; cases h
  | infinity s => rw [hb] at h; cases h
theorem Pl.nan {b : Nat} (h : Pl (-1099511627776) b) : (double.read b).isNaN = true := by
  rcases h with h | h | h | h | h
  · exact h.2
  · exact absurd h.1 (by decide)
  · exact absurd h.1 (by decide)
  · exact absurd h.1 (by decide)
  · exact absurd h.2.1 (by decide)
/-- the words that are numbers -/
def Fin (p : Int) (b : Nat) : Prop := -1000 < p ∧ p < 1000 ∧ V b (p * 2 ^ 1072)
theorem Pl.cases {p : Int} {b : Nat} (h : Pl p b) (hp : p ≠ -1099511627776) : (p = -1073741824 ∧ double.read b = .infinity true) ∨ (p = 1073741824 ∧ double.read b = .infinity false) ∨ Fin p b := by
  rcases h with h | h | h | h | h
  · exact absurd h.1 hp
  · exact .inl ⟨h.1, by rw [h.2]; decide⟩
  · exact .inr (.inl ⟨h.1, by rw [h.2]; decide⟩)
  · refine .inr (.inr ⟨by omega, by omega, ?_⟩)
    rw [h.1, Int.zero_mul]
    rcases h.2 with e | e <;> rw [e]
    · exact v_zero
    · exact v_mzero
  · refine .inr (.inr ⟨h.2.1, h.2.2.1, ?_⟩)
    rw [h.2.2.2]
    exact v_dv4 h.2.1 h.2.2.1 h.1
theorem Fin.read {p : Int} {b : Nat} (h : Fin p b) : ∃ s m e, double.read b = .number s m e := by
  obtain ⟨_, _, s, m, e, r, _⟩ := h
  exact ⟨s, m, _, r⟩
theorem cmp_lt {p q : Int} (h : p < q) : compare p q = .lt := by simp only [compare, compareOfLessAndEq]; rw [if_pos h]
theorem cmp_gt {p q : Int} (h : q < p) : compare p q = .gt := by simp only [compare, compareOfLessAndEq]; rw [if_neg (by omega), if_neg (by omega)]
theorem cmp_eq (p : Int) : compare p p = .eq := by simp [compare, compareOfLessAndEq]
theorem order_pl {p q : Int} {b c : Nat} (h : Pl p b) (h' : Pl q c) (hp : p ≠ -1099511627776) (hq : q ≠ -1099511627776) : double.order b c = some (compare p q) := by
  rcases h.cases hp with ⟨e, r⟩ | ⟨e, r⟩ | f <;> rcases h'.cases hq with ⟨e', r'⟩ | ⟨e', r'⟩ | f'
  · unfold Format.order; rw [r, r', e, e']; rfl
  · unfold Format.order; rw [r, r', e, e']; rfl
  · obtain ⟨s, m, x, r'⟩ := f'.read
    rw [cmp_lt (by have := f'.1; omega)]
    unfold Format.order; rw [r, r']; rfl
  · unfold Format.order; rw [r, r', e, e']; rfl
  · unfold Format.order; rw [r, r', e, e']; rfl
  · obtain ⟨s, m, x, r'⟩ := f'.read
    rw [cmp_gt (by have := f'.2.1; omega)]
    unfold Format.order; rw [r, r']; rfl
  · obtain ⟨s, m, x, r⟩ := f.read
    rw [cmp_gt (by have := f.1; omega)]
    unfold Format.order; rw [r, r']; rfl
  · obtain ⟨s, m, x, r⟩ := f.read
    rw [cmp_lt (by have := f.2.1; omega)]
    unfold Format.order; rw [r, r']; rfl
  · rw [order_val f.2.2 f'.2.2, ← cmp_mul p q _ (Int.pow_pos (by decide))]
end Go.Proofs.Ytchealdgncgjoaa.Fl
namespace Go.Proofs.Ytchealdgncgjoaa.St
open Go.Proofs.Ytchealdgncgjoaa.Fl
/-- a key: its place and its word -/
structure FK where
  pl : Int
  bits : Nat
  ok : Pl pl bits
/-- cmp.Compare of these keys -/
def cmpF (a b : FK) : Int := cmpI a.pl b.pl
theorem cmpF_ord : OrdL cmpF := ⟨fun a b => cmpI_ord.anti a.pl b.pl, fun a b c => cmpI_ord.tr a.pl b.pl c.pl, fun a b c => cmpI_ord.tr' a.pl b.pl c.pl⟩
end Go.Proofs.Ytchealdgncgjoaa.St
