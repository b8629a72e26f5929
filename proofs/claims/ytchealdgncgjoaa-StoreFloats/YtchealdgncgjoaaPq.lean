import Derived.Test.YtchealdgncgjoaaItC
import Derived.Test.YtchealdgncgjoaaNdDF
import Derived.WalkLawsBesides
import Derived.Laws.FloatArith
import Derived.Test.YtchealdgncgjoaaFlC
namespace Go.Proofs.Ytchealdgncgjoaa.St
open Go.RowKit
theorem eqp {P : Program} (w : World) (t : TypeId) (b : Nat) (h : P.underlying t = some (.pointer (P.pointee t))) (n : Nat) (hn : (sizeOf (P.pointee t)).run P w = .ok n w) : (binOp .eql t (.pointer (some ⟨b, 0, none⟩)) (.pointer (some ⟨b, 0, none⟩))).run P w = .ok (.bool true) w := by
  have h0 : ∀ d, (Op.equalIn (d + 1) t (.pointer (some ⟨b, 0, none⟩)) (.pointer (some ⟨b, 0, none⟩))).run P w = .ok true w := fun d => by
    simp [Op.equalIn, run_underlying h, hn, sameAddr]
  have : (Op.equal t (.pointer (some ⟨b, 0, none⟩)) (.pointer (some ⟨b, 0, none⟩))).run P w = .ok true w := h0 9999
  simp only [binOp]
  simp [this]
set_option maxRecDepth 1000000 in
theorem eq128 (w : World) (b : Nat) : (binOp .eql 128 (.pointer (some ⟨b, 0, none⟩)) (.pointer (some ⟨b, 0, none⟩))).run Try.prog w = .ok (.bool true) w := eqp w 128 b Try.underlying128 6 rfl
end Go.Proofs.Ytchealdgncgjoaa.St
namespace Go.Proofs.Ytchealdgncgjoaa.StF
open Go.RowKit Go.Proofs.Ytchealdgncgjoaa.St Go.Proofs.Ytchealdgncgjoaa.Fl Ieee
set_option linter.unusedVariables false
set_option linter.unusedSimpArgs false
theorem nan_word (t : Nat) : (double.read ((t % 2) * 2 ^ 63 + 0x7ff0000000000000 + 1 + (t / 2) % (2 ^ 52 - 1))).isNaN = true := by
  obtain ⟨s, hs⟩ : ∃ s, t % 2 = s := ⟨_, rfl⟩
  obtain ⟨f, hf⟩ : ∃ f, (t / 2) % (2 ^ 52 - 1) = f := ⟨_, rfl⟩
  have h1 : s < 2 := by omega
  have h2 : f < 4503599627370495 := by rw [← hf]; exact Nat.mod_lt _ (by decide)
  rw [hs, hf]
  have hb : double.binade = 4503599627370496 := rfl
  have hi : double.infRung = 9218868437227405312 := rfl
  have hw : double.signWeight = 9223372036854775808 := rfl
  unfold Format.read
  simp only [hb, hi, hw]
  have e : (s * 2 ^ 63 + 0x7ff0000000000000 + 1 + f) % 9223372036854775808 = 9218868437227405313 + f := by
    have : s * 2 ^ 63 + 0x7ff0000000000000 + 1 + f = (9218868437227405313 + f) + 9223372036854775808 * s := by omega
    rw [this, Nat.add_mul_mod_self_left, Nat.mod_eq_of_lt (by omega)]
  rw [e, if_neg (by omega), if_neg (by omega), if_neg (by omega)]
  rfl
theorem run_nan (w : World) : ∃ b, (double.read b).isNaN = true ∧ (binOp .quo 59 (.float .f64 0) (.float .f64 0)).run Try.prog w = .ok (.float .f64 b) w.drew := by
  refine ⟨_, nan_word (w.tape w.drawn (.nanBits .f64 0 0)), ?_⟩
  have h : double.div 0 0 = none := by decide
  show ((Op.floatArith .quo .f64 0 0)).run Try.prog w = _
  unfold Op.floatArith
  have hf : FloatKind.f64.format = double := rfl
  simp only [hf, h]
  simp [run_choose_drew, Question.forced, Question.cut]
theorem tmod_bd (k : Int) : -1000 < k.tmod 1000 ∧ k.tmod 1000 < 1000 := by
  constructor
  · have := Int.lt_tmod_of_pos k (show (0 : Int) < 1000 by decide); omega
  · exact Int.tmod_lt_of_pos k (by decide)
theorem pl_mod {q : Int} (h0 : -1000 < q) (h1 : q < 1000) : Pl q (dv4 q) := by
  by_cases h : q = 0
  · subst h
    exact .inr (.inr (.inr (.inl ⟨rfl, .inl (by decide)⟩)))
  · exact .inr (.inr (.inr (.inr ⟨h, h0, h1, rfl⟩)))
theorem div_mod {q : Int} (h0 : -1000 < q) (h1 : q < 1000) : floatBits .quo .f64 (floatOfInt .f64 q) 4616189618054758400 = some (dv4 q) := by
  have h := row_ok h0 h1
  simp only [rowOk, Bool.and_eq_true, beq_iff_eq] at h
  have h4 : cnv 4 = 4616189618054758400 := by decide
  have := h.1.1
  rw [h4] at this
  exact this
set_option maxRecDepth 100000 in
set_option maxHeartbeats 1000000 in
theorem floatOf_any (k : Int) (w : World) : Calls Try.prog 39 #[.int .i64 k] w fun e w' => ∃ x : FK, e = .returned (.tuple #[.float .f64 x.bits, .int .i64 x.pl]) ∧ ∃ q, w' = w.drewN q := by
  obtain ⟨nb, hnb, hn⟩ := run_nan w
  have i1 : ∀ W : World, (binOp .quo 59 (.float .f64 13830554455654793216) (.float .f64 0)).run Try.prog W = .ok (.float .f64 0xFFF0000000000000) W := fun W => run_float_arith W _ _ _ _ _ _ (by decide)
  have i2 : ∀ W : World, (binOp .quo 59 (.float .f64 4607182418800017408) (.float .f64 0)).run Try.prog W = .ok (.float .f64 0x7FF0000000000000) W := fun W => run_float_arith W _ _ _ _ _ _ (by decide)
  have i4 : ∀ W : World, (Op.unary .neg (.float .f64 0)).run Try.prog W = .ok (.float .f64 0x8000000000000000) W := fun W => by rfl
  obtain ⟨q0, q1⟩ := tmod_bd k
  have i3 : ∀ W : World, (binOp .quo 59 (.float .f64 (floatOfInt .f64 (k.tmod 1000))) (.float .f64 4616189618054758400)).run Try.prog W = .ok (.float .f64 (dv4 (k.tmod 1000))) W := fun W => run_float_arith W _ _ _ _ _ _ (div_mod q0 q1)
  have HP := hide (And.intro hnb (pl_mod q0 q1))
  by_cases c0 : k = 0
  · subst c0
    clear i1 i2 i3 q0 q1 hnb
    go_enter Try.func39, Try.ntmps39
    go_wp2
    go_ret2
    exact ⟨⟨-1099511627776, nb, .inl ⟨rfl, HP.out.1⟩⟩, rfl, 1, rfl⟩
  by_cases c1 : k = 1
  · subst c1
    clear i2 i3 q0 q1 hnb hn c0
    go_enter Try.func39, Try.ntmps39
    go_wp2
    go_ret2
    exact ⟨⟨-1073741824, 0xFFF0000000000000, .inr (.inl ⟨rfl, rfl⟩)⟩, rfl, 0, rfl⟩
  by_cases c2 : k = 2
  · subst c2
    clear i1 i3 q0 q1 hnb hn c0 c1
    go_enter Try.func39, Try.ntmps39
    go_wp2
    go_ret2
    exact ⟨⟨1073741824, 0x7FF0000000000000, .inr (.inr (.inl ⟨rfl, rfl⟩))⟩, rfl, 0, rfl⟩
  by_cases c3 : k = 3
  · subst c3
    clear i1 i2 i3 q0 q1 hnb hn c0 c1 c2
    go_enter Try.func39, Try.ntmps39
    go_wp2
    go_ret2
    exact ⟨⟨0, 0x8000000000000000, .inr (.inr (.inr (.inl ⟨rfl, .inr rfl⟩)))⟩, rfl, 0, rfl⟩
  by_cases c4 : k = 4
  · subst c4
    clear i1 i2 i3 q0 q1 hnb hn c0 c1 c2 c3
    go_enter Try.func39, Try.ntmps39
    go_wp2
    go_ret2
    exact ⟨⟨0, 0, .inr (.inr (.inr (.inl ⟨rfl, .inl rfl⟩)))⟩, rfl, 0, rfl⟩
  · have wk : IntKind.i64.wrap (k.tmod 1000) = k.tmod 1000 := by rw [IntKind.wrap_i64]; omega
    have wk2 : wrap64 (k.tmod 1000) = k.tmod 1000 := by unfold wrap64; omega
    clear i1 i2 hnb hn i4 q0 q1
    go_enter Try.func39, Try.ntmps39
    go_wp2
    go_ret2
    exact ⟨⟨k.tmod 1000, dv4 (k.tmod 1000), HP.out.2⟩, rfl, 0, rfl⟩
end Go.Proofs.Ytchealdgncgjoaa.StF
namespace Go.Proofs.Ytchealdgncgjoaa.StF
open Go.RowKit Go.Proofs.Ytchealdgncgjoaa.St
set_option linter.unusedVariables false
attribute [local go_sem] run_store_float

theorem kn_set {w : World} {mb : Nat} {c : Array Value} (h1 : w.heap[mb]? = some (.cells c 158 (0, 0))) (o : Nat) (u : Value) : Kn w (w.setCell ⟨mb, o, none⟩ u) :=
  Kn.of (Kp.setCell w ⟨mb, o, none⟩ u) (fun b c hb e => by
    have e : b = mb := e
    subst e; rw [h1] at hb; cases hb)
theorem Mp.set {w : World} {mb : Nat} {a a' : Option Addr} {t' : T (FK × Int)} (h1 : w.heap[mb]? = some (.cells #[.func (.func 103) #[] #[], .pointer a] 158 (0, 0))) (ht : Tr w t' a') (hb : t'.bal) (hs : Srt cmpF t'.xs) :
    Mp (w.setCell ⟨mb, 1, none⟩ (.pointer a')) mb t' :=
  ⟨⟨a', by rw [set3 h1]; rfl, ht.keep (kn_set h1 _ _)⟩, hb, hs⟩
section
variable {w : World} {mb : Nat} {t : T (FK × Int)}
set_option maxRecDepth 100000 in
set_option maxHeartbeats 1000000 in
theorem put_any (h : Mp w mb t) (k : FK) (v : Int) (hs : t.sz + 1 < 2 ^ 62) :
    Calls Try.prog 40 #[.pointer (some ⟨mb, 0, none⟩), .float .f64 (k).bits, .int .i64 (v)] w fun e w' => e = .returned (.tuple #[ov (getT k t), .bool (T.fd (sd k) t).2]) ∧ Mp w' mb (putT k v t) ∧ Kp (fun i => i = mb) w w' := by
  have hpb := put_bal (k := k) (v := v) h.bal
  have hps := put_srt (k := k) (v := v) h.srt
  have hbal := h.bal
  obtain ⟨a, h1, h2⟩ := h.ex
  have MA := made_any h1
  have FA := find_any h1 h2 k (by omega)
  have c1 : w.cell? ⟨mb, 1, none⟩ = some (.pointer a) := by simp [World.cell?, h1]
  have HFF : ∀ W, Kp Nu w W → W.frozen? ⟨mb, 1, none⟩ = false ∧ W.cell? ⟨mb, 1, none⟩ = some (.pointer a) := fun W q => by
    have := (q.block _ (blk_lt h1) (fun h => h)).trans h1
    exact ⟨free3 this 1, by simp [World.cell?, this]⟩
  have H1 : Hid (∀ W, Kp Nu w W → W.heap[mb]? = some (.cells #[.func (.func 103) #[] #[], .pointer a] 158 (0, 0))) := fun W q => (q.block _ (blk_lt h1) (fun h => h)).trans h1
  cases hb : (T.fd (sd k) t).2 with
  | false =>
    have eg : getT k t = none := by unfold getT; rw [hb]; rfl
    have ep : putT k v t = t.ins (T.fd (sd k) t).1 (k, v) := by unfold putT; rw [hb]; rfl
    rw [eg]
    rw [hb] at FA
    have hle := (T.fd_le (sd k) t).1
    rw [ep] at hpb hps
    generalize (T.fd (sd k) t).1 = i at *
    have IA : ∀ W, Kp Nu w W → Calls Try.prog 106 #[.pointer a, .int .i64 (i : Int), .float .f64 (k).bits, .int .i64 (v)] W fun e w' => ∃ a', e = .returned (.pointer a') ∧ Tr w' (t.ins i (k, v)) a' ∧ Kp Nu w w' := fun W q =>
      (insert_any k v t W a i (h2.nu q) hbal (by omega) hle).mono fun e w' ⟨a', e1, e2, e3⟩ => ⟨a', e1, e2, q.andNu e3⟩
    have HP : Hid ((t.ins i (k, v)).bal ∧ Srt cmpF (t.ins i (k, v)).xs ∧ putT k v t = t.ins i (k, v)) := ⟨hpb, hps, ep⟩
    clear h h1 h2 hbal hpb hps hle ep eg hb hs
    go_enter Try.func40, Try.ntmps40
    go_wp2_with (first
      | (go_at_call 104; refine MA.mono ?_; rintro e w' ⟨rfl, hw⟩; obtain rfl := hw.symm)
      | (go_at_call 105; refine FA.mono ?_; rintro e w1 ⟨rfl, k1⟩)
      | (go_at_call 106; refine (IA _ k1).mono ?_; rintro e w2 ⟨a', rfl, t2, k2⟩; obtain ⟨f2, d2⟩ := HFF _ k2))
    go_ret2
    refine ⟨rfl, ?_, ?_⟩
    · rw [HP.out.2.2]; exact Mp.set (H1.out _ k2) t2 HP.out.1 HP.out.2.1
    · exact (k2.mono (fun _ _ h => h.elim)).trans (Kp.setCell _ _ _) (fun _ _ h => h)
  | true =>
    obtain ⟨p, hp, eg⟩ := getT_some hb
    have ep : putT k v t = t.rep (T.fd (sd k) t).1 (fun p => (p.1, v)) := by unfold putT; rw [hb]; rfl
    rw [eg]
    rw [hb] at FA
    have hlt := (T.fd_le (sd k) t).2 hb
    rw [ep] at hpb hps
    have hat := atT_xs t (T.fd (sd k) t).1
    rw [hp] at hat
    generalize (T.fd (sd k) t).1 = i at *
    have IA : ∀ W, Kp Nu w W → Calls Try.prog 107 #[.pointer a, .int .i64 (i : Int), .int .i64 (v)] W fun e w' => ∃ a', e = .returned (.pointer a') ∧ Tr w' (t.rep i (fun p => (p.1, v))) a' ∧ Kp Nu w w' := fun W q =>
      (replace_any v t W a i (h2.nu q) (by omega) hlt).mono fun e w' ⟨a', e1, e2, e3⟩ => ⟨a', e1, e2, q.andNu e3⟩
    have AT : ∀ W u, Kp Nu w W → Calls Try.prog 108 #[.pointer a, .int .i64 (i : Int)] (W.setCell ⟨mb, 1, none⟩ u) fun e w' => ∃ b, e = .returned (.pointer (some ⟨b, 0, none⟩)) ∧ w'.cell? ⟨b, 1, none⟩ = some (.int .i64 (p.2)) ∧ w' = W.setCell ⟨mb, 1, none⟩ u := fun W u q => by
      refine (at_any ((h2.nu q).keep (kn_set (H1.out W q) 1 u)) (i : Int) (by omega) (by omega)).mono ?_
      rintro e w' ⟨a', rfl, hn, rfl⟩
      rw [hat] at hn
      obtain ⟨b, x2, x3, x4, x5, rfl, hb⟩ := hn
      exact ⟨b, rfl, (cell6 hb).2.1, rfl⟩
    have HP : Hid ((t.rep i (fun p => (p.1, v))).bal ∧ Srt cmpF (t.rep i (fun p => (p.1, v))).xs ∧ putT k v t = t.rep i (fun p => (p.1, v))) := ⟨hpb, hps, ep⟩
    clear h h1 h2 hbal hpb hps hlt ep eg hb hs hp hat
    go_enter Try.func40, Try.ntmps40
    go_wp2_with (first
      | (go_at_call 104; refine MA.mono ?_; rintro e w' ⟨rfl, hw⟩; obtain rfl := hw.symm)
      | (go_at_call 105; refine FA.mono ?_; rintro e w1 ⟨rfl, k1⟩)
      | (go_at_call 107; refine (IA _ k1).mono ?_; rintro e w2 ⟨a', rfl, t2, k2⟩; obtain ⟨f2, d2⟩ := HFF _ k2)
      | (go_at_call 108; refine (AT _ _ k2).mono ?_; rintro e w3 ⟨b3, rfl, c3, hw3⟩; obtain rfl := hw3.symm))
    go_ret2
    refine ⟨rfl, ?_, ?_⟩
    · rw [HP.out.2.2]; exact Mp.set (H1.out _ k2) t2 HP.out.1 HP.out.2.1
    · exact (k2.mono (fun _ _ h => h.elim)).trans (Kp.setCell _ _ _) (fun _ _ h => h)

set_option maxRecDepth 100000 in
set_option maxHeartbeats 1000000 in
theorem del_any (h : Mp w mb t) (k : FK) (hs : t.sz + 1 < 2 ^ 62) :
    Calls Try.prog 41 #[.pointer (some ⟨mb, 0, none⟩), .float .f64 (k).bits] w fun e w' => e = .returned (.tuple #[ov (getT k t), .bool (T.fd (sd k) t).2]) ∧ Mp w' mb (delT k t) ∧ Kp (fun i => i = mb) w w' := by
  have hpb := del_bal (k := k) h.bal
  have hps := del_srt (k := k) h.srt
  have hbal := h.bal
  have H0 : Hid (∀ W, Kp Nu w W → Mp W mb t) := fun W q => h.nu q
  obtain ⟨a, h1, h2⟩ := h.ex
  have TA := tree_any h1
  have FA := find_any h1 h2 k (by omega)
  have HFF : ∀ W, Kp Nu w W → W.frozen? ⟨mb, 1, none⟩ = false ∧ W.cell? ⟨mb, 1, none⟩ = some (.pointer a) := fun W q => by
    have := (q.block _ (blk_lt h1) (fun h => h)).trans h1
    exact ⟨free3 this 1, by simp [World.cell?, this]⟩
  have H1 : Hid (∀ W, Kp Nu w W → W.heap[mb]? = some (.cells #[.func (.func 103) #[] #[], .pointer a] 158 (0, 0))) := fun W q => (q.block _ (blk_lt h1) (fun h => h)).trans h1
  cases hb : (T.fd (sd k) t).2 with
  | false =>
    have eg : getT k t = none := by unfold getT; rw [hb]; rfl
    have ep : delT k t = t := by unfold delT; rw [hb]; rfl
    rw [eg, ep]
    rw [hb] at FA
    generalize (T.fd (sd k) t).1 = i at *
    clear h h1 h2 hbal hpb hps ep eg hb hs
    go_enter Try.func41, Try.ntmps41
    go_wp2_with (first
      | (go_at_call 109; refine TA.mono ?_; rintro e w' ⟨rfl, hw⟩; obtain rfl := hw.symm)
      | (go_at_call 105; refine FA.mono ?_; rintro e w1 ⟨rfl, k1⟩))
    go_ret2
    exact ⟨rfl, H0.out _ k1, k1.mono (fun _ _ h => h.elim)⟩
  | true =>
    obtain ⟨p, hp, eg⟩ := getT_some hb
    have ep : delT k t = t.rem (T.fd (sd k) t).1 := by unfold delT; rw [hb]; rfl
    rw [eg]
    rw [hb] at FA
    have hlt := (T.fd_le (sd k) t).2 hb
    rw [ep] at hpb hps
    have hat := atT_xs t (T.fd (sd k) t).1
    rw [hp] at hat
    generalize (T.fd (sd k) t).1 = i at *
    have IA : ∀ W, Kp Nu w W → Calls Try.prog 110 #[.pointer a, .int .i64 (i : Int)] W fun e w' => ∃ a', e = .returned (.pointer a') ∧ Tr w' (t.rem i) a' ∧ Kp Nu w w' := fun W q =>
      (remove_any t W a i (h2.nu q) hbal (by omega) hlt).mono fun e w' ⟨a', e1, e2, e3⟩ => ⟨a', e1, e2, q.andNu e3⟩
    have AT : ∀ W u, Kp Nu w W → Calls Try.prog 108 #[.pointer a, .int .i64 (i : Int)] (W.setCell ⟨mb, 1, none⟩ u) fun e w' => ∃ b, e = .returned (.pointer (some ⟨b, 0, none⟩)) ∧ w'.cell? ⟨b, 1, none⟩ = some (.int .i64 (p.2)) ∧ w' = W.setCell ⟨mb, 1, none⟩ u := fun W u q => by
      refine (at_any ((h2.nu q).keep (kn_set (H1.out W q) 1 u)) (i : Int) (by omega) (by omega)).mono ?_
      rintro e w' ⟨a', rfl, hn, rfl⟩
      rw [hat] at hn
      obtain ⟨b, x2, x3, x4, x5, rfl, hb⟩ := hn
      exact ⟨b, rfl, (cell6 hb).2.1, rfl⟩
    have HP : Hid ((t.rem i).bal ∧ Srt cmpF (t.rem i).xs ∧ delT k t = t.rem i) := ⟨hpb, hps, ep⟩
    clear h h1 h2 hbal hpb hps hlt ep eg hb hs hp hat H0
    go_enter Try.func41, Try.ntmps41
    go_wp2_with (first
      | (go_at_call 109; refine TA.mono ?_; rintro e w' ⟨rfl, hw⟩; obtain rfl := hw.symm)
      | (go_at_call 105; refine FA.mono ?_; rintro e w1 ⟨rfl, k1⟩)
      | (go_at_call 110; refine (IA _ k1).mono ?_; rintro e w2 ⟨a', rfl, t2, k2⟩; obtain ⟨f2, d2⟩ := HFF _ k2)
      | (go_at_call 108; refine (AT _ _ k2).mono ?_; rintro e w3 ⟨b3, rfl, c3, hw3⟩; obtain rfl := hw3.symm))
    go_ret2
    refine ⟨rfl, ?_, ?_⟩
    · rw [HP.out.2.2]; exact Mp.set (H1.out _ k2) t2 HP.out.1 HP.out.2.1
    · exact (k2.mono (fun _ _ h => h.elim)).trans (Kp.setCell _ _ _) (fun _ _ h => h)
end
end Go.Proofs.Ytchealdgncgjoaa.StF
