import Derived.Test.YtgaehpdlljlliaaZrC
namespace Go.Proofs.Ytgaehpdlljlliaa.Zr
open Go.ChangeShapes Go.WideShapes Go.ChangeAt Go.RowKit
set_option linter.unusedVariables false      -- a walk need not use every 'w<i>' (that an integer argument fits its kind)

theorem own : ownKnob Try.prog.godebug = none := by kernel_rfl

theorem of_int (a : Int) (h0 : 0 ≤ a) (h1 : a < 4294967296) : ∃ b : V, a = (b.toNat : Int) :=
  ⟨BitVec.ofNat 32 a.toNat, by rw [BitVec.toNat_ofNat, Nat.mod_eq_of_lt (by omega)]; omega⟩

theorem xz (a : V) : a ^^^ 0#32 = a := BitVec.xor_zero

theorem join_at {a b : V} {n : Nat} (r : V) (hr : join a x8 n ^^^ b = r) (hn : n < 9223372036854775808) (w : World) : Calls Try.prog 8 #[.int .u32 (a.toNat : Int), .int .u32 (b.toNat : Int), .int .i64 (n : Int)] w fun e w' => e = .returned (.int .u32 (r.toNat : Int)) ∧ w' = w := by
  subst hr
  exact crcJoin_pos a b n hn w

theorem early (a b : V) (m n : Int) (h : m < 0 ∨ n < 0 ∨ m > 4611686018427387904 ∨ n > 4611686018427387903) (w : World) :
    Calls Try.prog 3 #[.int .u32 (a.toNat : Int), .int .u32 (b.toNat : Int), .int .i64 m, .int .i64 n] w fun e w' => e = .returned (.bool true) ∧ Grown w w' := by
  by_cases h1 : m < 0
  · go_enter Try.func3, Try.ntmps3
    go_wp2
    go_ret
    exact ⟨rfl, Grown.refl _⟩
  by_cases h2 : n < 0
  · go_enter Try.func3, Try.ntmps3
    go_wp2
    go_ret
    exact ⟨rfl, Grown.refl _⟩
  by_cases h3 : m > 4611686018427387904
  · go_enter Try.func3, Try.ntmps3
    go_wp2
    go_ret
    exact ⟨rfl, Grown.refl _⟩
  have h4 : n > 4611686018427387903 := by omega
  go_enter Try.func3, Try.ntmps3
  go_wp2
  go_ret
  exact ⟨rfl, Grown.refl _⟩

set_option maxHeartbeats 800000 in
theorem walkC (A B X O J K m n s : Int) (h1 : ¬ m < 0) (h2 : ¬ n < 0) (h3 : ¬ m > 4611686018427387904) (h4 : ¬ n > 4611686018427387903)
    (hx : bits .xor .u32 A B = X) (hO : (O == 1) = false)
    (c0 : ∀ w, Calls Try.prog 8 #[.int .u32 A, .int .u32 B, .int .i64 0] w fun e w' => e = .returned (.int .u32 X) ∧ w' = w)
    (cn : ∀ w, Calls Try.prog 8 #[.int .u32 A, .int .u32 B, .int .i64 (-1)] w fun e w' => e = .returned (.int .u32 X) ∧ w' = w)
    (c1 : ∀ w, Calls Try.prog 8 #[.int .u32 1, .int .u32 0, .int .i64 1] w fun e w' => e = .returned (.int .u32 O) ∧ w' = w)
    (cm : ∀ w, Calls Try.prog 8 #[.int .u32 A, .int .u32 0, .int .i64 m] w fun e w' => e = .returned (.int .u32 J) ∧ w' = w)
    (cN : ∀ w, Calls Try.prog 8 #[.int .u32 J, .int .u32 B, .int .i64 n] w fun e w' => e = .returned (.int .u32 K) ∧ w' = w)
    (cS : ∀ w, Calls Try.prog 8 #[.int .u32 A, .int .u32 B, .int .i64 (m + n)] w fun e w' => e = .returned (.int .u32 K) ∧ w' = w) (w : World) :
    Calls Try.prog 3 #[.int .u32 A, .int .u32 B, .int .i64 m, .int .i64 n] w fun e w' => e = .returned (.bool true) ∧ Grown w w' := by
  go_enter Try.func3, Try.ntmps3
  have hxx : (X != X) = false := by simp
  go_wp2_with fail
  refine (c0 _).mono ?_; rintro e w' ⟨rfl, rfl⟩
  go_wp2_with fail
  refine (cn _).mono ?_; rintro e w' ⟨rfl, rfl⟩
  go_wp2_with fail
  refine (c1 _).mono ?_; rintro e w' ⟨rfl, rfl⟩
  go_wp2_with fail
  refine (cm _).mono ?_; rintro e w' ⟨rfl, rfl⟩
  go_wp2_with fail
  refine (cN _).mono ?_; rintro e w' ⟨rfl, rfl⟩
  go_wp2_with fail
  refine (cS _).mono ?_; rintro e w' ⟨rfl, rfl⟩
  go_wp2
  go_ret
  exact ⟨by simp, Grown.refl _⟩

theorem walkV (a b : V) (m n : Int) (w : World) :
    Calls Try.prog 3 #[.int .u32 (a.toNat : Int), .int .u32 (b.toNat : Int), .int .i64 m, .int .i64 n] w fun e w' => e = .returned (.bool true) ∧ Grown w w' := by
  by_cases h : m < 0 ∨ n < 0 ∨ m > 4611686018427387904 ∨ n > 4611686018427387903
  · exact early a b m n h w
  obtain ⟨M, rfl⟩ : ∃ M : Nat, m = (M : Int) := ⟨m.toNat, by omega⟩
  obtain ⟨N, rfl⟩ : ∃ N : Nat, n = (N : Int) := ⟨n.toNat, by omega⟩
  have e1 : (((join 1#32 x8 1 ^^^ 0#32 : V).toNat : Int) == 1) = false := by
    have h1 := one_case
    generalize join 1#32 x8 1 ^^^ 0#32 = z at *
    simp only [beq_eq_false_iff_ne, ne_eq]
    intro h
    exact h1 (BitVec.eq_of_toNat_eq (by rw [show (1#32 : V).toNat = 1 by decide]; omega))
  exact walkC _ _ _ _ _ _ (M : Int) (N : Int) 0 (by omega) (by omega) (by omega) (by omega) (xorT a b) e1
    (fun w => join_at (a := a) (b := b) (n := 0) (a ^^^ b) (by rw [join_zero]) (by omega) w)
    (fun w => crcJoin_neg a b w)
    (fun w => join_at (a := 1#32) (b := 0#32) (n := 1) _ rfl (by omega) w)
    (fun w => join_at (a := a) (b := 0#32) (n := M) (join a x8 M) (xz _) (by omega) w)
    (fun w => join_at (a := join a x8 M) (b := b) (n := N) (join a x8 (M + N) ^^^ b) (by rw [join_join]) (by omega) w)
    (fun w => by
      have := crcJoin_pos a b (M + N) (by omega) w
      rw [Int.natCast_add] at this
      exact this) w

theorem walk (a0 : Int) (a1 : Int) (a2 : Int) (a3 : Int) (w0 : (Lit.int .u32 a0).wf = true) (w1 : (Lit.int .u32 a1).wf = true) (w2 : (Lit.int .i64 a2).wf = true) (w3 : (Lit.int .i64 a3).wf = true) (w : World) :
    Calls Try.prog 3 #[.int .u32 a0, .int .u32 a1, .int .i64 a2, .int .i64 a3] w fun e w' => e = .returned (.bool true) ∧ Grown w w' := by
  have p1 : (0 : Int) ≤ a0 ∧ a0 ≤ 4294967295 := by simpa [Lit.wf, IntKind.min, IntKind.max, IntKind.signed, IntKind.bits] using w0
  have q1 : (0 : Int) ≤ a1 ∧ a1 ≤ 4294967295 := by simpa [Lit.wf, IntKind.min, IntKind.max, IntKind.signed, IntKind.bits] using w1
  obtain ⟨a, rfl⟩ := of_int a0 (by omega) (by omega)
  obtain ⟨b, rfl⟩ := of_int a1 (by omega) (by omega)
  exact walkV a b a2 a3 w

/-! ### THE ROW's STEP: WRITTEN OUT: LEAVE IT -/
set_option maxRecDepth 100000 in
theorem lifted (os : Os) (started : os.Started) (H : Type) (enc : TypeId × Value → H) :
    ReturnsInHanded {} Try.checked os 3 .any (Rows.codecZerosSpec.pre6 enc Try.prog Try.f3 Rows.codecZerosRow.domain false) (Rows.codecZerosSpec.post enc Try.prog Try.f3 false true false false) := by
  refine returnsInHanded_of_change (C := Try.checked) own started (by kernel_rfl) Try.func3
    (ChangeSpec.witness6 (enc := enc) (C := Try.checked) false ⟨#[], #[.int .u32 0, .int .u32 0, .int .i64 0, .int .i64 0], []⟩ 8 (by kernel_rfl) (by kernel_rfl) (by kernel_rfl) (by kernel_rfl)) ?_
  intro W base args ds gs before hval0 hW hcnd _
  have hval : ∀ (j : Nat) t v, Try.f3.params[j]? = some t → args[j]? = some v → Value.okWide Try.prog W .any base t v := hval0
  have hW' := hW
  obtain ⟨p, q, hA0, hV, rfl, hfz, hnd⟩ := hW
  have hA : DataW.TrodAll enc Try.prog W 0 (fun _ => true) true Try.f3.params.toList args.toList ds p := hA0
  rw [Try.params3] at hA hval
  obtain ⟨v0, vs0, d0, ds0, p0, q0, hargs, rfl, rfl, h0, r0⟩ := trodAll_cons hA
  obtain ⟨v1, vs1, d1, ds1, p1, q1, rfl, rfl, rfl, h1, r1⟩ := trodAll_cons r0
  obtain ⟨v2, vs2, d2, ds2, p2, q2, rfl, rfl, rfl, h2, r2⟩ := trodAll_cons r1
  obtain ⟨v3, vs3, d3, ds3, p3, q3, rfl, rfl, rfl, h3, r3⟩ := trodAll_cons r2
  obtain ⟨rfl, rfl, rfl⟩ := trodAll_nil r3
  obtain rfl : args = #[v0, v1, v2, v3] := by cases args; simp_all
  obtain ⟨rfl, rfl⟩ := trodVars_none hV
  obtain ⟨a0, rfl, rfl, rfl, w0⟩ := open_int Try.underlying22 (hval 0 22 v0 rfl rfl) h0
  obtain ⟨a1, rfl, rfl, rfl, w1⟩ := open_int Try.underlying22 (hval 1 22 v1 rfl rfl) h1
  obtain ⟨a2, rfl, rfl, rfl, w2⟩ := open_int Try.underlying3 (hval 2 3 v2 rfl rfl) h2
  obtain ⟨a3, rfl, rfl, rfl, w3⟩ := open_int Try.underlying3 (hval 3 3 v3 rfl rfl) h3
  clear hA0 hval0
  simp only [List.append_nil] at hW'
  refine (walk a0 a1 a2 a3 w0 w1 w2 w3 W).mono fun e W' ⟨he, hg⟩ => ?_
  subst he
  exact ⟨_, rfl, post_of_same (pa := []) (pv := []) hW' (fun _ _ _ => (trodAll_cons_mk (shut_bool Try.underlying4 _) trodAll_mk0)) (fun sp _ => (trodAll_cons_mk (shut_int Try.underlying22 w0) (trodAll_cons_mk (shut_int Try.underlying22 w1) (trodAll_cons_mk (shut_int Try.underlying3 w2) (trodAll_cons_mk (shut_int Try.underlying3 w3) trodAll_mk0))))) (fun _ _ => rfl) rfl
    (hg.frame _) hg.2.1 (ok_one (by kernel_rfl) rfl (okWide_bool_mk Try.underlying4 _))⟩

theorem over : Rows.codecZerosRow.holds Try.pinned (OpenSpec.ofChange Rows.codecZerosSpec) :=
  OpenClaim.holds_of_wide 3 Try.f3 rfl rfl rfl rfl rfl rfl rfl ⟨rfl, rfl, rfl, rfl, rfl⟩ rfl rfl rfl rfl rfl (by kernel_rfl) Try.func3 (by kernel_rfl)
    (of_decide_eq_true (by kernel_rfl)) (by unfold Func.isWrapper; first | (rw [if_pos (by decide +kernel)]; kernel_rfl) | (rw [if_neg (by decide +kernel)]; exact ⟨rfl, rfl⟩))
    (fun os started H enc _ => lifted os started H enc)

/-- ████ THE STATEMENT ████ -/
theorem proved : Rows.CodecZerosSaid :=
  over
#print axioms proved
end Go.Proofs.Ytgaehpdlljlliaa.Zr
namespace Go.Proofs.Ytgaehpdlljlliaa
theorem codecZeros_holds : Rows.CodecZerosSaid := Zr.proved
#print axioms codecZeros_holds
end Go.Proofs.Ytgaehpdlljlliaa
