import Derived.Test.YtbhdhoeaogbfbaaXgT
import Derived.Test.YtbhdhoeaogbfbaaLfX
namespace Go.Proofs.Ytbhdhoeaogbfbaa.Xo
open Go.ChangeShapes Go.WideShapes Go.ChangeAt Go.RowKit
set_option linter.unusedVariables false

theorem xonceLoadsLaid : laidOutB Try.prog = true := by kernel_rfl
set_option maxRecDepth 100000 in
theorem xonceLoadsLifted (os : Os) (started : os.Started) (H : Type) (enc : TypeId × Value → H) :
    ReturnsInHanded {} Try.checked os 3 .any (Rows.xonceLoadsSpec.pre6 enc Try.prog Try.f3 Rows.xonceLoadsRow.domain false) (Rows.xonceLoadsSpec.post enc Try.prog Try.f3 false true false false) := by
  refine returnsInHanded_of_change_sized (C := Try.checked) ownK started (by kernel_rfl) Try.func3
    (ChangeSpec.witness6 (enc := enc) (C := Try.checked) false ⟨#[], #[.agg #[.int .i64 0, .int .i64 0, .int .i64 0, .int .i64 0, .bool false, .slice none 0 0]], []⟩ 8 (by kernel_rfl) (by kernel_rfl) (by kernel_rfl) (by kernel_rfl)) ?_
  intro W base args ds gs before hval0 hW hcnd hsz0 _
  have hval : ∀ (j : Nat) t v, Try.f3.params[j]? = some t → args[j]? = some v → Value.okWide Try.prog W .any base t v := hval0
  have hsz : (DataW.weightsEach Try.prog (Try.f3.params.toList ++ Rows.xonceLoadsSpec.plain.varTypes Try.prog) (ds ++ gs)).all (· ≤ reachBytes) = true := hsz0
  have hW' := hW
  obtain ⟨p, q, hA0, hV, rfl, hfz, hnd⟩ := hW
  have hA : DataW.TrodAll enc Try.prog W 0 (fun _ => true) true Try.f3.params.toList args.toList ds p := hA0
  rw [Try.params3] at hA hval hsz
  obtain ⟨v0, vs0, d0, ds0, p0, q0, hargs0, rfl, rfl, h0, r0⟩ := trodAll_cons hA
  obtain ⟨rfl, rfl, rfl⟩ := trodAll_nil r0
  obtain rfl : args = #[v0] := by cases args; simp_all
  obtain ⟨rfl, rfl⟩ := trodVars_none hV
  have h0k := h0
  obtain ⟨cs0, hv0, _⟩ := okWide_struct Try.underlying26 (hval 0 26 v0 rfl rfl)
  obtain ⟨fuel0, hf0⟩ := h0
  rw [hv0] at hf0
  obtain ⟨s0, hh0, qq0, wd0, ld0, u0, I0, e0, hI0, hb0, hl0⟩ := open_setup (show DataW.trod enc Try.prog W 0 (fun _ => true) true fuel0 26 cs0.toList = _ from hf0) (sized_at hsz 0 rfl rfl)
  obtain rfl : v0 = .agg #[.int .i64 s0, .int .i64 hh0, .int .i64 qq0, .int .i64 wd0, .bool ld0, u0] := by
    rw [hv0]; congr 1; cases cs0; simpa using e0
  clear hA0 hval0
  simp only [List.append_nil] at hW'
  have hlt0 : ∀ x ∈ p0, x.block < W.heap.size := fun x hx => hW'.lt x (by simp [hx])
  refine (loads_walk W s0 hh0 qq0 wd0 (IntKind.u8.wrap s0).toNat (by rw [IntKind.wrap_u8]; omega) (by rw [IntKind.wrap_u8]; omega) ld0 u0 I0 hI0 hb0 hl0).mono fun e W' ⟨he, hk⟩ => ?_
  subst he
  exact ⟨_, rfl, _, _, _, [], _, [], hW', trodAll_mk1 (shut_bool Try.underlying4 _), trodAll_cons_mk (Below.trod xonceLoadsLaid (by kernel_rfl) (of_decide_eq_true (by kernel_rfl)) h0k hk.toBelow hlt0) trodAll_mk0, rfl, hk.toBelow.frame _, fun h => by cases h⟩

theorem xonceLoadsOver : Rows.xonceLoadsRow.holds Try.pinned (OpenSpec.ofChange Rows.xonceLoadsSpec) :=
  OpenClaim.holds_of_wide 3 Try.f3 rfl rfl rfl rfl rfl rfl rfl ⟨rfl, rfl, rfl, rfl, rfl⟩ rfl rfl rfl rfl rfl (by kernel_rfl) Try.func3 (by kernel_rfl)
    (of_decide_eq_true (by kernel_rfl)) (by unfold Func.isWrapper; first | (rw [if_pos (by decide +kernel)]; kernel_rfl) | (rw [if_neg (by decide +kernel)]; exact ⟨rfl, rfl⟩))
    (fun os started H enc _ => xonceLoadsLifted os started H enc)
end Go.Proofs.Ytbhdhoeaogbfbaa.Xo
namespace Go.Proofs.Ytbhdhoeaogbfbaa
theorem xonceLoads_holds : Rows.XonceLoadsSaid := Xo.xonceLoadsOver
#print axioms xonceLoads_holds
end Go.Proofs.Ytbhdhoeaogbfbaa
