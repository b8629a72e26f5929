import Derived.Test.YtmlnglillgplfaaGreatNlB
import Derived.Test.YtmlnglillgplfaaGreatOpB
namespace Go.Proofs.YtmlnglillgplfaaGreat.Cl
open Go.ChangeShapes Go.WideShapes Go.ChangeAt Go.RowKit
set_option linter.unusedVariables false

set_option maxRecDepth 100000 in
theorem clientNilLifted (os : Os) (started : os.Started) (H : Type) (enc : TypeId × Value → H) :
    ReturnsInHanded {} Tryz.checked os 4 .any (Rows.clientNilSpec.pre6 enc Tryz.prog Tryz.f4 Rows.clientNilRow.domain false) (Rows.clientNilSpec.post enc Tryz.prog Tryz.f4 false true false false) := by
  refine returnsInHanded_of_change_sized (C := Tryz.checked) ownK started (by kernel_rfl) Tryz.func4
    (ChangeSpec.witness6 (enc := enc) (C := Tryz.checked) false ⟨#[], #[.agg #[.int .i64 0, .bool false, .int .u8 0, .int .u8 0, .int .u64 0, .int .u64 0, .slice none 0 0, .slice none 0 0, .bool false, .int .u8 0, .int .u8 0, .int .u64 0, .int .u64 0, .int .u64 0, .slice none 0 0, .slice none 0 0, .bool false, .int .u8 0, .int .u8 0, .int .u8 0, .int .u32 0, .int .u32 0, .int .u64 0, .int .u8 0, .slice none 0 0, .slice none 0 0, .slice none 0 0]], []⟩ 8 (by kernel_rfl) (by kernel_rfl) (by kernel_rfl) (by kernel_rfl)) ?_
  intro W base args ds gs before hval0 hW hcnd hsz0 _
  have hval : ∀ (j : Nat) t v, Tryz.f4.params[j]? = some t → args[j]? = some v → Value.okWide Tryz.prog W .any base t v := hval0
  have hsz : (DataW.weightsEach Tryz.prog (Tryz.f4.params.toList ++ Rows.clientNilSpec.plain.varTypes Tryz.prog) (ds ++ gs)).all (· ≤ reachBytes) = true := hsz0
  have hW' := hW
  obtain ⟨p, q, hA0, hV, rfl, hfz, hnd⟩ := hW
  have hA : DataW.TrodAll enc Tryz.prog W 0 (fun _ => true) true Tryz.f4.params.toList args.toList ds p := hA0
  rw [Tryz.params4] at hA hval hsz
  obtain ⟨v0, vs0, d0, ds0, p0, q0, hargs0, rfl, rfl, h0, r0⟩ := trodAll_cons hA
  obtain ⟨rfl, rfl, rfl⟩ := trodAll_nil r0
  obtain rfl : args = #[v0] := by cases args; simp_all
  obtain ⟨rfl, rfl⟩ := trodVars_none hV
  have h0k := h0
  obtain ⟨cs0, hv0, _⟩ := okWide_struct Tryz.underlying46 (hval 0 46 v0 rfl rfl)
  obtain ⟨fuel0, hf0⟩ := h0
  rw [hv0] at hf0
  obtain ⟨sk0, fr0, two0, fu0, y30, y40, R0, M0, e0, hfr0, hR0, hM0⟩ := step_cells (show DataW.trod enc Tryz.prog W 0 (fun _ => true) true fuel0 46 cs0.toList = _ from hf0)
  obtain ⟨k0, key0, hi0, va0, vc0, V0, oa0, oc0, O0, has0, lim0, rfl, hk0⟩ := open_request hR0
  obtain ⟨mk0, mseq0, mkey0, mhi0, mva0, mvc0, mV0, moa0, moc0, mO0, mhas0, mof0, mst0, mhost0, mgr0, mbo0, mma0, mli0, mpa0, mpn0, mpc0, msa0, msn0, msc0, mya0, myc0, mY0, rfl, hm0⟩ := open_message hM0
  obtain rfl : v0 = .agg #[.int .i64 sk0, .bool two0, .int .u8 fr0, .int .u8 k0, .int .u64 key0, .int .u64 hi0, .slice va0 V0.length vc0, .slice oa0 O0.length oc0, .bool has0, .int .u8 lim0, .int .u8 mk0, .int .u64 mseq0, .int .u64 mkey0, .int .u64 mhi0, .slice mva0 mV0.length mvc0, .slice moa0 mO0.length moc0, .bool mhas0, .int .u8 mof0, .int .u8 mst0, .int .u8 mhost0, .int .u32 mgr0, .int .u32 mbo0, .int .u64 mma0, .int .u8 mli0, .slice mpa0 mpn0 mpc0, .slice msa0 msn0 msc0, .slice mya0 mY0.length myc0] := by
    rw [hv0]; congr 1; cases cs0; simpa using e0
  clear hA0 hval0
  simp only [List.append_nil] at hW'
  have hlt0 : ∀ x ∈ p0, x.block < W.heap.size := fun x hx => hW'.lt x (by simp [hx])
  refine (nil_walk W sk0 fr0 k0 key0 hi0 lim0 mk0 mseq0 mkey0 mhi0 mof0 mst0 mhost0 mgr0 mbo0 mma0 mli0 two0 has0 mhas0 va0 oa0 mva0 moa0 mpa0 msa0 mya0 _ _ _ _ _ _ _ _ _ _ _ _ _ _).mono fun e W' ⟨he, hk⟩ => ?_
  subst he
  exact ⟨_, rfl, _, _, _, [], _, [], hW', trodAll_mk1 (shut_bool Tryz.underlying4 _), trodAll_cons_mk (Below.trod laidOut (by kernel_rfl) (of_decide_eq_true (by kernel_rfl)) h0k hk.toBelow hlt0) trodAll_mk0, rfl, hk.toBelow.frame _, fun h => by cases h⟩

theorem clientNilOver : Rows.clientNilRow.holds Tryz.pinned (OpenSpec.ofChange Rows.clientNilSpec) :=
  OpenClaim.holds_of_wide 4 Tryz.f4 rfl rfl rfl rfl rfl rfl rfl ⟨rfl, rfl, rfl, rfl, rfl⟩ rfl rfl rfl rfl rfl (by kernel_rfl) Tryz.func4 (by kernel_rfl)
    (of_decide_eq_true (by kernel_rfl)) (by unfold Func.isWrapper; first | (rw [if_pos (by decide +kernel)]; kernel_rfl) | (rw [if_neg (by decide +kernel)]; exact ⟨rfl, rfl⟩))
    (fun os started H enc _ => clientNilLifted os started H enc)
end Go.Proofs.YtmlnglillgplfaaGreat.Cl
namespace Go.Proofs.YtmlnglillgplfaaGreat
theorem clientNil_holds : Rows.ClientNilSaid := Cl.clientNilOver
#print axioms clientNil_holds
end Go.Proofs.YtmlnglillgplfaaGreat
