import Derived.Test.YtmlnglillgplfaaGreatStF
import Derived.Test.YtmlnglillgplfaaGreatOpD
namespace Go.Proofs.YtmlnglillgplfaaGreat.Cl
open Go.ChangeShapes Go.WideShapes Go.ChangeAt Go.RowKit
set_option linter.unusedVariables false

set_option maxRecDepth 100000 in
theorem clientStrayLifted (os : Os) (started : os.Started) (H : Type) (enc : TypeId × Value → H) :
    ReturnsInHanded {} Tryz.checked os 7 .any (Rows.clientStraySpec.pre6 enc Tryz.prog Tryz.f7 Rows.clientStrayRow.domain false) (Rows.clientStraySpec.post enc Tryz.prog Tryz.f7 false true false false) := by
  refine returnsInHanded_of_change_sized (C := Tryz.checked) ownK started (by kernel_rfl) Tryz.func7
    (ChangeSpec.witness6 (enc := enc) (C := Tryz.checked) false ⟨#[], #[.int .i64 0, .agg #[.int .u8 0, .int .u64 0, .int .u64 0, .slice none 0 0, .slice none 0 0, .bool false, .int .u8 0], .slice none 0 0, .slice none 0 0, .int .u8 0], []⟩ 8 (by kernel_rfl) (by kernel_rfl) (by kernel_rfl) (by kernel_rfl)) ?_
  intro W base args ds gs before hval0 hW hcnd hsz0 _
  have hval : ∀ (j : Nat) t v, Tryz.f7.params[j]? = some t → args[j]? = some v → Value.okWide Tryz.prog W .any base t v := hval0
  have hsz : (DataW.weightsEach Tryz.prog (Tryz.f7.params.toList ++ Rows.clientStraySpec.plain.varTypes Tryz.prog) (ds ++ gs)).all (· ≤ reachBytes) = true := hsz0
  have hW' := hW
  obtain ⟨p, q, hA0, hV, rfl, hfz, hnd⟩ := hW
  have hA : DataW.TrodAll enc Tryz.prog W 0 (fun _ => true) true Tryz.f7.params.toList args.toList ds p := hA0
  rw [Tryz.params7] at hA hval hsz
  obtain ⟨v0, vs0, d0, ds0, p0, q0, hargs0, rfl, rfl, h0, r0⟩ := trodAll_cons hA
  obtain ⟨v1, vs1, d1, ds1, p1, q1, hargs1, rfl, rfl, h1, r1⟩ := trodAll_cons r0
  obtain ⟨v2, vs2, d2, ds2, p2, q2, hargs2, rfl, rfl, h2, r2⟩ := trodAll_cons r1
  obtain ⟨v3, vs3, d3, ds3, p3, q3, hargs3, rfl, rfl, h3, r3⟩ := trodAll_cons r2
  obtain ⟨v4, vs4, d4, ds4, p4, q4, hargs4, rfl, rfl, h4, r4⟩ := trodAll_cons r3
  obtain ⟨rfl, rfl, rfl⟩ := trodAll_nil r4
  obtain rfl : args = #[v0, v1, v2, v3, v4] := by cases args; simp_all
  obtain ⟨rfl, rfl⟩ := trodVars_none hV
  have h0k := h0
  have h1k := h1
  have h2k := h2
  have h3k := h3
  have h4k := h4
  obtain ⟨n0, rfl, rfl, rfl, w0⟩ := open_int Tryz.underlying3 (hval 0 3 v0 rfl rfl) h0
  have b0 : -9223372036854775808 ≤ n0 ∧ n0 < 9223372036854775808 := by
    simp [Lit.wf, IntKind.min, IntKind.max, IntKind.signed, IntKind.bits] at w0
    omega
  obtain ⟨cs1, hv1, _⟩ := okWide_struct Tryz.underlying26 (hval 1 26 v1 rfl rfl)
  obtain ⟨fuel1, hf1⟩ := h1
  rw [hv1] at hf1
  obtain ⟨k1, key1, hi1, va1, vc1, V1, oa1, oc1, O1, has1, lim1, e1, hk1⟩ := open_request (show DataW.trod enc Tryz.prog W 0 (fun _ => true) true fuel1 26 cs1.toList = _ from hf1)
  obtain rfl : v1 = .agg #[.int .u8 k1, .int .u64 key1, .int .u64 hi1, .slice va1 V1.length vc1, .slice oa1 O1.length oc1, .bool has1, .int .u8 lim1] := by
    rw [hv1]; congr 1; cases cs1; simpa using e1
  obtain ⟨la2, lc2, S2, rfl, hS2, bS2, hl2⟩ := open_addrs h2 (okWide_slice Tryz.underlying64 (hval 2 64 v2 rfl rfl)) (sized_at hsz 2 rfl rfl)
  obtain ⟨S3, hS3, hO3, hl3⟩ := open_msgs h3 (okWide_slice Tryz.underlying69 (hval 3 69 v3 rfl rfl)) (sized_at hsz 3 rfl rfl)
  obtain ⟨ma3, mc3, rfl⟩ := hS3.slice
  obtain ⟨n4, rfl, rfl, rfl, w4⟩ := open_int Tryz.underlying31 (hval 4 31 v4 rfl rfl) h4
  have b4 : 0 ≤ n4 ∧ n4 < 256 := by
    simp [Lit.wf, IntKind.min, IntKind.max, IntKind.signed, IntKind.bits] at w4
    omega
  clear hA0 hval0
  simp only [List.append_nil] at hW'
  have hlt0 : ∀ x ∈ ([] : List MemPlace), x.block < W.heap.size := fun x hx => by cases hx
  have hlt1 : ∀ x ∈ p1, x.block < W.heap.size := fun x hx => hW'.lt x (by simp [hx])
  have hlt2 : ∀ x ∈ p2, x.block < W.heap.size := fun x hx => hW'.lt x (by simp [hx])
  have hlt3 : ∀ x ∈ p3, x.block < W.heap.size := fun x hx => hW'.lt x (by simp [hx])
  have hlt4 : ∀ x ∈ ([] : List MemPlace), x.block < W.heap.size := fun x hx => by cases hx
  refine (stray_walk W n0 k1 key1 hi1 lim1 ⟨va1, V1.length, vc1⟩ ⟨oa1, O1.length, oc1⟩ has1 V1 O1 ⟨hk1.2.2.2.1, hk1.2.2.2.2.1, rfl⟩ ⟨hk1.2.2.2.2.2.1, hk1.2.2.2.2.2.2.1, rfl⟩ ⟨hk1.1, hk1.2.1, hk1.2.2.1, hk1.2.2.2.2.2.2.2⟩ la2 lc2 S2 hS2 bS2 hl2 ma3 mc3 S3 hS3 hO3 hl3 n4 b4.1 b4.2).mono fun e W' ⟨he, hk⟩ => ?_
  subst he
  exact ⟨_, rfl, _, _, _, [], _, [], hW', trodAll_mk1 (shut_bool Tryz.underlying4 _), trodAll_cons_mk (Below.trod laidOut (by kernel_rfl) (of_decide_eq_true (by kernel_rfl)) h0k hk.toBelow hlt0) (trodAll_cons_mk (Below.trod laidOut (by kernel_rfl) (of_decide_eq_true (by kernel_rfl)) h1k hk.toBelow hlt1) (trodAll_cons_mk (Below.trod laidOut (by kernel_rfl) (of_decide_eq_true (by kernel_rfl)) h2k hk.toBelow hlt2) (trodAll_cons_mk (Below.trod laidOut (by kernel_rfl) (of_decide_eq_true (by kernel_rfl)) h3k hk.toBelow hlt3) (trodAll_cons_mk (Below.trod laidOut (by kernel_rfl) (of_decide_eq_true (by kernel_rfl)) h4k hk.toBelow hlt4) trodAll_mk0)))), rfl, hk.toBelow.frame _, fun h => by cases h⟩

theorem clientStrayOver : Rows.clientStrayRow.holds Tryz.pinned (OpenSpec.ofChange Rows.clientStraySpec) :=
  OpenClaim.holds_of_wide 7 Tryz.f7 rfl rfl rfl rfl rfl rfl rfl ⟨rfl, rfl, rfl, rfl, rfl⟩ rfl rfl rfl rfl rfl (by kernel_rfl) Tryz.func7 (by kernel_rfl)
    (of_decide_eq_true (by kernel_rfl)) (by unfold Func.isWrapper; first | (rw [if_pos (by decide +kernel)]; kernel_rfl) | (rw [if_neg (by decide +kernel)]; exact ⟨rfl, rfl⟩))
    (fun os started H enc _ => clientStrayLifted os started H enc)
end Go.Proofs.YtmlnglillgplfaaGreat.Cl
namespace Go.Proofs.YtmlnglillgplfaaGreat
theorem clientStray_holds : Rows.ClientStraySaid := Cl.clientStrayOver
#print axioms clientStray_holds
end Go.Proofs.YtmlnglillgplfaaGreat
